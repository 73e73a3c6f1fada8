/-
  What is proved: the fixed fact that each statement of this layer asks first holds; KarmaNil's walk; the law's same and long. Condition: none.
  (Left out here, as nothing of this law reaches it: wakes_any, long_any, nil_walk, same_yes.) -/
import Derived.Test.YtbcejfonkehjgaaGreatDoorK15
import Derived.ChangeKeysEq
import Derived.DeepKeys
import Derived.Test.YtbcejfonkehjgaaGreatDoorK13
namespace Go.Proofs.YtbcejfonkehjgaaGreatDoor
open Go.RowKit

def lay (A : Option Addr) (n c : Nat) (b x y z : Int) : Value := .agg #[.slice A n c, .int .i64 b, .int .i64 x, .int .i64 y, .int .i64 z]

































































end Go.Proofs.YtbcejfonkehjgaaGreatDoor
namespace Go.Proofs.YtbcejfonkehjgaaGreatDoor
open Go.RowKit

end Go.Proofs.YtbcejfonkehjgaaGreatDoor
namespace Go.Proofs.YtbcejfonkehjgaaGreatDoor
open Go.RowKit

def Dn (e : Nat → Nat) (k j : Nat) : Prop := ∃ t, t < k ∧ e t = j
structure Sel (hh : Nat → Hn) (n k : Nat) (e : Nat → Nat) : Prop where
  srt : ∀ i j, i < j → j < k → LH hh (e i) (e j)
  lt : ∀ i, i < k → e i < n
  rest : ∀ i, i < k → ∀ j, j < n → ¬ Dn e k j → LH hh (e i) j
def Best (hh : Nat → Hn) (e : Nat → Nat) (k i : Nat) : Option Nat → Prop
  | none => ∀ j, j < i → Dn e k j
  | some b => b < i ∧ ¬ Dn e k b ∧ ∀ j, j < i → ¬ Dn e k j → j ≠ b → LH hh b j
section
variable {hh : Nat → Hn} {n k i b : Nat} {e : Nat → Nat}
theorem Best.first (h : Best hh e k i none) (hd : ¬ Dn e k i) : Best hh e k (i + 1) (some i) :=
  ⟨by omega, hd, fun j hj hn hb => absurd (h j (by omega)) hn⟩
theorem Best.stay (h : Best hh e k i (some b)) (hl : ¬ LH hh i b) : Best hh e k (i + 1) (some b) := by
  refine ⟨by have := h.1; omega, h.2.1, fun j hj hn hb => ?_⟩
  by_cases c : j = i
  · subst c; exact (LH_total hh (show b ≠ j by have := h.1; omega)).resolve_right hl
  · exact h.2.2 j (by omega) hn hb
theorem Best.turn {c : Int} (hP : HintsP hh n c) (hi : i < n) (h : Best hh e k i (some b)) (hd : ¬ Dn e k i) (hl : LH hh i b) : Best hh e k (i + 1) (some i) := by
  refine ⟨by omega, hd, fun j hj hn hne => ?_⟩
  by_cases c : j = b
  · rw [c]; exact hl
  · have h1 := h.2.2 j (by omega) hn c
    refine (ord_of n (oft hh) (sz hh) fun x hx => ?_).trans i b j hi (by have := h.1; omega) (by omega) hl h1
    have := hP.2.1 x hx
    unfold okH at this
    show 0 < sz hh x
    unfold sz
    omega
theorem Sel.free (_ : Sel hh n k e) (hk : k < n) : ∃ j, j < n ∧ ¬ Dn e k j := by
  refine Classical.byContradiction fun hno => ?_
  have hall : ∀ j, j < n → ∃ t, t < k ∧ e t = j := fun j hj => Classical.byContradiction fun h => hno ⟨j, hj, h⟩
  have hg : ∃ g : Nat → Nat, ∀ j, j < n → g j < k ∧ e (g j) = j :=
    ⟨fun j => if hj : j < n then Classical.choose (hall j hj) else 0, fun j hj => by simp only [dif_pos hj]; exact Classical.choose_spec (hall j hj)⟩
  obtain ⟨g, hg⟩ := hg
  have := nodup_len k ((List.range n).map g) (by
    unfold List.Nodup
    rw [List.pairwise_map]
    refine List.Pairwise.imp_of_mem (R := fun i j => i < j) (fun {x y} hx hy hxy => ?_) List.pairwise_lt_range
    intro exy
    have h1 := hg x (List.mem_range.1 hx)
    have h2 := hg y (List.mem_range.1 hy)
    rw [exy, h2.2] at h1
    omega) (fun x hx => by
    obtain ⟨j, hj, rfl⟩ := List.mem_map.1 hx
    exact (hg j (List.mem_range.1 hj)).1)
  simp at this
  omega
def put (e : Nat → Nat) (k b i : Nat) : Nat := if i = k then b else e i
theorem Dn_put (e : Nat → Nat) (k b j : Nat) : Dn (put e k b) (k + 1) j ↔ Dn e k j ∨ j = b := by
  constructor
  · rintro ⟨t, ht, h⟩
    unfold put at h
    by_cases c : t = k
    · rw [if_pos c] at h; exact .inr h.symm
    · rw [if_neg c] at h; exact .inl ⟨t, by omega, h⟩
  · rintro (⟨t, ht, h⟩ | h)
    · exact ⟨t, by omega, by unfold put; rw [if_neg (by omega)]; exact h⟩
    · exact ⟨k, by omega, by unfold put; rw [if_pos rfl]; exact h.symm⟩
theorem Sel.next (h : Sel hh n k e) (hb : Best hh e k n (some b)) : Sel hh n (k + 1) (put e k b) where
  srt := fun i j h1 h2 => by
    unfold put
    rw [if_neg (show ¬ i = k by omega)]
    by_cases c : j = k
    · rw [if_pos c]; exact h.rest i (by omega) b hb.1 hb.2.1
    · rw [if_neg c]; exact h.srt i j h1 (by omega)
  lt := fun i hi => by
    unfold put
    by_cases c : i = k
    · rw [if_pos c]; exact hb.1
    · rw [if_neg c]; exact h.lt i (by omega)
  rest := fun i hi j hj hn => by
    rw [Dn_put] at hn
    unfold put
    by_cases c : i = k
    · rw [if_pos c]; exact hb.2.2 j hj (fun g => hn (.inl g)) (fun g => hn (.inr g))
    · rw [if_neg c]; exact h.rest i (by omega) j hj fun g => hn (.inl g)
theorem Sel.ord (h : Sel hh n n e) : OrdH hh n e := ⟨h.srt, h.lt⟩
theorem Sel.zero (hh : Nat → Hn) (n : Nat) (e : Nat → Nat) : Sel hh n 0 e := ⟨fun _ j _ h2 => absurd h2 (Nat.not_lt_zero j), fun i hi => absurd hi (Nat.not_lt_zero i), fun i hi => absurd hi (Nat.not_lt_zero i)⟩
end
theorem lay_one {r : Nat → Nat} {b t : Nat} (ht : t ≤ 3) (h0 : ∀ u, u < t → nr b r u = 0) (h1 : t < 3 → 0 < nr b r t) :
    (∀ u, u < 4 → pr (b + 1) r u = if u = t then pr b r u + 1 else pr b r u) ∧ (∀ u, u < 3 → nr (b + 1) r u = if u = t then nr b r u - 1 else nr b r u) ∧ (lf (b + 1) r 3 = if t = 3 then lf b r 3 + 1 else lf b r 3) := by
  have h3 : t = 0 ∨ t = 1 ∨ t = 2 ∨ t = 3 := by omega
  have hu : ∀ u, u < 4 → u = 0 ∨ u = 1 ∨ u = 2 ∨ u = 3 := fun u h => by omega
  rcases h3 with rfl | rfl | rfl | rfl
  · have a0 := h1 (by omega)
    simp only [nr, lf] at a0
    refine ⟨fun u h => ?_, fun u h => ?_, ?_⟩
    · rcases hu u h with rfl | rfl | rfl | rfl <;> simp [pr, lf] <;> omega
    · rcases hu u (by omega) with rfl | rfl | rfl | rfl <;> simp [nr, lf] <;> omega
    · simp [lf]; omega
  · have a0 := h0 0 (by omega)
    have a1 := h1 (by omega)
    simp only [nr, lf] at a0 a1
    refine ⟨fun u h => ?_, fun u h => ?_, ?_⟩
    · rcases hu u h with rfl | rfl | rfl | rfl <;> simp [pr, lf] <;> omega
    · rcases hu u (by omega) with rfl | rfl | rfl | rfl <;> simp [nr, lf] <;> omega
    · simp [lf]; omega
  · have a0 := h0 0 (by omega)
    have a1 := h0 1 (by omega)
    have a2 := h1 (by omega)
    simp only [nr, lf] at a0 a1 a2
    refine ⟨fun u h => ?_, fun u h => ?_, ?_⟩
    · rcases hu u h with rfl | rfl | rfl | rfl <;> simp [pr, lf] <;> omega
    · rcases hu u (by omega) with rfl | rfl | rfl | rfl <;> simp [nr, lf] <;> omega
    · simp [lf]; omega
  · have a0 := h0 0 (by omega)
    have a1 := h0 1 (by omega)
    have a2 := h0 2 (by omega)
    simp only [nr, lf] at a0 a1 a2
    refine ⟨fun u h => ?_, fun u h => ?_, ?_⟩
    · rcases hu u h with rfl | rfl | rfl | rfl <;> simp [pr, lf] <;> omega
    · rcases hu u (by omega) with rfl | rfl | rfl | rfl <;> simp [nr, lf] <;> omega
    · simp [lf]; omega
end Go.Proofs.YtbcejfonkehjgaaGreatDoor
namespace Go.Proofs.YtbcejfonkehjgaaGreatDoor
open Go.RowKit

structure Rpt (w w' : World) (g5 g6 g7 n : Nat) (e : Nat → Nat) (k : Nat) (r : Nat → Nat) (M : Nat) (f : Nat → Nat → Nat) : Prop where
  bel : Below w.heap.size w w'
  out : Arr w' g5 (n * 4) (ptv f)
  dn : Arr w' g6 n (fun j => .bool (dec (Dn e k j)))
  lf : Arr w' g7 4 (rmv r M)
def fB (f : Nat → Nat → Nat) (y : Nat) (r : Nat → Nat) (B i t : Nat) : Nat := if i = y then pr B r t else f i t
section
variable {w wr : World} {g5 g6 g7 n k M y : Nat} {e r : Nat → Nat} {f : Nat → Nat → Nat}
theorem Rpt.draws (h : Rpt w wr g5 g6 g7 n e k r M f) (m : Nat) : Rpt w (wr.drewN m) g5 g6 g7 n e k r M f := ⟨below_draws h.bel m, h.out.below (below_draws (Below.refl _ _) m), h.dn.below (below_draws (Below.refl _ _) m), h.lf.below (below_draws (Below.refl _ _) m)⟩
theorem Rpt.done (h : Rpt w wr g5 g6 g7 n e k r M f) (hy : y < n) (hw : w.heap.size ≤ g6) (h1 : g6 ≠ g5) (h2 : g6 ≠ g7) : Rpt w (wr.setCell ⟨g6, y, none⟩ (.bool true)) g5 g6 g7 n (put e k y) (k + 1) r M f where
  bel := below_set h.bel _ _ hw
  out := h.out.far _ _ h1
  dn := (h.dn.set hy (.bool true)).alike fun j hj => by
    by_cases c : j = y
    · rw [if_pos c, dec_true ((Dn_put e k y j).2 (.inr c))]
    · rw [if_neg c, dec_congr (p := Dn (put e k y) (k + 1) j) (q := Dn e k j) ⟨fun g => ((Dn_put e k y j).1 g).resolve_right c, fun g => (Dn_put e k y j).2 (.inl g)⟩]
  lf := h.lf.far _ _ h2
theorem Rpt.left {B t M' : Nat} {z : Int} {f' : Nat → Nat → Nat} (h : Rpt w wr g5 g6 g7 n e k (nr B r) M f') (ht : t ≤ 3) (h0 : ∀ u, u < t → nr B r u = 0) (h1 : t < 3 → 0 < nr B r t) (hz : z = (if t < 3 then nr B r t - 1 else M - 1 : Nat)) (hM : M' = if t = 3 then M - 1 else M) (hw : w.heap.size ≤ g7) (a1 : g7 ≠ g5) (a2 : g7 ≠ g6) :
    Rpt w (wr.setCell ⟨g7, t, none⟩ (.int .i64 z)) g5 g6 g7 n e k (nr (B + 1) r) M' f' where
  bel := below_set h.bel _ _ hw
  out := h.out.far _ _ a1
  dn := h.dn.far _ _ a2
  lf := (h.lf.set (i := t) (by omega) (.int .i64 z)).alike fun u hu => by
    obtain ⟨_, hn, _⟩ := lay_one ht h0 h1
    by_cases c : u = t
    · subst c
      rw [if_pos rfl, hz]
      unfold rmv
      by_cases h3 : u < 3
      · rw [if_pos h3, if_pos h3, hn u h3, if_pos rfl]
      · rw [if_neg h3, if_neg h3, hM, if_pos (by omega)]
    · rw [if_neg c]
      unfold rmv
      by_cases h3 : u < 3
      · rw [if_pos h3, if_pos h3, hn u h3, if_neg c]
      · rw [if_neg h3, if_neg h3, hM, if_neg (by omega)]
theorem Rpt.add {B t J : Nat} {z : Int} {r' : Nat → Nat} (h : Rpt w wr g5 g6 g7 n e k r' M (fB f y r B)) (hy : y < n) (ht : t ≤ 3) (h0 : ∀ u, u < t → nr B r u = 0) (h1 : t < 3 → 0 < nr B r t) (hJ : J = y * 4 + t) (hz : z = (pr B r t + 1 : Nat)) (hw : w.heap.size ≤ g5) (a1 : g5 ≠ g6) (a2 : g5 ≠ g7) :
    Rpt w (wr.setCell ⟨g5, J, none⟩ (.int .i64 z)) g5 g6 g7 n e k r' M (fB f y r (B + 1)) where
  bel := below_set h.bel _ _ hw
  out := (h.out.set (i := J) (by omega) (.int .i64 z)).alike fun j hj => by
    obtain ⟨hp, _, _⟩ := lay_one ht h0 h1
    by_cases c : j = J
    · rw [if_pos c, c, hJ, ptv_at _ _ _ (by omega), hz]
      unfold fB
      rw [if_pos rfl, hp t (by omega), if_pos rfl]
    · rw [if_neg c]
      unfold ptv fB
      by_cases c2 : j / 4 = y
      · rw [if_pos c2, if_pos c2, hp (j % 4) (by omega), if_neg (by omega)]
      · rw [if_neg c2, if_neg c2]
  dn := h.dn.far _ _ a1
  lf := h.lf.far _ _ a2
theorem Rpt.alike {e' r' : Nat → Nat} {k' : Nat} {f' : Nat → Nat → Nat} (h : Rpt w wr g5 g6 g7 n e k r M f) (hf : ∀ i t, t < 4 → f' i t = f i t) (hr : ∀ t, t < 3 → r' t = r t) (he : ∀ j, Dn e' k' j ↔ Dn e k j) : Rpt w wr g5 g6 g7 n e' k' r' M f' where
  bel := h.bel
  out := h.out.alike fun j _ => by unfold ptv; rw [hf _ _ (by omega)]
  dn := h.dn.alike fun j _ => by rw [dec_congr (he j)]
  lf := h.lf.alike fun t _ => by
    unfold rmv
    by_cases c : t < 3
    · rw [if_pos c, if_pos c, hr t c]
    · rw [if_neg c, if_neg c]
end
end Go.Proofs.YtbcejfonkehjgaaGreatDoor
