/-
  What is proved: how the densest one of those that are left is found, again and again, makes the order; how blocks are laid one by one makes the parts. No program's function is in it.
-/
import Derived.Test.YtmfdlkkligjcbaaGreatJ16
import Derived.Test.YtmfdlkkligjcbaaGreatJ20
namespace Go.Proofs.YtmfdlkkligjcbaaGreat
open Go.RowKit

/-- j was taken among the first k -/
def Dn (e : Nat → Nat) (k j : Nat) : Prop := ∃ t, t < k ∧ e t = j
/-- e takes k of n, each time the first one of those that are left -/
structure Sel (hh : Nat → Hn) (n k : Nat) (e : Nat → Nat) : Prop where
  srt : ∀ i j, i < j → j < k → LH hh (e i) (e j)
  lt : ∀ i, i < k → e i < n
  rest : ∀ i, i < k → ∀ j, j < n → ¬ Dn e k j → LH hh (e i) j
/-- b is the first one of those below i that are left -/
def Best (hh : Nat → Hn) (e : Nat → Nat) (k i : Nat) : Option Nat → Prop
  | none => ∀ j, j < i → Dn e k j
  | some b => b < i ∧ ¬ Dn e k b ∧ ∀ j, j < i → ¬ Dn e k j → j ≠ b → LH hh b j
section
variable {hh : Nat → Hn} {n k i b : Nat} {e : Nat → Nat}
theorem Best.skip {o : Option Nat} (h : Best hh e k i o) (hd : Dn e k i) : Best hh e k (i + 1) o := by
  cases o with
  | none =>
    intro j hj
    by_cases c : j = i
    · rw [c]; exact hd
    · exact h j (by omega)
  | some b =>
    refine ⟨by have := h.1; omega, h.2.1, fun j hj hn hb => ?_⟩
    by_cases c : j = i
    · subst c; exact absurd hd hn
    · exact h.2.2 j (by omega) hn hb
theorem Best.first (h : Best hh e k i none) (hd : ¬ Dn e k i) : Best hh e k (i + 1) (some i) :=
  ⟨by omega, hd, fun j hj hn hb => absurd (h j (by omega)) hn⟩
theorem Best.stay (h : Best hh e k i (some b)) (hl : ¬ LH hh i b) : Best hh e k (i + 1) (some b) := by
  refine ⟨by have := h.1; omega, h.2.1, fun j hj hn hb => ?_⟩
  by_cases c : j = i
  · subst c; exact (LH_total hh (show b ≠ j by have := h.1; omega)).resolve_right hl
  · exact h.2.2 j (by omega) hn hb
theorem Best.turn {c : Int} (hP : HintsP hh n c) (hi : i < n) (h : Best hh e k i (some b)) (hd : ¬ Dn e k i) (hl : LH hh i b) : Best hh e k (i + 1) (some i) := by
  refine ⟨by omega, hd, fun j hj hn hne => ?_⟩
  by_cases c : j = b
  · rw [c]; exact hl
  · have h1 := h.2.2 j (by omega) hn c
    refine (ord_of n (oft hh) (sz hh) fun x hx => ?_).trans i b j hi (by have := h.1; omega) (by omega) hl h1
    have := hP.2.1 x hx
    unfold okH at this
    show 0 < sz hh x
    unfold sz
    omega
theorem Sel.free (_ : Sel hh n k e) (hk : k < n) : ∃ j, j < n ∧ ¬ Dn e k j := by
  refine Classical.byContradiction fun hno => ?_
  have hall : ∀ j, j < n → ∃ t, t < k ∧ e t = j := fun j hj => Classical.byContradiction fun h => hno ⟨j, hj, h⟩
  have hg : ∃ g : Nat → Nat, ∀ j, j < n → g j < k ∧ e (g j) = j :=
    ⟨fun j => if hj : j < n then Classical.choose (hall j hj) else 0, fun j hj => by simp only [dif_pos hj]; exact Classical.choose_spec (hall j hj)⟩
  obtain ⟨g, hg⟩ := hg
  have := nodup_len k ((List.range n).map g) (by
    unfold List.Nodup
    rw [List.pairwise_map]
    refine List.Pairwise.imp_of_mem (R := fun i j => i < j) (fun {x y} hx hy hxy => ?_) List.pairwise_lt_range
    intro exy
    have h1 := hg x (List.mem_range.1 hx)
    have h2 := hg y (List.mem_range.1 hy)
    rw [exy, h2.2] at h1
    omega) (fun x hx => by
    obtain ⟨j, hj, rfl⟩ := List.mem_map.1 hx
    exact (hg j (List.mem_range.1 hj)).1)
  simp at this
  omega
theorem Sel.best (h : Sel hh n k e) (hk : k < n) (hb : Best hh e k n none) : False := by
  obtain ⟨j, hj, hn⟩ := h.free hk
  exact hn (hb j hj)
/-- one more -/
def put (e : Nat → Nat) (k b i : Nat) : Nat := if i = k then b else e i
theorem Dn_put (e : Nat → Nat) (k b j : Nat) : Dn (put e k b) (k + 1) j ↔ Dn e k j ∨ j = b := by
  constructor
  · rintro ⟨t, ht, h⟩
    unfold put at h
    by_cases c : t = k
    · rw [if_pos c] at h; exact .inr h.symm
    · rw [if_neg c] at h; exact .inl ⟨t, by omega, h⟩
  · rintro (⟨t, ht, h⟩ | h)
    · exact ⟨t, by omega, by unfold put; rw [if_neg (by omega)]; exact h⟩
    · exact ⟨k, by omega, by unfold put; rw [if_pos rfl]; exact h.symm⟩
theorem Sel.next (h : Sel hh n k e) (hb : Best hh e k n (some b)) : Sel hh n (k + 1) (put e k b) where
  srt := fun i j h1 h2 => by
    unfold put
    rw [if_neg (show ¬ i = k by omega)]
    by_cases c : j = k
    · rw [if_pos c]; exact h.rest i (by omega) b hb.1 hb.2.1
    · rw [if_neg c]; exact h.srt i j h1 (by omega)
  lt := fun i hi => by
    unfold put
    by_cases c : i = k
    · rw [if_pos c]; exact hb.1
    · rw [if_neg c]; exact h.lt i (by omega)
  rest := fun i hi j hj hn => by
    rw [Dn_put] at hn
    unfold put
    by_cases c : i = k
    · rw [if_pos c]; exact hb.2.2 j hj (fun g => hn (.inl g)) (fun g => hn (.inr g))
    · rw [if_neg c]; exact h.rest i (by omega) j hj fun g => hn (.inl g)
theorem Sel.ord (h : Sel hh n n e) : OrdH hh n e := ⟨h.srt, h.lt⟩
theorem Sel.zero (hh : Nat → Hn) (n : Nat) (e : Nat → Nat) : Sel hh n 0 e := ⟨fun _ j _ h2 => absurd h2 (Nat.not_lt_zero j), fun i hi => absurd hi (Nat.not_lt_zero i), fun i hi => absurd hi (Nat.not_lt_zero i)⟩
theorem put_lt (e : Nat → Nat) (k b : Nat) {i : Nat} (hi : i < k) : put e k b i = e i := if_neg (by omega)
theorem put_eq (e : Nat → Nat) (k b : Nat) : put e k b k = b := if_pos rfl
end
/-- one block more is laid: tier t is the first with room, 3 is none -/
theorem lay_one {r : Nat → Nat} {b t : Nat} (ht : t ≤ 3) (h0 : ∀ u, u < t → nr b r u = 0) (h1 : t < 3 → 0 < nr b r t) :
    (∀ u, u < 4 → pr (b + 1) r u = if u = t then pr b r u + 1 else pr b r u) ∧ (∀ u, u < 3 → nr (b + 1) r u = if u = t then nr b r u - 1 else nr b r u) ∧ (lf (b + 1) r 3 = if t = 3 then lf b r 3 + 1 else lf b r 3) := by
  have h3 : t = 0 ∨ t = 1 ∨ t = 2 ∨ t = 3 := by omega
  have hu : ∀ u, u < 4 → u = 0 ∨ u = 1 ∨ u = 2 ∨ u = 3 := fun u h => by omega
  rcases h3 with rfl | rfl | rfl | rfl
  · have a0 := h1 (by omega)
    simp only [nr, lf] at a0
    refine ⟨fun u h => ?_, fun u h => ?_, ?_⟩
    · rcases hu u h with rfl | rfl | rfl | rfl <;> simp [pr, lf] <;> omega
    · rcases hu u (by omega) with rfl | rfl | rfl | rfl <;> simp [nr, lf] <;> omega
    · simp [lf]; omega
  · have a0 := h0 0 (by omega)
    have a1 := h1 (by omega)
    simp only [nr, lf] at a0 a1
    refine ⟨fun u h => ?_, fun u h => ?_, ?_⟩
    · rcases hu u h with rfl | rfl | rfl | rfl <;> simp [pr, lf] <;> omega
    · rcases hu u (by omega) with rfl | rfl | rfl | rfl <;> simp [nr, lf] <;> omega
    · simp [lf]; omega
  · have a0 := h0 0 (by omega)
    have a1 := h0 1 (by omega)
    have a2 := h1 (by omega)
    simp only [nr, lf] at a0 a1 a2
    refine ⟨fun u h => ?_, fun u h => ?_, ?_⟩
    · rcases hu u h with rfl | rfl | rfl | rfl <;> simp [pr, lf] <;> omega
    · rcases hu u (by omega) with rfl | rfl | rfl | rfl <;> simp [nr, lf] <;> omega
    · simp [lf]; omega
  · have a0 := h0 0 (by omega)
    have a1 := h0 1 (by omega)
    have a2 := h0 2 (by omega)
    simp only [nr, lf] at a0 a1 a2
    refine ⟨fun u h => ?_, fun u h => ?_, ?_⟩
    · rcases hu u h with rfl | rfl | rfl | rfl <;> simp [pr, lf] <;> omega
    · rcases hu u (by omega) with rfl | rfl | rfl | rfl <;> simp [nr, lf] <;> omega
    · simp [lf]; omega
theorem nr_zero {r : Nat → Nat} {t : Nat} : nr 0 r t = r t := by
  have := lf_le 0 r t
  unfold nr
  omega
end Go.Proofs.YtmfdlkkligjcbaaGreat
namespace Go.Proofs.YtmfdlkkligjcbaaGreat
open Go.RowKit

theorem elt_intK : Elt Tryz.prog 43 3 (.int .i64 0) 1 8 := ⟨Tryz.underlying43, eInts, rfl, by decide⟩
theorem infoBool : (Tryz.prog.info? 4).map (fun i => (i.zero, i.size, i.bytes)) = some (some (.bool false), 1, 1) := by kernel_rfl
theorem elt_bool : Elt Tryz.prog 136 4 (.bool false) 1 1 := ⟨Tryz.underlying136, infoBool, rfl, by decide⟩
theorem one_same (v : Value) (h : v.cells = #[v]) : ∀ j, j < v.cells.size → v.cells[j]! = v := fun j hj => by
  rw [h] at hj ⊢
  have : j = 0 := by simpa using hj
  subst this
  rfl
theorem own_arr {w : World} {b n : Nat} {e : TypeId} {v : Value} {us : List Value} (h : OwnV w b e 1 v n us) (hn : 0 < n) (f : Nat → Value) (hf : ∀ i, i < n → us[i]? = some (f i)) : ∃ g c, v = .slice (some ⟨g, 0, none⟩) n c ∧ b ≤ g ∧ Arr w g n f := by
  have hc := fun g => World.ownsRow.cells (g := g) h
  have hl := fun g => World.ownsRow.lt h g
  rcases h.2 with ⟨_, h0⟩ | ⟨g, cap, cur, hv, hb, hh, _⟩
  · omega
  · subst hv
    refine ⟨g, cap, rfl, hb, (hl g rfl).2, fun i hi => ?_, fun i _ => frozen_of_row w g i cur e hh⟩
    have h1 := hc g rfl i _ (hf i hi)
    rwa [show (⟨g, 0, none⟩ : Addr).add i = ⟨g, i, none⟩ from by unfold Addr.add; split <;> simp_all] at h1
/-- what Parts' loops keep -/
structure Rpt (w w' : World) (g5 g6 g7 n : Nat) (e : Nat → Nat) (k : Nat) (r : Nat → Nat) (M : Nat) (f : Nat → Nat → Nat) : Prop where
  bel : Below w.heap.size w w'
  out : Arr w' g5 (n * 4) (ptv f)
  dn : Arr w' g6 n (fun j => .bool (dec (Dn e k j)))
  lf : Arr w' g7 4 (rmv r M)
/-- the parts while a hint's blocks are laid -/
def fB (f : Nat → Nat → Nat) (y : Nat) (r : Nat → Nat) (B i t : Nat) : Nat := if i = y then pr B r t else f i t
section
variable {w wr : World} {g5 g6 g7 n k M y : Nat} {e r : Nat → Nat} {f : Nat → Nat → Nat}
theorem Rpt.draws (h : Rpt w wr g5 g6 g7 n e k r M f) (m : Nat) : Rpt w (wr.drewN m) g5 g6 g7 n e k r M f := ⟨below_draws h.bel m, h.out.below (below_draws (Below.refl _ _) m), h.dn.below (below_draws (Below.refl _ _) m), h.lf.below (below_draws (Below.refl _ _) m)⟩
theorem Rpt.done (h : Rpt w wr g5 g6 g7 n e k r M f) (hy : y < n) (hw : w.heap.size ≤ g6) (h1 : g6 ≠ g5) (h2 : g6 ≠ g7) : Rpt w (wr.setCell ⟨g6, y, none⟩ (.bool true)) g5 g6 g7 n (put e k y) (k + 1) r M f where
  bel := below_set h.bel _ _ hw
  out := h.out.far _ _ h1
  dn := (h.dn.set hy (.bool true)).alike fun j hj => by
    by_cases c : j = y
    · rw [if_pos c, dec_true ((Dn_put e k y j).2 (.inr c))]
    · rw [if_neg c, dec_congr (p := Dn (put e k y) (k + 1) j) (q := Dn e k j) ⟨fun g => ((Dn_put e k y j).1 g).resolve_right c, fun g => (Dn_put e k y j).2 (.inl g)⟩]
  lf := h.lf.far _ _ h2
theorem Rpt.left {B t M' : Nat} {z : Int} {f' : Nat → Nat → Nat} (h : Rpt w wr g5 g6 g7 n e k (nr B r) M f') (ht : t ≤ 3) (h0 : ∀ u, u < t → nr B r u = 0) (h1 : t < 3 → 0 < nr B r t) (hz : z = (if t < 3 then nr B r t - 1 else M - 1 : Nat)) (hM : M' = if t = 3 then M - 1 else M) (hw : w.heap.size ≤ g7) (a1 : g7 ≠ g5) (a2 : g7 ≠ g6) :
    Rpt w (wr.setCell ⟨g7, t, none⟩ (.int .i64 z)) g5 g6 g7 n e k (nr (B + 1) r) M' f' where
  bel := below_set h.bel _ _ hw
  out := h.out.far _ _ a1
  dn := h.dn.far _ _ a2
  lf := (h.lf.set (i := t) (by omega) (.int .i64 z)).alike fun u hu => by
    obtain ⟨_, hn, _⟩ := lay_one ht h0 h1
    by_cases c : u = t
    · subst c
      rw [if_pos rfl, hz]
      unfold rmv
      by_cases h3 : u < 3
      · rw [if_pos h3, if_pos h3, hn u h3, if_pos rfl]
      · rw [if_neg h3, if_neg h3, hM, if_pos (by omega)]
    · rw [if_neg c]
      unfold rmv
      by_cases h3 : u < 3
      · rw [if_pos h3, if_pos h3, hn u h3, if_neg c]
      · rw [if_neg h3, if_neg h3, hM, if_neg (by omega)]
theorem Rpt.add {B t J : Nat} {z : Int} {r' : Nat → Nat} (h : Rpt w wr g5 g6 g7 n e k r' M (fB f y r B)) (hy : y < n) (ht : t ≤ 3) (h0 : ∀ u, u < t → nr B r u = 0) (h1 : t < 3 → 0 < nr B r t) (hJ : J = y * 4 + t) (hz : z = (pr B r t + 1 : Nat)) (hw : w.heap.size ≤ g5) (a1 : g5 ≠ g6) (a2 : g5 ≠ g7) :
    Rpt w (wr.setCell ⟨g5, J, none⟩ (.int .i64 z)) g5 g6 g7 n e k r' M (fB f y r (B + 1)) where
  bel := below_set h.bel _ _ hw
  out := (h.out.set (i := J) (by omega) (.int .i64 z)).alike fun j hj => by
    obtain ⟨hp, _, _⟩ := lay_one ht h0 h1
    by_cases c : j = J
    · rw [if_pos c, c, hJ, ptv_at _ _ _ (by omega), hz]
      unfold fB
      rw [if_pos rfl, hp t (by omega), if_pos rfl]
    · rw [if_neg c]
      unfold ptv fB
      by_cases c2 : j / 4 = y
      · rw [if_pos c2, if_pos c2, hp (j % 4) (by omega), if_neg (by omega)]
      · rw [if_neg c2, if_neg c2]
  dn := h.dn.far _ _ a1
  lf := h.lf.far _ _ a2
theorem Rpt.alike {e' r' : Nat → Nat} {k' : Nat} {f' : Nat → Nat → Nat} (h : Rpt w wr g5 g6 g7 n e k r M f) (hf : ∀ i t, t < 4 → f' i t = f i t) (hr : ∀ t, t < 3 → r' t = r t) (he : ∀ j, Dn e' k' j ↔ Dn e k j) : Rpt w wr g5 g6 g7 n e' k' r' M f' where
  bel := h.bel
  out := h.out.alike fun j _ => by unfold ptv; rw [hf _ _ (by omega)]
  dn := h.dn.alike fun j _ => by rw [dec_congr (he j)]
  lf := h.lf.alike fun t _ => by
    unfold rmv
    by_cases c : t < 3
    · rw [if_pos c, if_pos c, hr t c]
    · rw [if_neg c, if_neg c]
end
theorem pr_le (s : Nat) (r : Nat → Nat) (t : Nat) : pr s r t ≤ s := by
  have h1 := lf_le s r t
  have h2 := lf_le s r 3
  unfold pr
  split <;> omega
/-- the best one so far, as a number -/
def bsV (o : Option Nat) : Int := match o with | some b => (b : Int) | none => -1
/-- the parts, as they are told: one number behind the other -/
def RPartsQ (hh : Nat → Hn) (n : Nat) (x : Nat → Nat) (w : World) (e : Ending) (w' : World) : Prop :=
  ∃ g d, e = .returned (.slice (some ⟨g, 0, none⟩) (4 * n) (4 * n)) ∧ OrdH hh n d ∧ Arr w' g (n * 4) (ptv (PP (sz hh) d x n)) ∧ Below w.heap.size w w' ∧ w.heap.size ≤ g
set_option maxRecDepth 20000 in
set_option maxHeartbeats 4000000 in
theorem rparts_any (A : Option Addr) (n c : Nat) (hh : Nat → Hn) (b : Int) (x : Nat → Nat) (w : World) (hP : HintsP hh n b) (hr : Rv w w.heap.size A (hvs hh n)) (hx : ∀ t, t < 3 → x t ≤ 1000) :
    Calls Tryz.prog 55 #[.slice A n c, .agg (c3n x)] w (RPartsQ hh n x w) := by
  have hn8 := hP.1
  have HR := hid hr
  have HP := hid hP
  have hb0 := below_alloc w (.cells (c3n x) 22)
  have hx0 := Bx.new w 22 (c3n x)
  obtain ⟨q0, hq0⟩ : ∃ q, w.heap.size = q := ⟨_, rfl⟩
  rw [hq0] at hx0
  have HB0 := hid hb0
  have HX0 := hid hx0
  have HXX := hid hx
  have HQ0 := hid hq0
  obtain ⟨N, hN⟩ : ∃ N : Nat, N = 4 * n := ⟨_, rfl⟩
  have hN' : 4 * (n : Int) = (N : Int) := by omega
  have HN := hid hN
  have hN32 : N ≤ 32 := by omega
  clear hb0 hx0 hr hP hx hq0 hN
  go_enter Tryz.func55, Tryz.ntmps55
  go_upto_region 1 with fail
  rw [HQ0.out]
  generalize w.alloc (.cells (c3n x) 22) = w0 at *
  go_upto_region 2 with (at_make; refine wpList_makeS elt_intK (.int .i64 0) (one_same _ rfl) rfl (.tmp 15) (.tmp 15) rfl N rfl rfl (by omega) (by unfold maxLen; omega) ?_; intro w1 hw1)
  have hbx : Below w0.heap.size w0 w1 := by rw [hw1.out]; exact below_alloc w0 _
  have ha5 : Arr w1 w0.heap.size (n * 4) (ptv fun _ _ => 0) := by
    rw [hw1.out]
    refine arr_new w0 _ _ _ fun j hj => ?_
    rw [List.getElem?_toArray, List.getElem?_replicate, if_pos (by have := HN.out; omega)]
    rfl
  obtain ⟨g5, hg5⟩ : ∃ g, w0.heap.size = g := ⟨_, rfl⟩
  have HL5 := hid (show w.heap.size ≤ g5 from by rw [← hg5]; exact HB0.out.size)
  have HB1 := hid (on HB0.out hbx)
  have HX1 := hid (HX0.out.next hbx)
  rw [hg5] at ha5 ⊢
  have HA5 := hid ha5
  clear ha5 hbx hw1 hg5 HX0 HB0
  go_upto_region 3 with (at_make; refine wpList_makeS elt_bool (.bool false) (one_same _ rfl) rfl (.tmp 18) (.tmp 18) rfl n rfl rfl (by omega) (by unfold maxLen; omega) ?_; intro w2 hw2)
  have hbx : Below w1.heap.size w1 w2 := by rw [hw2.out]; exact below_alloc w1 _
  have ha6 : Arr w2 w1.heap.size n (fun j => .bool (dec (Dn id 0 j))) := by
    rw [hw2.out]
    refine arr_new w1 _ _ _ fun j hj => ?_
    rw [dec_false (by rintro ⟨t, h, _⟩; omega), List.getElem?_toArray, List.getElem?_replicate, if_pos (by omega)]
  obtain ⟨g6, hg6⟩ : ∃ g, w1.heap.size = g := ⟨_, rfl⟩
  have HL6 := hid (show g5 < g6 from by rw [← hg6]; exact HA5.out.lt)
  have HB2 := hid (on HB1.out hbx)
  have HX2 := hid (HX1.out.next hbx)
  have HA52 := hid (HA5.out.below hbx)
  rw [hg6] at ha6 ⊢
  have HA6 := hid ha6
  clear ha6 hbx hw2 hg6 HX1 HB1 HA5
  have p0 : w2.cell? ⟨q0, 0, none⟩ = some (.int .i64 (x 0 : Nat)) := HX2.out.cell 0
  have p1 : w2.cell? ⟨q0, 1, none⟩ = some (.int .i64 (x 1 : Nat)) := HX2.out.cell 1
  have p2 : w2.cell? ⟨q0, 2, none⟩ = some (.int .i64 (x 2 : Nat)) := HX2.out.cell 2
  go_upto_region 5 with (at_builtin; refine wpList_appV elt_intK rfl _ _ rfl w2.heap.size _ 0 [] (ownV_nil _ _ _ _) rfl _ _ 4 4 [.int .i64 (x 0 : Nat), .int .i64 (x 1 : Nat), .int .i64 (x 2 : Nat), .int .i64 1000] rfl rfl (rv_new w2 3 #[.int .i64 (x 0 : Nat), .int .i64 (x 1 : Nat), .int .i64 (x 2 : Nat), .int .i64 1000]) (fun u hu => by simp at hu; rcases hu with rfl | rfl | rfl | rfl <;> rfl) (by unfold maxLen; omega) (by omega) (by rw [World.size_alloc]; omega) ?_; intro v3 w3 hown hg3)
  rw [List.nil_append, Nat.zero_add] at hown
  obtain ⟨g7, c7, rfl, hg7, ha7⟩ := own_arr hown (by omega) (rmv x 1000) (fun i hi => by
    have h4 : i = 0 ∨ i = 1 ∨ i = 2 ∨ i = 3 := by omega
    rcases h4 with rfl | rfl | rfl | rfl <;> rfl)
  have hb3 : Below w2.heap.size w2 w3 := (below_alloc w2 _).trans (hg3.below (ownV_nil _ w2.heap.size 3 1) (by rw [World.size_alloc]; omega))
  have HL7 := hid (show g6 < g7 from Nat.lt_of_lt_of_le HA6.out.lt hg7)
  have HST := hid (show Rpt w w3 g5 g6 g7 n id 0 x 1000 (fun _ _ => 0) from ⟨on HB2.out hb3, HA52.out.below hb3, HA6.out.below hb3, ha7⟩)
  clear hown hg3 hg7 ha7 hb3 p0 p1 p2 HA52 HA6 HB2 HX2
  have HSUM := hid (fun (e : Nat → Nat) q (h : Sel hh n q e) => Nat.le_trans (sz_order (hh := hh) (n := n) (K := q) (fun i j h1 h2 e1 => by
    have h3 := h.srt i j h1 h2
    rw [e1] at h3
    exact LH_asym hh _ _ h3 h3) h.lt) (szs_sum HP.out))
  go_wp2
  go_loopg [8] n (fun gk t8 wr => ∃ (q : Nat) (e : Nat → Nat) (M : Nat), q + gk = n ∧ t8 = .int .i64 q ∧ Sel hh n q e ∧ M ≤ 1000 ∧ 1000 ≤ M + sN (fun i => sz hh (e i)) q ∧ Rpt w wr g5 g6 g7 n e q (RM (sz hh) e x q) M (PP (sz hh) e x q))
  case atStart => exact ⟨0, id, 1000, by omega, rfl, Sel.zero hh n id, Nat.le_refl _, by omega, HST.out⟩
  case round =>
    clear HST
    obtain ⟨q, e, M, hq, rfl, hsel, hM, hMs, hst⟩ := hrel
    have HST := hid hst
    have HSEL := hid hsel
    clear hst hsel
    by_cases hlt : q < n
    · have hlt' : (q : Int) < (n : Int) := by omega
      generalize gk = K0 at *
      go_wp2
      go_loopg [9, 10] n (fun gk t9 t10 wi => ∃ (i m : Nat) (o : Option Nat), i + gk = n ∧ t9 = .int .i64 (bsV o) ∧ t10 = .int .i64 i ∧ Best hh e q i o ∧ wi = wr.drewN m)
      case atStart => exact ⟨0, 0, none, by omega, rfl, rfl, fun j hj => absurd hj (Nat.not_lt_zero j), rfl⟩
      case round =>
        obtain ⟨i, m, o, hi, rfl, rfl, hbest, rfl⟩ := hrel
        have HBE := hid hbest
        clear hbest
        by_cases hil : i < n
        · have hil' : (i : Int) < (n : Int) := by omega
          have d0 := (HST.out.draws m).dn.cell i hil
          have HDE := hid (fun k (hk : k < n) w (hr : Rv w w.heap.size A (hvs hh n)) => denser_any A n c hh b i k w HP.out hil hk hr)
          have HRM := hid (HR.out.now (HST.out.draws m).bel)
          by_cases hdn : Dn e q i
          · rw [dec_true hdn] at d0
            have HN2 := hid (HBE.out.skip hdn)
            clear hdn
            go_wp2
            go_roundg (gk - 1)
            case measure => omega
            case rel => exact ⟨i + 1, m, o, by omega, rfl, by go_num, HN2.out, rfl⟩
          · rw [dec_false hdn] at d0
            cases o with
            | none =>
              have HN2 := hid (HBE.out.first hdn)
              clear hdn
              rw [show bsV none = -1 from rfl]
              go_wp2
              go_roundg (gk - 1)
              case measure => omega
              case rel => exact ⟨i + 1, m, some i, by omega, rfl, by go_num, HN2.out, rfl⟩
            | some y =>
              have hyi := HBE.out.1
              have hy0 : ¬ (y : Int) < 0 := by omega
              rw [show bsV (some y) = (y : Int) from rfl]
              by_cases hl : LH hh i y
              · have HN2 := hid (HBE.out.turn HP.out hil hdn hl)
                have HD2 := hid (HDE.out y (by omega) _ HRM.out)
                rw [dec_true hl] at HD2
                clear hl hdn
                go_wp2_with (go_at_call 68; refine HD2.out.mono ?_; rintro e w' ⟨rfl, m2, rfl⟩)
                go_roundg (gk - 1)
                case measure => omega
                case rel => exact ⟨i + 1, _, some i, by omega, rfl, by go_num, HN2.out, rfl⟩
              · have HN2 := hid (HBE.out.stay hl)
                have HD2 := hid (HDE.out y (by omega) _ HRM.out)
                rw [dec_false hl] at HD2
                clear hl hdn
                go_wp2_with (go_at_call 68; refine HD2.out.mono ?_; rintro e w' ⟨rfl, m2, rfl⟩)
                go_roundg (gk - 1)
                case measure => omega
                case rel => exact ⟨i + 1, _, some y, by omega, rfl, by go_num, HN2.out, rfl⟩
        · have hil' : ¬ (i : Int) < (n : Int) := by omega
          have hin : n = i := by omega
          subst hin
          cases o with
          | none => exact absurd HBE.out fun h => HSEL.out.best hlt h
          | some y =>
            rw [show bsV (some y) = (y : Int) from rfl]
            have hyn := HBE.out.1
            have hyn' : (y : Int) < (n : Int) := by omega
            have d0 := (HST.out.draws m).dn.cell y hyn
            have d1 := (HST.out.draws m).dn.free y hyn
            have HL := hid (And.intro HL5.out (And.intro HL6.out HL7.out))
            have HS5 := hid ((HST.out.draws m).done hyn (by have := HL.out; omega) (by have := HL.out; omega) (by have := HL.out; omega))
            have HNE := hid (HSEL.out.next HBE.out)
            have hsum := HSUM.out _ _ HNE.out
            have HRM := hid (show RM (sz hh) (put e q y) x (q + 1) = nr (sz hh y) (RM (sz hh) e x q) from by
              rw [RM, put_eq, RM_congr (d := put e q y) (e := e) fun i hi => put_lt e q y hi])
            have HPP := hid (show PP (sz hh) (put e q y) x (q + 1) = fun i t => if i = y then pr (sz hh y) (RM (sz hh) e x q) t else PP (sz hh) e x q i t from by
              rw [PP, put_eq, RM_congr (d := put e q y) (e := e) (fun i hi => put_lt e q y hi), PP_congr (d := put e q y) (e := e) fun i hi => put_lt e q y hi])
            have HP0 := hid (show ∀ t, PP (sz hh) e x q y t = 0 from PP_out fun j hj he => HBE.out.2.1 ⟨j, hj, he⟩)
            have hrx : ∀ t, t < 3 → RM (sz hh) e x q t ≤ 1000 := fun t ht => Nat.le_trans (RM_le (Nat.zero_le q) t) (HXX.out t ht)
            have HRX := hid hrx
            clear hrx
            have hsn : sN (fun i => sz hh (put e q y i)) (q + 1) = sN (fun i => sz hh (e i)) q + sz hh y := by
              rw [sN, put_eq, sN_congr (f := fun i => sz hh (put e q y i)) (g := fun i => sz hh (e i)) fun i hi => by rw [put_lt e q y hi]]
            rw [hsn] at hsum
            have HSN := hid hsn
            have ho := HP.out.2.1 y hyn
            unfold okH at ho
            have hs2 : (hh y).s = (sz hh y : Nat) := by unfold sz; omega
            have HS2 := hid hs2
            clear hsn hs2 ho
            generalize RM (sz hh) e x q = r at *
            generalize PP (sz hh) e x q = f at *
            generalize sN (fun i => sz hh (e i)) q = sm at *
            generalize sz hh y = S at *
            go_upto_region 15 with fail
            generalize (wr.drewN m).setCell ⟨g6, y, none⟩ (.bool true) = w5 at *
            clear d0 d1
            generalize gk = K9 at *
            go_wp2
            go_loopg [11] S (fun gk t11 wi => ∃ B M' : Nat, B + gk = S ∧ t11 = .int .i64 B ∧ M' + lf B r 3 = M ∧ Rpt w wi g5 g6 g7 n (put e q y) (q + 1) (nr B r) M' (fB f y r B))
            case atStart =>
              refine ⟨0, M, by omega, rfl, by have := lf_le 0 r 3; omega, HS5.out.alike (fun i t _ => ?_) (fun t _ => nr_zero) fun j => Iff.rfl⟩
              unfold fB
              by_cases c : i = y
              · rw [if_pos c, pr_zero, c, HP0.out]
              · rw [if_neg c]
            case round =>
              clear HS5
              obtain ⟨B, M', hB, rfl, hM', hst⟩ := hrel
              have HS6 := hid hst
              have hlB := lf_le B r 3
              clear hst
              obtain ⟨ad, rfl, hat⟩ := (HR.out.now HS6.out.bel).hint hyn
              have c1 := hat.s
              rw [HS2.out] at c1
              clear hat
              generalize gk = K1 at *
              by_cases hBS : B < S
              · have hBS' : (B : Int) < (S : Int) := by omega
                go_wp2
                go_loopg [12] 4 (fun gk t12 wj => ∃ t : Nat, t + gk = 4 ∧ t ≤ 3 ∧ t12 = .int .i64 t ∧ (∀ u, u < t → nr B r u = 0) ∧ wj = wr)
                case atStart => exact ⟨0, by omega, by omega, rfl, fun u hu => absurd hu (Nat.not_lt_zero u), rfl⟩
                case round =>
                  obtain ⟨t, ht, ht3, rfl, hz, rfl⟩ := hrel
                  have HZ := hid hz
                  clear hz
                  have hlS := lf_le B r 3
                  obtain ⟨V, hV, hV3, hV4⟩ : ∃ V : Nat, rmv (nr B r) M' t = .int .i64 V ∧ (t < 3 → V = nr B r t) ∧ (t = 3 → V = M') := by
                    by_cases h3 : t < 3
                    · exact ⟨nr B r t, by unfold rmv; rw [if_pos h3], fun _ => rfl, fun h => by omega⟩
                    · exact ⟨M', by unfold rmv; rw [if_neg h3], fun h => absurd h h3, fun _ => rfl⟩
                  have hVle : V ≤ 1000 := by
                    by_cases h3 : t < 3
                    · rw [hV3 h3]
                      have := HRX.out t h3
                      unfold nr
                      omega
                    · rw [hV4 (by omega)]; omega
                  have v0 := HS6.out.lf.cell t (by omega)
                  have v1 := HS6.out.lf.free t (by omega)
                  rw [hV] at v0
                  have HV3 := hid hV3
                  have HV4 := hid hV4
                  have ht4 : (t : Int) < 4 := by omega
                  clear hV hV3 hV4
                  by_cases h0 : V = 0
                  · subst h0
                    have h3 : t < 3 := by
                      refine Classical.byContradiction fun h3 => ?_
                      have := HV4.out (by omega)
                      omega
                    have HZ2 := hid (show ∀ u, u < t + 1 → nr B r u = 0 from fun u hu => by
                      by_cases c : u = t
                      · rw [c]; exact (HV3.out h3).symm
                      · exact HZ.out u (by omega))
                    go_wp2
                    go_roundg (gk - 1)
                    case measure => omega
                    case rel => exact ⟨t + 1, by omega, by omega, by go_num, HZ2.out, rfl⟩
                  · have hV0 : ((V : Int) == 0) = false := by simp; omega
                    have hpos : t < 3 → 0 < nr B r t := fun h3 => by rw [← HV3.out h3]; omega
                    obtain ⟨J, hJ⟩ : ∃ J : Nat, J = y * 4 + t := ⟨_, rfl⟩
                    have hJ' : 4 * (y : Int) + (t : Int) = (J : Int) := by omega
                    have hJN : (J : Int) < (N : Int) := by have := HN.out; omega
                    have HPO := hid hpos
                    have HS7 := hid (HS6.out.left (z := (V : Int) - 1) (M' := if t = 3 then M' - 1 else M') ht3 HZ.out hpos (by
                      by_cases h3 : t < 3
                      · rw [if_pos h3, ← HV3.out h3]; omega
                      · rw [if_neg h3, ← HV4.out (by omega)]; omega) rfl (by have := HL.out; omega) (by have := HL.out; omega) (by have := HL.out; omega))
                    have HS8 := hid (HS7.out.add (J := J) (z := (pr B r t : Nat) + 1) hyn ht3 HZ.out hpos hJ rfl (by have := HL.out; omega) (by have := HL.out; omega) (by have := HL.out; omega))
                    have s0 := HS7.out.out.cell J (by omega)
                    have s1 := HS7.out.out.free J (by omega)
                    rw [hJ, ptv_at _ _ _ (by omega), ← hJ, show fB f y r B y t = pr B r t from if_pos rfl] at s0
                    have hpl := pr_le B r t
                    have HLF := hid (lay_one ht3 HZ.out hpos).2.2
                    clear hJ hpos
                    generalize pr B r t = pv at *
                    go_upto_region 22 with fail
                    generalize wr.setCell ⟨g7, t, none⟩ (.int .i64 ((V : Int) - 1)) = w7 at *
                    clear v0 v1
                    go_wp2
                    go_roundg (K1 - 1)
                    case measure => omega
                    case rel =>
                      refine ⟨B + 1, _, by omega, by go_num, ?_, HS8.out⟩
                      rw [HLF.out]
                      by_cases h3 : t = 3
                      · rw [if_pos h3, if_pos h3]
                        have := HV4.out h3
                        omega
                      · rw [if_neg h3, if_neg h3]; exact hM'
              · have hBS' : ¬ (B : Int) < (S : Int) := by omega
                obtain rfl : B = S := by omega
                go_wp2
                go_roundg (K0 - 1)
                case measure => omega
                case rel =>
                  refine ⟨q + 1, put e q y, M', by omega, by go_num, HNE.out, by omega, by rw [HSN.out]; omega, HS6.out.alike (fun i t _ => ?_) (fun t _ => ?_) fun j => Iff.rfl⟩
                  · rw [HPP.out]; rfl
                  · rw [HRM.out]
    · have hlt' : ¬ (q : Int) < (n : Int) := by omega
      obtain rfl : q = n := by omega
      go_wp2
      go_ret
      refine ⟨g5, e, ?_, HSEL.out.ord, HST.out.out, HST.out.bel, HL5.out⟩
      rw [← HN.out]
      rfl
end Go.Proofs.YtmfdlkkligjcbaaGreat
namespace Go.Proofs.YtmfdlkkligjcbaaGreat
open Go.RowKit

section
variable {A : Option Addr} {n c : Nat} {hh : Nat → Hn} {b x y z : Int} {w : World}
/-- New makes a plan -/
theorem new_ok {u : Nat → Nat} (hn : n ≤ 1000) (hc : A = none → c = 0) (hr : Rv w w.heap.size A (hvs hh n)) (h1 : CapP b (u 0 : Nat) (u 1 : Nat) (u 2 : Nat)) (hu : cN (u 0 : Nat) (u 1 : Nat) (u 2 : Nat) = u) (h2 : HintsP hh n b) :
    Calls Tryz.prog 52 #[.slice A n c, .int .i64 b, .agg #[.int .i64 (u 0 : Nat), .int .i64 (u 1 : Nat), .int .i64 (u 2 : Nat)]] w fun e w' => ∃ g A1 c1 B d, e = .returned (.tuple #[.pointer (some ⟨g, 0, none⟩), .int .i64 0]) ∧ Pl w' g b u hh n A1 c1 B d ∧ Below w.heap.size w w' ∧ w.heap.size ≤ g :=
  (new_any A n c hh b _ _ _ w hn hc hr).mono fun e w' h' => by
    rcases h' with ⟨h3, _⟩ | ⟨_, h3, _⟩ | ⟨_, _, h3, g, A1, c1, B, d, h4, h5, h6⟩
    · exact absurd h1 h3
    · exact absurd h2 h3
    · rw [hu] at h5
      exact ⟨g, A1, c1, B, d, h4, h5, h3, h6⟩
end




section
variable {w0 w w' : World} {q n c : Nat} {A : Option Addr} {b x y z : Int}






end
theorem own_row2 {w w' : World} {b s n : Nat} {e : TypeId} {v : Value} {us : List Value} (h : OwnV w' b e s v n us) (hb : w.heap.size ≤ b) : ∃ A c, v = .slice A n c ∧ Rv w' w'.heap.size A us ∧ (A = none → c = 0) ∧ ∀ ad, A = some ad → w.heap.size ≤ ad.block := by
  obtain ⟨A, c, e, hr, h1, h2⟩ := OwnV.read h
  refine ⟨A, c, e, hr, fun ea => ?_, fun ad ea => Nat.le_trans hb (World.ownsRow.lt h ad.block (by rw [e, ea]; rfl)).1⟩
  rcases h.2 with ⟨hv, h0⟩ | ⟨g, cap, cur, hv, _⟩
  · rw [e, ea] at hv
    injection hv
  · rw [e, ea] at hv
    cases hv
/-- they lie in new memory -/
theorem rparts_new {A : Option Addr} {n c : Nat} {hh : Nat → Hn} {b : Int} {u : Nat → Nat} {w : World} (hP : HintsP hh n b) (hr : Rv w w.heap.size A (hvs hh n)) (hx : ∀ t, t < 3 → u t ≤ 1000) :
    Calls Tryz.prog 55 #[.slice A n c, .agg #[.int .i64 (u 0 : Nat), .int .i64 (u 1 : Nat), .int .i64 (u 2 : Nat)]] w fun e w' => ∃ g, e = .returned (.slice (some ⟨g, 0, none⟩) (4 * n) (4 * n)) ∧ Arr w' g (n * 4) (ptv (KP hh n u)) ∧ Below w.heap.size w w' ∧ w.heap.size ≤ g :=
  (rparts_any A n c hh b u w hP hr hx).mono fun e w' ⟨g, d, h1, h2, h3, h4⟩ => by
    rw [KP_of h2] at h3
    exact ⟨g, h1, h3, h4⟩
end Go.Proofs.YtmfdlkkligjcbaaGreat
