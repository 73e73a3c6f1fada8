/-
  What is proved: how the densest one of those that are left is found, again and again, makes the order; how blocks are laid one by one makes the parts. No program's function is in it.
-/
import Derived.Test.YtcibhmbneedghaaPm14
namespace Go.Proofs.Ytcibhmbneedghaa
open Go.RowKit

/-- j was taken among the first k -/
def Dn (e : Nat → Nat) (k j : Nat) : Prop := ∃ t, t < k ∧ e t = j
/-- e takes k of n, each time the first one of those that are left -/
structure Sel (hh : Nat → Hn) (n k : Nat) (e : Nat → Nat) : Prop where
  srt : ∀ i j, i < j → j < k → LH hh (e i) (e j)
  lt : ∀ i, i < k → e i < n
  rest : ∀ i, i < k → ∀ j, j < n → ¬ Dn e k j → LH hh (e i) j
/-- b is the first one of those below i that are left -/
def Best (hh : Nat → Hn) (e : Nat → Nat) (k i : Nat) : Option Nat → Prop
  | none => ∀ j, j < i → Dn e k j
  | some b => b < i ∧ ¬ Dn e k b ∧ ∀ j, j < i → ¬ Dn e k j → j ≠ b → LH hh b j
section
variable {hh : Nat → Hn} {n k i b : Nat} {e : Nat → Nat}
theorem Best.skip {o : Option Nat} (h : Best hh e k i o) (hd : Dn e k i) : Best hh e k (i + 1) o := by
  cases o with
  | none =>
    intro j hj
    by_cases c : j = i
    · rw [c]; exact hd
    · exact h j (by omega)
  | some b =>
    refine ⟨by have := h.1; omega, h.2.1, fun j hj hn hb => ?_⟩
    by_cases c : j = i
    · subst c; exact absurd hd hn
    · exact h.2.2 j (by omega) hn hb
theorem Best.first (h : Best hh e k i none) (hd : ¬ Dn e k i) : Best hh e k (i + 1) (some i) :=
  ⟨by omega, hd, fun j hj hn hb => absurd (h j (by omega)) hn⟩
theorem Best.stay (h : Best hh e k i (some b)) (hl : ¬ LH hh i b) : Best hh e k (i + 1) (some b) := by
  refine ⟨by have := h.1; omega, h.2.1, fun j hj hn hb => ?_⟩
  by_cases c : j = i
  · subst c; exact (LH_total hh (show b ≠ j by have := h.1; omega)).resolve_right hl
  · exact h.2.2 j (by omega) hn hb
theorem Best.turn {c : Int} (hP : HintsP hh n c) (hi : i < n) (h : Best hh e k i (some b)) (hd : ¬ Dn e k i) (hl : LH hh i b) : Best hh e k (i + 1) (some i) := by
  refine ⟨by omega, hd, fun j hj hn hne => ?_⟩
  by_cases c : j = b
  · rw [c]; exact hl
  · have h1 := h.2.2 j (by omega) hn c
    refine (ord_of n (oft hh) (sz hh) fun x hx => ?_).trans i b j hi (by have := h.1; omega) (by omega) hl h1
    have := hP.2.1 x hx
    unfold okH at this
    show 0 < sz hh x
    unfold sz
    omega
theorem Sel.free (_ : Sel hh n k e) (hk : k < n) : ∃ j, j < n ∧ ¬ Dn e k j := by
  refine Classical.byContradiction fun hno => ?_
  have hall : ∀ j, j < n → ∃ t, t < k ∧ e t = j := fun j hj => Classical.byContradiction fun h => hno ⟨j, hj, h⟩
  have hg : ∃ g : Nat → Nat, ∀ j, j < n → g j < k ∧ e (g j) = j :=
    ⟨fun j => if hj : j < n then Classical.choose (hall j hj) else 0, fun j hj => by simp only [dif_pos hj]; exact Classical.choose_spec (hall j hj)⟩
  obtain ⟨g, hg⟩ := hg
  have := nodup_len k ((List.range n).map g) (by
    unfold List.Nodup
    rw [List.pairwise_map]
    refine List.Pairwise.imp_of_mem (R := fun i j => i < j) (fun {x y} hx hy hxy => ?_) List.pairwise_lt_range
    intro exy
    have h1 := hg x (List.mem_range.1 hx)
    have h2 := hg y (List.mem_range.1 hy)
    rw [exy, h2.2] at h1
    omega) (fun x hx => by
    obtain ⟨j, hj, rfl⟩ := List.mem_map.1 hx
    exact (hg j (List.mem_range.1 hj)).1)
  simp at this
  omega
theorem Sel.best (h : Sel hh n k e) (hk : k < n) (hb : Best hh e k n none) : False := by
  obtain ⟨j, hj, hn⟩ := h.free hk
  exact hn (hb j hj)
/-- one more -/
def put (e : Nat → Nat) (k b i : Nat) : Nat := if i = k then b else e i
theorem Dn_put (e : Nat → Nat) (k b j : Nat) : Dn (put e k b) (k + 1) j ↔ Dn e k j ∨ j = b := by
  constructor
  · rintro ⟨t, ht, h⟩
    unfold put at h
    by_cases c : t = k
    · rw [if_pos c] at h; exact .inr h.symm
    · rw [if_neg c] at h; exact .inl ⟨t, by omega, h⟩
  · rintro (⟨t, ht, h⟩ | h)
    · exact ⟨t, by omega, by unfold put; rw [if_neg (by omega)]; exact h⟩
    · exact ⟨k, by omega, by unfold put; rw [if_pos rfl]; exact h.symm⟩
theorem Sel.next (h : Sel hh n k e) (hb : Best hh e k n (some b)) : Sel hh n (k + 1) (put e k b) where
  srt := fun i j h1 h2 => by
    unfold put
    rw [if_neg (show ¬ i = k by omega)]
    by_cases c : j = k
    · rw [if_pos c]; exact h.rest i (by omega) b hb.1 hb.2.1
    · rw [if_neg c]; exact h.srt i j h1 (by omega)
  lt := fun i hi => by
    unfold put
    by_cases c : i = k
    · rw [if_pos c]; exact hb.1
    · rw [if_neg c]; exact h.lt i (by omega)
  rest := fun i hi j hj hn => by
    rw [Dn_put] at hn
    unfold put
    by_cases c : i = k
    · rw [if_pos c]; exact hb.2.2 j hj (fun g => hn (.inl g)) (fun g => hn (.inr g))
    · rw [if_neg c]; exact h.rest i (by omega) j hj fun g => hn (.inl g)
theorem Sel.ord (h : Sel hh n n e) : OrdH hh n e := ⟨h.srt, h.lt⟩
theorem Sel.zero (hh : Nat → Hn) (n : Nat) (e : Nat → Nat) : Sel hh n 0 e := ⟨fun _ j _ h2 => absurd h2 (Nat.not_lt_zero j), fun i hi => absurd hi (Nat.not_lt_zero i), fun i hi => absurd hi (Nat.not_lt_zero i)⟩
theorem put_lt (e : Nat → Nat) (k b : Nat) {i : Nat} (hi : i < k) : put e k b i = e i := if_neg (by omega)
theorem put_eq (e : Nat → Nat) (k b : Nat) : put e k b k = b := if_pos rfl
end
/-- one block more is laid: tier t is the first with room, 3 is none -/
theorem lay_one {r : Nat → Nat} {b t : Nat} (ht : t ≤ 3) (h0 : ∀ u, u < t → nr b r u = 0) (h1 : t < 3 → 0 < nr b r t) :
    (∀ u, u < 4 → pr (b + 1) r u = if u = t then pr b r u + 1 else pr b r u) ∧ (∀ u, u < 3 → nr (b + 1) r u = if u = t then nr b r u - 1 else nr b r u) ∧ (lf (b + 1) r 3 = if t = 3 then lf b r 3 + 1 else lf b r 3) := by
  have h3 : t = 0 ∨ t = 1 ∨ t = 2 ∨ t = 3 := by omega
  have hu : ∀ u, u < 4 → u = 0 ∨ u = 1 ∨ u = 2 ∨ u = 3 := fun u h => by omega
  rcases h3 with rfl | rfl | rfl | rfl
  · have a0 := h1 (by omega)
    simp only [nr, lf] at a0
    refine ⟨fun u h => ?_, fun u h => ?_, ?_⟩
    · rcases hu u h with rfl | rfl | rfl | rfl <;> simp [pr, lf] <;> omega
    · rcases hu u (by omega) with rfl | rfl | rfl | rfl <;> simp [nr, lf] <;> omega
    · simp [lf]; omega
  · have a0 := h0 0 (by omega)
    have a1 := h1 (by omega)
    simp only [nr, lf] at a0 a1
    refine ⟨fun u h => ?_, fun u h => ?_, ?_⟩
    · rcases hu u h with rfl | rfl | rfl | rfl <;> simp [pr, lf] <;> omega
    · rcases hu u (by omega) with rfl | rfl | rfl | rfl <;> simp [nr, lf] <;> omega
    · simp [lf]; omega
  · have a0 := h0 0 (by omega)
    have a1 := h0 1 (by omega)
    have a2 := h1 (by omega)
    simp only [nr, lf] at a0 a1 a2
    refine ⟨fun u h => ?_, fun u h => ?_, ?_⟩
    · rcases hu u h with rfl | rfl | rfl | rfl <;> simp [pr, lf] <;> omega
    · rcases hu u (by omega) with rfl | rfl | rfl | rfl <;> simp [nr, lf] <;> omega
    · simp [lf]; omega
  · have a0 := h0 0 (by omega)
    have a1 := h0 1 (by omega)
    have a2 := h0 2 (by omega)
    simp only [nr, lf] at a0 a1 a2
    refine ⟨fun u h => ?_, fun u h => ?_, ?_⟩
    · rcases hu u h with rfl | rfl | rfl | rfl <;> simp [pr, lf] <;> omega
    · rcases hu u (by omega) with rfl | rfl | rfl | rfl <;> simp [nr, lf] <;> omega
    · simp [lf]; omega
theorem nr_zero {r : Nat → Nat} {t : Nat} : nr 0 r t = r t := by
  have := lf_le 0 r t
  unfold nr
  omega
end Go.Proofs.Ytcibhmbneedghaa
