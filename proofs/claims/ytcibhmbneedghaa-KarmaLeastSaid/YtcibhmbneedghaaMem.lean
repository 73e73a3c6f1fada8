/-
  What is proved: small facts on memory that the walks below lean on: a list of bytes that is read at an address, kept over draws, new blocks and whatever leaves old blocks alone. No condition on a program.
-/
import Derived.WalkKit
import Derived.Deep.AppendLies
import Derived.Deep.Draws
import Derived.Maps.AppendAt
namespace Go.Proofs.Ytcibhmbneedghaa
open Go.RowKit

/-- put out of the walk's sight; '.out' brings it back -/
theorem hid {p : Prop} (h : p) : Hid p := h

/-- the bytes l are read from address A on, below block B: whatever place there is below l's length has its byte -/
def Rd (w : World) (B : Nat) (A : Option Addr) (l : List Int) : Prop :=
  ∀ j x, l[j]? = some x → ∃ ad, A = some ad ∧ ad.block < B ∧ w.cell? (ad.add j) = some (.int .u8 x)

theorem addBlock (a : Addr) (n : Nat) : (a.add n).block = a.block := by unfold Addr.add; split <;> rfl
theorem addAdd (a : Addr) (i j : Nat) : (a.add i).add j = a.add (i + j) := by
  unfold Addr.add
  by_cases hi : i = 0 <;> by_cases hj : j = 0 <;> simp [hi, hj, Nat.add_assoc]

section
variable {w w' : World} {B C : Nat} {A : Option Addr} {l : List Int}
theorem Rd.nil (w : World) (B : Nat) (A : Option Addr) : Rd w B A [] := fun j x h => by simp at h
theorem Rd.get (h : Rd w B A l) {k : Nat} (hk : k < l.length) : ∃ ad, A = some ad ∧ ad.block < B ∧ w.cell? (ad.add k) = some (.int .u8 (l[k]'hk)) :=
  h k _ (List.getElem?_eq_getElem hk)
theorem Rd.keep (h : Rd w B A l) (hk : ∀ p : Addr, p.block < B → w'.cell? p = w.cell? p) : Rd w' B A l := fun j x hx => by
  obtain ⟨ad, e, hb, hc⟩ := h j x hx
  exact ⟨ad, e, hb, (hk _ (by rw [addBlock]; exact hb)).trans hc⟩
theorem Rd.more (h : Rd w B A l) (hB : B ≤ C) : Rd w C A l := fun j x hx => by
  obtain ⟨ad, e, hb, hc⟩ := h j x hx
  exact ⟨ad, e, by omega, hc⟩
theorem Rd.below (h : Rd w B A l) (hb : Below C w w') (hB : B ≤ C) : Rd w' B A l := h.keep fun _ hp => hb.cell (Nat.lt_of_lt_of_le hp hB)
theorem Rd.drewN (h : Rd w B A l) (k : Nat) : Rd (w.drewN k) B A l := h
theorem Rd.alloc (h : Rd w B A l) (hB : B ≤ w.heap.size) (o : Obj) : Rd (w.alloc o) B A l := h.keep fun p hp => World.cell?_alloc_lt w o p (by omega)
theorem Rd.cut (h : Rd w B A l) (i n : Nat) (A' : Option Addr) (hA : n ≠ 0 → A' = A.map (·.add i)) : Rd w B A' ((l.drop i).take n) := fun j x hx => by
  have hj : j < n := by
    rcases Nat.lt_or_ge j n with hj | hj
    · exact hj
    · rw [List.getElem?_eq_none (by rw [List.length_take]; omega)] at hx
      cases hx
  rw [List.getElem?_take, if_pos hj, List.getElem?_drop] at hx
  obtain ⟨ad, e, hb, hc⟩ := h _ x hx
  subst e
  refine ⟨ad.add i, by rw [hA (by omega)]; rfl, by rw [addBlock]; exact hb, ?_⟩
  rw [addAdd]
  exact hc
end

theorem Rd.front {w : World} {B : Nat} {A : Option Addr} {l t r : List Int} (h : Rd w B A l) (e : l = t ++ r) : Rd w B A t := fun j x hx => by
  refine h j x ?_
  rw [e, List.getElem?_append_left]
  · exact hx
  · rcases Nat.lt_or_ge j t.length with hj | hj
    · exact hj
    · rw [List.getElem?_eq_none hj] at hx; cases hx
/-- a row of bytes of the call's own, as values -/
def bytes (l : List Int) : List Value := l.map (Value.int .u8)
theorem bytes_length (l : List Int) : (bytes l).length = l.length := List.length_map _
theorem bytes_one (l : List Int) : ∀ u ∈ bytes l, u.oneCell' = true := ints_oneCell .u8 l

/-- the slice of n bytes at A with room c is a row of the call's own, from block b on, that holds l -/
def Own (w : World) (b : Nat) (v : Value) (l : List Int) : Prop := w.ownsRow b 5 1 v l.length (bytes l)

section
variable {w w' : World} {b : Nat} {v : Value} {l : List Int}
theorem Own.shape (h : Own w b v l) : ∃ A c, v = .slice A l.length c ∧ Rd w w.heap.size A l ∧ l.length ≤ c ∧ c ≤ maxLen := by
  rcases h.2 with ⟨hv, h0⟩ | ⟨g, cap, cur, hv, hb, hh, hnc, hm, hs, ht⟩
  · have hl : l = [] := List.eq_nil_of_length_eq_zero h0
    subst hl
    exact ⟨none, 0, hv, Rd.nil _ _ _, Nat.le_refl _, by unfold maxLen; omega⟩
  · subst hv
    refine ⟨_, cap, rfl, ?_, hnc, hm⟩
    intro j x hx
    have hg : g < w.heap.size := (World.ownsRow.lt h g rfl).2
    exact ⟨_, rfl, hg, World.ownsRow.cells h (g := g) rfl j _ (by simp [bytes, hx])⟩
theorem Own.below (h : Own w b v l) (hb : Below w.heap.size w w') : Own w' b v l :=
  World.ownsRow.kept (row := none) h ⟨hb.os, hb.tape, hb.output, hb.size, fun k hk _ => hb.block k hk⟩ (by
    cases v.ownBlock with
    | none => exact .inl rfl
    | some k => exact .inr (by simp))
theorem Own.drewN (h : Own w b v l) (k : Nat) : Own (w.drewN k) b v l := h
theorem Own.alloc (h : Own w b v l) (o : Obj) : Own (w.alloc o) b v l := World.ownsRow.alloc h o
end
/-- read now: below all that is there -/
def Rn (w : World) (A : Option Addr) (l : List Int) : Prop := Rd w w.heap.size A l
section
variable {w w' : World} {A : Option Addr} {l : List Int}
theorem Rn.front {t r : List Int} (h : Rn w A l) (e : l = t ++ r) : Rn w A t := Rd.front h e
theorem Rn.now (h : Rn w A l) (hb : Below w.heap.size w w') : Rn w' A l := (Rd.below h hb (Nat.le_refl _)).more hb.size
theorem Rn.drewN (h : Rn w A l) (k : Nat) : Rn (w.drewN k) A l := h
theorem Rn.alloc (h : Rn w A l) (o : Obj) : Rn (w.alloc o) A l := h.now ((Below.refl w.heap.size w).alloc (Nat.le_refl _) o)
theorem Own.read {b : Nat} {v : Value} (h : Own w b v l) : ∃ A c, v = .slice A l.length c ∧ Rn w A l := by
  obtain ⟨A, c, e, hr, _⟩ := h.shape
  exact ⟨A, c, e, hr⟩
end
theorem below_drewN {B : Nat} {a w : World} (h : Below B a w) (n : Nat) : Below B a (w.drewN n) := ⟨h.os, h.tape, h.output, h.size, h.block⟩

/-- what the shell of a proof tells of a slice of bytes that came in, as a list that is read -/
theorem rd_of_row {w : World} {a : Option Addr} {len cap : Nat} {zs : List Int}
    (h : (a = none ∧ len = 0 ∧ cap = 0 ∧ zs = []) ∨
      ∃ x, a = some x ∧ len ≤ cap ∧ cap ≤ maxLen ∧ zs.length = cap ∧ (∀ i, i < zs.length → w.cell? (x.add i) = some (.int .u8 (zs.getD i 0))) ∧ ∀ n ∈ zs, (Lit.int .u8 n).wf = true) :
    ∃ l : List Int, l.length = len ∧ len ≤ cap ∧ cap ≤ maxLen ∧ Rd w w.heap.size a l ∧ ∀ x ∈ l, 0 ≤ x ∧ x ≤ 255 := by
  rcases h with ⟨rfl, rfl, rfl, rfl⟩ | ⟨x, rfl, h1, h2, h3, h4, h5⟩
  · exact ⟨[], rfl, Nat.le_refl _, by unfold maxLen; omega, Rd.nil _ _ _, fun x hx => by simp at hx⟩
  · refine ⟨zs.take len, by rw [List.length_take]; omega, h1, h2, ?_, ?_⟩
    · intro j y hy
      rw [List.getElem?_take] at hy
      by_cases hj : j < len
      · rw [if_pos hj] at hy
        have hlt : j < zs.length := by omega
        have hc := h4 j hlt
        have hb := World.block_lt_of_cell? w _ hc
        rw [addBlock] at hb
        refine ⟨x, rfl, hb, ?_⟩
        rw [hc]
        simp [List.getD, hy]
      · rw [if_neg hj] at hy
        cases hy
    · intro y hy
      have h := h5 y (List.mem_of_mem_take hy)
      simp only [Lit.wf, Bool.and_eq_true, decide_eq_true_eq] at h
      exact h
end Go.Proofs.Ytcibhmbneedghaa
