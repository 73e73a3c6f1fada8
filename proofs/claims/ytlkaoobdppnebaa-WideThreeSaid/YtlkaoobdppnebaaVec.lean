/-
  What is proved: small facts on rows of cells of any kind: cells that are read at an address, kept over draws, new blocks and whatever leaves old blocks alone; append onto a row of the call's own; a struct in a new block. No condition on a program.
-/
import Derived.WalkKit
import Derived.Deep.AppendLies
import Derived.Deep.Draws
import Derived.Maps.AppendAt
namespace Go.Proofs.Ytlkaoobdppnebaa
open Go.RowKit

/-- a boxed struct of two cells: block k holds a, b -/
def Box (w : World) (k : Nat) (a b : Value) : Prop := k < w.heap.size ∧ w.cell? ⟨k, 0, none⟩ = some a ∧ w.cell? ⟨k, 1, none⟩ = some b
section
variable {w w' : World} {k : Nat} {a b : Value}
theorem Box.next (h : Box w k a b) (hb : Below w.heap.size w w') : Box w' k a b :=
  ⟨Nat.lt_of_lt_of_le h.1 hb.size, (hb.cell (p := ⟨k, 0, none⟩) h.1).trans h.2.1, (hb.cell (p := ⟨k, 1, none⟩) h.1).trans h.2.2⟩
theorem below_alloc (w : World) (o : Obj) : Below w.heap.size w (w.alloc o) := (Below.refl w.heap.size w).alloc (Nat.le_refl _) o
theorem Box.alloc (h : Box w k a b) (o : Obj) : Box (w.alloc o) k a b := h.next (below_alloc w o)
theorem box_new (w : World) (t : TypeId) (a b : Value) : Box (w.alloc (.cells #[a, b] t)) w.heap.size a b :=
  ⟨by rw [World.size_alloc]; omega, World.cell?_alloc_new _ _ _ 0, World.cell?_alloc_new _ _ _ 1⟩
end
/-- how the world came on: each step leaves alone what was there -/
theorem on {B : Nat} {a w w' : World} (h : Below B a w) (k : Below w.heap.size w w') (hB : B ≤ a.heap.size := by exact Nat.le_refl _) : Below B a w' := h.trans (k.mono (Nat.le_trans hB h.size))

/-- the cells at A hold the values us -/
def Rv (w : World) (B : Nat) (A : Option Addr) (us : List Value) : Prop :=
  ∀ j u, us[j]? = some u → ∃ ad, A = some ad ∧ ad.block < B ∧ w.cell? (ad.add j) = some u
theorem addBlk (a : Addr) (n : Nat) : (a.add n).block = a.block := by unfold Addr.add; split <;> rfl
section
variable {w w' : World} {B C : Nat} {A : Option Addr} {us : List Value}
theorem Rv.nil (w : World) (B : Nat) (A : Option Addr) : Rv w B A [] := fun j x h => by simp at h
theorem Rv.get (h : Rv w B A us) {k : Nat} (hk : k < us.length) : ∃ ad, A = some ad ∧ ad.block < B ∧ w.cell? (ad.add k) = some (us[k]'hk) :=
  h k _ (List.getElem?_eq_getElem hk)
theorem Rv.keep (h : Rv w B A us) (hk : ∀ p : Addr, p.block < B → w'.cell? p = w.cell? p) : Rv w' B A us := fun j x hx => by
  obtain ⟨ad, e, hb, hc⟩ := h j x hx
  exact ⟨ad, e, hb, by rw [hk _ (by rw [addBlk]; exact hb)]; exact hc⟩
theorem Rv.more (h : Rv w B A us) (hB : B ≤ C) : Rv w C A us := fun j x hx => by
  obtain ⟨ad, e, hb, hc⟩ := h j x hx
  exact ⟨ad, e, Nat.lt_of_lt_of_le hb hB, hc⟩
theorem Rv.below (h : Rv w B A us) (hb : Below C w w') (hB : B ≤ C) : Rv w' B A us := h.keep fun _ hp => hb.cell (Nat.lt_of_lt_of_le hp hB)
theorem Rv.now (h : Rv w w.heap.size A us) (hb : Below w.heap.size w w') : Rv w' w'.heap.size A us := (h.below hb (Nat.le_refl _)).more hb.size
end

/-- a row of the call's own: n elements of s cells each, of type e -/
def OwnV (w : World) (b : Nat) (e : TypeId) (s : Nat) (v : Value) (n : Nat) (us : List Value) : Prop := w.ownsRow b e s v n us
section
variable {w w' : World} {b s n : Nat} {e : TypeId} {v : Value} {us : List Value}
theorem OwnV.read (h : OwnV w b e s v n us) : ∃ A c, v = .slice A n c ∧ Rv w w.heap.size A us ∧ n ≤ c ∧ c ≤ maxLen := by
  rcases h.2 with ⟨hv, h0⟩ | ⟨g, cap, cur, hv, hb, hh, hnc, hm, hs, ht⟩
  · have hl : us = [] := by
      have := h.1
      subst h0
      exact List.eq_nil_of_length_eq_zero (by simpa using this)
    subst hl h0
    exact ⟨none, 0, hv, Rv.nil _ _ _, Nat.le_refl _, by unfold maxLen; omega⟩
  · subst hv
    refine ⟨_, cap, rfl, ?_, hnc, hm⟩
    intro j x hx
    have hg : g < w.heap.size := (World.ownsRow.lt h g rfl).2
    exact ⟨_, rfl, hg, World.ownsRow.cells h (g := g) rfl j _ hx⟩
theorem OwnV.below (h : OwnV w b e s v n us) (hb : Below w.heap.size w w') : OwnV w' b e s v n us :=
  World.ownsRow.kept (row := none) h ⟨hb.os, hb.tape, hb.output, hb.size, fun k hk _ => hb.block k hk⟩ (by
    cases v.ownBlock with
    | none => exact .inl rfl
    | some k => exact .inr (by simp))
end
end Go.Proofs.Ytlkaoobdppnebaa
