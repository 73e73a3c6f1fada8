/-
  What is proved: rows of numbers that are read, with where their block may lie; a list that is told is such a row. No program's function is in it.
-/
import Derived.Test.YtdpniggabidmbaaAl10
import Derived.Test.YtdpniggabidmbaaChg10
namespace Go.Proofs.Ytdpniggabidmbaa
open Go.RowKit

/-- a row that is read, old or new -/
structure Rw (w : World) (A : Option Addr) (l : List Int) : Prop where
  rd : Rv w w.heap.size A (ints l)
  lt : ∀ ad, A = some ad → ad.block < w.heap.size
theorem Rw.below {w w' : World} {A : Option Addr} {l : List Int} (h : Rw w A l) (hb : Below w.heap.size w w') : Rw w' A l := ⟨h.rd.now hb, fun ad e => Nat.lt_of_lt_of_le (h.lt ad e) hb.size⟩
theorem Rw.chg {w w' : World} {A : Option Addr} {l : List Int} {F G : Nat → Prop} (h : Rw w A l) (hc : Chg w w' F G) (hf : ∀ ad, A = some ad → ¬ F ad.block) : Rw w' A l := ⟨hc.rv h.rd hf, fun ad e => Nat.lt_of_lt_of_le (h.lt ad e) hc.size⟩
theorem Rw.draws {w : World} {A : Option Addr} {l : List Int} (h : Rw w A l) (n : Nat) : Rw (w.drewN n) A l := h.below (below_draws (Below.refl _ _) n)
theorem rw_nil (w : World) : Rw w none [] := ⟨Rv.nil _ _ _, fun _ e => by cases e⟩
/-- a list that is told is such a row, of new memory -/
theorem rw_told {w w' : World} {A : Option Addr} {c : Nat} {l : List Int} (ho : OwnW w' 3 (.slice A l.length c) (ints l)) (hg : GrW w w' nl (.slice A l.length c)) :
    Rw w' A l ∧ (∀ ad, A = some ad → w.heap.size ≤ ad.block) ∧ l.length ≤ c ∧ c ≤ maxLen := by
  have hb : ∀ ad, A = some ad → (Value.slice A l.length c).ownBlock = some ad.block := by
    intro ad e
    subst e
    rfl
  obtain ⟨A', c', e', hr, h1, h2⟩ := ho.read
  simp only [Value.slice.injEq] at e'
  obtain ⟨rfl, -, rfl⟩ := e'
  rw [ints_length] at h1
  refine ⟨⟨hr, fun ad e => ho.lt (hb ad e)⟩, fun ad e => ?_, h1, h2⟩
  rcases hg.at_ with h | h
  · rw [hb ad e] at h; cases h
  · exact (h _ (hb ad e)).1
theorem row_at {w : World} {A : Option Addr} {l : List Int} (h : Rw w A l) {j : Nat} (hj : j < l.length) : ∃ ad, A = some ad ∧ w.cell? (ad.add j) = some (.int .i64 l[j]) := by
  obtain ⟨ad, e, _, h2⟩ := h.rd j (.int .i64 l[j]) (by unfold ints; rw [List.getElem?_map, List.getElem?_eq_getElem hj]; rfl)
  exact ⟨ad, e, h2⟩
end Go.Proofs.Ytdpniggabidmbaa
