/-
  What is proved: a number's bytes are bytes; a slice that reads as bytes. No condition on a program.
-/
import Derived.Test.YtcamlbinakompaaBase
import Derived.Test.YtcamlbinakompaaBsD
import Derived.Test.YtcamlbinakompaaNum
namespace Go.Proofs.Ytcamlbinakompaa
open Go.RowKit

theorem enc_byte (n : Nat) : ∀ x ∈ enc n, 0 ≤ x ∧ x ≤ 255 := by
  induction n using Nat.strongRecOn with
  | _ n ih =>
    intro x hx
    by_cases h : n < 128
    · rw [enc_small n h] at hx; simp at hx; omega
    · rw [enc_big n h] at hx
      rcases List.mem_cons.1 hx with e | e
      · omega
      · exact ih (n / 128) (by omega) x e
theorem Own.bs {w : World} {b : Nat} {v : Value} {l : List Int} (h : Own w b v l) : Bs w v l := h.shape
theorem Bs.next {w w' : World} {v : Value} {l : List Int} (h : Bs w v l) (hb : Below w.heap.size w w') : Bs w' v l := by
  obtain ⟨A, c, e, r, h1⟩ := h
  exact ⟨A, c, e, r.now hb, h1⟩

end Go.Proofs.Ytcamlbinakompaa
