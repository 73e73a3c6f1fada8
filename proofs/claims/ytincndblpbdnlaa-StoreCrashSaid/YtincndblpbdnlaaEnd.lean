/-
  What is proved: store's reader tells whether it has ended. Condition: it lies in memory as a reader of no more than 64 bytes.
-/
import Derived.Test.YtincndblpbdnlaaRdr
import Derived.Deep.QuietTactic
import Derived.BigQuiet
namespace Go.Proofs.Ytincndblpbdnlaa
open Go.RowKit

section
variable {w : World} {kr : Nat} {l : List Int}
set_option maxRecDepth 100000 in
set_option maxHeartbeats 400000 in
theorem ended_any {o : Option Nat} (h : Rq w kr l o) (hl : Ok1 l) : Calls Try.prog 56 #[.pointer (some ⟨kr, 0, none⟩)] w fun e w' => e = .returned (.bool (endd l o)) ∧ ∃ d, w' = w.drewN d := by
  obtain ⟨A, c, p, x, hb, r, hc, h1, h2⟩ := h
  have c0 : w.cell? ⟨kr, 0, none⟩ = _ := hb.cell 0
  have c1 : w.cell? ⟨kr, 1, none⟩ = _ := hb.cell 1
  have c2 : w.cell? ⟨kr, 2, none⟩ = _ := hb.cell 2
  simp at c0 c1 c2
  have hll := hl.1
  have key : (x = 0 ∧ p = l.length) ↔ endd l o = true := by
    unfold endd
    cases o with
    | none => simp; exact fun h => absurd h (h2 rfl)
    | some q =>
      obtain ⟨e1, e2, _⟩ := h1 q rfl
      simp [e1, e2]
      omega
  have KEY := hid key
  clear hb r h1 h2 key hl
  generalize l.length = L at *
  by_cases hx : x = 0
  · subst hx
    by_cases hp : p = L
    · have e : endd l o = true := KEY.out.1 ⟨rfl, hp⟩
      rw [e]
      subst hp
      go_enter Try.func56, Try.ntmps56
      go_wp2
      go_quiet (fail)
      go_wp2
      go_ret
      exact ⟨rfl, _, rfl⟩
    · have e : endd l o = false := by
        cases hE : endd l o with
        | false => rfl
        | true => exact absurd (KEY.out.2 hE).2 hp
      rw [e]
      have hp' : (p == (L : Int)) = false := by simpa using hp
      clear e
      go_enter Try.func56, Try.ntmps56
      go_wp2
      go_quiet (fail)
      go_wp2
      go_ret
      exact ⟨rfl, _, rfl⟩
  · have e : endd l o = false := by
      cases hE : endd l o with
      | false => rfl
      | true => exact absurd (KEY.out.2 hE).1 hx
    rw [e]
    have hx' : (x == 0) = false := by simpa using hx
    clear e hx
    go_enter Try.func56, Try.ntmps56
    go_wp2
    go_quiet (fail)
    go_wp2
    go_ret
    exact ⟨rfl, _, rfl⟩
end
end Go.Proofs.Ytincndblpbdnlaa
