/-
  What is proved: the laws' long tells whether there are more than 100 acts, or a text of more than 200 bytes among them; it changes nothing. Condition: the acts are read as such.
-/
import Derived.Test.YtfhejadlkooklaaWake5
import Derived.Test.YtfhejadlkooklaaAct5
namespace Go.Proofs.Ytfhejadlkooklaa
open Go.RowKit

/-- what 'long' tells -/
def LongP (n : Nat) (f : Nat → Ac) (w : World) (e : Ending) (w' : World) : Prop :=
  ∃ b, e = .returned (.bool b) ∧ w = w' ∧ (b = false → n ≤ 100 ∧ ∀ i, i < n → (f i).l.length ≤ 200)
set_option maxHeartbeats 400000 in
theorem long_any (A : Option Addr) (n c : Nat) (f : Nat → Ac) (w : World) (hn : n ≤ maxLen) (h : Acts w A n f) :
    Calls Try.prog 8 #[.slice A n c] w (LongP n f w) := by
  unfold maxLen at hn
  have HA := hid h
  clear h
  by_cases h100 : 100 < n
  · go_enter Try.func8, Try.ntmps8
    go_wp2
    go_ret
    exact ⟨true, rfl, rfl, fun e => by cases e⟩
  · have hle : n ≤ 100 := by omega
    clear h100
    go_enter Try.func8, Try.ntmps8
    go_wp2
    go_loop [9] (fun t => ∃ p : Nat, p ≤ n ∧ t = .int .i64 p ∧ ∀ i, i < p → (f i).l.length ≤ 200) (fun t => n - (intOf t).toNat)
    case atStart => exact ⟨0, Nat.zero_le _, rfl, fun i hi => absurd hi (Nat.not_lt_zero i)⟩
    case round =>
      obtain ⟨p, hp, rfl, hall⟩ := hrel
      have HL := hid hall
      clear hall
      by_cases hlt : p < n
      · obtain ⟨ad, rfl, hat⟩ := HA.out p hlt
        have cb := hat.b
        have hm := hat.le
        unfold maxLen at hm
        clear hat
        generalize hx : (f p).l.length = x at *
        have HX := hid hx
        clear hx
        by_cases h2 : 200 < x
        · go_wp2
          go_ret
          exact ⟨true, rfl, rfl, fun e => by cases e⟩
        · go_wp2
          go_round
          case rel =>
            refine ⟨p + 1, by omega, by go_num, fun i hi => ?_⟩
            by_cases e : i = p
            · subst e; rw [HX.out]; omega
            · exact HL.out i (by omega)
          case measure => simp [intOf]; omega
      · go_wp2
        go_ret
        exact ⟨false, rfl, rfl, fun _ => ⟨hle, fun i hi => HL.out i (by omega)⟩⟩
end Go.Proofs.Ytfhejadlkooklaa
