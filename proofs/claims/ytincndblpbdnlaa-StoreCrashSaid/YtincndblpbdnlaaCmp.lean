/-
  What is proved: cmp.Compare of whole numbers; cmp.Or of two. No condition.
-/
import Derived.Test.YtincndblpbdnlaaRows
import Derived.Test.YtincndblpbdnlaaVec
namespace Go.Proofs.Ytincndblpbdnlaa
open Go.RowKit

/-- how two numbers compare -/
def cmpI (a b : Int) : Int := if a < b then -1 else if b < a then 1 else 0
/-- the first of two that isn't 0 -/
def orI (a b : Int) : Int := if a ≠ 0 then a else b
set_option maxHeartbeats 400000 in
theorem isNaN_any (a : Int) (w : World) : Calls Try.prog 57 #[.int .i64 a] w fun e w' => e = .returned (.bool false) ∧ w' = w := by
  have h : (a == a) = true := by simp
  go_enter Try.func57, Try.ntmps57
  go_wp2
  go_ret
  exact ⟨by simp, rfl⟩
set_option maxHeartbeats 400000 in
theorem compare_any (a b : Int) (w : World) : Calls Try.prog 36 #[.int .i64 a, .int .i64 b] w fun e w' => e = .returned (.int .i64 (cmpI a b)) ∧ w' = w := by
  rcases Int.lt_trichotomy a b with h | h | h
  · have HR := hid (show cmpI a b = -1 from if_pos h)
    go_enter Try.func36, Try.ntmps36
    go_wp2_with (go_at_call 57; refine (isNaN_any _ _).mono ?_; rintro e w' ⟨rfl, rfl⟩)
    go_ret
    exact ⟨by rw [HR.out]; rfl, rfl⟩
  · subst h
    have HR := hid (show cmpI a a = 0 by unfold cmpI; rw [if_neg (by omega), if_neg (by omega)])
    go_enter Try.func36, Try.ntmps36
    go_wp2_with (go_at_call 57; refine (isNaN_any _ _).mono ?_; rintro e w' ⟨rfl, rfl⟩)
    go_ret
    exact ⟨by rw [HR.out]; rfl, rfl⟩
  · have HR := hid (show cmpI a b = 1 by unfold cmpI; rw [if_neg (by omega), if_pos h])
    have h2 : decide (a < b) = false := by simp; omega
    go_enter Try.func36, Try.ntmps36
    go_wp2_with (go_at_call 57; refine (isNaN_any _ _).mono ?_; rintro e w' ⟨rfl, rfl⟩)
    go_ret
    exact ⟨by rw [HR.out]; rfl, rfl⟩
set_option maxRecDepth 100000 in
set_option maxHeartbeats 800000 in
theorem or_any (a b : Int) (g c : Nat) (w : World) (h0 : w.cell? ⟨g, 0, none⟩ = some (.int .i64 a)) (h1 : w.cell? ⟨g, 1, none⟩ = some (.int .i64 b)) :
    Calls Try.prog 35 #[.slice (some ⟨g, 0, none⟩) 2 c] w fun e w' => e = .returned (.int .i64 (orI a b)) ∧ w' = w := by
  by_cases ha : a = 0
  · subst ha
    have HR := hid (show orI 0 b = b from rfl)
    have HD := hid (Decidable.em (b = 0))
    go_enter Try.func35, Try.ntmps35
    go_wp2
    go_loopw [8] (fun i wr => (i = .int .i64 0 ∨ i = .int .i64 1 ∨ i = .int .i64 2 ∧ Hid (b = 0)) ∧ wr = w) (fun i _ => 2 - (intOf i).toNat)
    case atStart => exact ⟨.inl rfl, rfl⟩
    case round =>
      obtain ⟨h, rfl⟩ := hrel
      rcases h with rfl | rfl | ⟨rfl, hb⟩
      · go_wp2
        go_roundw
        case rel => exact ⟨.inr (.inl (by go_num)), by simp⟩
        case measure => simp [intOf]
      · rcases HD.out with hb | hb
        · have HB := hid hb
          have q1 : (b == 0) = true := by simpa using hb
          have q2 : (b != 0) = false := by simpa using hb
          clear hb
          go_wp2
          go_roundw
          case rel => exact ⟨.inr (.inr ⟨by go_num, HB⟩), by simp⟩
          case measure => simp [intOf]
        · have q1 : (b == 0) = false := by simpa using hb
          have q2 : (b != 0) = true := by simpa using hb
          clear hb
          go_wp2
          go_ret
          exact ⟨by rw [HR.out]; rfl, rfl⟩
      · go_wp2
        go_ret
        exact ⟨by rw [HR.out, hb.out]; rfl, rfl⟩
  · have HR := hid (show orI a b = a from if_pos ha)
    have q1 : (a == 0) = false := by simpa using ha
    have q2 : (a != 0) = true := by simpa using ha
    clear ha
    go_enter Try.func35, Try.ntmps35
    go_wp2
    go_loopw [8] (fun i wr => i = .int .i64 0 ∧ wr = w) (fun i _ => 2 - (intOf i).toNat)
    case atStart => exact ⟨rfl, rfl⟩
    case round =>
      obtain ⟨rfl, rfl⟩ := hrel
      go_wp2
      go_ret
      exact ⟨by rw [HR.out]; rfl, rfl⟩
end Go.Proofs.Ytincndblpbdnlaa
