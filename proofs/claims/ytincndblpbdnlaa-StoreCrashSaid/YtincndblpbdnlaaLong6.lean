/-
  What is proved: the laws' long tells whether there are more than 60 acts, or bytes of more than 100 among them; their right tells whether a shape may be. Condition: the acts are read as such.
-/
import Derived.Test.YtincndblpbdnlaaWake6
import Derived.Test.YtincndblpbdnlaaAct6
namespace Go.Proofs.Ytincndblpbdnlaa
open Go.RowKit

/-- what 'long' tells -/
def LongP (n : Nat) (f : Nat → Ac) (w : World) (e : Ending) (w' : World) : Prop :=
  ∃ b, e = .returned (.bool b) ∧ w = w' ∧ (b = false → n ≤ 60 ∧ ∀ i, i < n → (f i).x.l.length ≤ 100)
theorem At.nth {w : World} {p : Addr} {cs : List Value} (h : At w p cs) {j : Nat} {v : Value} (e : cs[j]? = some v) (hj : 0 < j) : w.cell? ⟨p.block, p.off + j, none⟩ = some v := by
  have := h j v e
  rw [Addr.add, if_neg (by omega)] at this
  exact this
set_option maxHeartbeats 400000 in
theorem long_any (A : Option Addr) (n c : Nat) (f : Nat → Ac) (w : World) (hn : n ≤ maxLen) (h : Acts w A n f) :
    Calls Try.prog 10 #[.slice A n c] w (LongP n f w) := by
  unfold maxLen at hn
  have HA := hid h
  clear h
  by_cases h60 : 60 < n
  · go_enter Try.func10, Try.ntmps10
    go_wp2
    go_ret
    exact ⟨true, rfl, rfl, fun e => by cases e⟩
  · have hle : n ≤ 60 := by omega
    clear h60
    go_enter Try.func10, Try.ntmps10
    go_wp2
    go_loop [9] (fun t => ∃ p : Nat, p ≤ n ∧ t = .int .i64 p ∧ ∀ i, i < p → (f i).x.l.length ≤ 100) (fun t => n - (intOf t).toNat)
    case atStart => exact ⟨0, Nat.zero_le _, rfl, fun i hi => absurd hi (Nat.not_lt_zero i)⟩
    case round =>
      obtain ⟨p, hp, rfl, hall⟩ := hrel
      have HL := hid hall
      clear hall
      by_cases hlt : p < n
      · obtain ⟨ad, rfl, hat⟩ := HA.out p hlt
        have cb := hat.c.nth (j := 7) rfl (by omega)
        have hm := hat.g.le
        unfold maxLen at hm
        clear hat
        generalize hx : (f p).x.l.length = x at *
        have HX := hid hx
        clear hx
        by_cases h2 : 100 < x
        · go_wp2
          go_ret
          exact ⟨true, rfl, rfl, fun e => by cases e⟩
        · go_wp2
          go_round
          case rel =>
            refine ⟨p + 1, by omega, by go_num, fun i hi => ?_⟩
            by_cases e : i = p
            · subst e; rw [HX.out]; omega
            · exact HL.out i (by omega)
          case measure => simp [intOf]; omega
      · go_wp2
        go_ret
        exact ⟨false, rfl, rfl, fun _ => ⟨hle, fun i hi => HL.out i (by omega)⟩⟩

set_option maxRecDepth 100000 in
set_option maxHeartbeats 400000 in
theorem refright_any (B Z C S : Int) (w : World) : Calls Try.prog 28 #[.int .i64 B, .int .i64 Z, .int .i64 C, .int .i64 S] w fun e w' => e = .returned (.bool (dec (RightI B Z C S))) ∧ w = w' := by
  by_cases h : RightI B Z C S
  · rw [dec_true h]
    obtain ⟨⟨b1, b2⟩, ⟨z1, z2⟩, ⟨c1, c2⟩, s1, s2⟩ := h
    go_enter Try.func28, Try.ntmps28
    go_wp2
    go_ret
    exact ⟨rfl, rfl⟩
  · rw [dec_false h]
    have H := hid h
    clear h
    go_enter Try.func28, Try.ntmps28
    go_wp2
    all_goals
      go_ret
      refine ⟨?_, rfl⟩
      first
      | rfl
      | (simp; have := H.out; unfold RightI at this; omega)
theorem lawright_any (B Z C S : Int) (w : World) : Calls Try.prog 11 #[.agg #[.int .i64 B, .int .i64 Z, .int .i64 C, .int .i64 S]] w fun e w' => e = .returned (.bool (dec (RightI B Z C S))) ∧ Below w.heap.size w w' := by
  have HR := hid (fun w1 => refright_any B Z C S w1)
  generalize dec (RightI B Z C S) = d at *
  go_enter Try.func11, Try.ntmps11
  go_wp2_with (go_at_call 28; refine (HR.out _).mono ?_; rintro e w' ⟨rfl, rfl⟩)
  go_ret
  exact ⟨rfl, below_alloc _ _⟩
end Go.Proofs.Ytincndblpbdnlaa
