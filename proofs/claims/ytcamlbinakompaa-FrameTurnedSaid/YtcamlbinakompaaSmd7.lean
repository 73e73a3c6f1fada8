/-
  What is proved: frame's summed answers the bytes ahead of the sum, or that the last byte isn't it; it writes nothing. Conditions: there is a byte; they are no more than a thousand.
-/
import Derived.Test.YtcamlbinakompaaSum7
import Derived.Deep.QuietTactic
import Derived.BigQuiet
namespace Go.Proofs.Ytcamlbinakompaa
open Go.RowKit

theorem quietL7 {P : Program} {f : FuncId} {args : Array Value} {w : World} {n : Nat} {v : Value} (h : Calls P f args (w.drewN n) fun e w' => e = .returned v ∧ w.drewN n = w') :
    Calls P f args (w.drewN n) fun e w'' => e = .returned v ∧ ∃ m, w'' = w.drewN m := h.mono fun _ _ ⟨he, hm⟩ => ⟨he, n, hm.symm⟩

set_option maxRecDepth 100000 in
set_option maxHeartbeats 1000000 in
theorem fsummed_any (A : Option Addr) (n c : Nat) (l : List Int) (x : Int) (w : World) (C : Nat) (hn : l.length = n) (hlen : n < 1000) (hc : n < c) (_ : c ≤ maxLen) (hb : Hid (∀ y ∈ l, 0 ≤ y ∧ y ≤ 255)) (ra : Rd w C A (l ++ [x])) :
    Calls Try.prog 21 #[.slice A (n + 1 : Nat) c] w fun e w' => e = .returned (if sm l = x then .tuple #[.slice A n c, .int .i64 0] else .tuple #[.slice none 0 0, .int .i64 2]) ∧ ∃ d, w' = w.drewN d := by
  have h1 : (l ++ [x])[n]? = some x := by rw [← hn]; simp
  obtain ⟨a, rfl, _, hca⟩ := ra n x h1
  have HR := hid (Rd.front ra rfl)
  have HN := hid hn
  have hs : 0 ≤ sm l ∧ sm l < 251 := sm_byte l
  obtain ⟨s, hse⟩ : ∃ s, sm l = s := ⟨_, rfl⟩
  have S := fun W (h : Rd W C (some a) l) => sum_any (some a) n c l W C hn (by omega) hb h
  rw [hse] at S hs ⊢
  have HS := hid S
  clear hse S ra hn h1
  have hw : IntKind.i64.wrap (((n + 1 : Nat) : Int) - 1) = n := by rw [show ((n + 1 : Nat) : Int) - 1 = n by omega]; exact IntWalk.i64_in _ (by omega)
  have b0 : 0 ≤ (n : Int) := by omega
  have b1 : (n : Int) < (n : Int) + 1 := by omega
  have b2 : n < n + 1 := by omega
  have b3 : (n : Int) ≤ (c : Int) := by omega
  have b4 : 0 ≤ (n : Int) ∧ (n : Int) < ((n + 1 : Nat) : Int) := by omega
  by_cases hx : s = x
  · subst hx
    rw [if_pos rfl]
    go_enter Try.func21, Try.ntmps21
    go_wp2
    go_quiet ((go_at_call 17; exact quietL7 (HS.out _ (HR.out.drewN _))))
    go_wp2
    go_ret2
    exact ⟨rfl, _, rfl⟩
  · rw [if_neg hx]
    have hne : (x == s) = false := by simp; exact fun e => hx e.symm
    have HX := hid hx
    clear hx
    go_enter Try.func21, Try.ntmps21
    go_wp2
    go_quiet ((go_at_call 17; exact quietL7 (HS.out _ (HR.out.drewN _))))
    go_wp2
    go_ret2
    exact ⟨rfl, _, rfl⟩
end Go.Proofs.Ytcamlbinakompaa
