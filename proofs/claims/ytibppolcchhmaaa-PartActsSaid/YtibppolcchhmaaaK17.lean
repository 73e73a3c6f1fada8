/-
  What is proved: a whole aggregate stored into a block that is known whole, as a step of the walk; results of which the first lies in such a block. No condition on a program.
-/
import Derived.Test.YtibppolcchhmaaaK03
import Derived.Test.YtibppolcchhmaaaK16
import Derived.Laws.CopyOwn
import Derived.Test.YtibppolcchhmaaaK05
import Derived.Test.YtibppolcchhmaaaRows
import Derived.BigRegion
import Derived.BigFrame
import Derived.Deep.LoopGhost
import Derived.Deep.DeepCutAuto
import Derived.Deep.CutBlock
import Derived.Deep.DeepMust
import Derived.Deep.QuietTactic
import Derived.Deep.RegionHeld3
import Derived.Deep.RegionLaw
import Derived.Laws.OwnMore
import Derived.Laws.EntriesVeiled
namespace Go.Proofs.Ytibppolcchhmaaa
open Go.RowKit

section
variable {w w' : World} {g : Nat} {t : TypeId} {cs cs' : Array Value}
end
section
variable {P : Program} {w : World} {ops : Array Oper} {rest : List Oper} {o : Oper} {a : Act} {Q : Exit → Act → World → Prop}
end
end Go.Proofs.Ytibppolcchhmaaa
/-
  What is proved: karma's outside answers a function that tells whether a number lies outside; slices.ContainsFunc over numbers with it tells whether one of them does. Condition: the numbers lie in one block.
-/
namespace Go.Proofs.Ytibppolcchhmaaa
open Go.RowKit

set_option maxHeartbeats 400000 in
theorem outs1_any (x lo hi : Int) (p q : Addr) (w : World) (hp : w.cell? p = some (.int .i64 lo)) (hq : w.cell? q = some (.int .i64 hi)) :
    Calls Try.prog 44 #[.int .i64 x, .pointer (some p), .pointer (some q)] w fun e w' => e = .returned (.bool (decide (x < lo ∨ hi < x))) ∧ w = w' := by
  by_cases h : x < lo
  · rw [decide_eq_true (Or.inl h)]
    go_enter Try.func44, Try.ntmps44
    go_wp2
    go_ret
    exact ⟨rfl, rfl⟩
  · by_cases h2 : x > hi
    · rw [decide_eq_true (Or.inr h2)]
      go_enter Try.func44, Try.ntmps44
      go_wp2
      go_ret
      exact ⟨rfl, rfl⟩
    · rw [decide_eq_false (by omega)]
      go_enter Try.func44, Try.ntmps44
      go_wp2
      go_ret
      exact ⟨rfl, rfl⟩
/-- what outside answers -/
def OutV (w : World) (lo hi : Int) (v : Value) : Prop := ∃ p q : Addr, v = .func (.func 44) #[] #[.pointer (some p), .pointer (some q)] ∧ w.cell? p = some (.int .i64 lo) ∧ w.cell? q = some (.int .i64 hi) ∧ p.block < w.heap.size ∧ q.block < w.heap.size
theorem OutV.below {w w' : World} {lo hi : Int} {v : Value} (h : OutV w lo hi v) (hb : Below w.heap.size w w') : OutV w' lo hi v := by
  obtain ⟨p, q, e, h1, h2, h3, h4⟩ := h
  exact ⟨p, q, e, (hb.cell h3).trans h1, (hb.cell h4).trans h2, Nat.lt_of_lt_of_le h3 hb.size, Nat.lt_of_lt_of_le h4 hb.size⟩
theorem outside_any (lo hi : Int) (w : World) :
    Calls Try.prog 26 #[.int .i64 lo, .int .i64 hi] w fun e w' => ∃ v, e = .returned v ∧ OutV w' lo hi v ∧ Below w.heap.size w w' := by
  have hmf : ∀ (fn : Fn) (first cap : Array Value) (w : World), (Instr.makeFunc fn first cap).run Try.prog w = .ok (.func fn first cap) w := fun _ _ _ _ => rfl
  have hb := on (below_alloc w (.cells #[.int .i64 lo] 3)) (below_alloc (w.alloc (.cells #[.int .i64 lo] 3)) (.cells #[.int .i64 hi] 3))
  have h1 : w.heap.size < (w.alloc (.cells #[.int .i64 lo] 3)).heap.size := by rw [World.size_alloc]; omega
  have c1 : ((w.alloc (.cells #[.int .i64 lo] 3)).alloc (.cells #[.int .i64 hi] 3)).cell? ⟨w.heap.size, 0, none⟩ = some (.int .i64 lo) :=
    ((below_alloc (w.alloc (.cells #[.int .i64 lo] 3)) _).cell (p := ⟨w.heap.size, 0, none⟩) h1).trans (World.cell?_alloc_new w #[.int .i64 lo] 3 0)
  have c2 : ((w.alloc (.cells #[.int .i64 lo] 3)).alloc (.cells #[.int .i64 hi] 3)).cell? ⟨(w.alloc (.cells #[.int .i64 lo] 3)).heap.size, 0, none⟩ = some (.int .i64 hi) := World.cell?_alloc_new _ #[.int .i64 hi] 3 0
  rw [World.size_alloc] at c2
  have HB := hid hb
  have HC := hid (And.intro c1 c2)
  clear hb c1 c2
  go_enter Try.func26, Try.ntmps26
  go_wp2
  go_ret
  refine ⟨_, rfl, ⟨_, _, rfl, HC.out.1, HC.out.2, ?_, ?_⟩, HB.out⟩
  · rw [World.size_alloc]; show w.heap.size < _; omega
  · rw [World.size_alloc, World.size_alloc]; show w.heap.size + 1 < _; omega
/-- one of the first n lies outside -/
def Outs (lo hi : Int) (f : Nat → Int) (n : Nat) : Prop := ∃ i, i < n ∧ (f i < lo ∨ hi < f i)
set_option maxHeartbeats 400000 in
theorem idx_out (b n c : Nat) (f : Nat → Int) (lo hi : Int) (v : Value) (w : World) (hn : n ≤ 1000) (hv : OutV w lo hi v) (hf : ∀ i, i < n → w.cell? ⟨b, i, none⟩ = some (.int .i64 (f i))) :
    Calls Try.prog 45 #[.slice (some ⟨b, 0, none⟩) n c, v] w fun e w' => ∃ r : Int, e = .returned (.int .i64 r) ∧ (0 ≤ r ↔ Outs lo hi f n) ∧ w = w' := by
  obtain ⟨p, q, rfl, hp, hq, -, -⟩ := hv
  have HF := hid hf
  have HO := hid (fun x => outs1_any x lo hi p q w hp hq)
  clear hf hp hq
  go_enter Try.func45, Try.ntmps45
  go_wp2
  go_loopg [8] n (fun gk t8 wr => ∃ j : Nat, j + gk = n ∧ t8 = .int .i64 j ∧ (∀ i, i < j → ¬ (f i < lo ∨ hi < f i)) ∧ wr = w)
  case atStart => exact ⟨0, by omega, rfl, fun i hi => absurd hi (Nat.not_lt_zero i), rfl⟩
  case round =>
    obtain ⟨j, hj, rfl, hall, rfl⟩ := hrel
    have HALL := hid hall
    clear hall
    by_cases hlt : j < n
    · have hlt' : (j : Int) < (n : Int) := by omega
      have c0 := HF.out j hlt
      by_cases ho : f j < lo ∨ hi < f j
      · have HX := hid (show Outs lo hi f n from ⟨j, hlt, ho⟩)
        have HO' := hid (fun x => (show x = f j → _ from fun e => by have h := HO.out x; rw [decide_eq_true (by rw [e]; exact ho)] at h; exact h))
        generalize f j = u at *
        clear ho
        go_wp2_with (go_at_call 44; refine (HO'.out _ rfl).mono ?_; rintro e w' ⟨rfl, rfl⟩)
        go_ret
        exact ⟨(j : Int), rfl, ⟨fun _ => HX.out, fun _ => by omega⟩, rfl⟩
      · have HN := hid (show ∀ i, i < j + 1 → ¬ (f i < lo ∨ hi < f i) from fun i hi => by
          by_cases e : i = j
          · rw [e]; exact ho
          · exact HALL.out i (by omega))
        have HO' := hid (fun x => (show x = f j → _ from fun e => by have h := HO.out x; rw [decide_eq_false (by rw [e]; exact ho)] at h; exact h))
        generalize f j = u at c0 ho HO'
        clear ho
        go_wp2_with (go_at_call 44; refine (HO'.out _ rfl).mono ?_; rintro e w' ⟨rfl, rfl⟩)
        go_roundg (gk - 1)
        case measure => omega
        case rel => exact ⟨j + 1, by omega, by go_num, HN.out, rfl⟩
    · have hlt' : ¬ (j : Int) < (n : Int) := by omega
      obtain rfl : j = n := by omega
      go_wp2
      go_ret
      refine ⟨-1, rfl, ⟨fun h => by omega, fun ⟨i, h1, h2⟩ => absurd h2 (HALL.out i h1)⟩, rfl⟩
theorem contains_out (b n c : Nat) (f : Nat → Int) (lo hi : Int) (v : Value) (w : World) (hn : n ≤ 1000) (hv : OutV w lo hi v) (hf : ∀ i, i < n → w.cell? ⟨b, i, none⟩ = some (.int .i64 (f i))) :
    Calls Try.prog 27 #[.slice (some ⟨b, 0, none⟩) n c, v] w fun e w' => e = .returned (.bool (dec (Outs lo hi f n))) ∧ w = w' := by
  have HI := hid (idx_out b n c f lo hi v w hn hv hf)
  obtain ⟨p, q, rfl, -, -, -, -⟩ := hv
  clear hf
  go_enter Try.func27, Try.ntmps27
  go_wp2_with (go_at_call 45; refine HI.out.mono ?_; rintro e w' ⟨r, rfl, hr, rfl⟩; have HR := hid hr; clear hr)
  go_ret
  exact ⟨ret_dec (by rw [← HR.out]; simp), rfl⟩
end Go.Proofs.Ytibppolcchhmaaa
