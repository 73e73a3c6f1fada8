/-
  What is proved: the reference's New, Of, Without, Ahead, Place; lists that are compared. Condition: the space lies in memory as one; lists are read as such.
  (Left out here, as nothing of this law reaches it: place_at, without_any, ahead_any, rof_gen, rof_yes, rof_no, Made, elt_row, Mk, Mk.alloc, Mk.lr, Mk.more, rnew_any.) -/
import Derived.Test.YtdpniggabidmbaaRr10
namespace Go.Proofs.Ytdpniggabidmbaa
open Go.RowKit

set_option maxHeartbeats 400000 in
theorem sameints_yes (A B : Option Addr) (n m ca cb : Nat) (l : List Int) (w : World) (C D : Nat) (hn : l.length = n) (hm : l.length = m) (hlen : n ≤ maxLen) (ra : Rv w C A (ints l)) (rb : Rv w D B (ints l)) :
    Calls Try.prog 11 #[.slice A n ca, .slice B m cb] w fun e w' => e = .returned (.bool true) ∧ ∃ k, w' = w.drewN k := by
  subst hn
  subst hm
  unfold maxLen at hlen
  go_enter Try.func11, Try.ntmps11
  go_wp2
  go_loopw [5] (fun i wr => ∃ k d : Nat, k ≤ l.length ∧ i = .int .i64 k ∧ wr = w.drewN d) (fun i _ => l.length - (intOf i).toNat)
  case atStart => exact ⟨0, 0, Nat.zero_le _, rfl, rfl⟩
  case round =>
    obtain ⟨k, d, hk, rfl, rfl⟩ := hrel
    by_cases hlt : k < l.length
    · obtain ⟨a, rfl, _, hca⟩ := ra.get (k := k) (by rw [ints_length]; exact hlt)
      obtain ⟨b, rfl, _, hcb⟩ := rb.get (k := k) (by rw [ints_length]; exact hlt)
      have e : (ints l)[k]'(by rw [ints_length]; exact hlt) = .int .i64 (l[k]) := by simp [ints]
      rw [e] at hca hcb
      clear e
      have hlt' : (k : Int) < (l.length : Int) := by omega
      go_wp2
      go_quiet (fail)
      go_wp2
      go_roundw
      case rel => exact ⟨k + 1, _, by omega, by go_num, rfl⟩
      case measure => simp [intOf]; omega
    · have hlt' : ¬ (k : Int) < (l.length : Int) := by omega
      go_wp2
      go_ret
      exact ⟨rfl, _, rfl⟩

theorem rv_at {w : World} {B : Nat} {A : Option Addr} {l : List Int} (r : Rv w B A (ints l)) {j : Nat} (hj : j < l.length) : ∃ a, A = some a ∧ a.block < B ∧ w.cell? (a.add j) = some (.int .i64 l[j]) := by
  obtain ⟨a, e, hb, hc⟩ := r.get (k := j) (by rw [ints_length]; exact hj)
  refine ⟨a, e, hb, ?_⟩
  rw [hc]
  simp [ints]




































theorem wo_take_eq {l : List Int} {j : Nat} {x : Int} (h : j < l.length) (e : l[j] = x) : ints (wo x (l.take (j + 1))) = ints (wo x (l.take j)) := by
  rw [List.take_succ_eq_append_getElem h]
  unfold wo
  rw [List.filter_append, e]
  simp
theorem wo_take_ne {l : List Int} {j : Nat} {x : Int} (h : j < l.length) (e : l[j] ≠ x) : ints (wo x (l.take (j + 1))) = ints (wo x (l.take j)) ++ [.int .i64 l[j]] := by
  rw [List.take_succ_eq_append_getElem h]
  unfold wo ints
  rw [List.filter_append, List.map_append]
  simp [e]
theorem wo_le (x : Int) (l : List Int) : (wo x l).length ≤ l.length := List.length_filter_le _ _


















































































section
variable {w : World} {k : Nat} {v : Value} {us : List Value} {S : List (List Int)}



































































































end

/-- how many lists -/
def cl (m : Int) : Nat := (min (max m 1) 40).toNat
theorem cl_le (m : Int) : 1 ≤ cl m ∧ cl m ≤ 40 := by unfold cl; omega
def empt (n : Nat) : List (List Int) := List.replicate n []



theorem infoRow : (Try.prog.info? 33).map (fun i => (i.zero, i.size, i.bytes)) = some (some (.slice none 0 0), 1, 24) := by kernel_rfl














































































































end Go.Proofs.Ytdpniggabidmbaa
