/-
  What is proved: the reference's Fields, numbers, most and Has: the fields that a kind names, a message's first eight fields, the most that these may be, whether a number is in a list. Conditions: the message's block is known whole; the list is read.
-/
import Derived.Test.YtihldenljddmoaaDoorMeas4
import Derived.Test.YtihldenljddmoaaDoorBitV
import Derived.Deep.DeepMust
import Derived.Deep.Onto
import Derived.Deep.DeepCutAuto
import Derived.Deep.CutBlock
namespace Go.Proofs.YtihldenljddmoaaDoor
open Go.RowKit

/-- the fields that a kind names, as numbers -/
def fI (k : Int) : List Int := if 1 ≤ k ∧ k ≤ 14 then (fl (mk k.toNat) 1).map (fun (f : Nat) => (f : Int)) else []
theorem fI_no {k : Int} (h : ¬ (1 ≤ k ∧ k ≤ 14)) : fI k = [] := if_neg h
theorem fI_len (k : Int) : (fI k).length ≤ 10 := by
  unfold fI
  split
  · rw [List.length_map]; exact fl_len10 _
  · exact Nat.zero_le _
/-- a slice of whole numbers of the call's own -/
def OwnI (w : World) (b : Nat) (v : Value) (l : List Int) : Prop := OwnV w b 3 1 v l.length (ints l)
theorem ownI_lit (w : World) (l : List Int) (cs : Array Value) (n : Nat) (hcs : cs.toList = ints l) (hn : l.length = n) (hm : n ≤ maxLen) : OwnI (w.alloc (.cells cs 3)) w.heap.size (.slice (some ⟨w.heap.size, 0, none⟩) n n) l := by
  subst hn
  have h := World.ownsRow_lit (size := 1) (e := 3) (base := w.heap.size) w cs l.length (Nat.le_refl _) hm (by rw [← Array.length_toList, hcs, ints_length, Nat.mul_one])
  rw [hcs] at h
  exact h
theorem OwnI.read {w : World} {b : Nat} {v : Value} {l : List Int} (h : OwnI w b v l) : ∃ A c, v = .slice A l.length c ∧ Rv w w.heap.size A (ints l) := by
  obtain ⟨A, c, e, hr, _⟩ := OwnV.read h
  exact ⟨A, c, e, hr⟩

set_option maxRecDepth 100000 in
set_option maxHeartbeats 1000000 in
theorem rfields_any (k : Int) (w : World) : Calls Tryd.prog 17 #[.int .i64 k] w fun e w' => ∃ v, e = .returned v ∧ OwnI w' w.heap.size v (fI k) ∧ Below w.heap.size w w' := by
  by_cases hk : 1 ≤ k ∧ k ≤ 14
  · have h14 : k = 1 ∨ k = 2 ∨ k = 3 ∨ k = 4 ∨ k = 5 ∨ k = 6 ∨ k = 7 ∨ k = 8 ∨ k = 9 ∨ k = 10 ∨ k = 11 ∨ k = 12 ∨ k = 13 ∨ k = 14 := by omega
    clear hk
    rcases h14 with rfl | rfl | rfl | rfl | rfl | rfl | rfl | rfl | rfl | rfl | rfl | rfl | rfl | rfl
    all_goals
      go_enter Tryd.func17, Tryd.ntmps17
      go_wp2
      go_ret
      exact ⟨_, rfl, ownI_lit w _ _ _ (by kernel_rfl) (by kernel_rfl) (by decide), below_alloc w _⟩
  · have e := fI_no hk
    have h1 : (k == 1) = false := by simp; omega
    have h2 : (k == 2) = false := by simp; omega
    have h3 : (k == 3) = false := by simp; omega
    have h4 : (k == 4) = false := by simp; omega
    have h5 : (k == 5) = false := by simp; omega
    have h6 : (k == 6) = false := by simp; omega
    have h7 : (k == 7) = false := by simp; omega
    have h8 : (k == 8) = false := by simp; omega
    have h9 : (k == 9) = false := by simp; omega
    have h10 : (k == 10) = false := by simp; omega
    have h11 : (k == 11) = false := by simp; omega
    have h12 : (k == 12) = false := by simp; omega
    have h13 : (k == 13) = false := by simp; omega
    have h14 : (k == 14) = false := by simp; omega
    have HE := hid e
    clear e hk
    go_enter Tryd.func17, Tryd.ntmps17
    go_wp2
    go_ret
    exact ⟨_, rfl, by rw [HE.out]; exact ownV_nil _ _ _ _, Below.refl _ _⟩

/-- a message's first eight fields -/
def nm8 (c : Nat → Int) : List Int := [c 1, c 2, c 3, c 4, c 5, c 6, c 7, c 8]
set_option maxRecDepth 100000 in
set_option maxHeartbeats 1000000 in
theorem numbers_any (c : Nat → Int) (gr : Bool) (A : Option Addr) (n cp : Nat) (w : World) :
    Calls Tryd.prog 23 #[.agg (msgC c gr A n cp)] w fun e w' => ∃ v, e = .returned v ∧ OwnI w' w.heap.size v (nm8 c) ∧ Below w.heap.size w w' := by
  have X0 := Bx.new w 25 (msgC c gr A n cp)
  have K0 := below_alloc w (.cells (msgC c gr A n cp) 25)
  have hz : (w.alloc (.cells (msgC c gr A n cp) 25)).heap.size = w.heap.size + 1 := World.size_alloc _ _
  have c1 := X0.cell 1
  have c2 := X0.cell 2
  have c3 := X0.cell 3
  have c4 := X0.cell 4
  have c5 := X0.cell 5
  have c6 := X0.cell 6
  have c7 := X0.cell 7
  have c8 := X0.cell 8
  rw [show (msgC c gr A n cp)[1]? = some (.int .i64 (c 1)) from rfl] at c1
  rw [show (msgC c gr A n cp)[2]? = some (.int .i64 (c 2)) from rfl] at c2
  rw [show (msgC c gr A n cp)[3]? = some (.int .i64 (c 3)) from rfl] at c3
  rw [show (msgC c gr A n cp)[4]? = some (.int .i64 (c 4)) from rfl] at c4
  rw [show (msgC c gr A n cp)[5]? = some (.int .i64 (c 5)) from rfl] at c5
  rw [show (msgC c gr A n cp)[6]? = some (.int .i64 (c 6)) from rfl] at c6
  rw [show (msgC c gr A n cp)[7]? = some (.int .i64 (c 7)) from rfl] at c7
  rw [show (msgC c gr A n cp)[8]? = some (.int .i64 (c 8)) from rfl] at c8
  have HK := hid K0
  have HZ := hid hz
  clear X0 K0 hz
  go_enter Tryd.func23, Tryd.ntmps23
  go_upto_region 1 with fail
  generalize w.alloc (.cells (msgC c gr A n cp) 25) = w1 at *
  go_wp2
  go_ret
  refine ⟨_, rfl, ?_, on HK.out (below_alloc w1 _)⟩
  have h := ownI_lit w1 (nm8 c) _ 8 rfl rfl (by decide)
  exact World.ownsRow.mono h (by have := HZ.out; omega)

def mo8 : List Int := [3, 3, 1099511627776, 1099511627776, 31, 4, 1099511627776, 16]
theorem most_any (w : World) : Calls Tryd.prog 27 #[] w fun e w' => ∃ v, e = .returned v ∧ OwnI w' w.heap.size v mo8 ∧ Below w.heap.size w w' := by
  go_enter Tryd.func27, Tryd.ntmps27
  go_wp2
  go_ret
  exact ⟨_, rfl, ownI_lit w mo8 _ 8 rfl rfl (by decide), below_alloc w _⟩

def isin (x : Int) (l : List Int) : Bool := decide (x ∈ l)
set_option maxHeartbeats 400000 in
theorem has_any (A : Option Addr) (n cp : Nat) (l : List Int) (x : Int) (w : World) (C : Nat) (hn : l.length = n) (hlen : n ≤ maxLen) (ra : Rv w C A (ints l)) :
    Calls Tryd.prog 18 #[.slice A n cp, .int .i64 x] w fun e w' => e = .returned (.bool (isin x l)) ∧ w = w' := by
  subst hn
  unfold maxLen at hlen
  go_enter Tryd.func18, Tryd.ntmps18
  go_wp2
  go_loop [5] (fun i => ∃ k : Nat, k ≤ l.length ∧ i = .int .i64 k ∧ x ∉ l.take k) (fun i => l.length - (intOf i).toNat)
  case atStart => exact ⟨0, Nat.zero_le _, rfl, by simp⟩
  case round =>
    obtain ⟨k, hk, rfl, hno⟩ := hrel
    have HNO := hid hno
    clear hno
    by_cases hlt : k < l.length
    · obtain ⟨a, rfl, _, hca⟩ := ra.get (k := k) (by rw [ints_length]; exact hlt)
      have e : (ints l)[k]'(by rw [ints_length]; exact hlt) = .int .i64 (l[k]) := by simp [ints]
      rw [e] at hca
      obtain ⟨y, hy⟩ : ∃ y, l[k] = y := ⟨_, rfl⟩
      rw [hy] at hca
      have HY := hid hy
      clear e hy
      have hlt' : (k : Int) < (l.length : Int) := by omega
      go_wp2
      all_goals
        first
          | (go_ret
             refine ⟨ret_bool ?_, rfl⟩
             unfold isin
             rw [Bool.eq_iff_iff]
             simp only [decide_eq_true_eq, true_iff]
             have hh := HY.out
             have : x = y := by simp at *; omega
             rw [this, ← hh]
             exact List.getElem_mem hlt)
          | (go_round
             case rel => exact ⟨k + 1, by omega, by go_num, by
               rw [List.take_add_one, List.getElem?_eq_getElem hlt, HY.out]
               intro hm
               rcases List.mem_append.1 hm with h | h
               · exact HNO.out h
               · simp at h; simp at *; omega⟩
             case measure => simp [intOf]; omega)
    · have hlt' : ¬ (k : Int) < (l.length : Int) := by omega
      obtain rfl : k = l.length := by omega
      go_wp2
      go_ret
      refine ⟨ret_bool ?_, rfl⟩
      have := HNO.out
      rw [List.take_length] at this
      unfold isin
      simp [this]
end Go.Proofs.YtihldenljddmoaaDoor
