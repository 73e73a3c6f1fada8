/-
  What is proved: the walk of FramePuts: any packet is right, and has the bytes, as the document says; what is put is got; it stays as it was. No condition.
-/
import Derived.Test.YtcamlbinakompaaGok7
import Derived.Test.YtcamlbinakompaaRPut7
import Derived.Test.YtcamlbinakompaaFsame7
import Derived.Test.YtcamlbinakompaaWake7
import Derived.Deep.DeepCutAuto
import Derived.Deep.CutBlock
import Derived.Deep.DeepMust
import Derived.BigFrame
namespace Go.Proofs.Ytcamlbinakompaa
open Go.RowKit

theorem right_yes (m y s a : Int) (A : Option Addr) (n cp : Nat) (w : World) (hn : n ≤ maxLen) (hy : RightP m y s a n) :
    Calls Try.prog 11 #[.agg (pk m y s a A n cp)] w fun e w' => e = .returned (.bool true) ∧ Below w.heap.size w w' := by
  have h := right_any m y s a A n cp w hn
  rw [dec_true hy] at h
  exact h
theorem right_no (m y s a : Int) (A : Option Addr) (n cp : Nat) (w : World) (hn : n ≤ maxLen) (hy : ¬ RightP m y s a n) :
    Calls Try.prog 11 #[.agg (pk m y s a A n cp)] w fun e w' => e = .returned (.bool false) ∧ Below w.heap.size w w' := by
  have h := right_any m y s a A n cp w hn
  rw [dec_false hy] at h
  exact h
theorem rright_yes (m y s a : Int) (A : Option Addr) (n cp : Nat) (w : World) (hn : n ≤ maxLen) (hy : RightP m y s a n) :
    Calls Try.prog 12 #[.agg (pk m y s a A n cp)] w fun e w' => e = .returned (.bool true) ∧ Below w.heap.size w w' := by
  have h := rright_any m y s a A n cp w hn
  rw [dec_true hy] at h
  exact h
theorem rright_no (m y s a : Int) (A : Option Addr) (n cp : Nat) (w : World) (hn : n ≤ maxLen) (hy : ¬ RightP m y s a n) :
    Calls Try.prog 12 #[.agg (pk m y s a A n cp)] w fun e w' => e = .returned (.bool false) ∧ Below w.heap.size w w' := by
  have h := rright_any m y s a A n cp w hn
  rw [dec_false hy] at h
  exact h
theorem pk_data7 (m y s a : Int) (D E : Option Addr) (n cp k cq : Nat) : (pk m y s a D n cp).setIfInBounds 4 (.slice E k cq) = pk m y s a E k cq := rfl
theorem slice_eq {w : World} {b n : Nat} {v : Value} {l : List Int} (h : Own w b v ([] ++ l)) (hn : l.length = n) : ∃ B cq, v = .slice B n cq ∧ Own w b (.slice B n cq) l := by
  rw [List.nil_append] at h
  obtain ⟨B, cq, e, _⟩ := h.shape
  subst e
  subst hn
  exact ⟨B, cq, rfl, h⟩

set_option maxRecDepth 100000 in
set_option maxHeartbeats 2000000 in
theorem puts_short (A : Option Addr) (n cp : Nat) (m y s a : Int) (ds : List Int) (w : World) (hn : ds.length = n) (hn300 : n ≤ 300) (hr : Rn w A ds) (hdb : ∀ x ∈ ds, 0 ≤ x ∧ x ≤ 255) :
    Calls Try.prog 3 #[.agg (pk m y s a A n cp)] w fun e w' => e = .returned (.bool true) ∧ Below w.heap.size w w' := by
  have X0 := Bx.new w 24 (pk m y s a A n cp)
  have K0 := below_alloc w (.cells (pk m y s a A n cp) 24)
  have HR := hid hr
  have HNN := hid hn
  have HDB := hid hdb
  clear hr hn hdb
  have h300 : decide ((n : Int) > 300) = false := decide_eq_false (by omega)
  go_enter Try.func3, Try.ntmps3
  go_wp2_with fail
  refine (wakes_any _).mono ?_
  rintro e w1 ⟨rfl, hb1⟩
  have HX1 := hid (X0.next hb1)
  have HK1 := hid (on K0 hb1)
  have c10 : w1.cell? ⟨w.heap.size, 4, none⟩ = some (.slice A n cp) := by rw [HX1.out.cell]; rfl
  clear X0 K0 hb1
  go_upto_region 6 with (first
    | (refine wpList_load_bx rfl 24 (.tmp 1) rfl _ _ _ _ rfl HX1.out Try.underlying24 rfl (by kernel_rfl) ?_)
    | (refine wpList_store_new rfl _ _ _ rfl rfl _ (pk m y s a A n cp) rfl rfl (by kernel_rfl) rfl (pk_one _ _ _ _ _ _ _) ?_))
  have HX2 := hid (HX1.out.alloc (.cells (pk m y s a A n cp) 24))
  have HY2 := hid (Bx.new w1 24 (pk m y s a A n cp))
  have HK2 := hid (on HK1.out (below_alloc w1 (.cells (pk m y s a A n cp) 24)))
  have hg : w.heap.size < w1.heap.size := HX1.out.lt
  have hg2 : w1.heap.size < (w1.alloc (.cells (pk m y s a A n cp) 24)).heap.size := HY2.out.lt
  clear c10
  generalize w1.alloc (.cells (pk m y s a A n cp) 24) = w2 at *
  generalize w1.heap.size = g at *
  clear HX1 HK1
  have c10 : (w2.alloc (.cells #[] 5)).cell? ⟨w.heap.size, 4, none⟩ = some (.slice A n cp) := by rw [(HX2.out.alloc _).cell]; rfl
  have O2 := hid (own_new w2 w2.heap.size [] #[] 0 (Nat.le_refl _) rfl rfl (by unfold maxLen; omega))
  have R2 := hid ((HR.out.now HK2.out).alloc (.cells #[] 5))
  go_upto_region 7 with (at_builtin; go_must (refine wpList_app rfl (.tmp 17) (.tmp 19) rfl w2.heap.size _ [] O2.out rfl _ A n cp ds rfl HNN.out R2.out (by simp; omega) (by rw [World.size_alloc]; omega) ?_); intro v3 w3 hown3 hg3; have K3 := hid ((below_alloc w2 (.cells #[] 5)).trans (hg3.below O2.out (by rw [World.size_alloc]; omega))); obtain ⟨B, cq, rfl, hB3⟩ := slice_eq hown3 HNN.out; have O3 := hid hB3; have pc : w3.cell? ⟨g, 4, none⟩ = some (.slice A n cp) := (by rw [(HY2.out.next K3.out).cell]; rfl); have pf := (HY2.out.next K3.out).free 4; clear hown3 hg3 hB3 c10)
  have Y4 := (HY2.out.next K3.out).set 4 (.slice B n cq)
  rw [pk_data7] at Y4
  have HX4 := hid ((HX2.out.next K3.out).far ⟨g, 4, none⟩ (.slice B n cq) (by show g ≠ w.heap.size; omega))
  have HY4 := hid Y4
  have HK4 := hid (below_set (on HK2.out K3.out) ⟨g, 4, none⟩ (.slice B n cq) (Nat.le_of_lt hg))
  have hO4 := own_far7 O3.out (grown_set (World.grownBy.refl w3 (some g)) 4 (.slice B n cq)) hg2
  obtain ⟨_, _, e, hr4⟩ := Own.read hO4
  injection e with e1 e2 e3
  rw [← e1] at hr4
  have HB4 := hid hr4
  have HA4 := hid (HR.out.now HK4.out)
  clear Y4 hO4 hr4 e1 e2 e3 pc pf HX2 HY2 HK2 O2 R2 O3 K3
  generalize w3.setCell ⟨g, 4, none⟩ (.slice B n cq) = w4 at *
  by_cases hy : RightP m y s a n
  · have hn128 : n ≤ 128 := hy.2.2.2.2.1
    obtain ⟨m, rfl⟩ : ∃ x : Nat, m = x := ⟨m.toNat, by have := hy.1; omega⟩
    obtain ⟨y, rfl⟩ : ∃ x : Nat, y = x := ⟨y.toNat, by have := hy.2.1; omega⟩
    obtain ⟨s, rfl⟩ : ∃ x : Nat, s = x := ⟨s.toNat, by have := hy.2.2.1; omega⟩
    obtain ⟨a, rfl⟩ : ∃ x : Nat, a = x := ⟨a.toNat, by have := hy.2.2.2.1; omega⟩
    have hbl := body_len (m := m) (y := y) (s := s) (a := a) (ds := ds) (by have := hy.1; omega) (by have := hy.2.1; omega) (by have := hy.2.2.1; omega) (by have := hy.2.2.2.1; omega) (by rw [HNN.out]; exact hn128)
    have HY := hid hy
    clear hy
    go_wp2_with (refine wpList_load_bx rfl 24 (.tmp 3) rfl _ _ _ _ rfl HY4.out Try.underlying24 rfl (by kernel_rfl) ?_)
    refine (fput_yes m y s a B n cq ds w4 HNN.out HB4.out HDB.out HY.out).mono ?_
    rintro e w5 ⟨v5, rfl, hs5, hb5⟩
    obtain ⟨S1, c1, rfl, r1, hc1, hm1⟩ := Own.shape hs5
    obtain ⟨M, hM⟩ : ∃ M, (body m y s a ds).length = M := ⟨_, rfl⟩
    obtain ⟨L, hLe⟩ : ∃ L, (full m y s a ds).length = L := ⟨_, rfl⟩
    have hLM : L = M + 1 := by rw [← hLe, ← hM]; unfold full; rw [List.length_append]; rfl
    rw [hM] at hbl
    have hL : L ≤ 162 := by omega
    rw [hLe] at hc1 ⊢
    have HL := hid hLe
    have HM := hid hM
    have HLM := hid hLM
    have HC1 := hid hm1
    clear hs5 hM hLM hm1
    have HX5 := hid (HX4.out.next hb5)
    have HY5 := hid (HY4.out.next hb5)
    have HK5 := hid (on HK4.out hb5)
    have HA5 := hid (HA4.out.now hb5)
    have HB5 := hid (HB4.out.now hb5)
    have HS1 := hid (show Rn w5 S1 (full m y s a ds) from r1)
    clear hb5 r1 hLe HX4 HY4 HK4 HA4 HB4
    go_wp2_with (refine wpList_load_bx rfl 24 (.tmp 1) rfl _ _ _ _ rfl HX5.out Try.underlying24 rfl (by kernel_rfl) ?_)
    refine (rfput_yes m y s a A n cp ds w5 HNN.out HA5.out HDB.out HY.out).mono ?_
    rintro e w6 ⟨v6, rfl, hs6, hb6⟩
    obtain ⟨S2, c2, rfl, r2⟩ := Own.read hs6
    rw [HL.out]
    clear hs6
    have HX6 := hid (HX5.out.next hb6)
    have HY6 := hid (HY5.out.next hb6)
    have HK6 := hid (on HK5.out hb6)
    have HA6 := hid (HA5.out.now hb6)
    have HB6 := hid (HB5.out.now hb6)
    have HS16 := hid (HS1.out.now hb6)
    have HS26 := hid r2
    clear hb6 r2 HX5 HY5 HK5 HA5 HB5 HS1
    have l1 : ∀ s_ : Since w6, (Instr.loadAt 24 (.pointer (some ⟨w.heap.size, 0, none⟩))).run Try.prog s_.at_ = .ok (.agg (pk m y s a A n cp)) s_.at_ := fun s_ => run_loadAt_bx (HX6.out.next s_.bel) Try.underlying24 rfl (by kernel_rfl)
    have l3 : ∀ s_ : Since w6, (Instr.loadAt 24 (.pointer (some ⟨g, 0, none⟩))).run Try.prog s_.at_ = .ok (.agg (pk m y s a B n cq)) s_.at_ := fun s_ => run_loadAt_bx (HY6.out.next s_.bel) Try.underlying24 rfl (by kernel_rfl)
    have m1 : ∀ s_ : Since w6, (loadCellsFrom ⟨w.heap.size, 0, none⟩ 0 5 #[]).run Try.prog s_.at_ = .ok (pk m y s a A n cp) s_.at_ := fun s_ => run_loadCells_bx (HX6.out.next s_.bel) 5 rfl
    have m3 : ∀ s_ : Since w6, (loadCellsFrom ⟨g, 0, none⟩ 0 5 #[]).run Try.prog s_.at_ = .ok (pk m y s a B n cq) s_.at_ := fun s_ => run_loadCells_bx (HY6.out.next s_.bel) 5 rfl
    have K1 := hid (fun s_ : Since w6 => same_yes S1 S2 L L c1 c2 (full m y s a ds) s_.at_ _ _ HL.out HL.out (by unfold maxLen; omega) (HS16.out.now s_.bel) (HS26.out.now s_.bel))
    have K2 := hid (fun s_ : Since w6 => fsame_yes B A n cq cp m y s a ds s_.at_ HNN.out (by unfold maxLen; omega) (HB6.out.now s_.bel) (HA6.out.now s_.bel))
    have K3 := hid (fun s_ : Since w6 => right_yes m y s a A n cp s_.at_ (by unfold maxLen; omega) HY.out)
    have K4 := hid (fun s_ : Since w6 => rright_yes m y s a A n cp s_.at_ (by unfold maxLen; omega) HY.out)
    go_wp2_with fail
    refine wp_region_since (by kernel_rfl) (by kernel_rfl) ?_
    repeat (first
      | (go_big_quiet_step (first
      | (go_at_call 9; refine Calls.sinceN _ (K1.out _))
      | (go_at_call 10; refine Calls.since _ (K2.out _))
      | (go_at_call 11; refine Calls.since _ (K3.out _))
      | (go_at_call 12; refine Calls.since _ (K4.out _))))
      | (go_big_quiet_want; refine quiet_load _ _ rfl _ _ rfl (fun _ ⟨z, e⟩ => e ▸ l1 z) ?_; go_big_quiet_on; go_simp)
      | (go_big_quiet_want; refine quiet_load _ _ rfl _ _ rfl (fun _ ⟨z, e⟩ => e ▸ l3 z) ?_; go_big_quiet_on; go_simp))
    refine wpQuiet_nil ?_
    intro s_
    have HX7 := hid (HX6.out.next s_.bel)
    have HK7 := hid (on HK6.out s_.bel)
    have HA7 := hid (HA6.out.now s_.bel)
    have HS17 := hid (HS16.out.now s_.bel)
    clear K1 K2 K3 K4 l1 l3 m1 m3 HX6 HY6 HK6 HA6 HB6 HS16 HS26
    generalize s_.at_ = w7 at *
    go_wp2_with fail
    have GY := fget_yes S1 M c1 m y s a ds w7 _ (by rw [HNN.out]; exact HY.out) HM.out (by have := HLM.out; omega) HC1.out HDB.out HS17.out (Nat.le_refl _)
    rw [← HLM.out, HNN.out] at GY
    refine GY.mono ?_
    rintro e w8 ⟨C8, c8, rfl, r8, hb8⟩
    · clear GY
      have HR8 := hid r8
      have HX8 := hid (HX7.out.next hb8)
      have HK8 := hid (on HK7.out hb8)
      have HA8 := hid (HA7.out.now hb8)
      clear hb8 r8 HX7 HK7 HA7 HS17
      go_upto_region 14 with (refine wpList_store_new rfl _ _ _ rfl rfl _ (pk m y s a C8 n c8) rfl rfl (by kernel_rfl) rfl (pk_one _ _ _ _ _ _ _) ?_)
      have HX9 := hid (HX8.out.alloc (.cells (pk m y s a C8 n c8) 24))
      have HY9 := hid (Bx.new w8 24 (pk m y s a C8 n c8))
      have HK9 := hid (on HK8.out (below_alloc w8 (.cells (pk m y s a C8 n c8) 24)))
      have HA9 := hid (HA8.out.now (below_alloc w8 (.cells (pk m y s a C8 n c8) 24)))
      have HR9 := hid (HR8.out.now (below_alloc w8 (.cells (pk m y s a C8 n c8) 24)))
      clear HX8 HK8 HA8 HR8
      generalize w8.alloc (.cells (pk m y s a C8 n c8) 24) = w9 at *
      go_wp2_with (first
        | (refine wpList_load_bxg rfl 24 (.tmp 1) rfl _ _ _ _ rfl HX9.out Try.underlying24 rfl (by kernel_rfl) ?_)
        | (refine wpList_load_bxg rfl 24 (.tmp 8) rfl _ _ _ _ rfl HY9.out Try.underlying24 rfl (by kernel_rfl) ?_))
      refine (fsame_yes C8 A n c8 cp m y s a ds _ HNN.out (by unfold maxLen; omega) HR9.out HA9.out).mono ?_
      rintro e w10 ⟨rfl, hb10⟩
      have HK10 := hid (on HK9.out hb10)
      go_wp2_with fail
      go_ret
      exact ⟨rfl, HK10.out⟩
  · have HY := hid hy
    clear hy
    go_wp2_with (refine wpList_load_bx rfl 24 (.tmp 3) rfl _ _ _ _ rfl HY4.out Try.underlying24 rfl (by kernel_rfl) ?_)
    refine (fput_no m y s a B n cq _ (by unfold maxLen; omega) HY.out).mono ?_
    rintro e w5 ⟨rfl, hb5⟩
    have HX5 := hid (HX4.out.next hb5)
    have HY5 := hid (HY4.out.next hb5)
    have HK5 := hid (on HK4.out hb5)
    have HA5 := hid (HA4.out.now hb5)
    have HB5 := hid (HB4.out.now hb5)
    clear hb5 HX4 HY4 HK4 HA4 HB4
    go_wp2_with (refine wpList_load_bx rfl 24 (.tmp 1) rfl _ _ _ _ rfl HX5.out Try.underlying24 rfl (by kernel_rfl) ?_)
    refine (rfput_no m y s a A n cp _ (by unfold maxLen; omega) HY.out).mono ?_
    rintro e w6 ⟨rfl, hb6⟩
    have HX6 := hid (HX5.out.next hb6)
    have HY6 := hid (HY5.out.next hb6)
    have HK6 := hid (on HK5.out hb6)
    have HA6 := hid (HA5.out.now hb6)
    have HB6 := hid (HB5.out.now hb6)
    clear hb6 HX5 HY5 HK5 HA5 HB5
    have l1 : ∀ s_ : Since w6, (Instr.loadAt 24 (.pointer (some ⟨w.heap.size, 0, none⟩))).run Try.prog s_.at_ = .ok (.agg (pk m y s a A n cp)) s_.at_ := fun s_ => run_loadAt_bx (HX6.out.next s_.bel) Try.underlying24 rfl (by kernel_rfl)
    have l3 : ∀ s_ : Since w6, (Instr.loadAt 24 (.pointer (some ⟨g, 0, none⟩))).run Try.prog s_.at_ = .ok (.agg (pk m y s a B n cq)) s_.at_ := fun s_ => run_loadAt_bx (HY6.out.next s_.bel) Try.underlying24 rfl (by kernel_rfl)
    have K1 := hid (fun s_ : Since w6 => same_yes none none 0 0 0 0 [] s_.at_ 0 0 rfl rfl (by unfold maxLen; omega) (Rd.nil _ _ _) (Rd.nil _ _ _))
    have K2 := hid (fun s_ : Since w6 => fsame_yes B A n cq cp m y s a ds s_.at_ HNN.out (by unfold maxLen; omega) (HB6.out.now s_.bel) (HA6.out.now s_.bel))
    have K3 := hid (fun s_ : Since w6 => right_no m y s a A n cp s_.at_ (by unfold maxLen; omega) HY.out)
    have K4 := hid (fun s_ : Since w6 => rright_no m y s a A n cp s_.at_ (by unfold maxLen; omega) HY.out)
    go_wp2_with fail
    refine wp_region_since (by kernel_rfl) (by kernel_rfl) ?_
    repeat (first
      | (go_big_quiet_step (first
      | (go_at_call 9; refine Calls.sinceN _ (K1.out _))
      | (go_at_call 10; refine Calls.since _ (K2.out _))
      | (go_at_call 11; refine Calls.since _ (K3.out _))
      | (go_at_call 12; refine Calls.since _ (K4.out _))))
      | (go_big_quiet_want; refine quiet_load _ _ rfl _ _ rfl (fun _ ⟨z, e⟩ => e ▸ l1 z) ?_; go_big_quiet_on; go_simp)
      | (go_big_quiet_want; refine quiet_load _ _ rfl _ _ rfl (fun _ ⟨z, e⟩ => e ▸ l3 z) ?_; go_big_quiet_on; go_simp))
    refine wpQuiet_nil ?_
    intro s_
    have HK7 := hid (on HK6.out s_.bel)
    generalize s_.at_ = w7 at *
    go_wp2_with fail
    go_ret
    exact ⟨rfl, HK7.out⟩

set_option maxRecDepth 100000 in
set_option maxHeartbeats 1000000 in
theorem puts_walk (A : Option Addr) (n cp : Nat) (m y s a : Int) (ds : List Int) (w : World) (hn : ds.length = n) (hnm : n ≤ maxLen) (hr : Rn w A ds) (hdb : ∀ x ∈ ds, 0 ≤ x ∧ x ≤ 255) :
    Calls Try.prog 3 #[.agg (pk m y s a A n cp)] w fun e w' => e = .returned (.bool true) ∧ Below w.heap.size w w' := by
  by_cases h300 : n ≤ 300
  · exact puts_short A n cp m y s a ds w hn h300 hr hdb
  · have X0 := Bx.new w 24 (pk m y s a A n cp)
    have K0 := below_alloc w (.cells (pk m y s a A n cp) 24)
    unfold maxLen at hnm
    have hd : decide ((n : Int) > 300) = true := decide_eq_true (by omega)
    have hc : n > 300 := by omega
    clear hr h300 hn hdb
    go_enter Try.func3, Try.ntmps3
    go_wp2_with fail
    refine (wakes_any _).mono ?_
    rintro e w1 ⟨rfl, hb1⟩
    have HX1 := hid (X0.next hb1)
    have HK1 := hid (on K0 hb1)
    have c10 : w1.cell? ⟨w.heap.size, 4, none⟩ = some (.slice A n cp) := by rw [HX1.out.cell]; rfl
    clear X0 K0 hb1
    go_wp2_with fail
    go_ret
    exact ⟨rfl, HK1.out⟩
end Go.Proofs.Ytcamlbinakompaa
