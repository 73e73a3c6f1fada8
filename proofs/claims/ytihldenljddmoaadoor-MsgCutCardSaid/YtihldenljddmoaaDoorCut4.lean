/-
  What is proved: the walk of MsgCut: what is cut off of a message's bytes is none, nor what has a byte more. Condition: the table of the kinds' fields lies where the program lays it.
-/
import Derived.Test.YtihldenljddmoaaDoorGetMW
import Derived.Test.YtihldenljddmoaaDoorPut4
import Derived.Test.YtihldenljddmoaaDoorWake4
namespace Go.Proofs.YtihldenljddmoaaDoor
open Go.RowKit

set_option maxRecDepth 100000 in
set_option maxHeartbeats 1000000 in
theorem cut_yes (D : Option Addr) (cp : Nat) (c : Nat → Int) (gr : Bool) (ds : List Int) (m by_ : Nat) (w : World) (hN : Nm w) (hm : m ≤ 255) (hby : by_ ≤ 255) (hr : Rn w D ds) (hdb : ∀ x ∈ ds, 0 ≤ x ∧ x ≤ 255) (hy : RightM c gr ds.length) :
    Calls Tryd.prog 5 #[.agg (msgC c gr D ds.length cp), .int .u8 m, .int .u8 by_] w fun e w' => e = .returned (.bool true) ∧ Below w.heap.size w w' := by
  have hs := hy.small
  have hn64 := hs.2.2
  have hfl := full_len (gr := gr) hs
  have hlen : (fullM c gr ds).length ≤ 731 := by
    have := fes_all_len (gr := gr) hs (mk (c 0).toNat)
    omega
  have hpos : 0 < (fullM c gr ds).length := by omega
  have HNW := hid hN
  obtain ⟨n, hn⟩ : ∃ n, ds.length = n := ⟨_, rfl⟩
  have HDN := hid hn
  have PY := fun W (h1 : Nm W) (h2 : Rn W D ds) => putm_yes c gr D cp ds W h1 h2 hy
  rw [hn] at PY hn64 ⊢
  have HPY := hid PY
  have X0 := Bx.new w 25 (msgC c gr D n cp)
  have K0 := below_alloc w (.cells (msgC c gr D n cp) 25)
  have HY := hid hy
  have HR := hid hr
  have HF := hid (show ∀ x ∈ fullM c gr ds ++ [(by_ : Int)], 0 ≤ x ∧ x ≤ 255 from fun x hx => by
    rcases List.mem_append.1 hx with h | h
    · exact full_byte hdb x h
    · simp at h; omega)
  clear hy hr hs hfl hN hn PY hdb
  have h300 : decide ((n : Int) > 300) = false := decide_eq_false (by omega)
  go_enter Tryd.func5, Tryd.ntmps5
  go_wp2_with fail
  refine (wakes_any _ (HNW.out.next K0)).mono ?_
  rintro e w1 ⟨rfl, hb1⟩
  have HX1 := hid (X0.next hb1)
  have HK1 := hid (on K0 hb1)
  have c10 : w1.cell? ⟨w.heap.size, 10, none⟩ = some (.slice D n cp) := by rw [HX1.out.cell]; rfl
  clear X0 K0 hb1
  go_wp2_with (refine wpList_load_bx rfl 25 (.tmp 3) rfl _ _ _ _ rfl HX1.out Tryd.underlying25 rfl (by kernel_rfl) ?_)
  refine (HPY.out _ (HNW.out.next HK1.out) (HR.out.now HK1.out)).mono ?_
  rintro e w2 ⟨v, rfl, hbs, hb2⟩
  have HK2 := hid (on HK1.out hb2)
  obtain ⟨B, cb, rfl, hrb, hcb, hcm⟩ := hbs
  obtain ⟨L, hL⟩ : ∃ L, (fullM c gr ds).length = L := ⟨_, rfl⟩
  rw [hL] at hcb hlen hpos ⊢
  have HL := hid hL
  have HB := hid hrb
  unfold maxLen at hcm
  clear c10 hb2 hrb hL
  have hkL : m % L < L := Nat.mod_lt _ hpos
  have hks : 0 ≤ (m : Int) % (L : Int) ∧ (m : Int) % (L : Int) ≤ (cb : Int) := by omega
  go_wp2_with fail
  generalize m % L = k at *
  refine (getm_cut B cb k _ c gr ds by_ ((fullM c gr ds ++ [(by_ : Int)]).take k) _ (HNW.out.next HK2.out) HY.out (by rw [List.length_take, List.length_append, HL.out]; simp; omega) rfl (by rw [HL.out]; omega) (by omega) (fun x hx => HF.out x (List.mem_of_mem_take hx)) (by
    rw [List.take_append_of_le_length (by rw [HL.out]; omega)]
    exact Rd.front HB.out (List.take_append_drop k _).symm) (Nat.le_refl _)).mono ?_
  rintro e w3 ⟨hb3, ⟨_, rfl⟩ | ⟨h, _⟩ | ⟨h, _⟩⟩
  · have HK3 := hid (on HK2.out hb3)
    have HB3 := hid (HB.out.now hb3)
    clear hb3 hks
    go_upto_region 9 with (refine wpList_store_new rfl _ _ _ rfl rfl _ (msgC zM false none 0 0) rfl rfl (by kernel_rfl) rfl (msgC_one _ _ _ _ _) ?_)
    have HK4 := hid (on HK3.out (below_alloc w3 (.cells (msgC zM false none 0 0) 25)))
    have HB4 := hid (HB3.out.alloc (.cells (msgC zM false none 0 0) 25))
    generalize w3.alloc (.cells (msgC zM false none 0 0) 25) = w4 at *
    clear HK3 HB3 HB HK2 HX1 HK1
    have O5 := hid (own_new w4 w4.heap.size [] #[] 0 (Nat.le_refl _) rfl rfl (by unfold maxLen; omega))
    have K5 := hid (below_alloc w4 (.cells #[] 5))
    have R5 := hid (HB4.out.alloc (.cells #[] 5))
    go_wp2_with (first
      | (at_builtin; (refine wpList_app rfl (.tmp 41) (.tmp 42) rfl w4.heap.size _ [] O5.out rfl _ B L cb (fullM c gr ds) rfl HL.out R5.out (by simp; omega) (by rw [World.size_alloc]; omega) ?_); intro v6 w6 hown6 hg6; have O6 := hid hown6; have K6 := hid (K5.out.trans (hg6.below O5.out (by rw [World.size_alloc]; omega))); clear hown6 hg6)
      | (at_builtin; (refine wpList_app rfl (.tmp 43) (.tmp 45) rfl w4.heap.size _ ([] ++ fullM c gr ds) (O6.out.alloc _) rfl _ _ 1 1 [(by_ : Int)] rfl rfl (rd_one _ _) (by rw [List.nil_append, HL.out]; omega) (by rw [World.size_alloc]; have := K6.out.size; omega) ?_); intro v7 w7 hown7 hg7; have O7 := hid hown7; have K7 := hid ((on K6.out (below_alloc w6 (.cells #[.int .u8 by_] 5))).trans (hg7.below (O6.out.alloc _) (by rw [World.size_alloc]; have := K6.out.size; omega))); clear hown7 hg7))
    have h7 := O7.out
    rw [List.nil_append] at h7
    obtain ⟨A7, c7, rfl, r7, hc7, _⟩ := h7.shape
    clear h7 O7
    obtain ⟨M, hM⟩ : ∃ M, (fullM c gr ds ++ [(by_ : Int)]).length = M := ⟨_, rfl⟩
    rw [hM] at hc7 ⊢
    have HM := hid hM
    have HM2 := hid (show M = (fullM c gr ds).length + 1 by rw [← hM, List.length_append]; rfl)
    have HR7 := hid r7
    clear hM r7
    refine (getm_cut A7 c7 M _ c gr ds by_ (fullM c gr ds ++ [(by_ : Int)]) _ (HNW.out.next (HK4.out.trans (K7.out.mono HK4.out.size))) HY.out HM.out (by rw [← HM.out, List.take_length]) (by rw [HM2.out]; omega) hc7 HF.out HR7.out (Nat.le_refl _)).mono ?_
    rintro e w8 ⟨hb8, ⟨h, _⟩ | ⟨_, rfl⟩ | ⟨h, _⟩⟩
    · rw [HM2.out] at h; omega
    · have HK8 := hid ((HK4.out.trans (K7.out.mono HK4.out.size)).trans (hb8.mono (Nat.le_trans HK4.out.size K7.out.size)))
      clear hb8
      go_wp2_with (refine wpList_store_new rfl _ _ _ rfl rfl _ (msgC zM false none 0 0) rfl rfl (by kernel_rfl) rfl (msgC_one _ _ _ _ _) ?_)
      go_ret
      exact ⟨rfl, on HK8.out (below_alloc w8 _)⟩
    · rw [HM2.out] at h; omega
  · rw [HL.out] at h; omega
  · rw [HL.out] at h; omega

set_option maxRecDepth 100000 in
set_option maxHeartbeats 1000000 in
theorem cut_walk (D : Option Addr) (n cp : Nat) (c : Nat → Int) (gr : Bool) (ds : List Int) (m by_ : Nat) (w : World) (hN : Nm w) (hm : m ≤ 255) (hby : by_ ≤ 255) (hn : ds.length = n) (hnm : n ≤ maxLen) (hr : Rn w D ds) (hdb : ∀ x ∈ ds, 0 ≤ x ∧ x ≤ 255) :
    Calls Tryd.prog 5 #[.agg (msgC c gr D n cp), .int .u8 m, .int .u8 by_] w fun e w' => e = .returned (.bool true) ∧ Below w.heap.size w w' := by
  by_cases hy : RightM c gr n
  · subst hn
    exact cut_yes D cp c gr ds m by_ w hN hm hby hr hdb hy
  · have X0 := Bx.new w 25 (msgC c gr D n cp)
    have K0 := below_alloc w (.cells (msgC c gr D n cp) 25)
    unfold maxLen at hnm
    have hd : decide ((n : Int) > 300) = false ∨ decide ((n : Int) > 300) = true := by cases decide ((n : Int) > 300) <;> simp
    have HNW := hid hN
    have HY := hid hy
    clear hr hy hn hN
    rcases hd with hd | hd
    all_goals
      go_enter Tryd.func5, Tryd.ntmps5
      go_wp2_with fail
      refine (wakes_any _ (HNW.out.next K0)).mono ?_
      rintro e w1 ⟨rfl, hb1⟩
      have HX1 := hid (X0.next hb1)
      have HK1 := hid (on K0 hb1)
      have c10 : w1.cell? ⟨w.heap.size, 10, none⟩ = some (.slice D n cp) := by rw [HX1.out.cell]; rfl
      clear X0 K0 hb1
    · go_wp2_with (refine wpList_load_bx rfl 25 (.tmp 3) rfl _ _ _ _ rfl HX1.out Tryd.underlying25 rfl (by kernel_rfl) ?_)
      refine (putm_no c gr D n cp _ (HNW.out.next HK1.out) HY.out).mono ?_
      rintro e w2 ⟨rfl, hb2⟩
      go_wp2
      go_ret
      exact ⟨rfl, on HK1.out hb2⟩
    · go_wp2_with fail
      go_ret
      exact ⟨rfl, HK1.out⟩
end Go.Proofs.YtihldenljddmoaaDoor
