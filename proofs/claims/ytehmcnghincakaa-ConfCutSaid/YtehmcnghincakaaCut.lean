/-
  What is proved: the walk of ConfCut: what is cut off of a configuration's bytes is none, nor what has a byte more. No condition.
-/
import Derived.Test.YtehmcnghincakaaGetC
import Derived.Test.YtehmcnghincakaaPutC
import Derived.Test.YtehmcnghincakaaWake3
import Derived.Deep.DeepCutAuto
import Derived.Deep.CutBlock
import Derived.Deep.DeepMust
namespace Go.Proofs.Ytehmcnghincakaa
open Go.RowKit

theorem full_pos {c : Nat → Int} {hh : Nat → Hn} {n : Nat} : 0 < (full c hh n).length := by
  have := enc_len_pos (nums c n 16)
  unfold full
  rw [encN, List.length_append, List.length_append]
  omega

set_option maxRecDepth 100000 in
set_option maxHeartbeats 4000000 in
theorem cut_yes (A : Option Addr) (n cp : Nat) (c : Nat → Int) (hh : Nat → Hn) (m by_ : Nat) (w : World) (hm : m ≤ 255) (hby : by_ ≤ 255) (hr : Rv w w.heap.size A (hvs hh n)) (hy : RightP c hh n) :
    Calls Try.prog 4 #[.agg (cfgC c A n cp), .int .u8 m, .int .u8 by_] w fun e w' => e = .returned (.bool true) ∧ Below w.heap.size w w' := by
  have hn8 : n ≤ 8 := hy.2.2.2.1
  have hlen := hy.len
  have hpos := full_pos (c := c) (hh := hh) (n := n)
  have X0 := Bx.new w 25 (cfgC c A n cp)
  have K0 := below_alloc w (.cells (cfgC c A n cp) 25)
  have HY := hid hy
  have HR := hid hr
  clear hy hr
  have h20 : decide ((n : Int) > 20) = false := decide_eq_false (by omega)
  go_enter Try.func4, Try.ntmps4
  go_wp2_with fail
  refine (wakes_any _).mono ?_
  rintro e w1 ⟨rfl, hb1⟩
  have HX1 := hid (X0.next hb1)
  have HK1 := hid (on K0 hb1)
  have c16 : w1.cell? ⟨w.heap.size, 16, none⟩ = some (.slice A n cp) := by rw [HX1.out.cell]; rfl
  clear X0 K0 hb1
  go_wp2_with (refine wpList_load_bx rfl _ _ rfl _ _ _ _ rfl HX1.out Try.underlying25 rfl (by kernel_rfl) ?_)
  refine (putc_yes A n cp c hh _ (HR.out.now HK1.out) HY.out).mono ?_
  rintro e w2 ⟨v, rfl, hbs, hb2⟩
  have HK2 := hid (on HK1.out hb2)
  obtain ⟨B, cb, rfl, hrb, hcb, hcm⟩ := hbs
  obtain ⟨L, hL⟩ : ∃ L, (full c hh n).length = L := ⟨_, rfl⟩
  rw [hL] at hcb hlen hpos ⊢
  have HL := hid hL
  have HB := hid hrb
  unfold maxLen at hcm
  clear c16 hb2 hrb hL
  have hkL : m % L < L := Nat.mod_lt _ hpos
  have hks : 0 ≤ (m : Int) % (L : Int) ∧ (m : Int) % (L : Int) ≤ (cb : Int) := by omega
  have HF := hid (show ∀ x ∈ full c hh n ++ [(by_ : Int)], 0 ≤ x ∧ x ≤ 255 from fun x hx => by
    rcases List.mem_append.1 hx with h | h
    · exact full_byte x h
    · simp at h; omega)
  go_wp2_with fail
  generalize m % L = k at *
  refine (getc_cut B cb k _ n c hh by_ ((full c hh n ++ [(by_ : Int)]).take k) _ HY.out (by rw [List.length_take, List.length_append, HL.out]; simp; omega) rfl (by rw [HL.out]; omega) (fun x hx => HF.out x (List.mem_of_mem_take hx)) (by
    rw [List.take_append_of_le_length (by rw [HL.out]; omega)]
    exact Rd.front HB.out (List.take_append_drop k _).symm) (Nat.le_refl _)).mono ?_
  rintro e w3 ⟨hb3, ⟨_, rfl⟩ | ⟨h, _⟩ | ⟨h, _⟩⟩
  · have HK3 := hid (on HK2.out hb3)
    have HB3 := hid (HB.out.now hb3)
    clear hb3 hks
    go_upto_region 9 with (refine wpList_store_new rfl _ _ _ rfl rfl _ (cfgC zC none 0 0) rfl rfl (by kernel_rfl) rfl (one_cells _ _ _ _) ?_)
    have HK4 := hid (on HK3.out (below_alloc w3 (.cells (cfgC zC none 0 0) 25)))
    have HB4 := hid (HB3.out.alloc (.cells (cfgC zC none 0 0) 25))
    generalize w3.alloc (.cells (cfgC zC none 0 0) 25) = w4 at *
    clear HK3 HB3 HB HK2 HX1 HK1
    have O5 := hid (own_new w4 w4.heap.size [] #[] 0 (Nat.le_refl _) rfl rfl (by unfold maxLen; omega))
    have K5 := hid (below_alloc w4 (.cells #[] 5))
    have R5 := hid (HB4.out.alloc (.cells #[] 5))
    go_wp2_with (first
      | (at_builtin; (refine wpList_app rfl (.tmp 41) (.tmp 42) rfl w4.heap.size _ [] O5.out rfl _ B L cb (full c hh n) rfl HL.out R5.out (by simp; omega) (by rw [World.size_alloc]; omega) ?_); intro v6 w6 hown6 hg6; have O6 := hid hown6; have K6 := hid (K5.out.trans (hg6.below O5.out (by rw [World.size_alloc]; omega))); clear hown6 hg6)
      | (at_builtin; (refine wpList_app rfl (.tmp 43) (.tmp 45) rfl w4.heap.size _ ([] ++ full c hh n) (O6.out.alloc _) rfl _ _ 1 1 [(by_ : Int)] rfl rfl (rd_one _ _) (by rw [List.nil_append, HL.out]; omega) (by rw [World.size_alloc]; have := K6.out.size; omega) ?_); intro v7 w7 hown7 hg7; have O7 := hid hown7; have K7 := hid ((on K6.out (below_alloc w6 (.cells #[.int .u8 by_] 5))).trans (hg7.below (O6.out.alloc _) (by rw [World.size_alloc]; have := K6.out.size; omega))); clear hown7 hg7))
    have h7 := O7.out
    rw [List.nil_append] at h7
    obtain ⟨A7, c7, rfl, r7⟩ := h7.read
    clear h7 O7
    obtain ⟨M, hM⟩ : ∃ M, (full c hh n ++ [(by_ : Int)]).length = M := ⟨_, rfl⟩
    rw [hM]
    have HM := hid hM
    have HM2 := hid (show M = (full c hh n).length + 1 by rw [← hM, List.length_append]; rfl)
    have HR7 := hid r7
    clear hM r7
    refine (getc_cut A7 c7 M _ n c hh by_ (full c hh n ++ [(by_ : Int)]) _ HY.out HM.out (by rw [← HM.out, List.take_length]) (by rw [HM2.out]; omega) HF.out HR7.out (Nat.le_refl _)).mono ?_
    rintro e w8 ⟨hb8, ⟨h, _⟩ | ⟨_, rfl⟩ | ⟨h, _⟩⟩
    · rw [HM2.out] at h; omega
    · have HK8 := hid ((HK4.out.trans (K7.out.mono HK4.out.size)).trans (hb8.mono (Nat.le_trans HK4.out.size K7.out.size)))
      clear hb8
      go_wp2_with (refine wpList_store_new rfl _ _ _ rfl rfl _ (cfgC zC none 0 0) rfl rfl (by kernel_rfl) rfl (one_cells _ _ _ _) ?_)
      go_ret
      exact ⟨rfl, on HK8.out (below_alloc w8 _)⟩
    · rw [HM2.out] at h; omega
  · rw [HL.out] at h; omega
  · rw [HL.out] at h; omega

set_option maxRecDepth 100000 in
set_option maxHeartbeats 2000000 in
theorem cut_walk (A : Option Addr) (n cp : Nat) (c : Nat → Int) (hh : Nat → Hn) (m by_ : Nat) (w : World) (hm : m ≤ 255) (hby : by_ ≤ 255) (hn : n ≤ maxLen) (hr : Rv w w.heap.size A (hvs hh n)) :
    Calls Try.prog 4 #[.agg (cfgC c A n cp), .int .u8 m, .int .u8 by_] w fun e w' => e = .returned (.bool true) ∧ Below w.heap.size w w' := by
  by_cases hy : RightP c hh n
  · exact cut_yes A n cp c hh m by_ w hm hby hr hy
  · have X0 := Bx.new w 25 (cfgC c A n cp)
    have K0 := below_alloc w (.cells (cfgC c A n cp) 25)
    have HN := hid hn
    unfold maxLen at hn
    have hd : decide ((n : Int) > 20) = false ∨ decide ((n : Int) > 20) = true := by cases decide ((n : Int) > 20) <;> simp
    have HR := hid hr
    have HY := hid hy
    clear hr hy
    rcases hd with hd | hd
    all_goals
      go_enter Try.func4, Try.ntmps4
      go_wp2_with fail
      refine (wakes_any _).mono ?_
      rintro e w1 ⟨rfl, hb1⟩
      have HX1 := hid (X0.next hb1)
      have HK1 := hid (on K0 hb1)
      have c16 : w1.cell? ⟨w.heap.size, 16, none⟩ = some (.slice A n cp) := by rw [HX1.out.cell]; rfl
      clear X0 K0 hb1
    · go_wp2_with (refine wpList_load_bx rfl _ _ rfl _ _ _ _ rfl HX1.out Try.underlying25 rfl (by kernel_rfl) ?_)
      refine (putc_no A n cp c hh _ HN.out (HR.out.now HK1.out) HY.out).mono ?_
      rintro e w2 ⟨rfl, hb2⟩
      go_wp2
      go_ret
      exact ⟨rfl, on HK1.out hb2⟩
    · go_wp2_with fail
      go_ret
      exact ⟨rfl, HK1.out⟩
end Go.Proofs.Ytehmcnghincakaa
