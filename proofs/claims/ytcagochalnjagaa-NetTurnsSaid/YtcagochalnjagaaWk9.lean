/-
  What is proved: the fixed fact that each statement of this layer asks first holds; NetNil's walk. Condition: the act is read as such.
-/
import Derived.Test.YtcagochalnjagaaDo9
namespace Go.Proofs.Ytcagochalnjagaa
open Go.RowKit

theorem rn_one (w : World) (x : Int) : Rn (w.alloc (.cells #[.int .u8 x] 5)) (some ⟨w.heap.size, 0, none⟩) [x] := by
  intro j u hu
  have hj : j = 0 := by
    rcases Nat.lt_or_ge j 1 with h | h
    · omega
    · rw [List.getElem?_eq_none (by simpa using h)] at hu; cases hu
  subst hj
  refine ⟨_, rfl, by rw [World.size_alloc]; exact Nat.lt_succ_self _, ?_⟩
  simp only [List.getElem?_cons_zero, Option.some.injEq] at hu
  subst hu
  exact World.cell?_alloc_new _ _ _ 0
theorem bs_oneb (w : World) (x : Int) : Bs (w.alloc (.cells #[.int .u8 x] 5)) (.slice (some ⟨w.heap.size, 0, none⟩) 1 1) [x] := ⟨_, 1, rfl, rn_one w x, Nat.le_refl _, by unfold maxLen; omega⟩
/-- two frames of one byte, laid anew -/
theorem two_fin (w : World) (x y : Int) (hx : 0 ≤ x ∧ x ≤ 255) (hy : 0 ≤ y ∧ y ≤ 255) {F : Nat → Prop} (hF : ∀ j, F j → j < w.heap.size) :
    Fin (((w.alloc (.cells #[.int .u8 x] 5)).alloc (.cells #[.int .u8 y] 5)).alloc (.cells #[.slice (some ⟨w.heap.size, 0, none⟩) 1 1, .slice (some ⟨w.heap.size + 1, 0, none⟩) 1 1] 32)) F (some ⟨w.heap.size + 1 + 1, 0, none⟩)
      [.slice (some ⟨w.heap.size, 0, none⟩) 1 1, .slice (some ⟨w.heap.size + 1, 0, none⟩) 1 1] [[x], [y]] := by
  obtain ⟨w1, h1⟩ : ∃ w1, w.alloc (.cells #[.int .u8 x] 5) = w1 := ⟨_, rfl⟩
  have s1 : w1.heap.size = w.heap.size + 1 := by rw [← h1, World.size_alloc]
  have b1 : Bs w1 (.slice (some ⟨w.heap.size, 0, none⟩) 1 1) [x] := by rw [← h1]; exact bs_oneb w x
  rw [h1]
  obtain ⟨w2, h2⟩ : ∃ w2, w1.alloc (.cells #[.int .u8 y] 5) = w2 := ⟨_, rfl⟩
  have s2 : w2.heap.size = w.heap.size + 1 + 1 := by rw [← h2, World.size_alloc, s1]
  have b2 : Bs w2 (.slice (some ⟨w.heap.size + 1, 0, none⟩) 1 1) [y] := by rw [← h2, ← s1]; exact bs_oneb w1 y
  have b1' : Bs w2 (.slice (some ⟨w.heap.size, 0, none⟩) 1 1) [x] := by rw [← h2]; exact b1.below (below_alloc w1 _)
  rw [h2]
  have R := rv_new w2 32 #[.slice (some ⟨w.heap.size, 0, none⟩) 1 1, .slice (some ⟨w.heap.size + 1, 0, none⟩) 1 1]
  rw [s2] at R
  have B3 := below_alloc w2 (.cells #[.slice (some ⟨w.heap.size, 0, none⟩) 1 1, .slice (some ⟨w.heap.size + 1, 0, none⟩) 1 1] 32)
  refine ⟨fun j u hu => ?_, ?_, ?_⟩
  · obtain ⟨ad, e, hb, hc⟩ := R j u hu
    injection e with e
    subst e
    exact ⟨_, rfl, by rw [World.size_alloc, s2]; exact Nat.lt_succ_self _, fun hf => by have h9 : w.heap.size + 1 + 1 < w.heap.size := hF _ hf; omega, hc⟩
  · exact (Cs.one (E := Eb) (b1'.below B3)).append (Cs.one (b2.below B3))
  · intro z hz
    simp only [List.mem_cons, List.not_mem_nil, or_false] at hz
    rcases hz with rfl | rfl
    · exact ⟨fun t ht => by simp at ht; subst ht; exact hx, by simp⟩
    · exact ⟨fun t ht => by simp at ht; subst ht; exact hy, by simp⟩
set_option maxRecDepth 10000 in
set_option maxHeartbeats 400000 in
theorem wakes_any (w : World) : Calls Try.prog 8 #[] w fun e w' => e = .returned (.bool true) ∧ Below w.heap.size w w' := by
  go_enter Try.func8, Try.ntmps8
  go_wp2_with fail
  refine (nnew_any 1 _).mono ?_
  rintro e w1 ⟨k, v, us, rfl, hk, hb, hF⟩
  have K1 := hid (show NI w1 k v us [[]] from hk)
  have B1 := hid hb
  have F1 := hid hF
  have T2 := hid (two_fin w1 1 2 (by omega) (by omega) (fun j hj => Nt.lt hk hj))
  have X1 := below_alloc w1 (.cells #[.int .u8 1] 5)
  have X2 := on X1 (below_alloc _ (.cells #[.int .u8 2] 5))
  have X3 := hid (on X2 (below_alloc _ (.cells #[.slice (some ⟨w1.heap.size, 0, none⟩) 1 1, .slice (some ⟨w1.heap.size + 1, 0, none⟩) 1 1] 32)))
  clear hk hb hF X1 X2
  go_wp2_with fail
  refine (nsend_any (show NI _ k v us [[]] from Nt.below K1.out stb_Es X3.out) 0 _ 2 2 _ [[1], [2]] rfl ⟨Nat.le_refl _, by unfold maxLen; omega⟩ T2.out).mono ?_
  rintro e w2 ⟨rfl, us2, hN, hC⟩
  have K2 := hid (show NI w2 k v us2 [[[1], [2]]] from hN)
  have C2 := hid ((Chg.of X3.out _).trans hC)
  have B2 := hid (B1.out.trans (C2.out.bel B1.out.size F1.out))
  have F2 := hid (show ∀ j, Ft k v us2 j → w.heap.size ≤ j from fun j hj => by
    rcases C2.out.foot j hj with h | h
    · exact F1.out j h
    · have := B1.out.size; omega)
  clear hN hC K1 B1 T2 X3 C2 F1
  go_wp2_with fail
  refine (ntake_any K2.out 0 1).mono ?_
  rintro e w3 ⟨u3, us3, rfl, hB, hN, hC⟩
  have e1 : takeB [[[1], [2]]] 0 1 = [2] := by decide
  have e2 : errS [[[1], [2]]] 0 1 = 0 := by decide
  rw [e1] at hB
  rw [e2]
  have B3 := hid (B2.out.trans (hC.bel B2.out.size F2.out))
  obtain ⟨A, c, rfl, hr, h1, h2⟩ := hB
  have R3 := hid (hr.alloc (.cells #[.int .u8 2] 5))
  have R4 := hid (rn_one w3 2)
  have B4 := hid (on B3.out (below_alloc w3 (.cells #[.int .u8 2] 5)))
  clear hN hC hr h1 h2 e1 e2 K2 B2 F2 B3
  go_wp2_with (go_at_call 14; refine (same_yes A _ 1 1 c 1 [2] _ _ _ rfl rfl (by unfold maxLen; omega) R3.out R4.out).mono ?_; rintro e w5 ⟨rfl, d5, rfl⟩)
  go_ret
  exact ⟨rfl, below_draws B4.out d5⟩
set_option maxRecDepth 10000 in
set_option maxHeartbeats 400000 in
theorem nil_walk (x : A9) (w : World) (_ : x.Good w) : Calls Try.prog 5 #[.agg x.cells.toArray] w fun e w' => e = .returned (.bool true) ∧ Below w.heap.size w w' := by
  obtain ⟨κ, way, i, r, A, c, bs, l⟩ := x
  show Calls Try.prog 5 #[.agg #[.int .i64 κ, .int .i64 way, .int .i64 i, .int .i64 r, .slice A l.length c]] w _
  generalize l.length = n
  obtain ⟨g, hg⟩ : ∃ g, w.heap.size = g := ⟨_, rfl⟩
  obtain ⟨W, hW⟩ : ∃ W, w.alloc (.cells #[.int .i64 κ, .int .i64 way, .int .i64 i, .int .i64 r, .slice A n c] 31) = W := ⟨_, rfl⟩
  have BW : Below w.heap.size w W := by rw [← hW]; exact below_alloc _ _
  have XW : Bx W g 31 #[.int .i64 κ, .int .i64 way, .int .i64 i, .int .i64 r, .slice A n c] := by rw [← hW, ← hg]; exact Bx.new _ _ _
  have HB := hid BW
  have HX := hid XW
  have HG := hid hg
  have HW := hid hW
  clear BW XW hg hW
  go_enter Try.func5, Try.ntmps5
  go_upto_region 1 with fail
  rw [HG.out, HW.out]
  go_upto_region 4 with (go_at_call 8; refine (wakes_any _).mono ?_; rintro e w1 ⟨rfl, hb⟩; have B1 := hid (on HB.out hb); have X1 := hid (HX.out.next hb); clear hb)
  go_upto_region 5 with (first | (with_reducible refine wpList_load_bx rfl 31 (.tmp 1) rfl g _ _ _ rfl X1.out Try.underlying31 rfl (by kernel_rfl) ?_) | (go_at_call 12; refine (ndo_nil _ _ _ _ _ _ _ _).mono ?_; rintro e w2 ⟨rfl, hb⟩; have B2 := hid (on B1.out hb); have X2 := hid (X1.out.next hb); clear hb))
  have y0 : w2.cell? ⟨g, 0, none⟩ = some (.int .i64 κ) := X2.out.cell 0
  have y1 : w2.cell? ⟨g, 1, none⟩ = some (.int .i64 way) := X2.out.cell 1
  by_cases h1 : κ < 1
  · have e1 : nilE κ = 0 := if_neg (by omega)
    rw [e1]
    have d1 : decide ((1 : Int) ≤ κ) = false := by simpa using h1
    clear h1 e1
    go_wp2_with (first | (go_at_call 15; refine (nlen_nil _ _).mono ?_; rintro e w3 ⟨rfl, rfl⟩) | (go_at_call 16; refine (nall_nil _).mono ?_; rintro e w3 ⟨rfl, rfl⟩))
    go_ret
    exact ⟨rfl, B2.out⟩
  by_cases h4 : κ ≤ 4
  · have e1 : nilE κ = 7 := if_pos ⟨by omega, h4⟩
    rw [e1]
    have d1 : decide ((1 : Int) ≤ κ) = true := by simp; omega
    have d2 : decide (κ ≤ (4 : Int)) = true := by simpa using h4
    clear h1 e1 h4
    go_wp2_with (first | (go_at_call 15; refine (nlen_nil _ _).mono ?_; rintro e w3 ⟨rfl, rfl⟩) | (go_at_call 16; refine (nall_nil _).mono ?_; rintro e w3 ⟨rfl, rfl⟩))
    go_ret
    exact ⟨rfl, B2.out⟩
  · have e1 : nilE κ = 0 := if_neg (by omega)
    rw [e1]
    have d1 : decide ((1 : Int) ≤ κ) = true := by simp; omega
    have d2 : decide (κ ≤ (4 : Int)) = false := by simpa using h4
    clear h1 e1 h4
    go_wp2_with (first | (go_at_call 15; refine (nlen_nil _ _).mono ?_; rintro e w3 ⟨rfl, rfl⟩) | (go_at_call 16; refine (nall_nil _).mono ?_; rintro e w3 ⟨rfl, rfl⟩))
    go_ret
    exact ⟨rfl, B2.out⟩
end Go.Proofs.Ytcagochalnjagaa
