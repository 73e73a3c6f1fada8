/-
  What is proved: the fixed fact that each statement of this layer asks first holds; DirNil's walk. Condition: none.
-/
import Derived.Test.YtdpniggabidmbaaTw17
import Derived.Test.YtdpniggabidmbaaRf10
namespace Go.Proofs.Ytdpniggabidmbaa
open Go.RowKit

abbrev drE1 : DrS := drSet dr0 1 5 true
abbrev drE2 : DrS := drSet drE1 0 5 true
theorem drE_sh : drSh drE2 5 = [0, 1] := by decide +kernel
set_option maxRecDepth 10000 in
set_option maxHeartbeats 1000000 in
theorem wakes_any (w : World) : Calls Try.prog 7 #[] w fun e w' => e = .returned (.bool true) ∧ Below w.heap.size w w' := by
  have HN := hid (dnew_any 2 8 w)
  have ok0 : Dok 2 8 dr0 := Dok.new ⟨by omega, by omega⟩ ⟨by omega, by omega⟩
  have i1 : drIn 2 8 1 5 := by decide
  have i2 : drIn 2 8 0 5 := by decide
  have HOK := hid (And.intro ok0 (And.intro (ok0.set i1 true) ((ok0.set i1 true).set i2 true)))
  have HI := hid (And.intro i1 i2)
  clear ok0 i1 i2
  go_enter Try.func7, Try.ntmps7
  go_wp2_with (first
    | (go_at_call 8; refine HN.out.mono ?_; rintro e w1 ⟨g, rfl, hd, hb, hg, -⟩; have HD1 := hid (show Dm w1 g 2 8 dr0 from hd); have HB1 := hid hb; have HG := hid hg; have HA1 := hid (dadd_yes HD1.out HOK.out.1 HI.out.1); clear hd hb hg)
    | (go_at_call 21; (with_reducible refine HA1.out.mono ?_); rintro e w2 ⟨rfl, hd, hc⟩; have HD2 := hid (show Dm w2 g 2 8 drE1 from hd); have HB2 := hid (HB1.out.trans (hc.bel HB1.out.size fun j e => by rw [e]; exact HG.out)); have HA2 := hid (dadd_yes HD2.out HOK.out.2.1 HI.out.2); clear hd hc)
    | (go_at_call 21; (with_reducible refine HA2.out.mono ?_); rintro e w3 ⟨rfl, hd, hc⟩; have HD3 := hid (show Dm w3 g 2 8 drE2 from hd); have HB3 := hid (HB2.out.trans (hc.bel HB2.out.size fun j e => by rw [e]; exact HG.out)); have HS := hid (dsh_any HD3.out HOK.out.2.2 5); clear hd hc)
    | (go_at_call 12; refine HS.out.mono ?_; rintro e w4 ⟨A, c, rfl, ho, hg⟩; rw [drE_sh] at ho hg ⊢; have HR4 := hid (rw_told ho hg).1; have HB4 := hid (on HB3.out hg.nilBelow); clear ho hg)
    | (go_at_call 11; refine (sameints_yes _ _ _ _ _ _ [0, 1] _ _ _ rfl rfl (by unfold maxLen; decide) (HR4.out.below (below_alloc w4 _)).rd (rv_new w4 3 #[.int .i64 0, .int .i64 1])).mono ?_; rintro e w5 ⟨rfl, d, rfl⟩))
  go_ret
  exact ⟨rfl, below_draws (on HB4.out (below_alloc w4 _)) d⟩
set_option maxRecDepth 10000 in
set_option maxHeartbeats 4000000 in
theorem nil_walk (κ x y : Int) (w : World) : Calls Try.prog 5 #[.agg #[.int .i64 κ, .int .i64 x, .int .i64 y]] w fun e w' => e = .returned (.bool true) ∧ Below w.heap.size w w' := by
  obtain ⟨q, hq⟩ : ∃ q, w.heap.size = q := ⟨_, rfl⟩
  obtain ⟨W, hW⟩ : ∃ W, w.alloc (.cells #[.int .i64 κ, .int .i64 x, .int .i64 y] 30) = W := ⟨_, rfl⟩
  have HX := hid (show Bx W q 30 #[.int .i64 κ, .int .i64 x, .int .i64 y] from by rw [← hW, ← hq]; exact Bx.new _ _ _)
  have HB := hid (show Below w.heap.size w W from by rw [← hW]; exact below_alloc _ _)
  have HWW := hid (And.intro hq hW)
  clear hq hW
  go_enter Try.func5, Try.ntmps5
  go_upto_region 1 with fail
  rw [HWW.out.1, HWW.out.2]
  go_upto_region 4 with (go_at_call 7; refine (wakes_any _).mono ?_; rintro e w1 ⟨rfl, hb⟩; have HX1 := hid (HX.out.next hb); have HB1 := hid (on HB.out hb); clear hb)
  have y1 : w1.cell? ⟨q, 1, none⟩ = some (.int .i64 x) := HX1.out.cell 1
  have y2 : w1.cell? ⟨q, 2, none⟩ = some (.int .i64 y) := HX1.out.cell 2
  go_region_held3 (fun w' => w'.cell? ⟨q, 1, none⟩ = some (.int .i64 x) ∧ w'.cell? ⟨q, 2, none⟩ = some (.int .i64 y)) (first | exact kp | exact ⟨y1, y2⟩) (first
    | (go_at_call 21; refine (dadd_nil _ _ _).mono ?_; rintro e w' ⟨rfl, rfl⟩)
    | (go_at_call 22; refine (drem_nil _ _ _).mono ?_; rintro e w2 ⟨rfl, d2, rfl⟩; have kp := And.intro y1 y2)
    | (go_at_call 16; refine (dhas_nil _ _ _).mono ?_; rintro e w3 ⟨rfl, d3, rfl⟩; have kp := And.intro y1 y2)
    | (go_at_call 12; refine (dsh_nil _ _).mono ?_; rintro e w4 ⟨rfl, hb⟩; have HB4 := hid (show Below w1.heap.size w1 w4 from on (below_draws (Below.refl _ _) _) hb); have kp := And.intro ((HX1.out.next HB4.out).cell 1) ((HX1.out.next HB4.out).cell 2); clear hb)
    | (go_at_call 14; refine (dof_nil _ _).mono ?_; rintro e w5 ⟨rfl, hb⟩; have HB5 := hid (on HB4.out hb); have kp := And.intro ((HX1.out.next HB5.out).cell 1) ((HX1.out.next HB5.out).cell 2); clear hb)
    | (go_at_call 20; refine (dfg_nil _ _).mono ?_; rintro e w6 ⟨rfl, hb⟩; have HB6 := hid (on HB5.out hb); have kp := And.intro ((HX1.out.next HB6.out).cell 1) ((HX1.out.next HB6.out).cell 2); clear hb)
    | (go_at_call 18; refine (dlen_nil _).mono ?_; rintro e w7 ⟨rfl, rfl⟩))
  go_wp2
  go_ret
  exact ⟨rfl, on HB1.out HB6.out⟩
end Go.Proofs.Ytdpniggabidmbaa
