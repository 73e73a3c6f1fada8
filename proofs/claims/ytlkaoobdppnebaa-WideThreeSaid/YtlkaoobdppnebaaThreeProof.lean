/-
  What is proved: for all fractions WideThree returns true: to be no less goes on over three. No condition.
-/
import Derived.Test.YtlkaoobdppnebaaThree
import Derived.Test.YtlkaoobdppnebaaRows
import Derived.WalkKit
import Derived.ProofKit
import Derived.OpenShut
import Derived.ChangeOld
import Derived.Below
import Derived.ShutString
import Derived.Lib.SmallJoins
namespace Go.Proofs.Ytlkaoobdppnebaa.wideThree
open Go.ChangeShapes Go.WideShapes Go.ChangeAt Go.RowKit Go.Joins
set_option linter.unusedVariables false

theorem own : ownKnob Try.prog.godebug = none := by kernel_rfl
theorem cells37 : Try.prog.cellsOf 37 = 2 := by kernel_rfl

theorem walk (a0x a0y : Int) (w0x : (Lit.int .i64 a0x).wf = true) (w0y : (Lit.int .i64 a0y).wf = true) (a1x a1y : Int) (w1x : (Lit.int .i64 a1x).wf = true) (w1y : (Lit.int .i64 a1y).wf = true) (a2x a2y : Int) (w2x : (Lit.int .i64 a2x).wf = true) (w2y : (Lit.int .i64 a2y).wf = true) (w : World) :
    Calls Try.prog 8 #[.agg #[.int .i64 a0x, .int .i64 a0y], .agg #[.int .i64 a1x, .int .i64 a1y], .agg #[.int .i64 a2x, .int .i64 a2y]] w fun e w' => e = .returned (.bool true) ∧ Below w.heap.size w w' := by
  exact three_walk a0x a0y a1x a1y a2x a2y w

set_option maxRecDepth 100000 in
theorem lifted (os : Os) (started : os.Started) (H : Type) (enc : TypeId × Value → H) :
    ReturnsInHanded {} Try.checked os 8 .any (Rows.wideThreeSpec.pre6 enc Try.prog Try.f8 Rows.wideThreeRow.domain false) (Rows.wideThreeSpec.post enc Try.prog Try.f8 false true false false) := by
  refine returnsInHanded_of_change (C := Try.checked) own started (by kernel_rfl) Try.func8
    (ChangeSpec.witness6 (enc := enc) (C := Try.checked) false ⟨#[], #[.agg #[.int .i64 0, .int .i64 0], .agg #[.int .i64 0, .int .i64 0], .agg #[.int .i64 0, .int .i64 0]], []⟩ 8 (by kernel_rfl) (by kernel_rfl) (by kernel_rfl) (by kernel_rfl)) ?_
  intro W base args ds gs before hval0 hW hcnd _
  have hval : ∀ (j : Nat) t v, Try.f8.params[j]? = some t → args[j]? = some v → Value.okWide Try.prog W .any base t v := hval0
  have hW' := hW
  obtain ⟨p, q, hA0, hV, rfl, hfz, hnd⟩ := hW
  have hA : DataW.TrodAll enc Try.prog W 0 (fun _ => true) true Try.f8.params.toList args.toList ds p := hA0
  rw [Try.params8] at hA hval
  obtain ⟨v0, vs0, d0, ds0, p0, q0, hargs, rfl, rfl, h0, r0⟩ := trodAll_cons hA
  obtain ⟨v1, vs1, d1, ds1, p1, q1, rfl, rfl, rfl, h1, r1⟩ := trodAll_cons r0
  obtain ⟨v2, vs2, d2, ds2, p2, q2, rfl, rfl, rfl, h2, r2⟩ := trodAll_cons r1
  obtain ⟨rfl, rfl, rfl⟩ := trodAll_nil r2
  obtain rfl : args = #[v0, v1, v2] := by cases args; simp_all
  obtain ⟨rfl, rfl⟩ := trodVars_none hV
  obtain ⟨c0x, c0y, y0x, y0y, m0, rfl, rfl, rfl, hy0x, hy0y⟩ := open_agg2 Try.underlying37 (by kernel_rfl) cells37 (hval 0 37 v0 rfl rfl) h0
  obtain ⟨a0x, e0x, rfl, w0x⟩ := DataW.trod_int Try.underlying3 hy0x
  simp only [List.cons.injEq, and_true] at e0x; subst e0x
  obtain ⟨a0y, e0y, rfl, w0y⟩ := DataW.trod_int Try.underlying3 hy0y
  simp only [List.cons.injEq, and_true] at e0y; subst e0y
  have back0 : ∀ (W' : World) (sp : Nat → Bool), DataW.Trod enc Try.prog W' 0 sp true 37 (.agg #[.int .i64 a0x, .int .i64 a0y]) (.agg [.lit (.int .i64 a0x), .lit (.int .i64 a0y)]) [] := fun W' sp =>
    shut_agg2 (y0 := (.lit (.int .i64 a0x), [])) (y1 := (.lit (.int .i64 a0y), [])) Try.underlying37 (by kernel_rfl) cells37 ⟨1, by simp [DataW.trod, Try.underlying3, w0x]⟩ ⟨1, by simp [DataW.trod, Try.underlying3, w0y]⟩
  obtain ⟨c1x, c1y, y1x, y1y, m1, rfl, rfl, rfl, hy1x, hy1y⟩ := open_agg2 Try.underlying37 (by kernel_rfl) cells37 (hval 1 37 v1 rfl rfl) h1
  obtain ⟨a1x, e1x, rfl, w1x⟩ := DataW.trod_int Try.underlying3 hy1x
  simp only [List.cons.injEq, and_true] at e1x; subst e1x
  obtain ⟨a1y, e1y, rfl, w1y⟩ := DataW.trod_int Try.underlying3 hy1y
  simp only [List.cons.injEq, and_true] at e1y; subst e1y
  have back1 : ∀ (W' : World) (sp : Nat → Bool), DataW.Trod enc Try.prog W' 0 sp true 37 (.agg #[.int .i64 a1x, .int .i64 a1y]) (.agg [.lit (.int .i64 a1x), .lit (.int .i64 a1y)]) [] := fun W' sp =>
    shut_agg2 (y0 := (.lit (.int .i64 a1x), [])) (y1 := (.lit (.int .i64 a1y), [])) Try.underlying37 (by kernel_rfl) cells37 ⟨1, by simp [DataW.trod, Try.underlying3, w1x]⟩ ⟨1, by simp [DataW.trod, Try.underlying3, w1y]⟩
  obtain ⟨c2x, c2y, y2x, y2y, m2, rfl, rfl, rfl, hy2x, hy2y⟩ := open_agg2 Try.underlying37 (by kernel_rfl) cells37 (hval 2 37 v2 rfl rfl) h2
  obtain ⟨a2x, e2x, rfl, w2x⟩ := DataW.trod_int Try.underlying3 hy2x
  simp only [List.cons.injEq, and_true] at e2x; subst e2x
  obtain ⟨a2y, e2y, rfl, w2y⟩ := DataW.trod_int Try.underlying3 hy2y
  simp only [List.cons.injEq, and_true] at e2y; subst e2y
  have back2 : ∀ (W' : World) (sp : Nat → Bool), DataW.Trod enc Try.prog W' 0 sp true 37 (.agg #[.int .i64 a2x, .int .i64 a2y]) (.agg [.lit (.int .i64 a2x), .lit (.int .i64 a2y)]) [] := fun W' sp =>
    shut_agg2 (y0 := (.lit (.int .i64 a2x), [])) (y1 := (.lit (.int .i64 a2y), [])) Try.underlying37 (by kernel_rfl) cells37 ⟨1, by simp [DataW.trod, Try.underlying3, w2x]⟩ ⟨1, by simp [DataW.trod, Try.underlying3, w2y]⟩
  clear hA0 hval0
  simp only [List.append_nil] at hW'
  refine (walk a0x a0y w0x w0y a1x a1y w1x w1y a2x a2y w2x w2y W).mono fun e W' ⟨he, hg⟩ => ?_
  subst he
  exact ⟨_, rfl, _, _, _, [], [], [], hW', (trodAll_cons_mk (shut_bool Try.underlying4 _) trodAll_mk0), (trodAll_cons_mk (back0 _ _) (trodAll_cons_mk (back1 _ _) (trodAll_cons_mk (back2 _ _) trodAll_mk0))), rfl, hg.frame _, fun h => by cases h⟩

theorem over : Rows.wideThreeRow.holds Try.pinned (OpenSpec.ofChange Rows.wideThreeSpec) :=
  OpenClaim.holds_of_wide 8 Try.f8 rfl rfl rfl rfl rfl rfl rfl ⟨rfl, rfl, rfl, rfl, rfl⟩ rfl rfl rfl rfl rfl (by kernel_rfl) Try.func8 (by kernel_rfl)
    (of_decide_eq_true (by kernel_rfl)) (by unfold Func.isWrapper; first | (rw [if_pos (by decide +kernel)]; kernel_rfl) | (rw [if_neg (by decide +kernel)]; exact ⟨rfl, rfl⟩))
    (fun os started H enc _ => lifted os started H enc)

/-- THE STATEMENT -/
theorem proved : Rows.WideThreeSaid :=
  over
#print axioms proved
end Go.Proofs.Ytlkaoobdppnebaa.wideThree
