/-
  What is proved: where the program's table of the kinds' fields is laid as its text lays it, each of its fifteen words is read. No other condition.
-/
import Derived.Test.YtihldenljddmoaaDoorRight4
import Derived.LaidMore
import Derived.Lay
import Derived.OpenShut
namespace Go.Proofs.YtihldenljddmoaaDoor
open Go.RowKit Go.ChangeShapes Go.WideShapes

theorem named_at : ∀ k, k < 15 → ((Rows.laid_gradine_msg_named : DataW Unit) = .agg ((List.range 15).map fun i => .lit (.int .u64 (mk i)))) := fun _ _ => by kernel_rfl
theorem nm_of_laid {W : World} (h : laidMetH Tryd.prog [("gradine/msg.named", Rows.laid_gradine_msg_named)] W) : Nm W := by
  rw [MakeChecks.laidMetH_plain _ _ _ (by kernel_rfl)] at h
  obtain ⟨ps, ⟨g, t, cs, fuel, p, q, hg, ht, hv, hd, _, _⟩, _, _⟩ := h
  obtain rfl := Option.some.inj ((show Tryd.prog.globalNamed "gradine/msg.named" = some 0 by kernel_rfl).symm.trans hg)
  obtain rfl := Option.some.inj ((show (Tryd.prog.globals[0]?).map (·.type) = some 50 by kernel_rfl).symm.trans ht)
  obtain ⟨xs, m, _, ex, _, hl, hel⟩ := DataW.trod_array Tryd.underlying50 hd
  have c5 : Tryd.prog.cellsOf 49 = 1 := by kernel_rfl
  have e3 : (xs.map (·.1)) = (List.range 15).map fun i => .lit (.int .u64 (mk i)) := by
    have := (Prod.mk.inj ex).1
    rw [named_at 0 (by omega)] at this
    exact (DataW.agg.inj this).symm
  have key : ∀ k, k < 15 → W.cell? ⟨0, k, none⟩ = some (.int .u64 (mk k)) := fun k hk => by
    have hE := hel k hk
    rw [c5, Nat.mul_one, List.getElem?_eq_getElem (by omega)] at hE
    obtain ⟨z, e1, e2, _⟩ := DataW.trod_int Tryd.underlying49 hE
    have e4 : (xs.map (·.1))[k]? = ((List.range 15).map fun i => (DataW.lit (.int .u64 (mk i)) : DataW Unit))[k]? := by rw [e3]
    rw [List.getElem?_map, List.getElem?_map, List.getElem?_eq_getElem (by omega : k < xs.length), List.getElem?_range hk, e2] at e4
    have hz : z = mk k := by
      simp only [Option.map_some, Option.some.injEq, DataW.lit.injEq, Lit.int.injEq, true_and] at e4
      exact e4
    rw [World.var?_cell hg hv k, ← hz]
    have : cs.toList[k]? = some (.int .u64 z) := by
      have h0 : ((cs.toList.drop k).take 1)[0]? = some (.int .u64 z) := by rw [e1]; rfl
      simpa using h0
    simpa using this
  exact ⟨World.block_lt_of_cell? W _ (key 0 (by omega)), key⟩
end Go.Proofs.YtihldenljddmoaaDoor
