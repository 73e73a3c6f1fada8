/-
  What is proved: a whole aggregate stored into a block that was made just now, as a step of the walk; a result that lies in such a block. No condition on a program.
-/
import Derived.WalkKit
import Derived.Deep.WholeRow
namespace Go.Proofs.Ytdpniggabidmbaa
open Go.RowKit

theorem wpList_store_new {P : Program} {w : World} {ops : Array Oper} {rest : List Oper} {o : Oper} {a : Act} {Q : Exit → Act → World → Prop} (hgd : o.guard = none) (t : TypeId) (p x : Operand)
    (ho : o.op = .store t p x) (hd : o.dst = none) (c c' : Array Value) (hp : a.eval p = .pointer (some ⟨w.heap.size, 0, none⟩)) (hx : a.eval x = .agg c') (hi : (P.info? t).map (·.size) = some c'.size) (hc : c.size = c'.size)
    (h1 : c'.all (·.oneCell') = true) (h : wpList P ops Q rest a (w.alloc (.cells c' t))) : wpList P ops Q (o :: rest) a (w.alloc (.cells c t)) := by
  refine wpList_plain hgd fun K hK => ?_
  have hrun := run_storeAt_new (P := P) w t c c' hi hc h1
  unfold Oper.wp execOp
  simp only [ho, hp, hx, hrun, Sem.run_bind, Sem.run_pure, Result.andThen_ok]
  have := hK _ _ h
  simpa [Oper.upon, hd, Act.put] using this
theorem results_new {P : Program} {fn : Func} {s : Tmp} {t : TypeId} (h : fn.results = #[.cell s t]) (w : World) (tmps : Array Value) (hs : tmps.getD s undef = .pointer (some ⟨w.heap.size, 0, none⟩)) (c : Array Value) (n : Nat) (e : TypeId)
    (hu : P.underlying t = some (.array n e)) (hi : (P.info? t).map (·.size) = some c.size) : (results fn tmps).run P (w.alloc (.cells c t)) = .ok (.agg c) (w.alloc (.cells c t)) := by
  have := run_loadVar_new (P := P) w t c n e hu hi
  rw [Array.getD_eq_getD_getElem?] at hs
  simp [results, h, hs, asAddr, this]
theorem results_new' {P : Program} {fn : Func} {s : Tmp} {t : TypeId} (h : fn.results = #[.cell s t]) (w : World) (tmps : Array Value) (hs : tmps.getD s undef = .pointer (some ⟨w.heap.size, 0, none⟩)) (c : Array Value) (d : TypeDesc)
    (hu : P.underlying t = some d) (hd : (match d with | .struct _ | .array _ _ => true | _ => false) = true) (hi : (P.info? t).map (·.size) = some c.size) : (results fn tmps).run P (w.alloc (.cells c t)) = .ok (.agg c) (w.alloc (.cells c t)) := by
  have := run_loadVar_row (P := P) (w.alloc (.cells c t)) w.heap.size t t c (0, 0) d (heap_alloc_last w _) hu hd hi
  rw [Array.getD_eq_getD_getElem?] at hs
  simp [results, h, hs, asAddr, this]
end Go.Proofs.Ytdpniggabidmbaa
