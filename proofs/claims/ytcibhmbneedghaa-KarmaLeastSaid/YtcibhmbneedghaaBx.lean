/-
  What is proved: a block of the call's own that is known whole, kept over whatever leaves it alone; a whole aggregate loaded out of it, as a step of the walk. No condition on a program.
-/
import Derived.Test.YtcibhmbneedghaaHint
import Derived.Test.YtcibhmbneedghaaWhole
namespace Go.Proofs.Ytcibhmbneedghaa
open Go.RowKit

/-- block g holds just these cells -/
def Bx (w : World) (g : Nat) (t : TypeId) (cs : Array Value) : Prop := w.heap[g]? = some (.cells cs t (0, 0))
section
variable {w w' : World} {g : Nat} {t : TypeId} {cs : Array Value}
theorem Bx.lt (h : Bx w g t cs) : g < w.heap.size := by
  rcases Nat.lt_or_ge g w.heap.size with hlt | hge
  · exact hlt
  · unfold Bx at h; rw [Array.getElem?_eq_none hge] at h; cases h
theorem Bx.cell (h : Bx w g t cs) (i : Nat) : w.cell? ⟨g, i, none⟩ = cs[i]? := cell_of_row w g i cs t (0, 0) h
theorem Bx.free (h : Bx w g t cs) (i : Nat) : w.frozen? ⟨g, i, none⟩ = false := by
  unfold Bx at h
  simp [World.frozen?, h]
theorem Bx.next (h : Bx w g t cs) (hb : Below w.heap.size w w') : Bx w' g t cs := (hb.block g h.lt).trans h
theorem Bx.alloc (h : Bx w g t cs) (o : Obj) : Bx (w.alloc o) g t cs := h.next (below_alloc w o)
theorem Bx.new (w : World) (t : TypeId) (cs : Array Value) : Bx (w.alloc (.cells cs t)) w.heap.size t cs := heap_alloc_new w _
theorem Bx.set (h : Bx w g t cs) (i : Nat) (u : Value) : Bx (w.setCell ⟨g, i, none⟩ u) g t (cs.setIfInBounds i u) := by
  unfold Bx at h ⊢
  simp [World.setCell, Array.getElem?_modify, h]
theorem Bx.far (h : Bx w g t cs) (p : Addr) (u : Value) (hp : p.block ≠ g) : Bx (w.setCell p u) g t cs := (Below.heap_setCell w p u g (fun e => hp e.symm)).trans h
theorem Bx.arr {f : Nat → Value} {n : Nat} (h : Bx w g t cs) (hf : ∀ i, i < n → cs[i]? = some (f i)) : Arr w g n f := ⟨h.lt, fun i hi => (h.cell i).trans (hf i hi), fun i _ => h.free i⟩
end

section
variable {P : Program} {w : World} {ops : Array Oper} {rest : List Oper} {o : Oper} {a : Act} {Q : Exit → Act → World → Prop}
theorem run_loadAt_bx {g : Nat} {t ty : TypeId} {cs : Array Value} {d : TypeDesc} (h : Bx w g t cs) (hu : P.underlying ty = some d) (hd : (match d with | .struct _ | .array _ _ => true | _ => false) = true) (hi : (P.info? ty).map (·.size) = some cs.size) :
    (Instr.loadAt ty (.pointer (some ⟨g, 0, none⟩))).run P w = .ok (.agg cs) w := by
  simp only [Instr.loadAt, Instr.sureAddr, Sem.run_bind, Sem.run_pure, Result.andThen]
  exact run_loadVar_row w g t ty cs (0, 0) d h hu hd hi
theorem wpList_load_bx (hgd : o.guard = none) (ty : TypeId) (p : Operand) (ho : o.op = .load ty p) (g : Nat) (t : TypeId) (cs : Array Value) (d : TypeDesc) (hp : a.eval p = .pointer (some ⟨g, 0, none⟩)) (hb : Bx w g t cs)
    (hu : P.underlying ty = some d) (hd : (match d with | .struct _ | .array _ _ => true | _ => false) = true) (hi : (P.info? ty).map (·.size) = some cs.size) (h : wpList P ops Q rest (a.put o.dst (.agg cs)) w) : wpList P ops Q (o :: rest) a w := by
  refine wpList_plain hgd fun K hK => ?_
  have hrun := run_loadAt_bx (P := P) hb hu hd hi
  unfold Oper.wp execOp
  simp only [ho, hp, hrun, Sem.run_bind, Sem.run_pure, Result.andThen_ok]
  exact hK _ _ h
end
end Go.Proofs.Ytcibhmbneedghaa
