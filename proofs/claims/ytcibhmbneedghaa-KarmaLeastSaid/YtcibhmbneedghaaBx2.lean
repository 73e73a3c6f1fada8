/-
  What is proved: a whole aggregate stored into a block that is known whole, as a step of the walk; results of which the first lies in such a block. No condition on a program.
-/
import Derived.Test.YtcibhmbneedghaaBx
import Derived.Laws.CopyOwn
namespace Go.Proofs.Ytcibhmbneedghaa
open Go.RowKit

section
variable {w w' : World} {g : Nat} {t : TypeId} {cs cs' : Array Value}
theorem Bx.row (h : Bx w g t cs) : Bx (w.setRow g cs') g t cs' := setRow_heap w g cs cs' t (0, 0) h
theorem Bx.rowFar (h : Bx w g t cs) {k : Nat} (hk : g ≠ k) : Bx (w.setRow k cs') g t cs := (setRow_other w k g cs' hk).trans h
theorem Bx.draws (h : Bx w g t cs) (n : Nat) : Bx (w.drewN n) g t cs := h
end
section
variable {P : Program} {w : World} {ops : Array Oper} {rest : List Oper} {o : Oper} {a : Act} {Q : Exit → Act → World → Prop}
theorem wpList_store_bx (hgd : o.guard = none) (ty : TypeId) (p x : Operand) (ho : o.op = .store ty p x) (hd : o.dst = none) (g : Nat) (t : TypeId) (cs cs' : Array Value) (hp : a.eval p = .pointer (some ⟨g, 0, none⟩)) (hx : a.eval x = .agg cs') (hb : Bx w g t cs)
    (hi : (P.info? ty).map (·.size) = some cs'.size) (hc : cs.size = cs'.size) (h1 : cs'.all (·.oneCell') = true) (h : wpList P ops Q rest a (w.setRow g cs')) : wpList P ops Q (o :: rest) a w :=
  wpList_plain hgd fun K hK => wp_store_row ty p x ho g cs' hp hx t cs hb hi hc h1 (by
    have := hK _ _ h
    simpa [hd, Act.put] using this)
theorem results_bx3 {fn : Func} {s b c : Tmp} {ty : TypeId} (h : fn.results = #[.cell s ty, .tmp b, .tmp c]) (tmps : Array Value) {g : Nat} {t : TypeId} {cs : Array Value} {d : TypeDesc} (hs : tmps.getD s undef = .pointer (some ⟨g, 0, none⟩)) (hb : Bx w g t cs)
    (hu : P.underlying ty = some d) (hd : (match d with | .struct _ | .array _ _ => true | _ => false) = true) (hi : (P.info? ty).map (·.size) = some cs.size) :
    (results fn tmps).run P w = .ok (.tuple #[.agg cs, tmps.getD b undef, tmps.getD c undef]) w := by
  have := run_loadVar_row (P := P) w g t ty cs (0, 0) d hb hu hd hi
  rw [Array.getD_eq_getD_getElem?] at hs
  simp [results, h, hs, asAddr, this]
theorem results_bx2 {fn : Func} {s b : Tmp} {ty : TypeId} (h : fn.results = #[.cell s ty, .tmp b]) (tmps : Array Value) {g : Nat} {t : TypeId} {cs : Array Value} {d : TypeDesc} (hs : tmps.getD s undef = .pointer (some ⟨g, 0, none⟩)) (hb : Bx w g t cs)
    (hu : P.underlying ty = some d) (hd : (match d with | .struct _ | .array _ _ => true | _ => false) = true) (hi : (P.info? ty).map (·.size) = some cs.size) :
    (results fn tmps).run P w = .ok (.tuple #[.agg cs, tmps.getD b undef]) w := by
  have := run_loadVar_row (P := P) w g t ty cs (0, 0) d hb hu hd hi
  rw [Array.getD_eq_getD_getElem?] at hs
  simp [results, h, hs, asAddr, this]
end
end Go.Proofs.Ytcibhmbneedghaa
