/-
  What is proved: small facts that the references' walks lean on: append onto a row of the call's own at an operation and as a step of a region; rows of bytes; a block laid anew. No condition on a program.
-/
import Derived.Test.YtincndblpbdnlaaSx
import Derived.Deep.RegionLaw
namespace Go.Proofs.Ytincndblpbdnlaa
open Go.RowKit

theorem below_rowR {w : World} {g B : Nat} (cs' : Array Value) (hB : B ≤ g) : Below B w (w.setRow g cs') :=
  ⟨rfl, rfl, rfl, by rw [setRow_size]; exact Nat.le_refl _, fun j hj => setRow_other w g j cs' (by omega)⟩
theorem rv_of_rd {w : World} {B : Nat} {A : Option Addr} {l : List Int} (h : Rd w B A l) : Rv w B A (bytes l) := fun j u hu => by
  simp only [bytes, List.getElem?_map, Option.map_eq_some_iff] at hu
  obtain ⟨x, hx, rfl⟩ := hu
  exact h j x hx
theorem ownV_bs {w : World} {b n : Nat} {v : Value} {l : List Int} (h : OwnV w b 5 1 v n (bytes l)) (hn : l.length = n) : Bs w v l := by
  subst hn
  obtain ⟨A, c, e, r, h1, h2⟩ := h.read
  refine ⟨A, c, e, fun j x hx => ?_, h1, h2⟩
  exact r j _ (by simp [bytes, hx])
theorem Stay.rowR {w : World} {g : Nat} {t : TypeId} {cs cs' : Array Value} (h : Bx w g t cs) (hc : ∀ x, Value.int .u8 x ∉ cs.toList) : Stay w (w.setRow g cs') := fun p x e => by
  by_cases hg : p.block = g
  · have hgt := h
    unfold Bx at hgt
    subst hg
    exfalso
    obtain ⟨b, o, q⟩ := p
    cases q with
    | none =>
      have h2 : w.cell? ⟨b, o, none⟩ = cs[o]? := h.cell o
      rw [h2] at e
      exact hc x (by rw [Array.mem_toList_iff]; exact Array.mem_of_getElem? e)
    | some q => simp [World.cell?, hgt] at e
  · simp only [World.cell?] at e ⊢
    rw [setRow_other w g p.block cs' hg]
    exact e
/-- append onto a row of the call's own, at the operation -/
theorem wp_appV {P : Program} {S e : TypeId} {z : Value} {size bytes : Nat} (E : Elt P S e z size bytes) {w : World} {o : Oper} {a : Act} {K : Act → World → Prop} {Q : Exit → Act → World → Prop} (s x : Operand)
    (ho : o.op = .call { callee := .builtin .append, args := #[s, x], argTypes := #[S, S] }) (b : Nat) (v : Value) (n : Nat) (us : List Value) (hown : OwnV w b e size v n us) (hs : a.eval s = v) (C : Nat) (A : Option Addr) (m c : Nat) (news : List Value)
    (hx : a.eval x = .slice A m c) (hm : news.length = m * size) (hr : Rv w C A news) (h1 : ∀ u ∈ news, u.oneCell' = true) (hlen : n + m ≤ maxLen) (hbytes : (n + m) * bytes ≤ 140737488355328) (hbase : b ≤ w.heap.size)
    (h : ∀ v' w', OwnV w' b e size v' (n + m) (us ++ news) → GrownV w w' v v' → K (a.put o.dst v') w') : o.wp P a w K Q := by
  obtain ⟨v', w', hrun, h2, h3⟩ := run_appV E w o.type b v n us hown C A m c news hm hr h1 hlen hbytes hbase
  unfold Oper.wp execOp
  simp only [ho, resolve, invoke, builtin, Sem.run_bind, Sem.run_pure, Result.andThen_ok, List.map_toArray, List.map_cons, List.map_nil, hs, hx, hrun]
  exact h v' w' h2 h3
/-- append onto a row of the call's own, as one step of a region that draws -/
theorem step_appV {P : Program} {S e : TypeId} {z : Value} {size bytes : Nat} (E : Elt P S e z size bytes) {ops : Array Oper} {w : World} {o : Oper} {a : Act} {K : Act → World → Prop} {Q : Exit → Act → World → Prop} {F : Prop} (hgd : o.guard = none) (s x : Operand)
    (ho : o.op = .call { callee := .builtin .append, args := #[s, x], argTypes := #[S, S] }) (b : Nat) (v : Value) (n : Nat) (us : List Value) (hown : OwnV w b e size v n us) (hs : a.eval s = v) (C : Nat) (A : Option Addr) (m c : Nat) (news : List Value)
    (hx : a.eval x = .slice A m c) (hm : news.length = m * size) (hr : Rv w C A news) (h1 : ∀ u ∈ news, u.oneCell' = true) (hlen : n + m ≤ maxLen) (hbytes : (n + m) * bytes ≤ 140737488355328) (hbase : b ≤ w.heap.size)
    (h : ∀ v' w', OwnV w' b e size v' (n + m) (us ++ news) → GrownV w w' v v' → K (a.put o.dst v') w') : if Region.wanted o (yielded ops a.tmps) = true then Oper.wp P o a w K Q else F := by
  have hw : Region.wanted o (yielded ops a.tmps) = true := by simp [Region.wanted, hgd]
  rw [if_pos hw]
  exact wp_appV E s x ho b v n us hown hs C A m c news hx hm hr h1 hlen hbytes hbase h
theorem infoInt : (Try.prog.info? 3).map (fun i => (i.zero, i.size, i.bytes)) = some (some (.int .i64 0), 1, 8) := by kernel_rfl
theorem elt_int : Elt Try.prog 68 3 (.int .i64 0) 1 8 := ⟨Try.underlying68, infoInt, rfl, by decide⟩
end Go.Proofs.Ytincndblpbdnlaa
