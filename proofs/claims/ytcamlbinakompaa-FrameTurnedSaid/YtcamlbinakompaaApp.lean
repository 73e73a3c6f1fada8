/-
  What is proved: append onto a row of bytes of the call's own, from any bytes that are read, nil among them, as a step of the walk. Condition: together they are no more than 2^47 bytes.
-/
import Derived.Test.YtcamlbinakompaaRows
import Derived.Test.YtcamlbinakompaaMem
namespace Go.Proofs.Ytcamlbinakompaa
open Go.RowKit

theorem infoByte : (Try.prog.info? 5).map (fun i => (i.zero, i.size, i.bytes)) = some (some (.int .u8 0), 1, 1) := by kernel_rfl

/-- a row of the call's own that nobody has written to is as it was; the other one has grown -/
def GrownAt (w w' : World) (v v' : Value) : Prop := w.grownBy w' v.ownBlock ∧ (v'.ownBlock = v.ownBlock ∨ v'.ownBlock = some w.heap.size)

theorem GrownAt.below {w w' : World} {v v' : Value} {b : Nat} {l : List Int} (h : GrownAt w w' v v') (ho : Own w b v l) (hb : b ≤ w.heap.size) : Below b w w' :=
  (Below.refl b w).grown h.1 hb fun k hk => (World.ownsRow.lt ho k hk).1

theorem GrownAt.other {w w' : World} {v v' u : Value} {c : Nat} {k : List Int} (h : GrownAt w w' v v') (ho : Own w c u k) (hne : u.ownBlock = none ∨ u.ownBlock ≠ v.ownBlock) : Own w' c u k :=
  World.ownsRow.kept ho h.1 hne

set_option maxRecDepth 100000 in
theorem run_app (w : World) (ty : TypeId) (b : Nat) (v : Value) (l : List Int) (hown : Own w b v l) (C : Nat) (A : Option Addr) (m c : Nat) (news : List Int)
    (hm : news.length = m) (hr : Rd w C A news) (hbytes : l.length + m ≤ 140737488355328) (hbase : b ≤ w.heap.size) :
    ∃ v' w', (Builtin.append_ #[22, 22] ty #[v, .slice A m c]).run Try.prog w = .ok v' w' ∧ Own w' b v' (l ++ news) ∧ GrownAt w w' v v' := by
  obtain ⟨i, hi, hz, hs, hb⟩ := info_parts infoByte
  subst hm
  rcases A with _ | ad
  · have hnews : news = [] := by
      cases news with
      | nil => rfl
      | cons x r => obtain ⟨_, e, _⟩ := hr 0 x rfl; cases e
    subst hnews
    refine ⟨v, w, ?_, by rw [List.append_nil]; exact hown, World.grownBy.refl w _, .inl rfl⟩
    rcases hown.2 with ⟨rfl, _⟩ | ⟨g, cap, cur, rfl, _, _, hnc, _⟩
    · simp [Builtin.append_, run_underlying Try.underlying22, sizeOf, typeInfo, hi, Builtin.lenOf, Builtin.firstCells]
    · simp [Builtin.append_, run_underlying Try.underlying22, sizeOf, typeInfo, hi, Builtin.lenOf, Builtin.firstCells, hnc, storeCells]
  · have hc : ∀ j u, (bytes news)[j]? = some u → w.cell? (ad.add j) = some u := by
      intro j u hu
      simp only [bytes, List.getElem?_map, Option.map_eq_some_iff] at hu
      obtain ⟨x, hx, rfl⟩ := hu
      obtain ⟨ad', e, _, hh⟩ := hr j x hx
      injection e with e
      subst e
      exact hh
    obtain ⟨v', w', hrun, h2, h3, _, h5⟩ := run_append_own_at (P := Try.prog) w b 22 ty 5 i (.int .u8 0) 1 1 Try.underlying22 hi hz hs hb rfl (by decide) v l.length (bytes l) hown ad news.length c (bytes news)
      (by rw [bytes_length, Nat.mul_one]) hc (bytes_one _) (by unfold maxLen; omega) (by omega) hbase
    refine ⟨v', w', hrun, ?_, h3, h5⟩
    unfold Own
    rw [List.length_append]
    have e : bytes (l ++ news) = bytes l ++ bytes news := by simp [bytes]
    rw [e]
    exact h2

theorem wpList_app {w : World} {ops : Array Oper} {rest : List Oper} {o : Oper} {a : Act} {Q : Exit → Act → World → Prop} (hgd : o.guard = none) (s x : Operand)
    (ho : o.op = .call { callee := .builtin .append, args := #[s, x], argTypes := #[22, 22] }) (b : Nat) (v : Value) (l : List Int) (hown : Own w b v l) (hs : a.eval s = v) (C : Nat) (A : Option Addr) (m c : Nat) (news : List Int)
    (hx : a.eval x = .slice A m c) (hm : news.length = m) (hr : Rd w C A news) (hbytes : l.length + m ≤ 140737488355328) (hbase : b ≤ w.heap.size)
    (h : ∀ v' w', Own w' b v' (l ++ news) → GrownAt w w' v v' → wpList Try.prog ops Q rest (a.put o.dst v') w') : wpList Try.prog ops Q (o :: rest) a w := by
  refine wpList_plain hgd fun K hK => ?_
  obtain ⟨v', w', hrun, h2, h3⟩ := run_app w o.type b v l hown C A m c news hm hr hbytes hbase
  unfold Oper.wp execOp
  simp only [ho, resolve, invoke, builtin, Sem.run_bind, Sem.run_pure, Result.andThen_ok, List.map_toArray, List.map_cons, List.map_nil, hs, hx, hrun]
  exact hK _ _ (h v' w' h2 h3)

theorem own_nil (w : World) (b : Nat) : Own w b (.slice none 0 0) [] := World.ownsRow_nil w b _ 1
/-- bytes in a new block -/
theorem own_new (w : World) (b : Nat) (l : List Int) (cs : Array Value) (n : Nat) (hb : b ≤ w.heap.size) (hcs : cs.toList = bytes l) (hn : l.length = n) (hm : n ≤ maxLen) :
    Own (w.alloc (.cells cs 5)) b (.slice (some ⟨w.heap.size, 0, none⟩) n n) l := by
  subst hn
  have h := World.ownsRow_lit (size := 1) (e := 5) (base := b) w cs l.length hb hm (by rw [← Array.length_toList, hcs, bytes_length, Nat.mul_one])
  rw [hcs] at h
  exact h
theorem rd_new (w : World) (l : List Int) (cs : Array Value) (hcs : cs.toList = bytes l) (hm : l.length ≤ maxLen) :
    Rd (w.alloc (.cells cs 5)) (w.heap.size + 1) (some ⟨w.heap.size, 0, none⟩) l := by
  obtain ⟨A, c, e, hr, _⟩ := (own_new w w.heap.size l cs _ (Nat.le_refl _) hcs rfl hm).shape
  injection e with e1 e2 e3
  subst e1
  exact hr.more (by simp)
theorem rd_one (w : World) (x : Int) : Rd (w.alloc (.cells #[.int .u8 x] 5)) (w.heap.size + 1) (some ⟨w.heap.size, 0, none⟩) [x] :=
  rd_new w [x] _ rfl (by simp [maxLen])
end Go.Proofs.Ytcamlbinakompaa
