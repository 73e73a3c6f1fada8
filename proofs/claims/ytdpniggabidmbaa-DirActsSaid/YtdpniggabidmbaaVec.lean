/-
  What is proved: small facts on rows of cells of any kind: cells that are read at an address, kept over draws, new blocks and whatever leaves old blocks alone; append onto a row of the call's own; a struct in a new block. No condition on a program.
-/
import Derived.WalkKit
import Derived.Deep.AppendLies
import Derived.Deep.Draws
import Derived.Maps.AppendAt
namespace Go.Proofs.Ytdpniggabidmbaa
open Go.RowKit

/-- put out of the walk's sight; .out brings it back -/
theorem hid {p : Prop} (h : p) : Hid p := h
/-- a boxed struct of two cells: block k holds a, b -/
def Box (w : World) (k : Nat) (a b : Value) : Prop := k < w.heap.size ∧ w.cell? ⟨k, 0, none⟩ = some a ∧ w.cell? ⟨k, 1, none⟩ = some b
section
variable {w w' : World} {k : Nat} {a b : Value}
theorem Box.next (h : Box w k a b) (hb : Below w.heap.size w w') : Box w' k a b :=
  ⟨Nat.lt_of_lt_of_le h.1 hb.size, (hb.cell (p := ⟨k, 0, none⟩) h.1).trans h.2.1, (hb.cell (p := ⟨k, 1, none⟩) h.1).trans h.2.2⟩
theorem below_alloc (w : World) (o : Obj) : Below w.heap.size w (w.alloc o) := (Below.refl w.heap.size w).alloc (Nat.le_refl _) o
theorem Box.alloc (h : Box w k a b) (o : Obj) : Box (w.alloc o) k a b := h.next (below_alloc w o)
theorem box_new (w : World) (t : TypeId) (a b : Value) : Box (w.alloc (.cells #[a, b] t)) w.heap.size a b :=
  ⟨by rw [World.size_alloc]; omega, World.cell?_alloc_new _ _ _ 0, World.cell?_alloc_new _ _ _ 1⟩
end
/-- how the world came on: each step leaves alone what was there -/
theorem on {B : Nat} {a w w' : World} (h : Below B a w) (k : Below w.heap.size w w') (hB : B ≤ a.heap.size := by exact Nat.le_refl _) : Below B a w' := h.trans (k.mono (Nat.le_trans hB h.size))

/-- the cells at A hold the values us -/
def Rv (w : World) (B : Nat) (A : Option Addr) (us : List Value) : Prop :=
  ∀ j u, us[j]? = some u → ∃ ad, A = some ad ∧ ad.block < B ∧ w.cell? (ad.add j) = some u
theorem addBlk (a : Addr) (n : Nat) : (a.add n).block = a.block := by unfold Addr.add; split <;> rfl
section
variable {w w' : World} {B C : Nat} {A : Option Addr} {us : List Value}
theorem Rv.nil (w : World) (B : Nat) (A : Option Addr) : Rv w B A [] := fun j x h => by simp at h
theorem Rv.get (h : Rv w B A us) {k : Nat} (hk : k < us.length) : ∃ ad, A = some ad ∧ ad.block < B ∧ w.cell? (ad.add k) = some (us[k]'hk) :=
  h k _ (List.getElem?_eq_getElem hk)
theorem Rv.keep (h : Rv w B A us) (hk : ∀ p : Addr, p.block < B → w'.cell? p = w.cell? p) : Rv w' B A us := fun j x hx => by
  obtain ⟨ad, e, hb, hc⟩ := h j x hx
  exact ⟨ad, e, hb, by rw [hk _ (by rw [addBlk]; exact hb)]; exact hc⟩
theorem Rv.more (h : Rv w B A us) (hB : B ≤ C) : Rv w C A us := fun j x hx => by
  obtain ⟨ad, e, hb, hc⟩ := h j x hx
  exact ⟨ad, e, Nat.lt_of_lt_of_le hb hB, hc⟩
theorem Rv.below (h : Rv w B A us) (hb : Below C w w') (hB : B ≤ C) : Rv w' B A us := h.keep fun _ hp => hb.cell (Nat.lt_of_lt_of_le hp hB)
theorem Rv.now (h : Rv w w.heap.size A us) (hb : Below w.heap.size w w') : Rv w' w'.heap.size A us := (h.below hb (Nat.le_refl _)).more hb.size
end

/-- a row of the call's own: n elements of s cells each, of type e -/
def OwnV (w : World) (b : Nat) (e : TypeId) (s : Nat) (v : Value) (n : Nat) (us : List Value) : Prop := w.ownsRow b e s v n us
section
variable {w w' : World} {b s n : Nat} {e : TypeId} {v : Value} {us : List Value}
theorem OwnV.read (h : OwnV w b e s v n us) : ∃ A c, v = .slice A n c ∧ Rv w w.heap.size A us ∧ n ≤ c ∧ c ≤ maxLen := by
  rcases h.2 with ⟨hv, h0⟩ | ⟨g, cap, cur, hv, hb, hh, hnc, hm, hs, ht⟩
  · have hl : us = [] := by
      have := h.1
      subst h0
      exact List.eq_nil_of_length_eq_zero (by simpa using this)
    subst hl h0
    exact ⟨none, 0, hv, Rv.nil _ _ _, Nat.le_refl _, by unfold maxLen; omega⟩
  · subst hv
    refine ⟨_, cap, rfl, ?_, hnc, hm⟩
    intro j x hx
    have hg : g < w.heap.size := (World.ownsRow.lt h g rfl).2
    exact ⟨_, rfl, hg, World.ownsRow.cells h (g := g) rfl j _ hx⟩
theorem OwnV.below (h : OwnV w b e s v n us) (hb : Below w.heap.size w w') : OwnV w' b e s v n us :=
  World.ownsRow.kept (row := none) h ⟨hb.os, hb.tape, hb.output, hb.size, fun k hk _ => hb.block k hk⟩ (by
    cases v.ownBlock with
    | none => exact .inl rfl
    | some k => exact .inr (by simp))
end

/-- S is a slice of e's, an e has 'size' cells and 'bytes' bytes -/
structure Elt (P : Program) (S e : TypeId) (z : Value) (size bytes : Nat) : Prop where
  und : P.underlying S = some (.slice e)
  info : (P.info? e).map (fun i => (i.zero, i.size, i.bytes)) = some (some z, size, bytes)
  zc : z.cells.size = size
  pos : 0 < size

/-- a row of the call's own that nobody has written to is as it was; the other one has grown -/
def GrownV (w w' : World) (v v' : Value) : Prop := w.grownBy w' v.ownBlock ∧ (v'.ownBlock = v.ownBlock ∨ v'.ownBlock = some w.heap.size)
theorem GrownV.below {w w' : World} {v v' : Value} {b s n : Nat} {e : TypeId} {us : List Value} (h : GrownV w w' v v') (ho : OwnV w b e s v n us) (hb : b ≤ w.heap.size) : Below b w w' :=
  (Below.refl b w).grown h.1 hb fun k hk => (World.ownsRow.lt ho k hk).1

section
variable {P : Program} {S e : TypeId} {z : Value} {size bytes : Nat}
theorem run_appV (E : Elt P S e z size bytes) (w : World) (ty : TypeId) (b : Nat) (v : Value) (n : Nat) (us : List Value) (hown : OwnV w b e size v n us) (C : Nat) (A : Option Addr) (m c : Nat) (news : List Value)
    (hm : news.length = m * size) (hr : Rv w C A news) (h1 : ∀ u ∈ news, u.oneCell' = true) (hlen : n + m ≤ maxLen) (hbytes : (n + m) * bytes ≤ 140737488355328) (hbase : b ≤ w.heap.size) :
    ∃ v' w', (Builtin.append_ #[S, S] ty #[v, .slice A m c]).run P w = .ok v' w' ∧ OwnV w' b e size v' (n + m) (us ++ news) ∧ GrownV w w' v v' := by
  obtain ⟨i, hi, hz, hs, hb⟩ := info_parts E.info
  rcases A with _ | ad
  · have hnews : news = [] := by
      cases news with
      | nil => rfl
      | cons x r => obtain ⟨_, e, _⟩ := hr 0 x rfl; cases e
    subst hnews
    have hm0 : m = 0 := by
      rcases Nat.mul_eq_zero.1 hm.symm with h | h
      · exact h
      · have := E.pos; omega
    subst hm0
    refine ⟨v, w, ?_, by rw [List.append_nil]; exact hown, World.grownBy.refl w _, .inl rfl⟩
    rcases hown.2 with ⟨rfl, _⟩ | ⟨g, cap, cur, rfl, _, _, hnc, _⟩
    · simp [Builtin.append_, run_underlying E.und, sizeOf, typeInfo, hi, Builtin.lenOf, Builtin.firstCells]
    · simp [Builtin.append_, run_underlying E.und, sizeOf, typeInfo, hi, Builtin.lenOf, Builtin.firstCells, hnc, storeCells]
  · have hc : ∀ j u, news[j]? = some u → w.cell? (ad.add j) = some u := by
      intro j u hu
      obtain ⟨ad', e, _, hh⟩ := hr j u hu
      injection e with e
      subst e
      exact hh
    obtain ⟨v', w', hrun, h2, h3, _, h5⟩ := run_append_own_at (P := P) w b S ty e i z size bytes E.und hi hz hs hb E.zc E.pos v n us hown ad m c news hm hc h1 hlen hbytes hbase
    exact ⟨v', w', hrun, h2, h3, h5⟩

theorem wpList_appV (E : Elt P S e z size bytes) {w : World} {ops : Array Oper} {rest : List Oper} {o : Oper} {a : Act} {Q : Exit → Act → World → Prop} (hgd : o.guard = none) (s x : Operand)
    (ho : o.op = .call { callee := .builtin .append, args := #[s, x], argTypes := #[S, S] }) (b : Nat) (v : Value) (n : Nat) (us : List Value) (hown : OwnV w b e size v n us) (hs : a.eval s = v) (C : Nat) (A : Option Addr) (m c : Nat) (news : List Value)
    (hx : a.eval x = .slice A m c) (hm : news.length = m * size) (hr : Rv w C A news) (h1 : ∀ u ∈ news, u.oneCell' = true) (hlen : n + m ≤ maxLen) (hbytes : (n + m) * bytes ≤ 140737488355328) (hbase : b ≤ w.heap.size)
    (h : ∀ v' w', OwnV w' b e size v' (n + m) (us ++ news) → GrownV w w' v v' → wpList P ops Q rest (a.put o.dst v') w') : wpList P ops Q (o :: rest) a w := by
  refine wpList_plain hgd fun K hK => ?_
  obtain ⟨v', w', hrun, h2, h3⟩ := run_appV E w o.type b v n us hown C A m c news hm hr h1 hlen hbytes hbase
  unfold Oper.wp execOp
  simp only [ho, resolve, invoke, builtin, Sem.run_bind, Sem.run_pure, Result.andThen_ok, List.map_toArray, List.map_cons, List.map_nil, hs, hx, hrun]
  exact hK _ _ (h v' w' h2 h3)
end

theorem ownV_nil (w : World) (b : Nat) (e : TypeId) (s : Nat) : OwnV w b e s (.slice none 0 0) 0 [] := World.ownsRow_nil w b e s
/-- cells in a new block -/
theorem rv_new (w : World) (e : TypeId) (cs : Array Value) : Rv (w.alloc (.cells cs e)) (w.heap.size + 1) (some ⟨w.heap.size, 0, none⟩) cs.toList := by
  intro j u hu
  refine ⟨_, rfl, Nat.lt_succ_self _, ?_⟩
  have h := World.cell?_alloc_new w cs e j
  rw [Array.getElem?_toList] at hu
  rw [← hu, ← h]
  unfold Addr.add
  by_cases hj : j = 0
  · subst hj; rfl
  · rw [if_neg hj]
    simp
/-- whole numbers as cells -/
def ints (l : List Int) : List Value := l.map (Value.int .i64)
theorem ints_length (l : List Int) : (ints l).length = l.length := List.length_map _
theorem ints_one (l : List Int) : ∀ u ∈ ints l, u.oneCell' = true := ints_oneCell .i64 l
end Go.Proofs.Ytdpniggabidmbaa
