/-
  What is proved: small facts on rows of cells of any kind: cells that are read at an address, kept over draws, new blocks and whatever leaves old blocks alone; append onto a row of the call's own; a struct in a new block. No condition on a program.
-/
import Derived.WalkKit
import Derived.Deep.AppendLies
import Derived.Deep.Draws
import Derived.Maps.AppendAt
import Derived.Deep.WholeRow
import Derived.Laws.CopyOwn
import Derived.BigQuiet
import Derived.Deep.QuietTactic
namespace Go.Proofs.YtmfdlkkligjcbaaGreat
open Go.RowKit

/-- put out of the walk's sight; .out brings it back -/
theorem hid {p : Prop} (h : p) : Hid p := h
/-- a boxed struct of two cells: block k holds a, b -/
def Box (w : World) (k : Nat) (a b : Value) : Prop := k < w.heap.size ∧ w.cell? ⟨k, 0, none⟩ = some a ∧ w.cell? ⟨k, 1, none⟩ = some b
section
variable {w w' : World} {k : Nat} {a b : Value}
theorem Box.next (h : Box w k a b) (hb : Below w.heap.size w w') : Box w' k a b :=
  ⟨Nat.lt_of_lt_of_le h.1 hb.size, (hb.cell (p := ⟨k, 0, none⟩) h.1).trans h.2.1, (hb.cell (p := ⟨k, 1, none⟩) h.1).trans h.2.2⟩
theorem below_alloc (w : World) (o : Obj) : Below w.heap.size w (w.alloc o) := (Below.refl w.heap.size w).alloc (Nat.le_refl _) o
theorem Box.alloc (h : Box w k a b) (o : Obj) : Box (w.alloc o) k a b := h.next (below_alloc w o)
theorem box_new (w : World) (t : TypeId) (a b : Value) : Box (w.alloc (.cells #[a, b] t)) w.heap.size a b :=
  ⟨by rw [World.size_alloc]; omega, World.cell?_alloc_new _ _ _ 0, World.cell?_alloc_new _ _ _ 1⟩
end
/-- how the world came on: each step leaves alone what was there -/
theorem on {B : Nat} {a w w' : World} (h : Below B a w) (k : Below w.heap.size w w') (hB : B ≤ a.heap.size := by exact Nat.le_refl _) : Below B a w' := h.trans (k.mono (Nat.le_trans hB h.size))

/-- the cells at A hold the values us -/
def Rv (w : World) (B : Nat) (A : Option Addr) (us : List Value) : Prop :=
  ∀ j u, us[j]? = some u → ∃ ad, A = some ad ∧ ad.block < B ∧ w.cell? (ad.add j) = some u
theorem addBlk (a : Addr) (n : Nat) : (a.add n).block = a.block := by unfold Addr.add; split <;> rfl
section
variable {w w' : World} {B C : Nat} {A : Option Addr} {us : List Value}
theorem Rv.nil (w : World) (B : Nat) (A : Option Addr) : Rv w B A [] := fun j x h => by simp at h
theorem Rv.get (h : Rv w B A us) {k : Nat} (hk : k < us.length) : ∃ ad, A = some ad ∧ ad.block < B ∧ w.cell? (ad.add k) = some (us[k]'hk) :=
  h k _ (List.getElem?_eq_getElem hk)
theorem Rv.keep (h : Rv w B A us) (hk : ∀ p : Addr, p.block < B → w'.cell? p = w.cell? p) : Rv w' B A us := fun j x hx => by
  obtain ⟨ad, e, hb, hc⟩ := h j x hx
  exact ⟨ad, e, hb, by rw [hk _ (by rw [addBlk]; exact hb)]; exact hc⟩
theorem Rv.more (h : Rv w B A us) (hB : B ≤ C) : Rv w C A us := fun j x hx => by
  obtain ⟨ad, e, hb, hc⟩ := h j x hx
  exact ⟨ad, e, Nat.lt_of_lt_of_le hb hB, hc⟩
theorem Rv.below (h : Rv w B A us) (hb : Below C w w') (hB : B ≤ C) : Rv w' B A us := h.keep fun _ hp => hb.cell (Nat.lt_of_lt_of_le hp hB)
theorem Rv.now (h : Rv w w.heap.size A us) (hb : Below w.heap.size w w') : Rv w' w'.heap.size A us := (h.below hb (Nat.le_refl _)).more hb.size
end

/-- a row of the call's own: n elements of s cells each, of type e -/
def OwnV (w : World) (b : Nat) (e : TypeId) (s : Nat) (v : Value) (n : Nat) (us : List Value) : Prop := w.ownsRow b e s v n us
section
variable {w w' : World} {b s n : Nat} {e : TypeId} {v : Value} {us : List Value}
theorem OwnV.read (h : OwnV w b e s v n us) : ∃ A c, v = .slice A n c ∧ Rv w w.heap.size A us ∧ n ≤ c ∧ c ≤ maxLen := by
  rcases h.2 with ⟨hv, h0⟩ | ⟨g, cap, cur, hv, hb, hh, hnc, hm, hs, ht⟩
  · have hl : us = [] := by
      have := h.1
      subst h0
      exact List.eq_nil_of_length_eq_zero (by simpa using this)
    subst hl h0
    exact ⟨none, 0, hv, Rv.nil _ _ _, Nat.le_refl _, by unfold maxLen; omega⟩
  · subst hv
    refine ⟨_, cap, rfl, ?_, hnc, hm⟩
    intro j x hx
    have hg : g < w.heap.size := (World.ownsRow.lt h g rfl).2
    exact ⟨_, rfl, hg, World.ownsRow.cells h (g := g) rfl j _ hx⟩
theorem OwnV.below (h : OwnV w b e s v n us) (hb : Below w.heap.size w w') : OwnV w' b e s v n us :=
  World.ownsRow.kept (row := none) h ⟨hb.os, hb.tape, hb.output, hb.size, fun k hk _ => hb.block k hk⟩ (by
    cases v.ownBlock with
    | none => exact .inl rfl
    | some k => exact .inr (by simp))
end

/-- S is a slice of e's, an e has 'size' cells and 'bytes' bytes -/
structure Elt (P : Program) (S e : TypeId) (z : Value) (size bytes : Nat) : Prop where
  und : P.underlying S = some (.slice e)
  info : (P.info? e).map (fun i => (i.zero, i.size, i.bytes)) = some (some z, size, bytes)
  zc : z.cells.size = size
  pos : 0 < size

/-- a row of the call's own that nobody has written to is as it was; the other one has grown -/
def GrownV (w w' : World) (v v' : Value) : Prop := w.grownBy w' v.ownBlock ∧ (v'.ownBlock = v.ownBlock ∨ v'.ownBlock = some w.heap.size)
theorem GrownV.below {w w' : World} {v v' : Value} {b s n : Nat} {e : TypeId} {us : List Value} (h : GrownV w w' v v') (ho : OwnV w b e s v n us) (hb : b ≤ w.heap.size) : Below b w w' :=
  (Below.refl b w).grown h.1 hb fun k hk => (World.ownsRow.lt ho k hk).1

section
variable {P : Program} {S e : TypeId} {z : Value} {size bytes : Nat}
theorem run_appV (E : Elt P S e z size bytes) (w : World) (ty : TypeId) (b : Nat) (v : Value) (n : Nat) (us : List Value) (hown : OwnV w b e size v n us) (C : Nat) (A : Option Addr) (m c : Nat) (news : List Value)
    (hm : news.length = m * size) (hr : Rv w C A news) (h1 : ∀ u ∈ news, u.oneCell' = true) (hlen : n + m ≤ maxLen) (hbytes : (n + m) * bytes ≤ 140737488355328) (hbase : b ≤ w.heap.size) :
    ∃ v' w', (Builtin.append_ #[S, S] ty #[v, .slice A m c]).run P w = .ok v' w' ∧ OwnV w' b e size v' (n + m) (us ++ news) ∧ GrownV w w' v v' := by
  obtain ⟨i, hi, hz, hs, hb⟩ := info_parts E.info
  rcases A with _ | ad
  · have hnews : news = [] := by
      cases news with
      | nil => rfl
      | cons x r => obtain ⟨_, e, _⟩ := hr 0 x rfl; cases e
    subst hnews
    have hm0 : m = 0 := by
      rcases Nat.mul_eq_zero.1 hm.symm with h | h
      · exact h
      · have := E.pos; omega
    subst hm0
    refine ⟨v, w, ?_, by rw [List.append_nil]; exact hown, World.grownBy.refl w _, .inl rfl⟩
    rcases hown.2 with ⟨rfl, _⟩ | ⟨g, cap, cur, rfl, _, _, hnc, _⟩
    · simp [Builtin.append_, run_underlying E.und, sizeOf, typeInfo, hi, Builtin.lenOf, Builtin.firstCells]
    · simp [Builtin.append_, run_underlying E.und, sizeOf, typeInfo, hi, Builtin.lenOf, Builtin.firstCells, hnc, storeCells]
  · have hc : ∀ j u, news[j]? = some u → w.cell? (ad.add j) = some u := by
      intro j u hu
      obtain ⟨ad', e, _, hh⟩ := hr j u hu
      injection e with e
      subst e
      exact hh
    obtain ⟨v', w', hrun, h2, h3, _, h5⟩ := run_append_own_at (P := P) w b S ty e i z size bytes E.und hi hz hs hb E.zc E.pos v n us hown ad m c news hm hc h1 hlen hbytes hbase
    exact ⟨v', w', hrun, h2, h3, h5⟩

theorem wpList_appV (E : Elt P S e z size bytes) {w : World} {ops : Array Oper} {rest : List Oper} {o : Oper} {a : Act} {Q : Exit → Act → World → Prop} (hgd : o.guard = none) (s x : Operand)
    (ho : o.op = .call { callee := .builtin .append, args := #[s, x], argTypes := #[S, S] }) (b : Nat) (v : Value) (n : Nat) (us : List Value) (hown : OwnV w b e size v n us) (hs : a.eval s = v) (C : Nat) (A : Option Addr) (m c : Nat) (news : List Value)
    (hx : a.eval x = .slice A m c) (hm : news.length = m * size) (hr : Rv w C A news) (h1 : ∀ u ∈ news, u.oneCell' = true) (hlen : n + m ≤ maxLen) (hbytes : (n + m) * bytes ≤ 140737488355328) (hbase : b ≤ w.heap.size)
    (h : ∀ v' w', OwnV w' b e size v' (n + m) (us ++ news) → GrownV w w' v v' → wpList P ops Q rest (a.put o.dst v') w') : wpList P ops Q (o :: rest) a w := by
  refine wpList_plain hgd fun K hK => ?_
  obtain ⟨v', w', hrun, h2, h3⟩ := run_appV E w o.type b v n us hown C A m c news hm hr h1 hlen hbytes hbase
  unfold Oper.wp execOp
  simp only [ho, resolve, invoke, builtin, Sem.run_bind, Sem.run_pure, Result.andThen_ok, List.map_toArray, List.map_cons, List.map_nil, hs, hx, hrun]
  exact hK _ _ (h v' w' h2 h3)
end

theorem ownV_nil (w : World) (b : Nat) (e : TypeId) (s : Nat) : OwnV w b e s (.slice none 0 0) 0 [] := World.ownsRow_nil w b e s
/-- cells in a new block -/
theorem rv_new (w : World) (e : TypeId) (cs : Array Value) : Rv (w.alloc (.cells cs e)) (w.heap.size + 1) (some ⟨w.heap.size, 0, none⟩) cs.toList := by
  intro j u hu
  refine ⟨_, rfl, Nat.lt_succ_self _, ?_⟩
  have h := World.cell?_alloc_new w cs e j
  rw [Array.getElem?_toList] at hu
  rw [← hu, ← h]
  unfold Addr.add
  by_cases hj : j = 0
  · subst hj; rfl
  · rw [if_neg hj]
    simp
/-- whole numbers as cells -/
def ints (l : List Int) : List Value := l.map (Value.int .i64)
theorem ints_length (l : List Int) : (ints l).length = l.length := List.length_map _
theorem ints_one (l : List Int) : ∀ u ∈ ints l, u.oneCell' = true := ints_oneCell .i64 l
end Go.Proofs.YtmfdlkkligjcbaaGreat
/-
  What is proved: a whole aggregate stored into a block that was made just now, as a step of the walk; a result that lies in such a block. No condition on a program.
-/
namespace Go.Proofs.YtmfdlkkligjcbaaGreat
open Go.RowKit

theorem wpList_store_new {P : Program} {w : World} {ops : Array Oper} {rest : List Oper} {o : Oper} {a : Act} {Q : Exit → Act → World → Prop} (hgd : o.guard = none) (t : TypeId) (p x : Operand)
    (ho : o.op = .store t p x) (hd : o.dst = none) (c c' : Array Value) (hp : a.eval p = .pointer (some ⟨w.heap.size, 0, none⟩)) (hx : a.eval x = .agg c') (hi : (P.info? t).map (·.size) = some c'.size) (hc : c.size = c'.size)
    (h1 : c'.all (·.oneCell') = true) (h : wpList P ops Q rest a (w.alloc (.cells c' t))) : wpList P ops Q (o :: rest) a (w.alloc (.cells c t)) := by
  refine wpList_plain hgd fun K hK => ?_
  have hrun := run_storeAt_new (P := P) w t c c' hi hc h1
  unfold Oper.wp execOp
  simp only [ho, hp, hx, hrun, Sem.run_bind, Sem.run_pure, Result.andThen_ok]
  have := hK _ _ h
  simpa [Oper.upon, hd, Act.put] using this
theorem results_new {P : Program} {fn : Func} {s : Tmp} {t : TypeId} (h : fn.results = #[.cell s t]) (w : World) (tmps : Array Value) (hs : tmps.getD s undef = .pointer (some ⟨w.heap.size, 0, none⟩)) (c : Array Value) (n : Nat) (e : TypeId)
    (hu : P.underlying t = some (.array n e)) (hi : (P.info? t).map (·.size) = some c.size) : (results fn tmps).run P (w.alloc (.cells c t)) = .ok (.agg c) (w.alloc (.cells c t)) := by
  have := run_loadVar_new (P := P) w t c n e hu hi
  rw [Array.getD_eq_getD_getElem?] at hs
  simp [results, h, hs, asAddr, this]
theorem results_new' {P : Program} {fn : Func} {s : Tmp} {t : TypeId} (h : fn.results = #[.cell s t]) (w : World) (tmps : Array Value) (hs : tmps.getD s undef = .pointer (some ⟨w.heap.size, 0, none⟩)) (c : Array Value) (d : TypeDesc)
    (hu : P.underlying t = some d) (hd : (match d with | .struct _ | .array _ _ => true | _ => false) = true) (hi : (P.info? t).map (·.size) = some c.size) : (results fn tmps).run P (w.alloc (.cells c t)) = .ok (.agg c) (w.alloc (.cells c t)) := by
  have := run_loadVar_row (P := P) (w.alloc (.cells c t)) w.heap.size t t c (0, 0) d (heap_alloc_last w _) hu hd hi
  rw [Array.getD_eq_getD_getElem?] at hs
  simp [results, h, hs, asAddr, this]
end Go.Proofs.YtmfdlkkligjcbaaGreat
/-
  What is proved: small facts that the walks of the layers behind conf lean on: a proposition as a truth; a block of the call's own that is known whole; a whole aggregate loaded, stored, handed back; worlds that came from another one. No condition on a program.
-/
namespace Go.Proofs.YtmfdlkkligjcbaaGreat
open Go.RowKit

/-- a proposition as a truth -/
noncomputable def dec (p : Prop) : Bool := @decide p (Classical.propDecidable p)
theorem dec_true {p : Prop} (h : p) : dec p = true := by unfold dec; exact @decide_eq_true p (Classical.propDecidable p) h
theorem dec_false {p : Prop} (h : ¬ p) : dec p = false := by unfold dec; exact @decide_eq_false p (Classical.propDecidable p) h
theorem dec_congr {p q : Prop} (h : p ↔ q) : dec p = dec q := by
  by_cases hp : p
  · rw [dec_true hp, dec_true (h.1 hp)]
  · rw [dec_false hp, dec_false fun hq => hp (h.2 hq)]
theorem ret_dec {b : Bool} {p : Prop} (h : b = true ↔ p) : Ending.returned (.bool b) = .returned (.bool (dec p)) := by
  by_cases hp : p
  · rw [dec_true hp, h.2 hp]
  · rw [dec_false hp]
    cases b
    · rfl
    · exact absurd (h.1 rfl) hp

theorem dec_iff {p : Prop} : dec p = true ↔ p := by
  by_cases h : p
  · rw [dec_true h]; simp [h]
  · rw [dec_false h]; simp [h]
theorem val_dec {b : Bool} {p : Prop} (h : b = true ↔ p) : Value.bool b = .bool (dec p) := by
  by_cases hp : p
  · rw [dec_true hp, h.2 hp]
  · rw [dec_false hp]
    cases b
    · rfl
    · exact absurd (h.1 rfl) hp
theorem setSize (w : World) (a : Addr) (u : Value) : (w.setCell a u).heap.size = w.heap.size := by unfold World.setCell; split <;> simp
theorem addSucc (a : Addr) (i k : Nat) (hk : 0 < k) : a.add (i + k) = ⟨(a.add i).block, (a.add i).off + k, none⟩ := by
  unfold Addr.add
  rw [if_neg (by omega)]
  by_cases h : i = 0
  · subst h; rw [if_pos rfl, Nat.zero_add]
  · rw [if_neg h]
    show (⟨a.block, a.off + (i + k), none⟩ : Addr) = ⟨a.block, a.off + i + k, none⟩
    rw [Nat.add_assoc]

/-- block g holds just these cells -/
def Bx (w : World) (g : Nat) (t : TypeId) (cs : Array Value) : Prop := w.heap[g]? = some (.cells cs t (0, 0))
section
variable {w w' : World} {g : Nat} {t : TypeId} {cs : Array Value}
theorem Bx.lt (h : Bx w g t cs) : g < w.heap.size := by
  rcases Nat.lt_or_ge g w.heap.size with hlt | hge
  · exact hlt
  · unfold Bx at h; rw [Array.getElem?_eq_none hge] at h; cases h
theorem Bx.cell (h : Bx w g t cs) (i : Nat) : w.cell? ⟨g, i, none⟩ = cs[i]? := cell_of_row w g i cs t (0, 0) h
theorem Bx.free (h : Bx w g t cs) (i : Nat) : w.frozen? ⟨g, i, none⟩ = false := by
  unfold Bx at h
  simp [World.frozen?, h]
theorem Bx.next (h : Bx w g t cs) (hb : Below w.heap.size w w') : Bx w' g t cs := (hb.block g h.lt).trans h
theorem Bx.alloc (h : Bx w g t cs) (o : Obj) : Bx (w.alloc o) g t cs := h.next (below_alloc w o)
theorem Bx.new (w : World) (t : TypeId) (cs : Array Value) : Bx (w.alloc (.cells cs t)) w.heap.size t cs := heap_alloc_new w _
theorem Bx.set (h : Bx w g t cs) (i : Nat) (u : Value) : Bx (w.setCell ⟨g, i, none⟩ u) g t (cs.setIfInBounds i u) := by
  unfold Bx at h ⊢
  simp [World.setCell, Array.getElem?_modify, h]
theorem Bx.far (h : Bx w g t cs) (p : Addr) (u : Value) (hp : p.block ≠ g) : Bx (w.setCell p u) g t cs := (Below.heap_setCell w p u g (fun e => hp e.symm)).trans h
end

section
variable {P : Program} {w : World} {ops : Array Oper} {rest : List Oper} {o : Oper} {a : Act} {Q : Exit → Act → World → Prop}
theorem run_loadAt_bx {g : Nat} {t ty : TypeId} {cs : Array Value} {d : TypeDesc} (h : Bx w g t cs) (hu : P.underlying ty = some d) (hd : (match d with | .struct _ | .array _ _ => true | _ => false) = true) (hi : (P.info? ty).map (·.size) = some cs.size) :
    (Instr.loadAt ty (.pointer (some ⟨g, 0, none⟩))).run P w = .ok (.agg cs) w := by
  simp only [Instr.loadAt, Instr.sureAddr, Sem.run_bind, Sem.run_pure, Result.andThen]
  exact run_loadVar_row w g t ty cs (0, 0) d h hu hd hi
theorem wpList_load_bx (hgd : o.guard = none) (ty : TypeId) (p : Operand) (ho : o.op = .load ty p) (g : Nat) (t : TypeId) (cs : Array Value) (d : TypeDesc) (hp : a.eval p = .pointer (some ⟨g, 0, none⟩)) (hb : Bx w g t cs)
    (hu : P.underlying ty = some d) (hd : (match d with | .struct _ | .array _ _ => true | _ => false) = true) (hi : (P.info? ty).map (·.size) = some cs.size) (h : wpList P ops Q rest (a.put o.dst (.agg cs)) w) : wpList P ops Q (o :: rest) a w := by
  refine wpList_plain hgd fun K hK => ?_
  have hrun := run_loadAt_bx (P := P) hb hu hd hi
  unfold Oper.wp execOp
  simp only [ho, hp, hrun, Sem.run_bind, Sem.run_pure, Result.andThen_ok]
  exact hK _ _ h
end
section
variable {w w' : World} {g : Nat} {t : TypeId} {cs cs' : Array Value}
theorem Bx.row (h : Bx w g t cs) : Bx (w.setRow g cs') g t cs' := setRow_heap w g cs cs' t (0, 0) h
theorem Bx.rowFar (h : Bx w g t cs) {k : Nat} (hk : g ≠ k) : Bx (w.setRow k cs') g t cs := (setRow_other w k g cs' hk).trans h
theorem Bx.draws (h : Bx w g t cs) (n : Nat) : Bx (w.drewN n) g t cs := h
end
section
variable {P : Program} {w : World} {ops : Array Oper} {rest : List Oper} {o : Oper} {a : Act} {Q : Exit → Act → World → Prop}
theorem wpList_store_bx (hgd : o.guard = none) (ty : TypeId) (p x : Operand) (ho : o.op = .store ty p x) (hd : o.dst = none) (g : Nat) (t : TypeId) (cs cs' : Array Value) (hp : a.eval p = .pointer (some ⟨g, 0, none⟩)) (hx : a.eval x = .agg cs') (hb : Bx w g t cs)
    (hi : (P.info? ty).map (·.size) = some cs'.size) (hc : cs.size = cs'.size) (h1 : cs'.all (·.oneCell') = true) (h : wpList P ops Q rest a (w.setRow g cs')) : wpList P ops Q (o :: rest) a w :=
  wpList_plain hgd fun K hK => wp_store_row ty p x ho g cs' hp hx t cs hb hi hc h1 (by
    have := hK _ _ h
    simpa [hd, Act.put] using this)
theorem results_bx3 {fn : Func} {s b c : Tmp} {ty : TypeId} (h : fn.results = #[.cell s ty, .tmp b, .tmp c]) (tmps : Array Value) {g : Nat} {t : TypeId} {cs : Array Value} {d : TypeDesc} (hs : tmps.getD s undef = .pointer (some ⟨g, 0, none⟩)) (hb : Bx w g t cs)
    (hu : P.underlying ty = some d) (hd : (match d with | .struct _ | .array _ _ => true | _ => false) = true) (hi : (P.info? ty).map (·.size) = some cs.size) :
    (results fn tmps).run P w = .ok (.tuple #[.agg cs, tmps.getD b undef, tmps.getD c undef]) w := by
  have := run_loadVar_row (P := P) w g t ty cs (0, 0) d hb hu hd hi
  rw [Array.getD_eq_getD_getElem?] at hs
  simp [results, h, hs, asAddr, this]
theorem results_bx2 {fn : Func} {s b : Tmp} {ty : TypeId} (h : fn.results = #[.cell s ty, .tmp b]) (tmps : Array Value) {g : Nat} {t : TypeId} {cs : Array Value} {d : TypeDesc} (hs : tmps.getD s undef = .pointer (some ⟨g, 0, none⟩)) (hb : Bx w g t cs)
    (hu : P.underlying ty = some d) (hd : (match d with | .struct _ | .array _ _ => true | _ => false) = true) (hi : (P.info? ty).map (·.size) = some cs.size) :
    (results fn tmps).run P w = .ok (.tuple #[.agg cs, tmps.getD b undef]) w := by
  have := run_loadVar_row (P := P) w g t ty cs (0, 0) d hb hu hd hi
  rw [Array.getD_eq_getD_getElem?] at hs
  simp [results, h, hs, asAddr, this]
end
theorem grown_draws {a w : World} {row : Option Nat} (h : a.grownBy w row) (n : Nat) : a.grownBy (w.drewN n) row := ⟨h.os, h.tape, h.output, h.size, h.block⟩
theorem grown_set {a w : World} {g : Nat} (h : a.grownBy w (some g)) (i : Nat) (u : Value) : a.grownBy (w.setCell ⟨g, i, none⟩ u) (some g) :=
  ⟨h.os, h.tape, h.output, by rw [setSize]; exact h.size, fun j hj hne => (Below.heap_setCell w ⟨g, i, none⟩ u j (fun e => hne (by rw [e]))).trans (h.block j hj hne)⟩
theorem grown_below {a w : World} (h : Below a.heap.size a w) (row : Option Nat) : a.grownBy w row := ⟨h.os, h.tape, h.output, h.size, fun i hi _ => h.block i hi⟩
theorem grown_on {a w w' : World} {row : Option Nat} (h : a.grownBy w row) (hb : Below w.heap.size w w') : a.grownBy w' row := h.trans (grown_below hb row)
theorem Bx.apart {w w' : World} {k : Nat} {t : TypeId} {cs : Array Value} {row : Option Nat} (h : Bx w k t cs) (hg : w.grownBy w' row) (hne : some k ≠ row) : Bx w' k t cs := (hg.block k h.lt hne).trans h
theorem grown_row (w : World) (g : Nat) (cs : Array Value) : w.grownBy (w.setRow g cs) (some g) :=
  ⟨rfl, rfl, rfl, by rw [setRow_size]; exact Nat.le_refl _, fun j _ hne => setRow_other w g j cs (fun e => hne (by rw [e]))⟩
theorem below_set {B : Nat} {a w : World} (h : Below B a w) (p : Addr) (u : Value) (hp : B ≤ p.block) : Below B a (w.setCell p u) := h.setCell hp u
/-- a world that came from w and left alone what was there -/
structure Since (w : World) where
  at_ : World
  bel : Below w.heap.size w at_

instance (w : World) : Inhabited (Since w) := ⟨⟨w, Below.refl _ _⟩⟩

theorem wp_region_since {P : Program} {id : Nat} {Q : Exit → Act → World → Prop} {a : Act} {w : World} {l : List Oper} (hm : P.follows .mixedOrders = true) (hB : Region.lexB .any l.toArray = true)
    (h : wpQuiet P l.toArray (fun w' => ∃ p : Since w, w' = p.at_) (fun a' => ∀ w', (∃ p : Since w, w' = p.at_) → Q .normal a' w') l a) : (Code.region id l.toArray true).wp P Q a w :=
  wp_region_quiet (C := fun w' => ∃ p : Since w, w' = p.at_) hm hB ⟨⟨w.drew, (Below.refl _ _).drew⟩, rfl⟩ (by simpa using h)

theorem Calls.since {P : Program} {f : FuncId} {args : Array Value} {w : World} {v : Value} (p : Since w)
    (h : Calls P f args p.at_ fun e w' => e = .returned v ∧ Below p.at_.heap.size p.at_ w') : Calls P f args p.at_ fun e w'' => e = .returned v ∧ ∃ q : Since w, w'' = q.at_ :=
  h.mono fun _ w' ⟨he, hb⟩ => ⟨he, ⟨w', p.bel.trans (hb.mono p.bel.size)⟩, rfl⟩
theorem below_draws {B : Nat} {a w : World} (h : Below B a w) (n : Nat) : Below B a (w.drewN n) := ⟨h.os, h.tape, h.output, h.size, h.block⟩
theorem Calls.sinceN {P : Program} {f : FuncId} {args : Array Value} {w : World} {v : Value} (p : Since w)
    (h : Calls P f args p.at_ fun e w' => e = .returned v ∧ ∃ n, w' = p.at_.drewN n) : Calls P f args p.at_ fun e w'' => e = .returned v ∧ ∃ q : Since w, w'' = q.at_ :=
  h.mono fun _ _ ⟨he, n, e⟩ => ⟨he, ⟨p.at_.drewN n, below_draws p.bel n⟩, e⟩
theorem run_loadCells_bx {P : Program} {w : World} {g : Nat} {t : TypeId} {cs : Array Value} (h : Bx w g t cs) (n : Nat) (hn : cs.size = n) : (loadCellsFrom ⟨g, 0, none⟩ 0 n #[]).run P w = .ok cs w := by
  subst hn
  have := run_loadCells_list (P := P) w ⟨g, 0, none⟩ cs.toList (fun j v hv => by
    have hadd : (⟨g, 0, none⟩ : Addr).add j = ⟨g, j, none⟩ := by unfold Addr.add; split <;> simp_all
    rw [hadd, h.cell]
    simpa using hv)
  simpa [loadCells] using this
theorem quiet_load {P : Program} {C : World → Prop} {a : Act} {o : Oper} {K : Act → Prop} (ty : TypeId) (p : Operand) (ho : o.op = .load ty p) (g : Nat) (v : Value) (hp : a.eval p = .pointer (some ⟨g, 0, none⟩))
    (hl : ∀ w', C w' → (Instr.loadAt ty (.pointer (some ⟨g, 0, none⟩))).run P w' = .ok v w') (hk : K (a.put o.dst v)) : o.quiet P a C K :=
  ⟨v, fun w' hw' => by
    unfold Oper.quietAt execOp
    simp only [ho, hp, hl w' hw', Sem.run_bind, Sem.run_pure, Result.andThen_ok]
    exact ⟨rfl, rfl⟩, hk⟩
theorem wpList_load_bxg {P : Program} {w : World} {ops : Array Oper} {rest : List Oper} {o : Oper} {a : Act} {Q : Exit → Act → World → Prop} (hgd : Region.wanted o (yielded ops a.tmps) = true) (ty : TypeId) (p : Operand) (ho : o.op = .load ty p) (g : Nat) (t : TypeId) (cs : Array Value) (d : TypeDesc) (hp : a.eval p = .pointer (some ⟨g, 0, none⟩)) (hb : Bx w g t cs)
    (hu : P.underlying ty = some d) (hd : (match d with | .struct _ | .array _ _ => true | _ => false) = true) (hi : (P.info? ty).map (·.size) = some cs.size) (h : wpList P ops Q rest (a.put o.dst (.agg cs)) w) : wpList P ops Q (o :: rest) a w := by
  refine BigFrame.wpList_want hgd fun K hK => ?_
  have hrun := run_loadAt_bx (P := P) hb hu hd hi
  unfold Oper.wp execOp
  simp only [ho, hp, hrun, Sem.run_bind, Sem.run_pure, Result.andThen_ok]
  exact hK _ _ h
theorem Bx.all4 {w : World} {g : Nat} {t : TypeId} {a0 a1 a2 a3 : Value} (h : Bx w g t #[a0, a1, a2, a3]) : w.cell? ⟨g, 0, none⟩ = some a0 ∧ w.cell? ⟨g, 1, none⟩ = some a1 ∧ w.cell? ⟨g, 2, none⟩ = some a2 ∧ w.cell? ⟨g, 3, none⟩ = some a3 := ⟨h.cell 0, h.cell 1, h.cell 2, h.cell 3⟩
theorem Bx.all5 {w : World} {g : Nat} {t : TypeId} {a0 a1 a2 a3 a4 : Value} (h : Bx w g t #[a0, a1, a2, a3, a4]) : w.cell? ⟨g, 0, none⟩ = some a0 ∧ w.cell? ⟨g, 1, none⟩ = some a1 ∧ w.cell? ⟨g, 2, none⟩ = some a2 ∧ w.cell? ⟨g, 3, none⟩ = some a3 ∧ w.cell? ⟨g, 4, none⟩ = some a4 := ⟨h.cell 0, h.cell 1, h.cell 2, h.cell 3, h.cell 4⟩
theorem Bx.all6 {w : World} {g : Nat} {t : TypeId} {a0 a1 a2 a3 a4 a5 : Value} (h : Bx w g t #[a0, a1, a2, a3, a4, a5]) : w.cell? ⟨g, 0, none⟩ = some a0 ∧ w.cell? ⟨g, 1, none⟩ = some a1 ∧ w.cell? ⟨g, 2, none⟩ = some a2 ∧ w.cell? ⟨g, 3, none⟩ = some a3 ∧ w.cell? ⟨g, 4, none⟩ = some a4 ∧ w.cell? ⟨g, 5, none⟩ = some a5 := ⟨h.cell 0, h.cell 1, h.cell 2, h.cell 3, h.cell 4, h.cell 5⟩
theorem Bx.all8 {w : World} {g : Nat} {t : TypeId} {a0 a1 a2 a3 a4 a5 a6 a7 : Value} (h : Bx w g t #[a0, a1, a2, a3, a4, a5, a6, a7]) : w.cell? ⟨g, 0, none⟩ = some a0 ∧ w.cell? ⟨g, 1, none⟩ = some a1 ∧ w.cell? ⟨g, 2, none⟩ = some a2 ∧ w.cell? ⟨g, 3, none⟩ = some a3 ∧ w.cell? ⟨g, 4, none⟩ = some a4 ∧ w.cell? ⟨g, 5, none⟩ = some a5 ∧ w.cell? ⟨g, 6, none⟩ = some a6 ∧ w.cell? ⟨g, 7, none⟩ = some a7 := ⟨h.cell 0, h.cell 1, h.cell 2, h.cell 3, h.cell 4, h.cell 5, h.cell 6, h.cell 7⟩
/-- results that lie in a block that is known whole, one alone -/
theorem results_bx1 {P : Program} {w : World} {fn : Func} {s : Tmp} {ty : TypeId} (h : fn.results = #[.cell s ty]) (tmps : Array Value) {g : Nat} {t : TypeId} {cs : Array Value} {d : TypeDesc} (hs : tmps.getD s undef = .pointer (some ⟨g, 0, none⟩)) (hb : Bx w g t cs)
    (hu : P.underlying ty = some d) (hd : (match d with | .struct _ | .array _ _ => true | _ => false) = true) (hi : (P.info? ty).map (·.size) = some cs.size) :
    (results fn tmps).run P w = .ok (.agg cs) w := by
  have := run_loadVar_row (P := P) w g t ty cs (0, 0) d hb hu hd hi
  rw [Array.getD_eq_getD_getElem?] at hs
  simp [results, h, hs, asAddr, this]
end Go.Proofs.YtmfdlkkligjcbaaGreat
