/-
  What is proved: small facts on rows of cells of any kind: cells that are read at an address, kept over draws, new blocks and whatever leaves old blocks alone; append onto a row of the call's own; a struct in a new block. No condition on a program.
-/
import Derived.WalkKit
import Derived.Deep.AppendLies
import Derived.Deep.Draws
import Derived.Maps.AppendAt
import Derived.Deep.WholeRow
import Derived.Laws.CopyOwn
import Derived.BigQuiet
import Derived.Deep.QuietTactic
import Derived.Deep.RegionLaw
import Derived.BigFrame
namespace Go.Proofs.YtbcejfonkehjgaaGreatDoor
open Go.RowKit

theorem hid {p : Prop} (h : p) : Hid p := h
def Box (w : World) (k : Nat) (a b : Value) : Prop := k < w.heap.size ∧ w.cell? ⟨k, 0, none⟩ = some a ∧ w.cell? ⟨k, 1, none⟩ = some b
section
variable {w w' : World} {k : Nat} {a b : Value}
theorem Box.next (h : Box w k a b) (hb : Below w.heap.size w w') : Box w' k a b :=
  ⟨Nat.lt_of_lt_of_le h.1 hb.size, (hb.cell (p := ⟨k, 0, none⟩) h.1).trans h.2.1, (hb.cell (p := ⟨k, 1, none⟩) h.1).trans h.2.2⟩
theorem below_alloc (w : World) (o : Obj) : Below w.heap.size w (w.alloc o) := (Below.refl w.heap.size w).alloc (Nat.le_refl _) o
theorem Box.alloc (h : Box w k a b) (o : Obj) : Box (w.alloc o) k a b := h.next (below_alloc w o)
end
theorem on {B : Nat} {a w w' : World} (h : Below B a w) (k : Below w.heap.size w w') (hB : B ≤ a.heap.size := by exact Nat.le_refl _) : Below B a w' := h.trans (k.mono (Nat.le_trans hB h.size))

def Rv (w : World) (B : Nat) (A : Option Addr) (us : List Value) : Prop :=
  ∀ j u, us[j]? = some u → ∃ ad, A = some ad ∧ ad.block < B ∧ w.cell? (ad.add j) = some u
theorem addBlk (a : Addr) (n : Nat) : (a.add n).block = a.block := by unfold Addr.add; split <;> rfl
section
variable {w w' : World} {B C : Nat} {A : Option Addr} {us : List Value}
theorem Rv.nil (w : World) (B : Nat) (A : Option Addr) : Rv w B A [] := fun j x h => by simp at h
theorem Rv.get (h : Rv w B A us) {k : Nat} (hk : k < us.length) : ∃ ad, A = some ad ∧ ad.block < B ∧ w.cell? (ad.add k) = some (us[k]'hk) :=
  h k _ (List.getElem?_eq_getElem hk)
theorem Rv.keep (h : Rv w B A us) (hk : ∀ p : Addr, p.block < B → w'.cell? p = w.cell? p) : Rv w' B A us := fun j x hx => by
  obtain ⟨ad, e, hb, hc⟩ := h j x hx
  exact ⟨ad, e, hb, by rw [hk _ (by rw [addBlk]; exact hb)]; exact hc⟩
theorem Rv.more (h : Rv w B A us) (hB : B ≤ C) : Rv w C A us := fun j x hx => by
  obtain ⟨ad, e, hb, hc⟩ := h j x hx
  exact ⟨ad, e, Nat.lt_of_lt_of_le hb hB, hc⟩
theorem Rv.below (h : Rv w B A us) (hb : Below C w w') (hB : B ≤ C) : Rv w' B A us := h.keep fun _ hp => hb.cell (Nat.lt_of_lt_of_le hp hB)
theorem Rv.now (h : Rv w w.heap.size A us) (hb : Below w.heap.size w w') : Rv w' w'.heap.size A us := (h.below hb (Nat.le_refl _)).more hb.size
end

def OwnV (w : World) (b : Nat) (e : TypeId) (s : Nat) (v : Value) (n : Nat) (us : List Value) : Prop := w.ownsRow b e s v n us
section
variable {w w' : World} {b s n : Nat} {e : TypeId} {v : Value} {us : List Value}
theorem OwnV.read (h : OwnV w b e s v n us) : ∃ A c, v = .slice A n c ∧ Rv w w.heap.size A us ∧ n ≤ c ∧ c ≤ maxLen := by
  rcases h.2 with ⟨hv, h0⟩ | ⟨g, cap, cur, hv, hb, hh, hnc, hm, hs, ht⟩
  · have hl : us = [] := by
      have := h.1
      subst h0
      exact List.eq_nil_of_length_eq_zero (by simpa using this)
    subst hl h0
    exact ⟨none, 0, hv, Rv.nil _ _ _, Nat.le_refl _, by unfold maxLen; omega⟩
  · subst hv
    refine ⟨_, cap, rfl, ?_, hnc, hm⟩
    intro j x hx
    have hg : g < w.heap.size := (World.ownsRow.lt h g rfl).2
    exact ⟨_, rfl, hg, World.ownsRow.cells h (g := g) rfl j _ hx⟩
theorem OwnV.below (h : OwnV w b e s v n us) (hb : Below w.heap.size w w') : OwnV w' b e s v n us :=
  World.ownsRow.kept (row := none) h ⟨hb.os, hb.tape, hb.output, hb.size, fun k hk _ => hb.block k hk⟩ (by
    cases v.ownBlock with
    | none => exact .inl rfl
    | some k => exact .inr (by simp))
end

structure Elt (P : Program) (S e : TypeId) (z : Value) (size bytes : Nat) : Prop where
  und : P.underlying S = some (.slice e)
  info : (P.info? e).map (fun i => (i.zero, i.size, i.bytes)) = some (some z, size, bytes)
  zc : z.cells.size = size
  pos : 0 < size

def GrownV (w w' : World) (v v' : Value) : Prop := w.grownBy w' v.ownBlock ∧ (v'.ownBlock = v.ownBlock ∨ v'.ownBlock = some w.heap.size)
theorem GrownV.below {w w' : World} {v v' : Value} {b s n : Nat} {e : TypeId} {us : List Value} (h : GrownV w w' v v') (ho : OwnV w b e s v n us) (hb : b ≤ w.heap.size) : Below b w w' :=
  (Below.refl b w).grown h.1 hb fun k hk => (World.ownsRow.lt ho k hk).1

section
variable {P : Program} {S e : TypeId} {z : Value} {size bytes : Nat}
theorem run_appV (E : Elt P S e z size bytes) (w : World) (ty : TypeId) (b : Nat) (v : Value) (n : Nat) (us : List Value) (hown : OwnV w b e size v n us) (C : Nat) (A : Option Addr) (m c : Nat) (news : List Value)
    (hm : news.length = m * size) (hr : Rv w C A news) (h1 : ∀ u ∈ news, u.oneCell' = true) (hlen : n + m ≤ maxLen) (hbytes : (n + m) * bytes ≤ 140737488355328) (hbase : b ≤ w.heap.size) :
    ∃ v' w', (Builtin.append_ #[S, S] ty #[v, .slice A m c]).run P w = .ok v' w' ∧ OwnV w' b e size v' (n + m) (us ++ news) ∧ GrownV w w' v v' := by
  obtain ⟨i, hi, hz, hs, hb⟩ := info_parts E.info
  rcases A with _ | ad
  · have hnews : news = [] := by
      cases news with
      | nil => rfl
      | cons x r => obtain ⟨_, e, _⟩ := hr 0 x rfl; cases e
    subst hnews
    have hm0 : m = 0 := by
      rcases Nat.mul_eq_zero.1 hm.symm with h | h
      · exact h
      · have := E.pos; omega
    subst hm0
    refine ⟨v, w, ?_, by rw [List.append_nil]; exact hown, World.grownBy.refl w _, .inl rfl⟩
    rcases hown.2 with ⟨rfl, _⟩ | ⟨g, cap, cur, rfl, _, _, hnc, _⟩
    · simp [Builtin.append_, run_underlying E.und, sizeOf, typeInfo, hi, Builtin.lenOf, Builtin.firstCells]
    · simp [Builtin.append_, run_underlying E.und, sizeOf, typeInfo, hi, Builtin.lenOf, Builtin.firstCells, hnc, storeCells]
  · have hc : ∀ j u, news[j]? = some u → w.cell? (ad.add j) = some u := by
      intro j u hu
      obtain ⟨ad', e, _, hh⟩ := hr j u hu
      injection e with e
      subst e
      exact hh
    obtain ⟨v', w', hrun, h2, h3, _, h5⟩ := run_append_own_at (P := P) w b S ty e i z size bytes E.und hi hz hs hb E.zc E.pos v n us hown ad m c news hm hc h1 hlen hbytes hbase
    exact ⟨v', w', hrun, h2, h3, h5⟩

theorem wpList_appV (E : Elt P S e z size bytes) {w : World} {ops : Array Oper} {rest : List Oper} {o : Oper} {a : Act} {Q : Exit → Act → World → Prop} (hgd : o.guard = none) (s x : Operand)
    (ho : o.op = .call { callee := .builtin .append, args := #[s, x], argTypes := #[S, S] }) (b : Nat) (v : Value) (n : Nat) (us : List Value) (hown : OwnV w b e size v n us) (hs : a.eval s = v) (C : Nat) (A : Option Addr) (m c : Nat) (news : List Value)
    (hx : a.eval x = .slice A m c) (hm : news.length = m * size) (hr : Rv w C A news) (h1 : ∀ u ∈ news, u.oneCell' = true) (hlen : n + m ≤ maxLen) (hbytes : (n + m) * bytes ≤ 140737488355328) (hbase : b ≤ w.heap.size)
    (h : ∀ v' w', OwnV w' b e size v' (n + m) (us ++ news) → GrownV w w' v v' → wpList P ops Q rest (a.put o.dst v') w') : wpList P ops Q (o :: rest) a w := by
  refine wpList_plain hgd fun K hK => ?_
  obtain ⟨v', w', hrun, h2, h3⟩ := run_appV E w o.type b v n us hown C A m c news hm hr h1 hlen hbytes hbase
  unfold Oper.wp execOp
  simp only [ho, resolve, invoke, builtin, Sem.run_bind, Sem.run_pure, Result.andThen_ok, List.map_toArray, List.map_cons, List.map_nil, hs, hx, hrun]
  exact hK _ _ (h v' w' h2 h3)
end

theorem ownV_nil (w : World) (b : Nat) (e : TypeId) (s : Nat) : OwnV w b e s (.slice none 0 0) 0 [] := World.ownsRow_nil w b e s
theorem rv_new (w : World) (e : TypeId) (cs : Array Value) : Rv (w.alloc (.cells cs e)) (w.heap.size + 1) (some ⟨w.heap.size, 0, none⟩) cs.toList := by
  intro j u hu
  refine ⟨_, rfl, Nat.lt_succ_self _, ?_⟩
  have h := World.cell?_alloc_new w cs e j
  rw [Array.getElem?_toList] at hu
  rw [← hu, ← h]
  unfold Addr.add
  by_cases hj : j = 0
  · subst hj; rfl
  · rw [if_neg hj]
    simp
def ints (l : List Int) : List Value := l.map (Value.int .i64)
theorem ints_length (l : List Int) : (ints l).length = l.length := List.length_map _
theorem ints_one (l : List Int) : ∀ u ∈ ints l, u.oneCell' = true := ints_oneCell .i64 l
end Go.Proofs.YtbcejfonkehjgaaGreatDoor
namespace Go.Proofs.YtbcejfonkehjgaaGreatDoor
open Go.RowKit

theorem wpList_store_new {P : Program} {w : World} {ops : Array Oper} {rest : List Oper} {o : Oper} {a : Act} {Q : Exit → Act → World → Prop} (hgd : o.guard = none) (t : TypeId) (p x : Operand)
    (ho : o.op = .store t p x) (hd : o.dst = none) (c c' : Array Value) (hp : a.eval p = .pointer (some ⟨w.heap.size, 0, none⟩)) (hx : a.eval x = .agg c') (hi : (P.info? t).map (·.size) = some c'.size) (hc : c.size = c'.size)
    (h1 : c'.all (·.oneCell') = true) (h : wpList P ops Q rest a (w.alloc (.cells c' t))) : wpList P ops Q (o :: rest) a (w.alloc (.cells c t)) := by
  refine wpList_plain hgd fun K hK => ?_
  have hrun := run_storeAt_new (P := P) w t c c' hi hc h1
  unfold Oper.wp execOp
  simp only [ho, hp, hx, hrun, Sem.run_bind, Sem.run_pure, Result.andThen_ok]
  have := hK _ _ h
  simpa [Oper.upon, hd, Act.put] using this
theorem results_new {P : Program} {fn : Func} {s : Tmp} {t : TypeId} (h : fn.results = #[.cell s t]) (w : World) (tmps : Array Value) (hs : tmps.getD s undef = .pointer (some ⟨w.heap.size, 0, none⟩)) (c : Array Value) (n : Nat) (e : TypeId)
    (hu : P.underlying t = some (.array n e)) (hi : (P.info? t).map (·.size) = some c.size) : (results fn tmps).run P (w.alloc (.cells c t)) = .ok (.agg c) (w.alloc (.cells c t)) := by
  have := run_loadVar_new (P := P) w t c n e hu hi
  rw [Array.getD_eq_getD_getElem?] at hs
  simp [results, h, hs, asAddr, this]
theorem results_new' {P : Program} {fn : Func} {s : Tmp} {t : TypeId} (h : fn.results = #[.cell s t]) (w : World) (tmps : Array Value) (hs : tmps.getD s undef = .pointer (some ⟨w.heap.size, 0, none⟩)) (c : Array Value) (d : TypeDesc)
    (hu : P.underlying t = some d) (hd : (match d with | .struct _ | .array _ _ => true | _ => false) = true) (hi : (P.info? t).map (·.size) = some c.size) : (results fn tmps).run P (w.alloc (.cells c t)) = .ok (.agg c) (w.alloc (.cells c t)) := by
  have := run_loadVar_row (P := P) (w.alloc (.cells c t)) w.heap.size t t c (0, 0) d (heap_alloc_last w _) hu hd hi
  rw [Array.getD_eq_getD_getElem?] at hs
  simp [results, h, hs, asAddr, this]
end Go.Proofs.YtbcejfonkehjgaaGreatDoor
namespace Go.Proofs.YtbcejfonkehjgaaGreatDoor
open Go.RowKit

noncomputable def dec (p : Prop) : Bool := @decide p (Classical.propDecidable p)
theorem dec_true {p : Prop} (h : p) : dec p = true := by unfold dec; exact @decide_eq_true p (Classical.propDecidable p) h
theorem dec_false {p : Prop} (h : ¬ p) : dec p = false := by unfold dec; exact @decide_eq_false p (Classical.propDecidable p) h
theorem dec_congr {p q : Prop} (h : p ↔ q) : dec p = dec q := by
  by_cases hp : p
  · rw [dec_true hp, dec_true (h.1 hp)]
  · rw [dec_false hp, dec_false fun hq => hp (h.2 hq)]
theorem ret_dec {b : Bool} {p : Prop} (h : b = true ↔ p) : Ending.returned (.bool b) = .returned (.bool (dec p)) := by
  by_cases hp : p
  · rw [dec_true hp, h.2 hp]
  · rw [dec_false hp]
    cases b
    · rfl
    · exact absurd (h.1 rfl) hp

theorem dec_iff {p : Prop} : dec p = true ↔ p := by
  by_cases h : p
  · rw [dec_true h]; simp [h]
  · rw [dec_false h]; simp [h]
theorem setSize (w : World) (a : Addr) (u : Value) : (w.setCell a u).heap.size = w.heap.size := by unfold World.setCell; split <;> simp
theorem addSucc (a : Addr) (i k : Nat) (hk : 0 < k) : a.add (i + k) = ⟨(a.add i).block, (a.add i).off + k, none⟩ := by
  unfold Addr.add
  rw [if_neg (by omega)]
  by_cases h : i = 0
  · subst h; rw [if_pos rfl, Nat.zero_add]
  · rw [if_neg h]
    show (⟨a.block, a.off + (i + k), none⟩ : Addr) = ⟨a.block, a.off + i + k, none⟩
    rw [Nat.add_assoc]

def Bx (w : World) (g : Nat) (t : TypeId) (cs : Array Value) : Prop := w.heap[g]? = some (.cells cs t (0, 0))
section
variable {w w' : World} {g : Nat} {t : TypeId} {cs : Array Value}
theorem Bx.lt (h : Bx w g t cs) : g < w.heap.size := by
  rcases Nat.lt_or_ge g w.heap.size with hlt | hge
  · exact hlt
  · unfold Bx at h; rw [Array.getElem?_eq_none hge] at h; cases h
theorem Bx.cell (h : Bx w g t cs) (i : Nat) : w.cell? ⟨g, i, none⟩ = cs[i]? := cell_of_row w g i cs t (0, 0) h
theorem Bx.free (h : Bx w g t cs) (i : Nat) : w.frozen? ⟨g, i, none⟩ = false := by
  unfold Bx at h
  simp [World.frozen?, h]
theorem Bx.next (h : Bx w g t cs) (hb : Below w.heap.size w w') : Bx w' g t cs := (hb.block g h.lt).trans h
theorem Bx.alloc (h : Bx w g t cs) (o : Obj) : Bx (w.alloc o) g t cs := h.next (below_alloc w o)
theorem Bx.new (w : World) (t : TypeId) (cs : Array Value) : Bx (w.alloc (.cells cs t)) w.heap.size t cs := heap_alloc_new w _
theorem Bx.set (h : Bx w g t cs) (i : Nat) (u : Value) : Bx (w.setCell ⟨g, i, none⟩ u) g t (cs.setIfInBounds i u) := by
  unfold Bx at h ⊢
  simp [World.setCell, Array.getElem?_modify, h]
theorem Bx.far (h : Bx w g t cs) (p : Addr) (u : Value) (hp : p.block ≠ g) : Bx (w.setCell p u) g t cs := (Below.heap_setCell w p u g (fun e => hp e.symm)).trans h
end

section
variable {P : Program} {w : World} {ops : Array Oper} {rest : List Oper} {o : Oper} {a : Act} {Q : Exit → Act → World → Prop}
theorem run_loadAt_bx {g : Nat} {t ty : TypeId} {cs : Array Value} {d : TypeDesc} (h : Bx w g t cs) (hu : P.underlying ty = some d) (hd : (match d with | .struct _ | .array _ _ => true | _ => false) = true) (hi : (P.info? ty).map (·.size) = some cs.size) :
    (Instr.loadAt ty (.pointer (some ⟨g, 0, none⟩))).run P w = .ok (.agg cs) w := by
  simp only [Instr.loadAt, Instr.sureAddr, Sem.run_bind, Sem.run_pure, Result.andThen]
  exact run_loadVar_row w g t ty cs (0, 0) d h hu hd hi
theorem wpList_load_bx (hgd : o.guard = none) (ty : TypeId) (p : Operand) (ho : o.op = .load ty p) (g : Nat) (t : TypeId) (cs : Array Value) (d : TypeDesc) (hp : a.eval p = .pointer (some ⟨g, 0, none⟩)) (hb : Bx w g t cs)
    (hu : P.underlying ty = some d) (hd : (match d with | .struct _ | .array _ _ => true | _ => false) = true) (hi : (P.info? ty).map (·.size) = some cs.size) (h : wpList P ops Q rest (a.put o.dst (.agg cs)) w) : wpList P ops Q (o :: rest) a w := by
  refine wpList_plain hgd fun K hK => ?_
  have hrun := run_loadAt_bx (P := P) hb hu hd hi
  unfold Oper.wp execOp
  simp only [ho, hp, hrun, Sem.run_bind, Sem.run_pure, Result.andThen_ok]
  exact hK _ _ h
end
section
variable {w w' : World} {g : Nat} {t : TypeId} {cs cs' : Array Value}
theorem Bx.row (h : Bx w g t cs) : Bx (w.setRow g cs') g t cs' := setRow_heap w g cs cs' t (0, 0) h
theorem Bx.rowFar (h : Bx w g t cs) {k : Nat} (hk : g ≠ k) : Bx (w.setRow k cs') g t cs := (setRow_other w k g cs' hk).trans h
theorem Bx.draws (h : Bx w g t cs) (n : Nat) : Bx (w.drewN n) g t cs := h
end
section
variable {P : Program} {w : World} {ops : Array Oper} {rest : List Oper} {o : Oper} {a : Act} {Q : Exit → Act → World → Prop}
theorem wpList_store_bx (hgd : o.guard = none) (ty : TypeId) (p x : Operand) (ho : o.op = .store ty p x) (hd : o.dst = none) (g : Nat) (t : TypeId) (cs cs' : Array Value) (hp : a.eval p = .pointer (some ⟨g, 0, none⟩)) (hx : a.eval x = .agg cs') (hb : Bx w g t cs)
    (hi : (P.info? ty).map (·.size) = some cs'.size) (hc : cs.size = cs'.size) (h1 : cs'.all (·.oneCell') = true) (h : wpList P ops Q rest a (w.setRow g cs')) : wpList P ops Q (o :: rest) a w :=
  wpList_plain hgd fun K hK => wp_store_row ty p x ho g cs' hp hx t cs hb hi hc h1 (by
    have := hK _ _ h
    simpa [hd, Act.put] using this)
theorem results_bx3 {fn : Func} {s b c : Tmp} {ty : TypeId} (h : fn.results = #[.cell s ty, .tmp b, .tmp c]) (tmps : Array Value) {g : Nat} {t : TypeId} {cs : Array Value} {d : TypeDesc} (hs : tmps.getD s undef = .pointer (some ⟨g, 0, none⟩)) (hb : Bx w g t cs)
    (hu : P.underlying ty = some d) (hd : (match d with | .struct _ | .array _ _ => true | _ => false) = true) (hi : (P.info? ty).map (·.size) = some cs.size) :
    (results fn tmps).run P w = .ok (.tuple #[.agg cs, tmps.getD b undef, tmps.getD c undef]) w := by
  have := run_loadVar_row (P := P) w g t ty cs (0, 0) d hb hu hd hi
  rw [Array.getD_eq_getD_getElem?] at hs
  simp [results, h, hs, asAddr, this]
theorem results_bx2 {fn : Func} {s b : Tmp} {ty : TypeId} (h : fn.results = #[.cell s ty, .tmp b]) (tmps : Array Value) {g : Nat} {t : TypeId} {cs : Array Value} {d : TypeDesc} (hs : tmps.getD s undef = .pointer (some ⟨g, 0, none⟩)) (hb : Bx w g t cs)
    (hu : P.underlying ty = some d) (hd : (match d with | .struct _ | .array _ _ => true | _ => false) = true) (hi : (P.info? ty).map (·.size) = some cs.size) :
    (results fn tmps).run P w = .ok (.tuple #[.agg cs, tmps.getD b undef]) w := by
  have := run_loadVar_row (P := P) w g t ty cs (0, 0) d hb hu hd hi
  rw [Array.getD_eq_getD_getElem?] at hs
  simp [results, h, hs, asAddr, this]
end
theorem grown_set {a w : World} {g : Nat} (h : a.grownBy w (some g)) (i : Nat) (u : Value) : a.grownBy (w.setCell ⟨g, i, none⟩ u) (some g) :=
  ⟨h.os, h.tape, h.output, by rw [setSize]; exact h.size, fun j hj hne => (Below.heap_setCell w ⟨g, i, none⟩ u j (fun e => hne (by rw [e]))).trans (h.block j hj hne)⟩
theorem grown_below {a w : World} (h : Below a.heap.size a w) (row : Option Nat) : a.grownBy w row := ⟨h.os, h.tape, h.output, h.size, fun i hi _ => h.block i hi⟩
theorem Bx.apart {w w' : World} {k : Nat} {t : TypeId} {cs : Array Value} {row : Option Nat} (h : Bx w k t cs) (hg : w.grownBy w' row) (hne : some k ≠ row) : Bx w' k t cs := (hg.block k h.lt hne).trans h
theorem grown_row (w : World) (g : Nat) (cs : Array Value) : w.grownBy (w.setRow g cs) (some g) :=
  ⟨rfl, rfl, rfl, by rw [setRow_size]; exact Nat.le_refl _, fun j _ hne => setRow_other w g j cs (fun e => hne (by rw [e]))⟩
theorem below_set {B : Nat} {a w : World} (h : Below B a w) (p : Addr) (u : Value) (hp : B ≤ p.block) : Below B a (w.setCell p u) := h.setCell hp u
structure Since (w : World) where
  at_ : World
  bel : Below w.heap.size w at_

instance (w : World) : Inhabited (Since w) := ⟨⟨w, Below.refl _ _⟩⟩

theorem wp_region_since {P : Program} {id : Nat} {Q : Exit → Act → World → Prop} {a : Act} {w : World} {l : List Oper} (hm : P.follows .mixedOrders = true) (hB : Region.lexB .any l.toArray = true)
    (h : wpQuiet P l.toArray (fun w' => ∃ p : Since w, w' = p.at_) (fun a' => ∀ w', (∃ p : Since w, w' = p.at_) → Q .normal a' w') l a) : (Code.region id l.toArray true).wp P Q a w :=
  wp_region_quiet (C := fun w' => ∃ p : Since w, w' = p.at_) hm hB ⟨⟨w.drew, (Below.refl _ _).drew⟩, rfl⟩ (by simpa using h)

theorem Calls.since {P : Program} {f : FuncId} {args : Array Value} {w : World} {v : Value} (p : Since w)
    (h : Calls P f args p.at_ fun e w' => e = .returned v ∧ Below p.at_.heap.size p.at_ w') : Calls P f args p.at_ fun e w'' => e = .returned v ∧ ∃ q : Since w, w'' = q.at_ :=
  h.mono fun _ w' ⟨he, hb⟩ => ⟨he, ⟨w', p.bel.trans (hb.mono p.bel.size)⟩, rfl⟩
theorem below_draws {B : Nat} {a w : World} (h : Below B a w) (n : Nat) : Below B a (w.drewN n) := ⟨h.os, h.tape, h.output, h.size, h.block⟩
theorem Calls.sinceN {P : Program} {f : FuncId} {args : Array Value} {w : World} {v : Value} (p : Since w)
    (h : Calls P f args p.at_ fun e w' => e = .returned v ∧ ∃ n, w' = p.at_.drewN n) : Calls P f args p.at_ fun e w'' => e = .returned v ∧ ∃ q : Since w, w'' = q.at_ :=
  h.mono fun _ _ ⟨he, n, e⟩ => ⟨he, ⟨p.at_.drewN n, below_draws p.bel n⟩, e⟩
theorem wpList_load_bxg {P : Program} {w : World} {ops : Array Oper} {rest : List Oper} {o : Oper} {a : Act} {Q : Exit → Act → World → Prop} (hgd : Region.wanted o (yielded ops a.tmps) = true) (ty : TypeId) (p : Operand) (ho : o.op = .load ty p) (g : Nat) (t : TypeId) (cs : Array Value) (d : TypeDesc) (hp : a.eval p = .pointer (some ⟨g, 0, none⟩)) (hb : Bx w g t cs)
    (hu : P.underlying ty = some d) (hd : (match d with | .struct _ | .array _ _ => true | _ => false) = true) (hi : (P.info? ty).map (·.size) = some cs.size) (h : wpList P ops Q rest (a.put o.dst (.agg cs)) w) : wpList P ops Q (o :: rest) a w := by
  refine BigFrame.wpList_want hgd fun K hK => ?_
  have hrun := run_loadAt_bx (P := P) hb hu hd hi
  unfold Oper.wp execOp
  simp only [ho, hp, hrun, Sem.run_bind, Sem.run_pure, Result.andThen_ok]
  exact hK _ _ h
theorem Bx.all4 {w : World} {g : Nat} {t : TypeId} {a0 a1 a2 a3 : Value} (h : Bx w g t #[a0, a1, a2, a3]) : w.cell? ⟨g, 0, none⟩ = some a0 ∧ w.cell? ⟨g, 1, none⟩ = some a1 ∧ w.cell? ⟨g, 2, none⟩ = some a2 ∧ w.cell? ⟨g, 3, none⟩ = some a3 := ⟨h.cell 0, h.cell 1, h.cell 2, h.cell 3⟩
theorem Bx.all5 {w : World} {g : Nat} {t : TypeId} {a0 a1 a2 a3 a4 : Value} (h : Bx w g t #[a0, a1, a2, a3, a4]) : w.cell? ⟨g, 0, none⟩ = some a0 ∧ w.cell? ⟨g, 1, none⟩ = some a1 ∧ w.cell? ⟨g, 2, none⟩ = some a2 ∧ w.cell? ⟨g, 3, none⟩ = some a3 ∧ w.cell? ⟨g, 4, none⟩ = some a4 := ⟨h.cell 0, h.cell 1, h.cell 2, h.cell 3, h.cell 4⟩
theorem Bx.all6 {w : World} {g : Nat} {t : TypeId} {a0 a1 a2 a3 a4 a5 : Value} (h : Bx w g t #[a0, a1, a2, a3, a4, a5]) : w.cell? ⟨g, 0, none⟩ = some a0 ∧ w.cell? ⟨g, 1, none⟩ = some a1 ∧ w.cell? ⟨g, 2, none⟩ = some a2 ∧ w.cell? ⟨g, 3, none⟩ = some a3 ∧ w.cell? ⟨g, 4, none⟩ = some a4 ∧ w.cell? ⟨g, 5, none⟩ = some a5 := ⟨h.cell 0, h.cell 1, h.cell 2, h.cell 3, h.cell 4, h.cell 5⟩
theorem Bx.all8 {w : World} {g : Nat} {t : TypeId} {a0 a1 a2 a3 a4 a5 a6 a7 : Value} (h : Bx w g t #[a0, a1, a2, a3, a4, a5, a6, a7]) : w.cell? ⟨g, 0, none⟩ = some a0 ∧ w.cell? ⟨g, 1, none⟩ = some a1 ∧ w.cell? ⟨g, 2, none⟩ = some a2 ∧ w.cell? ⟨g, 3, none⟩ = some a3 ∧ w.cell? ⟨g, 4, none⟩ = some a4 ∧ w.cell? ⟨g, 5, none⟩ = some a5 ∧ w.cell? ⟨g, 6, none⟩ = some a6 ∧ w.cell? ⟨g, 7, none⟩ = some a7 := ⟨h.cell 0, h.cell 1, h.cell 2, h.cell 3, h.cell 4, h.cell 5, h.cell 6, h.cell 7⟩
theorem results_bx1 {P : Program} {w : World} {fn : Func} {s : Tmp} {ty : TypeId} (h : fn.results = #[.cell s ty]) (tmps : Array Value) {g : Nat} {t : TypeId} {cs : Array Value} {d : TypeDesc} (hs : tmps.getD s undef = .pointer (some ⟨g, 0, none⟩)) (hb : Bx w g t cs)
    (hu : P.underlying ty = some d) (hd : (match d with | .struct _ | .array _ _ => true | _ => false) = true) (hi : (P.info? ty).map (·.size) = some cs.size) :
    (results fn tmps).run P w = .ok (.agg cs) w := by
  have := run_loadVar_row (P := P) w g t ty cs (0, 0) d hb hu hd hi
  rw [Array.getD_eq_getD_getElem?] at hs
  simp [results, h, hs, asAddr, this]
end Go.Proofs.YtbcejfonkehjgaaGreatDoor
namespace Go.Proofs.YtbcejfonkehjgaaGreatDoor
open Go.RowKit

theorem addG (g j : Nat) : (⟨g, 0, none⟩ : Addr).add j = ⟨g, j, none⟩ := by unfold Addr.add; split <;> simp_all
def OwnW (w : World) (e : TypeId) (v : Value) (us : List Value) : Prop :=
  (v = .slice none 0 0 ∧ us = []) ∨ ∃ g cap cur, v = .slice (some ⟨g, 0, none⟩) us.length cap ∧ w.heap[g]? = some (.cells cur e (0, 0)) ∧ us.length ≤ cap ∧ cap ≤ maxLen ∧ cap ≤ cur.size ∧ cur.toList.take us.length = us

structure GrW (w w' : World) (v v' : Value) : Prop where
  gr : w.grownBy w' v.ownBlock
  at_ : v'.ownBlock = v.ownBlock ∨ ∀ g, v'.ownBlock = some g → w.heap.size ≤ g ∧ g < w'.heap.size

section
variable {w w' w'' : World} {e : TypeId} {v v' v'' : Value} {us : List Value}
theorem ownW_nil (w : World) (e : TypeId) : OwnW w e (.slice none 0 0) [] := .inl ⟨rfl, rfl⟩
theorem GrW.refl (w : World) (v : Value) : GrW w w v v := ⟨World.grownBy.refl w _, .inl rfl⟩
theorem GrW.of (h : Below w.heap.size w w') (v : Value) : GrW w w' v v := ⟨grown_below h _, .inl rfl⟩
theorem GrW.trans (h : GrW w w' v v') (k : GrW w' w'' v' v'') : GrW w w'' v v'' := by
  refine ⟨⟨k.gr.os.trans h.gr.os, k.gr.tape.trans h.gr.tape, k.gr.output.trans h.gr.output, Nat.le_trans h.gr.size k.gr.size, fun j hj hne => ?_⟩, ?_⟩
  · refine (k.gr.block j (Nat.lt_of_lt_of_le hj h.gr.size) (fun e => ?_)).trans (h.gr.block j hj hne)
    rcases h.at_ with h2 | h2
    · exact hne (by rw [e, h2])
    · have := h2 j e.symm
      omega
  · rcases k.at_ with k2 | k2
    · rcases h.at_ with h2 | h2
      · exact .inl (k2.trans h2)
      · right
        intro g hg
        rw [k2] at hg
        have := h2 g hg
        have := k.gr.size
        omega
    · right
      intro g hg
      have := k2 g hg
      have := h.gr.size
      omega
theorem GrW.other (h : GrW w w' v v') {j : Nat} (hj : j < w.heap.size) (hne : v.ownBlock ≠ some j) : w'.heap[j]? = w.heap[j]? := h.gr.block j hj (fun e => hne e.symm)
theorem OwnW.lt (h : OwnW w e v us) {g : Nat} (hg : v.ownBlock = some g) : g < w.heap.size := by
  rcases h with ⟨rfl, _⟩ | ⟨g', cap, cur, rfl, hh, _⟩
  · simp [Value.ownBlock] at hg
  · simp [Value.ownBlock] at hg
    subst hg
    exact (Array.getElem?_eq_some_iff.1 hh).1
theorem OwnW.kept (h : OwnW w e v us) (hb : ∀ g, v.ownBlock = some g → w'.heap[g]? = w.heap[g]?) : OwnW w' e v us := by
  rcases h with h | ⟨g, cap, cur, rfl, hh, r⟩
  · exact .inl h
  · exact .inr ⟨g, cap, cur, rfl, (hb g rfl).trans hh, r⟩
theorem OwnW.below (h : OwnW w e v us) (hb : Below w.heap.size w w') : OwnW w' e v us := h.kept fun g hg => hb.block g (h.lt hg)
theorem OwnW.grown (h : OwnW w e v us) {u u' : Value} (hg : GrW w w' u u') (hne : ∀ g, v.ownBlock = some g → u.ownBlock ≠ some g) : OwnW w' e v us := h.kept fun g hg' => hg.other (h.lt hg') (hne g hg')
theorem OwnW.read (h : OwnW w e v us) : ∃ A c, v = .slice A us.length c ∧ Rv w w.heap.size A us ∧ us.length ≤ c ∧ c ≤ maxLen := by
  rcases h with ⟨rfl, rfl⟩ | ⟨g, cap, cur, rfl, hh, h1, h2, h3, h4⟩
  · exact ⟨none, 0, rfl, Rv.nil _ _ _, Nat.le_refl _, by unfold maxLen; omega⟩
  · refine ⟨_, cap, rfl, fun j u hu => ⟨_, rfl, (Array.getElem?_eq_some_iff.1 hh).1, ?_⟩, h1, h2⟩
    have hadd : (⟨g, 0, none⟩ : Addr).add j = ⟨g, j, none⟩ := addG g j
    have hj : j < us.length := (List.getElem?_eq_some_iff.1 hu).1
    rw [hadd, cell_of_row w g j cur e (0, 0) hh, ← Array.getElem?_toList]
    rw [← h4, List.getElem?_take, if_pos hj] at hu
    exact hu
theorem OwnW.place (h : OwnW w e v us) (hp : 0 < us.length) : ∃ g c, v = .slice (some ⟨g, 0, none⟩) us.length c := by
  rcases h with ⟨rfl, rfl⟩ | ⟨g, cap, cur, rfl, _⟩
  · simp at hp
  · exact ⟨g, cap, rfl⟩
theorem OwnW.cellAt {g n c : Nat} (h : OwnW w e (.slice (some ⟨g, 0, none⟩) n c) us) {j : Nat} (hj : j < us.length) : w.cell? ⟨g, j, none⟩ = us[j]? ∧ w.frozen? ⟨g, j, none⟩ = false := by
  rcases h with ⟨h', _⟩ | ⟨g', cap, cur, h', hh, h1, h2, h3, h4⟩
  · simp at h'
  · simp only [Value.slice.injEq, Option.some.injEq, Addr.mk.injEq, and_true] at h'
    obtain ⟨rfl, -, -⟩ := h'
    refine ⟨?_, frozen_of_row w g j cur e hh⟩
    rw [cell_of_row w g j cur e (0, 0) hh, ← Array.getElem?_toList]
    have : us[j]? = (cur.toList.take us.length)[j]? := by rw [h4]
    rw [this, List.getElem?_take, if_pos hj]
theorem OwnW.len {g n c : Nat} (h : OwnW w e (.slice (some ⟨g, 0, none⟩) n c) us) : n = us.length := by
  rcases h with ⟨h', _⟩ | ⟨g', cap, cur, h', _⟩
  · simp at h'
  · injection h'
theorem OwnW.set {g n c : Nat} (h : OwnW w e (.slice (some ⟨g, 0, none⟩) n c) us) {j : Nat} (hj : j < us.length) {u : Value} :
    OwnW (w.setCell ⟨g, j, none⟩ u) e (.slice (some ⟨g, 0, none⟩) n c) (us.set j u) ∧ GrW w (w.setCell ⟨g, j, none⟩ u) (.slice (some ⟨g, 0, none⟩) n c) (.slice (some ⟨g, 0, none⟩) n c) := by
  have hcell := (h.cellAt hj).1
  rcases h with ⟨h', _⟩ | ⟨g', cap, cur, h', hh, h1, h2, h3, h4⟩
  · simp at h'
  · simp only [Value.slice.injEq, Option.some.injEq, Addr.mk.injEq, and_true] at h'
    obtain ⟨rfl, rfl, rfl⟩ := h'
    refine ⟨.inr ⟨g, c, cur.setIfInBounds j u, by rw [List.length_set], heap_setCell_same w g j cur e u hh, by rw [List.length_set]; exact h1, h2, by simpa using h3, ?_⟩, ?_, .inl rfl⟩
    · rw [Array.toList_setIfInBounds, List.length_set, List.take_set, h4]
    · exact ⟨rfl, rfl, rfl, by rw [setSize]; exact Nat.le_refl _, fun k _ hk => heap_setCell_other w ⟨g, j, none⟩ k u (fun e => hk (by simp [Value.ownBlock, e]))⟩
theorem OwnW.cut {g n c : Nat} (h : OwnW w e (.slice (some ⟨g, 0, none⟩) n c) us) (i : Nat) (hi : i ≤ us.length) : OwnW w e (.slice (some ⟨g, 0, none⟩) i i) (us.take i) := by
  rcases h with ⟨h', _⟩ | ⟨g', cap, cur, h', hh, h1, h2, h3, h4⟩
  · simp at h'
  · simp only [Value.slice.injEq, Option.some.injEq, Addr.mk.injEq, and_true] at h'
    obtain ⟨rfl, -, rfl⟩ := h'
    have hl : (us.take i).length = i := by rw [List.length_take]; omega
    refine .inr ⟨g, i, cur, by rw [hl], hh, by rw [hl]; exact Nat.le_refl _, by omega, by omega, ?_⟩
    rw [hl, ← h4, List.take_take, Nat.min_eq_left hi]
end

section
variable {P : Program} {S e : TypeId} {z : Value} {bytes : Nat}
theorem run_appW (E : Elt P S e z 1 bytes) (w : World) (ty : TypeId) (v : Value) (us : List Value) (hown : OwnW w e v us) (C : Nat) (A : Option Addr) (m c : Nat) (news : List Value)
    (hm : news.length = m) (hr : Rv w C A news) (h1 : ∀ u ∈ news, u.oneCell' = true) (hlen : us.length + m ≤ maxLen) (hbytes : (us.length + m) * bytes ≤ 140737488355328) :
    ∃ v' w', (Builtin.append_ #[S, S] ty #[v, .slice A m c]).run P w = .ok v' w' ∧ OwnW w' e v' (us ++ news) ∧ GrW w w' v v' := by
  obtain ⟨i, hi, hzi, hs, hb⟩ := info_parts E.info
  have hsmall : us.length + m ≤ 9223372036854775807 := by simp only [maxLen] at hlen; omega
  subst hm
  rcases A with _ | ad
  · have hnews : news = [] := by
      cases news with
      | nil => rfl
      | cons x r => obtain ⟨_, e, _⟩ := hr 0 x rfl; cases e
    subst hnews
    refine ⟨v, w, ?_, by rw [List.append_nil]; exact hown, GrW.refl w v⟩
    rcases hown with ⟨rfl, rfl⟩ | ⟨g, cap, cur, rfl, hh, hnc, _⟩
    · simp [Builtin.append_, run_underlying E.und, sizeOf, typeInfo, hi, Builtin.lenOf, Builtin.firstCells]
    · simp [Builtin.append_, run_underlying E.und, sizeOf, typeInfo, hi, Builtin.lenOf, Builtin.firstCells, hnc, storeCells]
  · have hc : ∀ j u, news[j]? = some u → w.cell? (ad.add j) = some u := by
      intro j u hu
      obtain ⟨ad', e, _, hh⟩ := hr j u hu
      injection e with e
      subst e
      exact hh
    have hl : news.length = news.length * i.size := by rw [hs, Nat.mul_one]
    -- a new block
    have grown : ∀ (old : Nat) (row : Value),
        OwnW (w.drew.alloc (.cells (us.toArray ++ news.toArray ++ Builtin.zeroCells z.cells (grownCap w (us.length + news.length) old e - (us.length + news.length))) e)) e
          (.slice (some ⟨w.heap.size, 0, none⟩) (us.length + news.length) (grownCap w (us.length + news.length) old e)) (us ++ news) ∧
        GrW w (w.drew.alloc (.cells (us.toArray ++ news.toArray ++ Builtin.zeroCells z.cells (grownCap w (us.length + news.length) old e - (us.length + news.length))) e)) row (.slice (some ⟨w.heap.size, 0, none⟩) (us.length + news.length) (grownCap w (us.length + news.length) old e)) := by
      intro old row
      have hge := grownCap_ge w (us.length + news.length) old e
      have hcm := grownCap_le_maxLen w (us.length + news.length) old e hlen
      have hbel : Below w.heap.size w (w.drew.alloc (.cells (us.toArray ++ news.toArray ++ Builtin.zeroCells z.cells (grownCap w (us.length + news.length) old e - (us.length + news.length))) e)) :=
        ⟨rfl, rfl, rfl, (below_alloc w.drew _).size, (below_alloc w.drew _).block⟩
      refine ⟨.inr ⟨w.heap.size, _, _, by rw [List.length_append], heap_alloc_new w.drew _, by rw [List.length_append]; exact hge, hcm, ?_, ?_⟩, grown_below hbel _, .inr fun g hg => ?_⟩
      · simp only [Array.size_append, List.size_toArray, size_zeroCells, E.zc]
        omega
      · simp only [Array.toList_append]
        exact List.take_left
      · simp [Value.ownBlock] at hg
        subst hg
        simp
    rcases hown with ⟨rfl, rfl⟩ | ⟨g, cap, cur, rfl, hh, hnc, hcm, hcs, htake⟩
    · by_cases hm0 : news.length = 0
      · have hn : news = [] := List.eq_nil_of_length_eq_zero hm0
        subst hn
        refine ⟨.slice none 0 0, w, ?_, ownW_nil w e, GrW.refl w _⟩
        simp [Builtin.append_, run_underlying E.und, sizeOf, typeInfo, hi, Builtin.lenOf, Builtin.firstCells, loadCells, loadCellsFrom]
      · have hrun := run_append_nil (P := P) w S ty e i z E.und hi hzi ad news.length c news hl hc (by omega) (by rw [List.length_nil, Nat.zero_add] at hsmall; omega) (by rw [hb]; rw [List.length_nil, Nat.zero_add] at hbytes; omega)
        have hgr := grown 0 (.slice none 0 0)
        simp only [List.length_nil, Nat.zero_add, List.nil_append, Array.empty_append] at hgr ⊢
        exact ⟨_, _, hrun, hgr.1, hgr.2⟩
    · by_cases hroom : us.length + news.length ≤ cap
      · have hrun := run_append_room (P := P) w S ty e i E.und hi g us.length cap cur hh ad news.length c news hl hc h1 hroom (by rw [hs, Nat.mul_one]; omega)
        rw [hs, Nat.mul_one] at hrun
        have hbx : Bx w g e cur := hh
        refine ⟨_, _, hrun, .inr ⟨g, cap, _, by rw [List.length_append], setRow_heap w g cur _ e _ hh, by rw [List.length_append]; exact hroom, hcm, ?_, ?_⟩, grown_row w g _, .inl rfl⟩
        · simp only [List.size_toArray, List.length_append, List.length_take, List.length_drop, Array.length_toList]
          omega
        · show List.take _ (_ ++ news ++ _) = _
          rw [htake]
          exact List.take_left
      · have holds : ∀ j u, us[j]? = some u → w.cell? ((⟨g, 0, none⟩ : Addr).add j) = some u := by
          intro j u hu
          have ho : OwnW w e (.slice (some ⟨g, 0, none⟩) us.length cap) us := .inr ⟨g, cap, cur, rfl, hh, hnc, hcm, hcs, htake⟩
          have hadd : (⟨g, 0, none⟩ : Addr).add j = ⟨g, j, none⟩ := addG g j
          rw [hadd, (ho.cellAt (List.getElem?_eq_some_iff.1 hu).1).1, hu]
        have hrun := run_append_grow (P := P) w S ty e i z E.und hi hzi ⟨g, 0, none⟩ us.length cap us (by rw [hs, Nat.mul_one]) holds ad news.length c news hl hc (by omega) (by omega) (growslice_fits (by omega) (by rw [hb]; exact hbytes))
        have hgr := grown cap (.slice (some ⟨g, 0, none⟩) us.length cap)
        exact ⟨_, _, hrun, hgr.1, hgr.2⟩

theorem wp_appW (E : Elt P S e z 1 bytes) {w : World} {o : Oper} {a : Act} {K : Act → World → Prop} {Q : Exit → Act → World → Prop} (s x : Operand)
    (ho : o.op = .call { callee := .builtin .append, args := #[s, x], argTypes := #[S, S] }) (v : Value) (us : List Value) (hown : OwnW w e v us) (hs : a.eval s = v) (C : Nat) (A : Option Addr) (m c : Nat) (news : List Value)
    (hx : a.eval x = .slice A m c) (hm : news.length = m) (hr : Rv w C A news) (h1 : ∀ u ∈ news, u.oneCell' = true) (hlen : us.length + m ≤ maxLen) (hbytes : (us.length + m) * bytes ≤ 140737488355328)
    (h : ∀ v' w', OwnW w' e v' (us ++ news) → GrW w w' v v' → K (a.put o.dst v') w') : o.wp P a w K Q := by
  obtain ⟨v', w', hrun, h2, h3⟩ := run_appW E w o.type v us hown C A m c news hm hr h1 hlen hbytes
  unfold Oper.wp execOp
  simp only [ho, resolve, invoke, builtin, Sem.run_bind, Sem.run_pure, Result.andThen_ok, List.map_toArray, List.map_cons, List.map_nil, hs, hx, hrun]
  exact h v' w' h2 h3
theorem wpList_appW (E : Elt P S e z 1 bytes) {w : World} {ops : Array Oper} {rest : List Oper} {o : Oper} {a : Act} {Q : Exit → Act → World → Prop} (hgd : o.guard = none) (s x : Operand)
    (ho : o.op = .call { callee := .builtin .append, args := #[s, x], argTypes := #[S, S] }) (v : Value) (us : List Value) (hown : OwnW w e v us) (hs : a.eval s = v) (C : Nat) (A : Option Addr) (m c : Nat) (news : List Value)
    (hx : a.eval x = .slice A m c) (hm : news.length = m) (hr : Rv w C A news) (h1 : ∀ u ∈ news, u.oneCell' = true) (hlen : us.length + m ≤ maxLen) (hbytes : (us.length + m) * bytes ≤ 140737488355328)
    (h : ∀ v' w', OwnW w' e v' (us ++ news) → GrW w w' v v' → wpList P ops Q rest (a.put o.dst v') w') : wpList P ops Q (o :: rest) a w :=
  wpList_plain hgd fun _ hK => wp_appW E s x ho v us hown hs C A m c news hx hm hr h1 hlen hbytes fun v' w' h2 h3 => hK _ _ (h v' w' h2 h3)
end
end Go.Proofs.YtbcejfonkehjgaaGreatDoor
