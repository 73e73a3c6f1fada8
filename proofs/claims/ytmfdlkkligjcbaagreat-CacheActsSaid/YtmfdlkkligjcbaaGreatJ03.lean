/-
  What is proved: small facts that the walks of the layers behind conf lean on: a proposition as a truth; a block of the call's own that is known whole; a whole aggregate loaded, stored, handed back; worlds that came from another one. No condition on a program.
-/
import Derived.Test.YtmfdlkkligjcbaaGreatJ02
import Derived.Laws.CopyOwn
import Derived.BigQuiet
import Derived.Deep.QuietTactic
import Derived.Deep.RegionLaw
import Derived.BigFrame
import Derived.Test.YtmfdlkkligjcbaaGreatRows
import Derived.Test.YtmfdlkkligjcbaaGreatJ01
import Derived.BigRegion
import Derived.Deep.DeepCutAuto
import Derived.Deep.CutBlock
import Derived.Deep.DeepMust
namespace Go.Proofs.YtmfdlkkligjcbaaGreat
open Go.RowKit

/-- a proposition as a truth -/
noncomputable def dec (p : Prop) : Bool := @decide p (Classical.propDecidable p)
theorem dec_true {p : Prop} (h : p) : dec p = true := by unfold dec; exact @decide_eq_true p (Classical.propDecidable p) h
theorem dec_false {p : Prop} (h : ¬ p) : dec p = false := by unfold dec; exact @decide_eq_false p (Classical.propDecidable p) h
theorem dec_congr {p q : Prop} (h : p ↔ q) : dec p = dec q := by
  by_cases hp : p
  · rw [dec_true hp, dec_true (h.1 hp)]
  · rw [dec_false hp, dec_false fun hq => hp (h.2 hq)]
theorem ret_dec {b : Bool} {p : Prop} (h : b = true ↔ p) : Ending.returned (.bool b) = .returned (.bool (dec p)) := by
  by_cases hp : p
  · rw [dec_true hp, h.2 hp]
  · rw [dec_false hp]
    cases b
    · rfl
    · exact absurd (h.1 rfl) hp

theorem dec_iff {p : Prop} : dec p = true ↔ p := by
  by_cases h : p
  · rw [dec_true h]; simp [h]
  · rw [dec_false h]; simp [h]
theorem val_dec {b : Bool} {p : Prop} (h : b = true ↔ p) : Value.bool b = .bool (dec p) := by
  by_cases hp : p
  · rw [dec_true hp, h.2 hp]
  · rw [dec_false hp]
    cases b
    · rfl
    · exact absurd (h.1 rfl) hp
theorem setSize (w : World) (a : Addr) (u : Value) : (w.setCell a u).heap.size = w.heap.size := by unfold World.setCell; split <;> simp
theorem addSucc (a : Addr) (i k : Nat) (hk : 0 < k) : a.add (i + k) = ⟨(a.add i).block, (a.add i).off + k, none⟩ := by
  unfold Addr.add
  rw [if_neg (by omega)]
  by_cases h : i = 0
  · subst h; rw [if_pos rfl, Nat.zero_add]
  · rw [if_neg h]
    show (⟨a.block, a.off + (i + k), none⟩ : Addr) = ⟨a.block, a.off + i + k, none⟩
    rw [Nat.add_assoc]

/-- block g holds just these cells -/
def Bx (w : World) (g : Nat) (t : TypeId) (cs : Array Value) : Prop := w.heap[g]? = some (.cells cs t (0, 0))
section
variable {w w' : World} {g : Nat} {t : TypeId} {cs : Array Value}
theorem Bx.lt (h : Bx w g t cs) : g < w.heap.size := by
  rcases Nat.lt_or_ge g w.heap.size with hlt | hge
  · exact hlt
  · unfold Bx at h; rw [Array.getElem?_eq_none hge] at h; cases h
theorem Bx.cell (h : Bx w g t cs) (i : Nat) : w.cell? ⟨g, i, none⟩ = cs[i]? := cell_of_row w g i cs t (0, 0) h
theorem Bx.free (h : Bx w g t cs) (i : Nat) : w.frozen? ⟨g, i, none⟩ = false := by
  unfold Bx at h
  simp [World.frozen?, h]
theorem Bx.next (h : Bx w g t cs) (hb : Below w.heap.size w w') : Bx w' g t cs := (hb.block g h.lt).trans h
theorem Bx.alloc (h : Bx w g t cs) (o : Obj) : Bx (w.alloc o) g t cs := h.next (below_alloc w o)
theorem Bx.new (w : World) (t : TypeId) (cs : Array Value) : Bx (w.alloc (.cells cs t)) w.heap.size t cs := heap_alloc_new w _
theorem Bx.set (h : Bx w g t cs) (i : Nat) (u : Value) : Bx (w.setCell ⟨g, i, none⟩ u) g t (cs.setIfInBounds i u) := by
  unfold Bx at h ⊢
  simp [World.setCell, Array.getElem?_modify, h]
theorem Bx.far (h : Bx w g t cs) (p : Addr) (u : Value) (hp : p.block ≠ g) : Bx (w.setCell p u) g t cs := (Below.heap_setCell w p u g (fun e => hp e.symm)).trans h
end

section
variable {P : Program} {w : World} {ops : Array Oper} {rest : List Oper} {o : Oper} {a : Act} {Q : Exit → Act → World → Prop}
theorem run_loadAt_bx {g : Nat} {t ty : TypeId} {cs : Array Value} {d : TypeDesc} (h : Bx w g t cs) (hu : P.underlying ty = some d) (hd : (match d with | .struct _ | .array _ _ => true | _ => false) = true) (hi : (P.info? ty).map (·.size) = some cs.size) :
    (Instr.loadAt ty (.pointer (some ⟨g, 0, none⟩))).run P w = .ok (.agg cs) w := by
  simp only [Instr.loadAt, Instr.sureAddr, Sem.run_bind, Sem.run_pure, Result.andThen]
  exact run_loadVar_row w g t ty cs (0, 0) d h hu hd hi
theorem wpList_load_bx (hgd : o.guard = none) (ty : TypeId) (p : Operand) (ho : o.op = .load ty p) (g : Nat) (t : TypeId) (cs : Array Value) (d : TypeDesc) (hp : a.eval p = .pointer (some ⟨g, 0, none⟩)) (hb : Bx w g t cs)
    (hu : P.underlying ty = some d) (hd : (match d with | .struct _ | .array _ _ => true | _ => false) = true) (hi : (P.info? ty).map (·.size) = some cs.size) (h : wpList P ops Q rest (a.put o.dst (.agg cs)) w) : wpList P ops Q (o :: rest) a w := by
  refine wpList_plain hgd fun K hK => ?_
  have hrun := run_loadAt_bx (P := P) hb hu hd hi
  unfold Oper.wp execOp
  simp only [ho, hp, hrun, Sem.run_bind, Sem.run_pure, Result.andThen_ok]
  exact hK _ _ h
end
section
variable {w w' : World} {g : Nat} {t : TypeId} {cs cs' : Array Value}
theorem Bx.row (h : Bx w g t cs) : Bx (w.setRow g cs') g t cs' := setRow_heap w g cs cs' t (0, 0) h
theorem Bx.rowFar (h : Bx w g t cs) {k : Nat} (hk : g ≠ k) : Bx (w.setRow k cs') g t cs := (setRow_other w k g cs' hk).trans h
theorem Bx.draws (h : Bx w g t cs) (n : Nat) : Bx (w.drewN n) g t cs := h
end
section
variable {P : Program} {w : World} {ops : Array Oper} {rest : List Oper} {o : Oper} {a : Act} {Q : Exit → Act → World → Prop}
theorem wpList_store_bx (hgd : o.guard = none) (ty : TypeId) (p x : Operand) (ho : o.op = .store ty p x) (hd : o.dst = none) (g : Nat) (t : TypeId) (cs cs' : Array Value) (hp : a.eval p = .pointer (some ⟨g, 0, none⟩)) (hx : a.eval x = .agg cs') (hb : Bx w g t cs)
    (hi : (P.info? ty).map (·.size) = some cs'.size) (hc : cs.size = cs'.size) (h1 : cs'.all (·.oneCell') = true) (h : wpList P ops Q rest a (w.setRow g cs')) : wpList P ops Q (o :: rest) a w :=
  wpList_plain hgd fun K hK => wp_store_row ty p x ho g cs' hp hx t cs hb hi hc h1 (by
    have := hK _ _ h
    simpa [hd, Act.put] using this)
theorem results_bx3 {fn : Func} {s b c : Tmp} {ty : TypeId} (h : fn.results = #[.cell s ty, .tmp b, .tmp c]) (tmps : Array Value) {g : Nat} {t : TypeId} {cs : Array Value} {d : TypeDesc} (hs : tmps.getD s undef = .pointer (some ⟨g, 0, none⟩)) (hb : Bx w g t cs)
    (hu : P.underlying ty = some d) (hd : (match d with | .struct _ | .array _ _ => true | _ => false) = true) (hi : (P.info? ty).map (·.size) = some cs.size) :
    (results fn tmps).run P w = .ok (.tuple #[.agg cs, tmps.getD b undef, tmps.getD c undef]) w := by
  have := run_loadVar_row (P := P) w g t ty cs (0, 0) d hb hu hd hi
  rw [Array.getD_eq_getD_getElem?] at hs
  simp [results, h, hs, asAddr, this]
theorem results_bx2 {fn : Func} {s b : Tmp} {ty : TypeId} (h : fn.results = #[.cell s ty, .tmp b]) (tmps : Array Value) {g : Nat} {t : TypeId} {cs : Array Value} {d : TypeDesc} (hs : tmps.getD s undef = .pointer (some ⟨g, 0, none⟩)) (hb : Bx w g t cs)
    (hu : P.underlying ty = some d) (hd : (match d with | .struct _ | .array _ _ => true | _ => false) = true) (hi : (P.info? ty).map (·.size) = some cs.size) :
    (results fn tmps).run P w = .ok (.tuple #[.agg cs, tmps.getD b undef]) w := by
  have := run_loadVar_row (P := P) w g t ty cs (0, 0) d hb hu hd hi
  rw [Array.getD_eq_getD_getElem?] at hs
  simp [results, h, hs, asAddr, this]
end
theorem grown_set {a w : World} {g : Nat} (h : a.grownBy w (some g)) (i : Nat) (u : Value) : a.grownBy (w.setCell ⟨g, i, none⟩ u) (some g) :=
  ⟨h.os, h.tape, h.output, by rw [setSize]; exact h.size, fun j hj hne => (Below.heap_setCell w ⟨g, i, none⟩ u j (fun e => hne (by rw [e]))).trans (h.block j hj hne)⟩
theorem grown_below {a w : World} (h : Below a.heap.size a w) (row : Option Nat) : a.grownBy w row := ⟨h.os, h.tape, h.output, h.size, fun i hi _ => h.block i hi⟩
theorem Bx.apart {w w' : World} {k : Nat} {t : TypeId} {cs : Array Value} {row : Option Nat} (h : Bx w k t cs) (hg : w.grownBy w' row) (hne : some k ≠ row) : Bx w' k t cs := (hg.block k h.lt hne).trans h
theorem grown_row (w : World) (g : Nat) (cs : Array Value) : w.grownBy (w.setRow g cs) (some g) :=
  ⟨rfl, rfl, rfl, by rw [setRow_size]; exact Nat.le_refl _, fun j _ hne => setRow_other w g j cs (fun e => hne (by rw [e]))⟩
theorem below_set {B : Nat} {a w : World} (h : Below B a w) (p : Addr) (u : Value) (hp : B ≤ p.block) : Below B a (w.setCell p u) := h.setCell hp u
/-- a world that came from w and left alone what was there -/
structure Since (w : World) where
  at_ : World
  bel : Below w.heap.size w at_

instance (w : World) : Inhabited (Since w) := ⟨⟨w, Below.refl _ _⟩⟩

theorem wp_region_since {P : Program} {id : Nat} {Q : Exit → Act → World → Prop} {a : Act} {w : World} {l : List Oper} (hm : P.follows .mixedOrders = true) (hB : Region.lexB .any l.toArray = true)
    (h : wpQuiet P l.toArray (fun w' => ∃ p : Since w, w' = p.at_) (fun a' => ∀ w', (∃ p : Since w, w' = p.at_) → Q .normal a' w') l a) : (Code.region id l.toArray true).wp P Q a w :=
  wp_region_quiet (C := fun w' => ∃ p : Since w, w' = p.at_) hm hB ⟨⟨w.drew, (Below.refl _ _).drew⟩, rfl⟩ (by simpa using h)

theorem Calls.since {P : Program} {f : FuncId} {args : Array Value} {w : World} {v : Value} (p : Since w)
    (h : Calls P f args p.at_ fun e w' => e = .returned v ∧ Below p.at_.heap.size p.at_ w') : Calls P f args p.at_ fun e w'' => e = .returned v ∧ ∃ q : Since w, w'' = q.at_ :=
  h.mono fun _ w' ⟨he, hb⟩ => ⟨he, ⟨w', p.bel.trans (hb.mono p.bel.size)⟩, rfl⟩
theorem below_draws {B : Nat} {a w : World} (h : Below B a w) (n : Nat) : Below B a (w.drewN n) := ⟨h.os, h.tape, h.output, h.size, h.block⟩
theorem wpList_load_bxg {P : Program} {w : World} {ops : Array Oper} {rest : List Oper} {o : Oper} {a : Act} {Q : Exit → Act → World → Prop} (hgd : Region.wanted o (yielded ops a.tmps) = true) (ty : TypeId) (p : Operand) (ho : o.op = .load ty p) (g : Nat) (t : TypeId) (cs : Array Value) (d : TypeDesc) (hp : a.eval p = .pointer (some ⟨g, 0, none⟩)) (hb : Bx w g t cs)
    (hu : P.underlying ty = some d) (hd : (match d with | .struct _ | .array _ _ => true | _ => false) = true) (hi : (P.info? ty).map (·.size) = some cs.size) (h : wpList P ops Q rest (a.put o.dst (.agg cs)) w) : wpList P ops Q (o :: rest) a w := by
  refine BigFrame.wpList_want hgd fun K hK => ?_
  have hrun := run_loadAt_bx (P := P) hb hu hd hi
  unfold Oper.wp execOp
  simp only [ho, hp, hrun, Sem.run_bind, Sem.run_pure, Result.andThen_ok]
  exact hK _ _ h
theorem Bx.all4 {w : World} {g : Nat} {t : TypeId} {a0 a1 a2 a3 : Value} (h : Bx w g t #[a0, a1, a2, a3]) : w.cell? ⟨g, 0, none⟩ = some a0 ∧ w.cell? ⟨g, 1, none⟩ = some a1 ∧ w.cell? ⟨g, 2, none⟩ = some a2 ∧ w.cell? ⟨g, 3, none⟩ = some a3 := ⟨h.cell 0, h.cell 1, h.cell 2, h.cell 3⟩
/-- results that lie in a block that is known whole, one alone -/
theorem results_bx1 {P : Program} {w : World} {fn : Func} {s : Tmp} {ty : TypeId} (h : fn.results = #[.cell s ty]) (tmps : Array Value) {g : Nat} {t : TypeId} {cs : Array Value} {d : TypeDesc} (hs : tmps.getD s undef = .pointer (some ⟨g, 0, none⟩)) (hb : Bx w g t cs)
    (hu : P.underlying ty = some d) (hd : (match d with | .struct _ | .array _ _ => true | _ => false) = true) (hi : (P.info? ty).map (·.size) = some cs.size) :
    (results fn tmps).run P w = .ok (.agg cs) w := by
  have := run_loadVar_row (P := P) w g t ty cs (0, 0) d hb hu hd hi
  rw [Array.getD_eq_getD_getElem?] at hs
  simp [results, h, hs, asAddr, this]
end Go.Proofs.YtmfdlkkligjcbaaGreat
namespace Go.Proofs.YtmfdlkkligjcbaaGreat
open Go.RowKit

theorem addG (g j : Nat) : (⟨g, 0, none⟩ : Addr).add j = ⟨g, j, none⟩ := by unfold Addr.add; split <;> simp_all
/-- v is a row of the call's own that holds us; whatever stands behind them in its block -/
def OwnW (w : World) (e : TypeId) (v : Value) (us : List Value) : Prop :=
  (v = .slice none 0 0 ∧ us = []) ∨ ∃ g cap cur, v = .slice (some ⟨g, 0, none⟩) us.length cap ∧ w.heap[g]? = some (.cells cur e (0, 0)) ∧ us.length ≤ cap ∧ cap ≤ maxLen ∧ cap ≤ cur.size ∧ cur.toList.take us.length = us

/-- row v has been worked with, v' is what it became -/
structure GrW (w w' : World) (v v' : Value) : Prop where
  gr : w.grownBy w' v.ownBlock
  at_ : v'.ownBlock = v.ownBlock ∨ ∀ g, v'.ownBlock = some g → w.heap.size ≤ g ∧ g < w'.heap.size

section
variable {w w' w'' : World} {e : TypeId} {v v' v'' : Value} {us : List Value}
theorem ownW_nil (w : World) (e : TypeId) : OwnW w e (.slice none 0 0) [] := .inl ⟨rfl, rfl⟩
theorem GrW.refl (w : World) (v : Value) : GrW w w v v := ⟨World.grownBy.refl w _, .inl rfl⟩
theorem GrW.of (h : Below w.heap.size w w') (v : Value) : GrW w w' v v := ⟨grown_below h _, .inl rfl⟩
theorem GrW.trans (h : GrW w w' v v') (k : GrW w' w'' v' v'') : GrW w w'' v v'' := by
  refine ⟨⟨k.gr.os.trans h.gr.os, k.gr.tape.trans h.gr.tape, k.gr.output.trans h.gr.output, Nat.le_trans h.gr.size k.gr.size, fun j hj hne => ?_⟩, ?_⟩
  · refine (k.gr.block j (Nat.lt_of_lt_of_le hj h.gr.size) (fun e => ?_)).trans (h.gr.block j hj hne)
    rcases h.at_ with h2 | h2
    · exact hne (by rw [e, h2])
    · have := h2 j e.symm
      omega
  · rcases k.at_ with k2 | k2
    · rcases h.at_ with h2 | h2
      · exact .inl (k2.trans h2)
      · right
        intro g hg
        rw [k2] at hg
        have := h2 g hg
        have := k.gr.size
        omega
    · right
      intro g hg
      have := k2 g hg
      have := h.gr.size
      omega
theorem GrW.other (h : GrW w w' v v') {j : Nat} (hj : j < w.heap.size) (hne : v.ownBlock ≠ some j) : w'.heap[j]? = w.heap[j]? := h.gr.block j hj (fun e => hne e.symm)
theorem OwnW.lt (h : OwnW w e v us) {g : Nat} (hg : v.ownBlock = some g) : g < w.heap.size := by
  rcases h with ⟨rfl, _⟩ | ⟨g', cap, cur, rfl, hh, _⟩
  · simp [Value.ownBlock] at hg
  · simp [Value.ownBlock] at hg
    subst hg
    exact (Array.getElem?_eq_some_iff.1 hh).1
theorem OwnW.kept (h : OwnW w e v us) (hb : ∀ g, v.ownBlock = some g → w'.heap[g]? = w.heap[g]?) : OwnW w' e v us := by
  rcases h with h | ⟨g, cap, cur, rfl, hh, r⟩
  · exact .inl h
  · exact .inr ⟨g, cap, cur, rfl, (hb g rfl).trans hh, r⟩
theorem OwnW.below (h : OwnW w e v us) (hb : Below w.heap.size w w') : OwnW w' e v us := h.kept fun g hg => hb.block g (h.lt hg)
theorem OwnW.grown (h : OwnW w e v us) {u u' : Value} (hg : GrW w w' u u') (hne : ∀ g, v.ownBlock = some g → u.ownBlock ≠ some g) : OwnW w' e v us := h.kept fun g hg' => hg.other (h.lt hg') (hne g hg')
theorem OwnW.read (h : OwnW w e v us) : ∃ A c, v = .slice A us.length c ∧ Rv w w.heap.size A us ∧ us.length ≤ c ∧ c ≤ maxLen := by
  rcases h with ⟨rfl, rfl⟩ | ⟨g, cap, cur, rfl, hh, h1, h2, h3, h4⟩
  · exact ⟨none, 0, rfl, Rv.nil _ _ _, Nat.le_refl _, by unfold maxLen; omega⟩
  · refine ⟨_, cap, rfl, fun j u hu => ⟨_, rfl, (Array.getElem?_eq_some_iff.1 hh).1, ?_⟩, h1, h2⟩
    have hadd : (⟨g, 0, none⟩ : Addr).add j = ⟨g, j, none⟩ := addG g j
    have hj : j < us.length := (List.getElem?_eq_some_iff.1 hu).1
    rw [hadd, cell_of_row w g j cur e (0, 0) hh, ← Array.getElem?_toList]
    rw [← h4, List.getElem?_take, if_pos hj] at hu
    exact hu
/-- its block, where there is something in it -/
theorem OwnW.place (h : OwnW w e v us) (hp : 0 < us.length) : ∃ g c, v = .slice (some ⟨g, 0, none⟩) us.length c := by
  rcases h with ⟨rfl, rfl⟩ | ⟨g, cap, cur, rfl, _⟩
  · simp at hp
  · exact ⟨g, cap, rfl⟩
theorem OwnW.cellAt {g n c : Nat} (h : OwnW w e (.slice (some ⟨g, 0, none⟩) n c) us) {j : Nat} (hj : j < us.length) : w.cell? ⟨g, j, none⟩ = us[j]? ∧ w.frozen? ⟨g, j, none⟩ = false := by
  rcases h with ⟨h', _⟩ | ⟨g', cap, cur, h', hh, h1, h2, h3, h4⟩
  · simp at h'
  · simp only [Value.slice.injEq, Option.some.injEq, Addr.mk.injEq, and_true] at h'
    obtain ⟨rfl, -, -⟩ := h'
    refine ⟨?_, frozen_of_row w g j cur e hh⟩
    rw [cell_of_row w g j cur e (0, 0) hh, ← Array.getElem?_toList]
    have : us[j]? = (cur.toList.take us.length)[j]? := by rw [h4]
    rw [this, List.getElem?_take, if_pos hj]
theorem OwnW.len {g n c : Nat} (h : OwnW w e (.slice (some ⟨g, 0, none⟩) n c) us) : n = us.length := by
  rcases h with ⟨h', _⟩ | ⟨g', cap, cur, h', _⟩
  · simp at h'
  · injection h'
/-- a cell of it is another one -/
theorem OwnW.set {g n c : Nat} (h : OwnW w e (.slice (some ⟨g, 0, none⟩) n c) us) {j : Nat} (hj : j < us.length) {u : Value} :
    OwnW (w.setCell ⟨g, j, none⟩ u) e (.slice (some ⟨g, 0, none⟩) n c) (us.set j u) ∧ GrW w (w.setCell ⟨g, j, none⟩ u) (.slice (some ⟨g, 0, none⟩) n c) (.slice (some ⟨g, 0, none⟩) n c) := by
  have hcell := (h.cellAt hj).1
  rcases h with ⟨h', _⟩ | ⟨g', cap, cur, h', hh, h1, h2, h3, h4⟩
  · simp at h'
  · simp only [Value.slice.injEq, Option.some.injEq, Addr.mk.injEq, and_true] at h'
    obtain ⟨rfl, rfl, rfl⟩ := h'
    refine ⟨.inr ⟨g, c, cur.setIfInBounds j u, by rw [List.length_set], heap_setCell_same w g j cur e u hh, by rw [List.length_set]; exact h1, h2, by simpa using h3, ?_⟩, ?_, .inl rfl⟩
    · rw [Array.toList_setIfInBounds, List.length_set, List.take_set, h4]
    · exact ⟨rfl, rfl, rfl, by rw [setSize]; exact Nat.le_refl _, fun k _ hk => heap_setCell_other w ⟨g, j, none⟩ k u (fun e => hk (by simp [Value.ownBlock, e]))⟩
/-- the first n of it, with no more room -/
theorem OwnW.cut {g n c : Nat} (h : OwnW w e (.slice (some ⟨g, 0, none⟩) n c) us) (i : Nat) (hi : i ≤ us.length) : OwnW w e (.slice (some ⟨g, 0, none⟩) i i) (us.take i) := by
  rcases h with ⟨h', _⟩ | ⟨g', cap, cur, h', hh, h1, h2, h3, h4⟩
  · simp at h'
  · simp only [Value.slice.injEq, Option.some.injEq, Addr.mk.injEq, and_true] at h'
    obtain ⟨rfl, -, rfl⟩ := h'
    have hl : (us.take i).length = i := by rw [List.length_take]; omega
    refine .inr ⟨g, i, cur, by rw [hl], hh, by rw [hl]; exact Nat.le_refl _, by omega, by omega, ?_⟩
    rw [hl, ← h4, List.take_take, Nat.min_eq_left hi]
end

section
variable {P : Program} {S e : TypeId} {z : Value} {bytes : Nat}
theorem run_appW (E : Elt P S e z 1 bytes) (w : World) (ty : TypeId) (v : Value) (us : List Value) (hown : OwnW w e v us) (C : Nat) (A : Option Addr) (m c : Nat) (news : List Value)
    (hm : news.length = m) (hr : Rv w C A news) (h1 : ∀ u ∈ news, u.oneCell' = true) (hlen : us.length + m ≤ maxLen) (hbytes : (us.length + m) * bytes ≤ 140737488355328) :
    ∃ v' w', (Builtin.append_ #[S, S] ty #[v, .slice A m c]).run P w = .ok v' w' ∧ OwnW w' e v' (us ++ news) ∧ GrW w w' v v' := by
  obtain ⟨i, hi, hzi, hs, hb⟩ := info_parts E.info
  have hsmall : us.length + m ≤ 9223372036854775807 := by simp only [maxLen] at hlen; omega
  subst hm
  rcases A with _ | ad
  · have hnews : news = [] := by
      cases news with
      | nil => rfl
      | cons x r => obtain ⟨_, e, _⟩ := hr 0 x rfl; cases e
    subst hnews
    refine ⟨v, w, ?_, by rw [List.append_nil]; exact hown, GrW.refl w v⟩
    rcases hown with ⟨rfl, rfl⟩ | ⟨g, cap, cur, rfl, hh, hnc, _⟩
    · simp [Builtin.append_, run_underlying E.und, sizeOf, typeInfo, hi, Builtin.lenOf, Builtin.firstCells]
    · simp [Builtin.append_, run_underlying E.und, sizeOf, typeInfo, hi, Builtin.lenOf, Builtin.firstCells, hnc, storeCells]
  · have hc : ∀ j u, news[j]? = some u → w.cell? (ad.add j) = some u := by
      intro j u hu
      obtain ⟨ad', e, _, hh⟩ := hr j u hu
      injection e with e
      subst e
      exact hh
    have hl : news.length = news.length * i.size := by rw [hs, Nat.mul_one]
    -- a new block
    have grown : ∀ (old : Nat) (row : Value),
        OwnW (w.drew.alloc (.cells (us.toArray ++ news.toArray ++ Builtin.zeroCells z.cells (grownCap w (us.length + news.length) old e - (us.length + news.length))) e)) e
          (.slice (some ⟨w.heap.size, 0, none⟩) (us.length + news.length) (grownCap w (us.length + news.length) old e)) (us ++ news) ∧
        GrW w (w.drew.alloc (.cells (us.toArray ++ news.toArray ++ Builtin.zeroCells z.cells (grownCap w (us.length + news.length) old e - (us.length + news.length))) e)) row (.slice (some ⟨w.heap.size, 0, none⟩) (us.length + news.length) (grownCap w (us.length + news.length) old e)) := by
      intro old row
      have hge := grownCap_ge w (us.length + news.length) old e
      have hcm := grownCap_le_maxLen w (us.length + news.length) old e hlen
      have hbel : Below w.heap.size w (w.drew.alloc (.cells (us.toArray ++ news.toArray ++ Builtin.zeroCells z.cells (grownCap w (us.length + news.length) old e - (us.length + news.length))) e)) :=
        ⟨rfl, rfl, rfl, (below_alloc w.drew _).size, (below_alloc w.drew _).block⟩
      refine ⟨.inr ⟨w.heap.size, _, _, by rw [List.length_append], heap_alloc_new w.drew _, by rw [List.length_append]; exact hge, hcm, ?_, ?_⟩, grown_below hbel _, .inr fun g hg => ?_⟩
      · simp only [Array.size_append, List.size_toArray, size_zeroCells, E.zc]
        omega
      · simp only [Array.toList_append]
        exact List.take_left
      · simp [Value.ownBlock] at hg
        subst hg
        simp
    rcases hown with ⟨rfl, rfl⟩ | ⟨g, cap, cur, rfl, hh, hnc, hcm, hcs, htake⟩
    · by_cases hm0 : news.length = 0
      · have hn : news = [] := List.eq_nil_of_length_eq_zero hm0
        subst hn
        refine ⟨.slice none 0 0, w, ?_, ownW_nil w e, GrW.refl w _⟩
        simp [Builtin.append_, run_underlying E.und, sizeOf, typeInfo, hi, Builtin.lenOf, Builtin.firstCells, loadCells, loadCellsFrom]
      · have hrun := run_append_nil (P := P) w S ty e i z E.und hi hzi ad news.length c news hl hc (by omega) (by rw [List.length_nil, Nat.zero_add] at hsmall; omega) (by rw [hb]; rw [List.length_nil, Nat.zero_add] at hbytes; omega)
        have hgr := grown 0 (.slice none 0 0)
        simp only [List.length_nil, Nat.zero_add, List.nil_append, Array.empty_append] at hgr ⊢
        exact ⟨_, _, hrun, hgr.1, hgr.2⟩
    · by_cases hroom : us.length + news.length ≤ cap
      · have hrun := run_append_room (P := P) w S ty e i E.und hi g us.length cap cur hh ad news.length c news hl hc h1 hroom (by rw [hs, Nat.mul_one]; omega)
        rw [hs, Nat.mul_one] at hrun
        have hbx : Bx w g e cur := hh
        refine ⟨_, _, hrun, .inr ⟨g, cap, _, by rw [List.length_append], setRow_heap w g cur _ e _ hh, by rw [List.length_append]; exact hroom, hcm, ?_, ?_⟩, grown_row w g _, .inl rfl⟩
        · simp only [List.size_toArray, List.length_append, List.length_take, List.length_drop, Array.length_toList]
          omega
        · show List.take _ (_ ++ news ++ _) = _
          rw [htake]
          exact List.take_left
      · have holds : ∀ j u, us[j]? = some u → w.cell? ((⟨g, 0, none⟩ : Addr).add j) = some u := by
          intro j u hu
          have ho : OwnW w e (.slice (some ⟨g, 0, none⟩) us.length cap) us := .inr ⟨g, cap, cur, rfl, hh, hnc, hcm, hcs, htake⟩
          have hadd : (⟨g, 0, none⟩ : Addr).add j = ⟨g, j, none⟩ := addG g j
          rw [hadd, (ho.cellAt (List.getElem?_eq_some_iff.1 hu).1).1, hu]
        have hrun := run_append_grow (P := P) w S ty e i z E.und hi hzi ⟨g, 0, none⟩ us.length cap us (by rw [hs, Nat.mul_one]) holds ad news.length c news hl hc (by omega) (by omega) (growslice_fits (by omega) (by rw [hb]; exact hbytes))
        have hgr := grown cap (.slice (some ⟨g, 0, none⟩) us.length cap)
        exact ⟨_, _, hrun, hgr.1, hgr.2⟩

theorem wp_appW (E : Elt P S e z 1 bytes) {w : World} {o : Oper} {a : Act} {K : Act → World → Prop} {Q : Exit → Act → World → Prop} (s x : Operand)
    (ho : o.op = .call { callee := .builtin .append, args := #[s, x], argTypes := #[S, S] }) (v : Value) (us : List Value) (hown : OwnW w e v us) (hs : a.eval s = v) (C : Nat) (A : Option Addr) (m c : Nat) (news : List Value)
    (hx : a.eval x = .slice A m c) (hm : news.length = m) (hr : Rv w C A news) (h1 : ∀ u ∈ news, u.oneCell' = true) (hlen : us.length + m ≤ maxLen) (hbytes : (us.length + m) * bytes ≤ 140737488355328)
    (h : ∀ v' w', OwnW w' e v' (us ++ news) → GrW w w' v v' → K (a.put o.dst v') w') : o.wp P a w K Q := by
  obtain ⟨v', w', hrun, h2, h3⟩ := run_appW E w o.type v us hown C A m c news hm hr h1 hlen hbytes
  unfold Oper.wp execOp
  simp only [ho, resolve, invoke, builtin, Sem.run_bind, Sem.run_pure, Result.andThen_ok, List.map_toArray, List.map_cons, List.map_nil, hs, hx, hrun]
  exact h v' w' h2 h3
theorem wpList_appW (E : Elt P S e z 1 bytes) {w : World} {ops : Array Oper} {rest : List Oper} {o : Oper} {a : Act} {Q : Exit → Act → World → Prop} (hgd : o.guard = none) (s x : Operand)
    (ho : o.op = .call { callee := .builtin .append, args := #[s, x], argTypes := #[S, S] }) (v : Value) (us : List Value) (hown : OwnW w e v us) (hs : a.eval s = v) (C : Nat) (A : Option Addr) (m c : Nat) (news : List Value)
    (hx : a.eval x = .slice A m c) (hm : news.length = m) (hr : Rv w C A news) (h1 : ∀ u ∈ news, u.oneCell' = true) (hlen : us.length + m ≤ maxLen) (hbytes : (us.length + m) * bytes ≤ 140737488355328)
    (h : ∀ v' w', OwnW w' e v' (us ++ news) → GrW w w' v v' → wpList P ops Q rest (a.put o.dst v') w') : wpList P ops Q (o :: rest) a w :=
  wpList_plain hgd fun _ hK => wp_appW E s x ho v us hown hs C A m c news hx hm hr h1 hlen hbytes fun v' w' h2 h3 => hK _ _ (h v' w' h2 h3)
end
end Go.Proofs.YtmfdlkkligjcbaaGreat
namespace Go.Proofs.YtmfdlkkligjcbaaGreat
open Go.RowKit

/-- the cells of a space -/
def scf (n : Nat) (a b c : Int → Int) (i : Nat) : Int := if i = 0 then (n : Int) else if i < 105 then a ((i - 1 : Nat) : Int) else if i < 209 then b ((i - 105 : Nat) : Int) else c ((i - 209 : Nat) : Int)
def sc (n : Nat) (a b c : Int → Int) : Array Value := Array.ofFn (n := 273) fun i => .int .i64 (scf n a b c i)
section
variable (n : Nat) (a b c : Int → Int)
theorem sc_size : (sc n a b c).size = 273 := by simp [sc]
theorem sc_at {i : Nat} (h : i < 273) : (sc n a b c)[i]? = some (.int .i64 (scf n a b c i)) := by simp [sc, h]
theorem sc_n : (sc n a b c)[0]? = some (.int .i64 n) := by rw [sc_at _ _ _ _ (by omega)]; rfl
theorem sc_a {p : Nat} (h : p < 104) : (sc n a b c)[1 + p]? = some (.int .i64 (a p)) := by
  rw [sc_at _ _ _ _ (by omega)]; unfold scf; rw [if_neg (by omega), if_pos (by omega), show 1 + p - 1 = p from by omega]
theorem sc_b {p : Nat} (h : p < 104) : (sc n a b c)[105 + p]? = some (.int .i64 (b p)) := by
  rw [sc_at _ _ _ _ (by omega)]; unfold scf; rw [if_neg (by omega), if_neg (by omega), if_pos (by omega), show 105 + p - 105 = p from by omega]
theorem sc_c {p : Nat} (h : p < 64) : (sc n a b c)[209 + p]? = some (.int .i64 (c p)) := by
  rw [sc_at _ _ _ _ (by omega)]; unfold scf; rw [if_neg (by omega), if_neg (by omega), if_neg (by omega), show 209 + p - 209 = p from by omega]
theorem sc_set {a' b' c' : Int → Int} {i : Nat} {v : Int} (h : ∀ j, j < 273 → scf n a' b' c' j = if i = j then v else scf n a b c j) : (sc n a b c).setIfInBounds i (.int .i64 v) = sc n a' b' c' := by
  refine Array.ext (by simp [sc]) fun j h1 h2 => ?_
  have hj : j < 273 := by rw [sc_size] at h2; exact h2
  rw [Array.getElem_setIfInBounds (by simpa using h1)]
  simp only [sc, Array.getElem_ofFn]
  rw [h j hj]
  split <;> rfl
theorem sc_setA {p : Nat} (h : p < 104) (v : Int) : (sc n a b c).setIfInBounds (1 + p) (.int .i64 v) = sc n (upd a p v) b c := sc_set _ _ _ _ fun j hj => by
  unfold scf upd
  by_cases h0 : j = 0
  · rw [if_pos h0, if_neg (by omega), if_pos h0]
  · rw [if_neg h0, if_neg h0]
    by_cases h1 : j < 105
    · rw [if_pos h1, if_pos h1]
      by_cases h2 : 1 + p = j
      · rw [if_pos h2, if_pos (by omega)]
      · rw [if_neg h2, if_neg (by omega)]
    · rw [if_neg h1, if_neg h1, if_neg (show ¬ 1 + p = j from by omega)]
theorem sc_setB {p : Nat} (h : p < 104) (v : Int) : (sc n a b c).setIfInBounds (105 + p) (.int .i64 v) = sc n a (upd b p v) c := sc_set _ _ _ _ fun j hj => by
  unfold scf upd
  by_cases h0 : j = 0
  · rw [if_pos h0, if_neg (by omega), if_pos h0]
  · rw [if_neg h0, if_neg h0]
    by_cases h1 : j < 105
    · rw [if_pos h1, if_neg (by omega), if_pos h1]
    · rw [if_neg h1, if_neg h1]
      by_cases h3 : j < 209
      · rw [if_pos h3, if_pos h3]
        by_cases h2 : 105 + p = j
        · rw [if_pos h2, if_pos (by omega)]
        · rw [if_neg h2, if_neg (by omega)]
      · rw [if_neg h3, if_neg (by omega), if_neg h3]
theorem sc_setC {p : Nat} (v : Int) : (sc n a b c).setIfInBounds (209 + p) (.int .i64 v) = sc n a b (upd c p v) := sc_set _ _ _ _ fun j hj => by
  unfold scf upd
  by_cases h0 : j = 0
  · rw [if_pos h0, if_neg (by omega), if_pos h0]
  · rw [if_neg h0, if_neg h0]
    by_cases h1 : j < 105
    · rw [if_pos h1, if_neg (by omega), if_pos h1]
    · rw [if_neg h1, if_neg h1]
      by_cases h3 : j < 209
      · rw [if_pos h3, if_neg (by omega), if_pos h3]
      · rw [if_neg h3, if_neg h3]
        by_cases h2 : 209 + p = j
        · rw [if_pos h2, if_pos (by omega)]
        · rw [if_neg h2, if_neg (by omega)]
end

/-- block k is a space's, with these rows -/
def Sb (w : World) (k n : Nat) (a b c : Int → Int) : Prop := Bx w k 158 (sc n a b c)
section
variable {w w' : World} {k n : Nat} {a b c : Int → Int}
theorem Sb.cN (h : Sb w k n a b c) : w.cell? ⟨k, 0, none⟩ = some (.int .i64 n) := (Bx.cell h 0).trans (sc_n _ _ _ _)
theorem Sb.cA (h : Sb w k n a b c) {p : Nat} (hp : p < 104) : w.cell? ⟨k, 1 + p, none⟩ = some (.int .i64 (a p)) := (Bx.cell h _).trans (sc_a _ _ _ _ hp)
theorem Sb.cB (h : Sb w k n a b c) {p : Nat} (hp : p < 104) : w.cell? ⟨k, 105 + p, none⟩ = some (.int .i64 (b p)) := (Bx.cell h _).trans (sc_b _ _ _ _ hp)
theorem Sb.cC (h : Sb w k n a b c) {p : Nat} (hp : p < 64) : w.cell? ⟨k, 209 + p, none⟩ = some (.int .i64 (c p)) := (Bx.cell h _).trans (sc_c _ _ _ _ hp)
theorem Sb.draws (h : Sb w k n a b c) (m : Nat) : Sb (w.drewN m) k n a b c := Bx.draws h m
theorem Sb.free (h : Sb w k n a b c) (i : Nat) : w.frozen? ⟨k, i, none⟩ = false := Bx.free h i
theorem Sb.next (h : Sb w k n a b c) (hb : Below w.heap.size w w') : Sb w' k n a b c := Bx.next h hb
theorem Sb.setA (h : Sb w k n a b c) {p : Nat} (hp : p < 104) (v : Int) : Sb (w.setCell ⟨k, 1 + p, none⟩ (.int .i64 v)) k n (upd a p v) b c := by
  have := Bx.set h (1 + p) (.int .i64 v)
  rw [sc_setA _ _ _ _ hp] at this
  exact this
theorem Sb.setB (h : Sb w k n a b c) {p : Nat} (hp : p < 104) (v : Int) : Sb (w.setCell ⟨k, 105 + p, none⟩ (.int .i64 v)) k n a (upd b p v) c := by
  have := Bx.set h (105 + p) (.int .i64 v)
  rw [sc_setB _ _ _ _ hp] at this
  exact this
theorem Sb.setC (h : Sb w k n a b c) {p : Nat} (v : Int) : Sb (w.setCell ⟨k, 209 + p, none⟩ (.int .i64 v)) k n a b (upd c p v) := by
  have := Bx.set h (209 + p) (.int .i64 v)
  rw [sc_setC] at this
  exact this
end
/-- block k is the space of these lists -/
def Sq (w : World) (k : Nat) (S : List (List Int)) : Prop := ∃ a b c, Sb w k S.length a b c ∧ Inv a b c S
theorem Sq.lt {w : World} {k : Nat} {S : List (List Int)} (h : Sq w k S) : k < w.heap.size := by obtain ⟨a, b, c, h, _⟩ := h; exact Bx.lt h
theorem Sq.below {w w' : World} {k : Nat} {S : List (List Int)} (h : Sq w k S) (hb : Below w.heap.size w w') : Sq w' k S := by obtain ⟨a, b, c, h, hi⟩ := h; exact ⟨a, b, c, Bx.next h hb, hi⟩
theorem Sq.same {w w' : World} {k : Nat} {S : List (List Int)} (h : Sq w k S) (hb : w'.heap[k]? = w.heap[k]?) : Sq w' k S := by obtain ⟨a, b, c, h, hi⟩ := h; exact ⟨a, b, c, hb.trans h, hi⟩
theorem Sq.wf {w : World} {k : Nat} {S : List (List Int)} (h : Sq w k S) : Wf S ∧ 1 ≤ S.length ∧ S.length ≤ 40 := by obtain ⟨a, b, c, _, hi⟩ := h; exact ⟨hi.wf, hi.sz⟩

/-- a block's number -/
def vb (x : Int) : Prop := 0 ≤ x ∧ x < 64
instance (x : Int) : Decidable (vb x) := inferInstanceAs (Decidable (_ ∧ _))

set_option maxHeartbeats 400000 in
theorem closing_any (w : World) (p : Nat) (hp : p < 40) : Calls Tryz.prog 83 #[.int .i64 p] w fun e w' => e = .returned (.int .i64 ((64 + p : Nat))) ∧ w = w' := by
  go_enter Tryz.func83, Tryz.ntmps83
  go_wp2
  go_ret
  refine ⟨?_, rfl⟩
  go_num
theorem closing_z (w : World) (p z : Nat) (hp : p < 40) (hz : 64 + p = z) : Calls Tryz.prog 83 #[.int .i64 p] w fun e w' => e = .returned (.int .i64 z) ∧ w = w' := by
  subst hz
  exact closing_any w p hp
set_option maxHeartbeats 400000 in
theorem isblock_any (w : World) (x : Int) : Calls Tryz.prog 147 #[.int .i64 x] w fun e w' => e = .returned (.bool (decide (vb x))) ∧ w = w' := by
  by_cases h0 : x < 0
  · have hd : decide ((0 : Int) ≤ x) = false := by simpa using h0
    have e : decide (vb x) = false := decide_eq_false fun h => by have := h.1; omega
    rw [e]
    go_enter Tryz.func147, Tryz.ntmps147
    go_wp2
    go_ret
    exact ⟨rfl, rfl⟩
  · have h1 : 0 ≤ x := by omega
    have e : decide (vb x) = decide (x < 64) := decide_eq_decide.2 ⟨fun h => h.2, fun h => ⟨h1, h⟩⟩
    rw [e]
    clear h0 e
    go_enter Tryz.func147, Tryz.ntmps147
    go_wp2
    go_ret
    exact ⟨rfl, rfl⟩
set_option maxHeartbeats 400000 in
theorem blockat_yes (w : World) (x : Int) (h : vb x) : Calls Tryz.prog 149 #[.int .i64 x] w fun e w' => e = .returned (.tuple #[.int .i64 x, .bool true]) ∧ w = w' := by
  have HI := hid (isblock_any w x)
  rw [decide_eq_true h] at HI
  clear h
  go_enter Tryz.func149, Tryz.ntmps149
  go_wp2_with (go_at_call 147; refine HI.out.mono ?_; rintro e w' ⟨rfl, rfl⟩)
  go_ret2
  exact ⟨rfl, rfl⟩
set_option maxHeartbeats 400000 in
theorem blockat_no (w : World) (x : Int) (h : ¬ vb x) : Calls Tryz.prog 149 #[.int .i64 x] w fun e w' => e = .returned (.tuple #[.int .i64 0, .bool false]) ∧ w = w' := by
  have HI := hid (isblock_any w x)
  rw [decide_eq_false h] at HI
  clear h
  go_enter Tryz.func149, Tryz.ntmps149
  go_wp2_with (go_at_call 147; refine HI.out.mono ?_; rintro e w' ⟨rfl, rfl⟩)
  go_ret2
  exact ⟨rfl, rfl⟩
/-- a list's number -/
def isl (S : List (List Int)) (x : Int) : Prop := 0 ≤ x ∧ x < S.length
instance (S : List (List Int)) (x : Int) : Decidable (isl S x) := inferInstanceAs (Decidable (_ ∧ _))
theorem isl_at {S : List (List Int)} {x : Int} (h : isl S x) : ∃ (i : Nat) (l : List Int), x = i ∧ S[i]? = some l := by
  obtain ⟨h0, h1⟩ := h
  have hi : x.toNat < S.length := by omega
  exact ⟨x.toNat, _, by omega, List.getElem?_eq_getElem hi⟩
section
variable {w : World} {k : Nat} {S : List (List Int)}
set_option maxHeartbeats 400000 in
theorem has_any (h : Sq w k S) (x : Int) : Calls Tryz.prog 146 #[.pointer (some ⟨k, 0, none⟩), .int .i64 x] w fun e w' => e = .returned (.bool (decide (isl S x))) ∧ w = w' := by
  obtain ⟨a, b, c, hs, hi⟩ := h
  have c0 := hs.cN
  by_cases h0 : x < 0
  · have hd : decide ((0 : Int) ≤ x) = false := by simpa using h0
    have e : decide (isl S x) = false := decide_eq_false fun h => by have := h.1; omega
    rw [e]
    clear hs hi e
    generalize S.length = n at *
    go_enter Tryz.func146, Tryz.ntmps146
    go_wp2
    go_ret
    exact ⟨rfl, rfl⟩
  · have h1 : 0 ≤ x := by omega
    have e : decide (isl S x) = decide (x < (S.length : Int)) := decide_eq_decide.2 ⟨fun h => h.2, fun h => ⟨h1, h⟩⟩
    rw [e]
    clear hs hi e h0
    generalize S.length = n at *
    go_enter Tryz.func146, Tryz.ntmps146
    go_wp2
    go_ret
    exact ⟨rfl, rfl⟩
theorem inS_vb (h : Sq w k S) {x : Int} (hx : inS S x) : vb x := by
  obtain ⟨i, l, hi, hm⟩ := hx
  exact h.wf.1.lt i l x hi hm
set_option maxHeartbeats 400000 in
theorem holds_any (h : Sq w k S) (x : Int) : Calls Tryz.prog 148 #[.pointer (some ⟨k, 0, none⟩), .int .i64 x] w fun e w' => e = .returned (.bool (dec (inS S x))) ∧ w = w' := by
  have HI := hid (isblock_any w x)
  by_cases hx : vb x
  · obtain ⟨a, b, c, hs, hi⟩ := h
    obtain ⟨p, rfl⟩ : ∃ p : Nat, x = p := ⟨x.toNat, by have := hx.1; omega⟩
    have hp : p < 64 := by have := hx.2; omega
    have c0 := hs.cC hp
    have hz := hi.c_zero hx.1 hx.2
    have hpp : (p : Int) < 64 := hx.2
    have e : (c p != 0) = dec (inS S p) := by
      by_cases hc : c p = 0
      · rw [dec_false (hz.1 hc)]; simpa using hc
      · rw [dec_true (Classical.not_not.1 fun hn => hc (hz.2 hn))]; simpa using hc
    rw [← e]
    rw [decide_eq_true hx] at HI
    clear hs hi hx hz e
    generalize c p = cp at *
    go_enter Tryz.func148, Tryz.ntmps148
    go_wp2_with (go_at_call 147; refine HI.out.mono ?_; rintro e w' ⟨rfl, rfl⟩)
    go_ret
    exact ⟨rfl, rfl⟩
  · rw [dec_false fun hm => hx (inS_vb h hm)]
    rw [decide_eq_false hx] at HI
    clear h hx
    go_enter Tryz.func148, Tryz.ntmps148
    go_wp2_with (go_at_call 147; refine HI.out.mono ?_; rintro e w' ⟨rfl, rfl⟩)
    go_ret
    exact ⟨rfl, rfl⟩
set_option maxHeartbeats 400000 in
theorem refuses_any (h : Sq w k S) (x y : Int) : Calls Tryz.prog 143 #[.pointer (some ⟨k, 0, none⟩), .int .i64 x, .int .i64 y] w fun e w' => e = .returned (.int .i64 (if isl S x ∧ vb y then 0 else 3)) ∧ w = w' := by
  have HI := hid (isblock_any w y)
  have HH := hid (has_any h x)
  clear h
  by_cases hx : isl S x
  · rw [decide_eq_true hx] at HH
    by_cases hy : vb y
    · rw [decide_eq_true hy] at HI
      rw [if_pos ⟨hx, hy⟩]
      clear hx hy
      go_enter Tryz.func143, Tryz.ntmps143
      go_wp2_with (first | (go_at_call 147; refine HI.out.mono ?_; rintro e w' ⟨rfl, rfl⟩) | (go_at_call 146; refine HH.out.mono ?_; rintro e w' ⟨rfl, rfl⟩))
      go_ret
      exact ⟨rfl, rfl⟩
    · rw [decide_eq_false hy] at HI
      rw [if_neg fun hh => hy hh.2]
      clear hx hy
      go_enter Tryz.func143, Tryz.ntmps143
      go_wp2_with (first | (go_at_call 147; refine HI.out.mono ?_; rintro e w' ⟨rfl, rfl⟩) | (go_at_call 146; refine HH.out.mono ?_; rintro e w' ⟨rfl, rfl⟩))
      go_ret
      exact ⟨rfl, rfl⟩
  · rw [decide_eq_false hx] at HH
    rw [if_neg fun hh => hx hh.1]
    clear hx HI
    go_enter Tryz.func143, Tryz.ntmps143
    go_wp2_with (go_at_call 146; refine HH.out.mono ?_; rintro e w' ⟨rfl, rfl⟩)
    go_ret
    exact ⟨rfl, rfl⟩
end
end Go.Proofs.YtmfdlkkligjcbaaGreat
