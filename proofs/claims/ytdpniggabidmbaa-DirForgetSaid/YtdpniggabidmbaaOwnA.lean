/-
  What is proved: rows of the call's own whose block may be longer than their room (what a three-index slice leaves): kept, read, stored into, cut, appended onto; what may change while such rows are worked with. No condition on a program.
-/
import Derived.Test.YtdpniggabidmbaaBase
import Derived.Deep.RegionLaw
import Derived.BigFrame
namespace Go.Proofs.Ytdpniggabidmbaa
open Go.RowKit

theorem addG (g j : Nat) : (⟨g, 0, none⟩ : Addr).add j = ⟨g, j, none⟩ := by unfold Addr.add; split <;> simp_all
/-- v is a row of the call's own that holds us; whatever stands behind them in its block -/
def OwnW (w : World) (e : TypeId) (v : Value) (us : List Value) : Prop :=
  (v = .slice none 0 0 ∧ us = []) ∨ ∃ g cap cur, v = .slice (some ⟨g, 0, none⟩) us.length cap ∧ w.heap[g]? = some (.cells cur e (0, 0)) ∧ us.length ≤ cap ∧ cap ≤ maxLen ∧ cap ≤ cur.size ∧ cur.toList.take us.length = us

/-- row v has been worked with, v' is what it became -/
structure GrW (w w' : World) (v v' : Value) : Prop where
  gr : w.grownBy w' v.ownBlock
  at_ : v'.ownBlock = v.ownBlock ∨ ∀ g, v'.ownBlock = some g → w.heap.size ≤ g ∧ g < w'.heap.size

section
variable {w w' w'' : World} {e : TypeId} {v v' v'' : Value} {us : List Value}
theorem ownW_nil (w : World) (e : TypeId) : OwnW w e (.slice none 0 0) [] := .inl ⟨rfl, rfl⟩
theorem GrW.refl (w : World) (v : Value) : GrW w w v v := ⟨World.grownBy.refl w _, .inl rfl⟩
theorem GrW.of (h : Below w.heap.size w w') (v : Value) : GrW w w' v v := ⟨grown_below h _, .inl rfl⟩
theorem GrW.trans (h : GrW w w' v v') (k : GrW w' w'' v' v'') : GrW w w'' v v'' := by
  refine ⟨⟨k.gr.os.trans h.gr.os, k.gr.tape.trans h.gr.tape, k.gr.output.trans h.gr.output, Nat.le_trans h.gr.size k.gr.size, fun j hj hne => ?_⟩, ?_⟩
  · refine (k.gr.block j (Nat.lt_of_lt_of_le hj h.gr.size) (fun e => ?_)).trans (h.gr.block j hj hne)
    rcases h.at_ with h2 | h2
    · exact hne (by rw [e, h2])
    · have := h2 j e.symm
      omega
  · rcases k.at_ with k2 | k2
    · rcases h.at_ with h2 | h2
      · exact .inl (k2.trans h2)
      · right
        intro g hg
        rw [k2] at hg
        have := h2 g hg
        have := k.gr.size
        omega
    · right
      intro g hg
      have := k2 g hg
      have := h.gr.size
      omega
theorem GrW.other (h : GrW w w' v v') {j : Nat} (hj : j < w.heap.size) (hne : v.ownBlock ≠ some j) : w'.heap[j]? = w.heap[j]? := h.gr.block j hj (fun e => hne e.symm)
theorem OwnW.lt (h : OwnW w e v us) {g : Nat} (hg : v.ownBlock = some g) : g < w.heap.size := by
  rcases h with ⟨rfl, _⟩ | ⟨g', cap, cur, rfl, hh, _⟩
  · simp [Value.ownBlock] at hg
  · simp [Value.ownBlock] at hg
    subst hg
    exact (Array.getElem?_eq_some_iff.1 hh).1
theorem OwnW.kept (h : OwnW w e v us) (hb : ∀ g, v.ownBlock = some g → w'.heap[g]? = w.heap[g]?) : OwnW w' e v us := by
  rcases h with h | ⟨g, cap, cur, rfl, hh, r⟩
  · exact .inl h
  · exact .inr ⟨g, cap, cur, rfl, (hb g rfl).trans hh, r⟩
theorem OwnW.below (h : OwnW w e v us) (hb : Below w.heap.size w w') : OwnW w' e v us := h.kept fun g hg => hb.block g (h.lt hg)
theorem OwnW.grown (h : OwnW w e v us) {u u' : Value} (hg : GrW w w' u u') (hne : ∀ g, v.ownBlock = some g → u.ownBlock ≠ some g) : OwnW w' e v us := h.kept fun g hg' => hg.other (h.lt hg') (hne g hg')
theorem OwnW.read (h : OwnW w e v us) : ∃ A c, v = .slice A us.length c ∧ Rv w w.heap.size A us ∧ us.length ≤ c ∧ c ≤ maxLen := by
  rcases h with ⟨rfl, rfl⟩ | ⟨g, cap, cur, rfl, hh, h1, h2, h3, h4⟩
  · exact ⟨none, 0, rfl, Rv.nil _ _ _, Nat.le_refl _, by unfold maxLen; omega⟩
  · refine ⟨_, cap, rfl, fun j u hu => ⟨_, rfl, (Array.getElem?_eq_some_iff.1 hh).1, ?_⟩, h1, h2⟩
    have hadd : (⟨g, 0, none⟩ : Addr).add j = ⟨g, j, none⟩ := addG g j
    have hj : j < us.length := (List.getElem?_eq_some_iff.1 hu).1
    rw [hadd, cell_of_row w g j cur e (0, 0) hh, ← Array.getElem?_toList]
    rw [← h4, List.getElem?_take, if_pos hj] at hu
    exact hu
/-- its block, where there is something in it -/
theorem OwnW.place (h : OwnW w e v us) (hp : 0 < us.length) : ∃ g c, v = .slice (some ⟨g, 0, none⟩) us.length c := by
  rcases h with ⟨rfl, rfl⟩ | ⟨g, cap, cur, rfl, _⟩
  · simp at hp
  · exact ⟨g, cap, rfl⟩
theorem OwnW.cellAt {g n c : Nat} (h : OwnW w e (.slice (some ⟨g, 0, none⟩) n c) us) {j : Nat} (hj : j < us.length) : w.cell? ⟨g, j, none⟩ = us[j]? ∧ w.frozen? ⟨g, j, none⟩ = false := by
  rcases h with ⟨h', _⟩ | ⟨g', cap, cur, h', hh, h1, h2, h3, h4⟩
  · simp at h'
  · simp only [Value.slice.injEq, Option.some.injEq, Addr.mk.injEq, and_true] at h'
    obtain ⟨rfl, -, -⟩ := h'
    refine ⟨?_, frozen_of_row w g j cur e hh⟩
    rw [cell_of_row w g j cur e (0, 0) hh, ← Array.getElem?_toList]
    have : us[j]? = (cur.toList.take us.length)[j]? := by rw [h4]
    rw [this, List.getElem?_take, if_pos hj]
theorem OwnW.len {g n c : Nat} (h : OwnW w e (.slice (some ⟨g, 0, none⟩) n c) us) : n = us.length := by
  rcases h with ⟨h', _⟩ | ⟨g', cap, cur, h', _⟩
  · simp at h'
  · injection h'
/-- a cell of it is another one -/
theorem OwnW.set {g n c : Nat} (h : OwnW w e (.slice (some ⟨g, 0, none⟩) n c) us) {j : Nat} (hj : j < us.length) {u : Value} :
    OwnW (w.setCell ⟨g, j, none⟩ u) e (.slice (some ⟨g, 0, none⟩) n c) (us.set j u) ∧ GrW w (w.setCell ⟨g, j, none⟩ u) (.slice (some ⟨g, 0, none⟩) n c) (.slice (some ⟨g, 0, none⟩) n c) := by
  have hcell := (h.cellAt hj).1
  rcases h with ⟨h', _⟩ | ⟨g', cap, cur, h', hh, h1, h2, h3, h4⟩
  · simp at h'
  · simp only [Value.slice.injEq, Option.some.injEq, Addr.mk.injEq, and_true] at h'
    obtain ⟨rfl, rfl, rfl⟩ := h'
    refine ⟨.inr ⟨g, c, cur.setIfInBounds j u, by rw [List.length_set], heap_setCell_same w g j cur e u hh, by rw [List.length_set]; exact h1, h2, by simpa using h3, ?_⟩, ?_, .inl rfl⟩
    · rw [Array.toList_setIfInBounds, List.length_set, List.take_set, h4]
    · exact ⟨rfl, rfl, rfl, by rw [setSize]; exact Nat.le_refl _, fun k _ hk => heap_setCell_other w ⟨g, j, none⟩ k u (fun e => hk (by simp [Value.ownBlock, e]))⟩
/-- the first n of it, with no more room -/
theorem OwnW.cut {g n c : Nat} (h : OwnW w e (.slice (some ⟨g, 0, none⟩) n c) us) (i : Nat) (hi : i ≤ us.length) : OwnW w e (.slice (some ⟨g, 0, none⟩) i i) (us.take i) := by
  rcases h with ⟨h', _⟩ | ⟨g', cap, cur, h', hh, h1, h2, h3, h4⟩
  · simp at h'
  · simp only [Value.slice.injEq, Option.some.injEq, Addr.mk.injEq, and_true] at h'
    obtain ⟨rfl, -, rfl⟩ := h'
    have hl : (us.take i).length = i := by rw [List.length_take]; omega
    refine .inr ⟨g, i, cur, by rw [hl], hh, by rw [hl]; exact Nat.le_refl _, by omega, by omega, ?_⟩
    rw [hl, ← h4, List.take_take, Nat.min_eq_left hi]
theorem ownW_new (w : World) (e : TypeId) (cs : Array Value) (n : Nat) (hn : cs.size = n) (hm : n ≤ maxLen) : OwnW (w.alloc (.cells cs e)) e (.slice (some ⟨w.heap.size, 0, none⟩) n n) cs.toList := by
  subst hn
  exact .inr ⟨w.heap.size, cs.size, cs, by simp, heap_alloc_new w _, by simp, hm, Nat.le_refl _, List.take_of_length_le (by simp)⟩
end

section
variable {P : Program} {S e : TypeId} {z : Value} {bytes : Nat}
theorem run_appW (E : Elt P S e z 1 bytes) (w : World) (ty : TypeId) (v : Value) (us : List Value) (hown : OwnW w e v us) (C : Nat) (A : Option Addr) (m c : Nat) (news : List Value)
    (hm : news.length = m) (hr : Rv w C A news) (h1 : ∀ u ∈ news, u.oneCell' = true) (hlen : us.length + m ≤ maxLen) (hbytes : (us.length + m) * bytes ≤ 140737488355328) :
    ∃ v' w', (Builtin.append_ #[S, S] ty #[v, .slice A m c]).run P w = .ok v' w' ∧ OwnW w' e v' (us ++ news) ∧ GrW w w' v v' := by
  obtain ⟨i, hi, hzi, hs, hb⟩ := info_parts E.info
  have hsmall : us.length + m ≤ 9223372036854775807 := by simp only [maxLen] at hlen; omega
  subst hm
  rcases A with _ | ad
  · have hnews : news = [] := by
      cases news with
      | nil => rfl
      | cons x r => obtain ⟨_, e, _⟩ := hr 0 x rfl; cases e
    subst hnews
    refine ⟨v, w, ?_, by rw [List.append_nil]; exact hown, GrW.refl w v⟩
    rcases hown with ⟨rfl, rfl⟩ | ⟨g, cap, cur, rfl, hh, hnc, _⟩
    · simp [Builtin.append_, run_underlying E.und, sizeOf, typeInfo, hi, Builtin.lenOf, Builtin.firstCells]
    · simp [Builtin.append_, run_underlying E.und, sizeOf, typeInfo, hi, Builtin.lenOf, Builtin.firstCells, hnc, storeCells]
  · have hc : ∀ j u, news[j]? = some u → w.cell? (ad.add j) = some u := by
      intro j u hu
      obtain ⟨ad', e, _, hh⟩ := hr j u hu
      injection e with e
      subst e
      exact hh
    have hl : news.length = news.length * i.size := by rw [hs, Nat.mul_one]
    -- a new block
    have grown : ∀ (old : Nat) (row : Value),
        OwnW (w.drew.alloc (.cells (us.toArray ++ news.toArray ++ Builtin.zeroCells z.cells (grownCap w (us.length + news.length) old e - (us.length + news.length))) e)) e
          (.slice (some ⟨w.heap.size, 0, none⟩) (us.length + news.length) (grownCap w (us.length + news.length) old e)) (us ++ news) ∧
        GrW w (w.drew.alloc (.cells (us.toArray ++ news.toArray ++ Builtin.zeroCells z.cells (grownCap w (us.length + news.length) old e - (us.length + news.length))) e)) row (.slice (some ⟨w.heap.size, 0, none⟩) (us.length + news.length) (grownCap w (us.length + news.length) old e)) := by
      intro old row
      have hge := grownCap_ge w (us.length + news.length) old e
      have hcm := grownCap_le_maxLen w (us.length + news.length) old e hlen
      have hbel : Below w.heap.size w (w.drew.alloc (.cells (us.toArray ++ news.toArray ++ Builtin.zeroCells z.cells (grownCap w (us.length + news.length) old e - (us.length + news.length))) e)) :=
        ⟨rfl, rfl, rfl, (below_alloc w.drew _).size, (below_alloc w.drew _).block⟩
      refine ⟨.inr ⟨w.heap.size, _, _, by rw [List.length_append], heap_alloc_new w.drew _, by rw [List.length_append]; exact hge, hcm, ?_, ?_⟩, grown_below hbel _, .inr fun g hg => ?_⟩
      · simp only [Array.size_append, List.size_toArray, size_zeroCells, E.zc]
        omega
      · simp only [Array.toList_append]
        exact List.take_left
      · simp [Value.ownBlock] at hg
        subst hg
        simp
    rcases hown with ⟨rfl, rfl⟩ | ⟨g, cap, cur, rfl, hh, hnc, hcm, hcs, htake⟩
    · by_cases hm0 : news.length = 0
      · have hn : news = [] := List.eq_nil_of_length_eq_zero hm0
        subst hn
        refine ⟨.slice none 0 0, w, ?_, ownW_nil w e, GrW.refl w _⟩
        simp [Builtin.append_, run_underlying E.und, sizeOf, typeInfo, hi, Builtin.lenOf, Builtin.firstCells, loadCells, loadCellsFrom]
      · have hrun := run_append_nil (P := P) w S ty e i z E.und hi hzi ad news.length c news hl hc (by omega) (by rw [List.length_nil, Nat.zero_add] at hsmall; omega) (by rw [hb]; rw [List.length_nil, Nat.zero_add] at hbytes; omega)
        have hgr := grown 0 (.slice none 0 0)
        simp only [List.length_nil, Nat.zero_add, List.nil_append, Array.empty_append] at hgr ⊢
        exact ⟨_, _, hrun, hgr.1, hgr.2⟩
    · by_cases hroom : us.length + news.length ≤ cap
      · have hrun := run_append_room (P := P) w S ty e i E.und hi g us.length cap cur hh ad news.length c news hl hc h1 hroom (by rw [hs, Nat.mul_one]; omega)
        rw [hs, Nat.mul_one] at hrun
        have hbx : Bx w g e cur := hh
        refine ⟨_, _, hrun, .inr ⟨g, cap, _, by rw [List.length_append], setRow_heap w g cur _ e _ hh, by rw [List.length_append]; exact hroom, hcm, ?_, ?_⟩, grown_row w g _, .inl rfl⟩
        · simp only [List.size_toArray, List.length_append, List.length_take, List.length_drop, Array.length_toList]
          omega
        · show List.take _ (_ ++ news ++ _) = _
          rw [htake]
          exact List.take_left
      · have holds : ∀ j u, us[j]? = some u → w.cell? ((⟨g, 0, none⟩ : Addr).add j) = some u := by
          intro j u hu
          have ho : OwnW w e (.slice (some ⟨g, 0, none⟩) us.length cap) us := .inr ⟨g, cap, cur, rfl, hh, hnc, hcm, hcs, htake⟩
          have hadd : (⟨g, 0, none⟩ : Addr).add j = ⟨g, j, none⟩ := addG g j
          rw [hadd, (ho.cellAt (List.getElem?_eq_some_iff.1 hu).1).1, hu]
        have hrun := run_append_grow (P := P) w S ty e i z E.und hi hzi ⟨g, 0, none⟩ us.length cap us (by rw [hs, Nat.mul_one]) holds ad news.length c news hl hc (by omega) (by omega) (growslice_fits (by omega) (by rw [hb]; exact hbytes))
        have hgr := grown cap (.slice (some ⟨g, 0, none⟩) us.length cap)
        exact ⟨_, _, hrun, hgr.1, hgr.2⟩

theorem wp_appW (E : Elt P S e z 1 bytes) {w : World} {o : Oper} {a : Act} {K : Act → World → Prop} {Q : Exit → Act → World → Prop} (s x : Operand)
    (ho : o.op = .call { callee := .builtin .append, args := #[s, x], argTypes := #[S, S] }) (v : Value) (us : List Value) (hown : OwnW w e v us) (hs : a.eval s = v) (C : Nat) (A : Option Addr) (m c : Nat) (news : List Value)
    (hx : a.eval x = .slice A m c) (hm : news.length = m) (hr : Rv w C A news) (h1 : ∀ u ∈ news, u.oneCell' = true) (hlen : us.length + m ≤ maxLen) (hbytes : (us.length + m) * bytes ≤ 140737488355328)
    (h : ∀ v' w', OwnW w' e v' (us ++ news) → GrW w w' v v' → K (a.put o.dst v') w') : o.wp P a w K Q := by
  obtain ⟨v', w', hrun, h2, h3⟩ := run_appW E w o.type v us hown C A m c news hm hr h1 hlen hbytes
  unfold Oper.wp execOp
  simp only [ho, resolve, invoke, builtin, Sem.run_bind, Sem.run_pure, Result.andThen_ok, List.map_toArray, List.map_cons, List.map_nil, hs, hx, hrun]
  exact h v' w' h2 h3
theorem wpList_appW (E : Elt P S e z 1 bytes) {w : World} {ops : Array Oper} {rest : List Oper} {o : Oper} {a : Act} {Q : Exit → Act → World → Prop} (hgd : o.guard = none) (s x : Operand)
    (ho : o.op = .call { callee := .builtin .append, args := #[s, x], argTypes := #[S, S] }) (v : Value) (us : List Value) (hown : OwnW w e v us) (hs : a.eval s = v) (C : Nat) (A : Option Addr) (m c : Nat) (news : List Value)
    (hx : a.eval x = .slice A m c) (hm : news.length = m) (hr : Rv w C A news) (h1 : ∀ u ∈ news, u.oneCell' = true) (hlen : us.length + m ≤ maxLen) (hbytes : (us.length + m) * bytes ≤ 140737488355328)
    (h : ∀ v' w', OwnW w' e v' (us ++ news) → GrW w w' v v' → wpList P ops Q rest (a.put o.dst v') w') : wpList P ops Q (o :: rest) a w :=
  wpList_plain hgd fun _ hK => wp_appW E s x ho v us hown hs C A m c news hx hm hr h1 hlen hbytes fun v' w' h2 h3 => hK _ _ (h v' w' h2 h3)
theorem wpList_appG (E : Elt P S e z 1 bytes) {w : World} {ops : Array Oper} {rest : List Oper} {o : Oper} {a : Act} {Q : Exit → Act → World → Prop} (hgd : Region.wanted o (yielded ops a.tmps) = true) (s x : Operand)
    (ho : o.op = .call { callee := .builtin .append, args := #[s, x], argTypes := #[S, S] }) (v : Value) (us : List Value) (hown : OwnW w e v us) (hs : a.eval s = v) (C : Nat) (A : Option Addr) (m c : Nat) (news : List Value)
    (hx : a.eval x = .slice A m c) (hm : news.length = m) (hr : Rv w C A news) (h1 : ∀ u ∈ news, u.oneCell' = true) (hlen : us.length + m ≤ maxLen) (hbytes : (us.length + m) * bytes ≤ 140737488355328)
    (h : ∀ v' w', OwnW w' e v' (us ++ news) → GrW w w' v v' → wpList P ops Q rest (a.put o.dst v') w') : wpList P ops Q (o :: rest) a w :=
  BigFrame.wpList_want hgd fun _ hK => wp_appW E s x ho v us hown hs C A m c news hx hm hr h1 hlen hbytes fun v' w' h2 h3 => hK _ _ (h v' w' h2 h3)
end
end Go.Proofs.Ytdpniggabidmbaa
