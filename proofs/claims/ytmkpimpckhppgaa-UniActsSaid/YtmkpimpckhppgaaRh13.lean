/-
  What is proved: rows of the call's own in which one cell changes; what the reference's stack is while a use is at work: its row of the call's own, the answer's block, the moves' row; what becomes of it when a level changes, when a move is told. Condition: it lies in memory so.
-/
import Derived.Test.YtmkpimpckhppgaaRg13
namespace Go.Proofs.Ytmkpimpckhppgaa
open Go.RowKit

theorem OwnV.set {w : World} {b s n cap g i : Nat} {e : TypeId} {us : List Value} (h : OwnV w b e s (.slice (some ⟨g, 0, none⟩) n cap) n us) (_ : i < us.length) (u : Value) : OwnV (w.setCell ⟨g, i, none⟩ u) b e s (.slice (some ⟨g, 0, none⟩) n cap) n (us.set i u) := by
  refine ⟨by rw [List.length_set]; exact h.1, ?_⟩
  rcases h.2 with ⟨hv, h0⟩ | ⟨g', cap', cur, hv, hb, hh, hnc, hm, hs, ht⟩
  · simp at hv
  · simp only [Value.slice.injEq, Option.some.injEq, Addr.mk.injEq, and_true] at hv
    obtain ⟨rfl, -, rfl⟩ := hv
    refine .inr ⟨g, cap, cur.setIfInBounds i u, rfl, hb, heap_setCell_same w g i cur e u hh, hnc, hm, by simpa using hs, ?_⟩
    rw [Array.toList_setIfInBounds, List.take_set, ht]
theorem itc_set {L : List Int} {v : Int → Int} {j : Nat} {y l : Int} (hd : L.Nodup) (hy : L[j]? = some y) : (itc L v).set (j * 2 + 1) (.int .i64 l) = itc L (upd v y l) := by
  obtain ⟨hj, e⟩ := List.getElem?_eq_some_iff.1 hy
  have e2 : L = L.take j ++ (y :: L.drop (j + 1)) := by
    rw [← e]
    simp
  have hd2 := hd
  rw [e2, List.nodup_append] at hd2
  obtain ⟨-, hB, hAB⟩ := hd2
  have hyA : ∀ b ∈ L.take j, upd v y l b = v b := fun b hb => upd_ne _ _ (fun e => hAB b hb y List.mem_cons_self e)
  have hyB : ∀ b ∈ L.drop (j + 1), upd v y l b = v b := fun b hb => upd_ne _ _ (fun e => (List.nodup_cons.1 hB).1 (by rw [← e]; exact hb))
  have hl : (itc (L.take j) v).length = j * 2 := by rw [itc_len, List.length_take]; rw [Nat.min_eq_left (by omega)]
  have e3 : ∀ u : Int → Int, itc L u = itc (L.take j) u ++ ([.int .i64 y, .int .i64 (u y)] ++ itc (L.drop (j + 1)) u) := fun u => by
    conv => lhs; rw [e2]
    rw [itc_app]
    rfl
  rw [e3 v, e3 (upd v y l), itc_congr hyA, itc_congr hyB, upd_same, List.set_append_right _ _ (by rw [hl]; omega), hl, show j * 2 + 1 - j * 2 = 1 from by omega]
  rfl
/-- while a use is at work -/
structure Uw (w0 w : World) (X : Nat → Prop) (h g cp : Nat) (E : Option Addr) (ce : Nat) (c : Nat → Nat) (s : Us) (r4 r5 lev : Nat) (mv : Value) (M : List (Int × Nat)) : Prop where
  ur : Ur w X h (some ⟨g, 0, none⟩) cp E ce c s
  its : Its w w0.heap.size (.slice (some ⟨g, 0, none⟩) s.L.length cp) s.L s.v
  b4 : Bx w r4 39 #[.int .i64 0, .slice none 0 0]
  b5 : Bx w r5 39 #[.int .i64 lev, mv]
  mvs : Mvs w w0.heap.size mv M
  n4 : w0.heap.size ≤ r4 ∧ r4 ≠ r5 ∧ w0.heap.size ≤ r5
  go : g ≠ r4 ∧ g ≠ r5 ∧ w0.heap.size ≤ g
  mo : ∀ j, mv.ownBlock = some j → j ≠ g ∧ j ≠ r4 ∧ j ≠ r5
  ho : h < w0.heap.size
  eo : ∀ ad, E = some ad → ad.block < w0.heap.size
  chg : Chg w0 w (· = h) (· = h)
theorem one_chg {w : World} {r : Nat} (i : Nat) (v : Value) : Chg w (w.setCell ⟨r, i, none⟩ v) (· = r) (· = r) :=
  ⟨rfl, rfl, rfl, by rw [setSize]; exact Nat.le_refl _, fun j _ h2 => Below.heap_setCell w ⟨r, i, none⟩ v j (fun e => h2 e), fun _ e => .inl e⟩
theorem own_heap {w w' : World} {b s n : Nat} {e : TypeId} {v : Value} {us : List Value} (h : OwnV w b e s v n us) (hk : ∀ j, v.ownBlock = some j → j < w.heap.size → w'.heap[j]? = w.heap[j]?) : OwnV w' b e s v n us := by
  refine ⟨h.1, ?_⟩
  rcases h.2 with ⟨hv, h0⟩ | ⟨g, cap, cur, hv, hb, hh, r⟩
  · exact .inl ⟨hv, h0⟩
  · exact .inr ⟨g, cap, cur, hv, hb, (hk g (by rw [hv]; rfl) (Array.getElem?_eq_some_iff.1 hh).1).trans hh, r⟩
theorem ownV_place {w : World} {b s n : Nat} {e : TypeId} {v : Value} {us : List Value} (h : OwnV w b e s v n us) (hn : 0 < n) : ∃ g cap, v = .slice (some ⟨g, 0, none⟩) n cap ∧ b ≤ g ∧ g < w.heap.size ∧ n ≤ cap ∧ cap ≤ maxLen := by
  rcases h.2 with ⟨hv, h0⟩ | ⟨g, cap, cur, hv, hb, hh, hnc, hm, _⟩
  · omega
  · exact ⟨g, cap, hv, hb, (Array.getElem?_eq_some_iff.1 hh).1, hnc, hm⟩
theorem own_cell {w : World} {b s n g cap i : Nat} {e : TypeId} {us : List Value} (h : OwnV w b e s (.slice (some ⟨g, 0, none⟩) n cap) n us) : w.frozen? ⟨g, i, none⟩ = false ∧ ∀ u, us[i]? = some u → w.cell? ⟨g, i, none⟩ = some u := by
  rcases h.2 with ⟨hv, h0⟩ | ⟨g', cap', cur, hv, hb, hh, hnc, hm, hs, ht⟩
  · simp at hv
  · simp only [Value.slice.injEq, Option.some.injEq, Addr.mk.injEq, and_true] at hv
    obtain ⟨rfl, -, rfl⟩ := hv
    refine ⟨frozen_of_row w g i cur e hh, fun u hu => ?_⟩
    rw [cell_of_row w g i cur e (0, 0) hh, ← Array.getElem?_toList]
    rw [← ht, List.getElem?_take] at hu
    split at hu
    · exact hu
    · cases hu
theorem stl_le {c : Nat → Nat} : ∀ {k : Nat} {s : Us}, (s.stl c k).2.length ≤ k
  | 0, _ => Nat.le_refl _
  | k + 1, s => by
    unfold Us.stl
    split
    · exact Nat.succ_le_succ stl_le
    · exact Nat.zero_le _
theorem row_chg (w : World) (k : Nat) (cs : Array Value) : Chg w (w.setRow k cs) (· = k) (· = k) :=
  ⟨rfl, rfl, rfl, by rw [setRow_size]; exact Nat.le_refl _, fun j _ h2 => setRow_other w k j cs h2, fun _ e => .inl e⟩
theorem Ur.apart {w w' : World} {X F G : Nat → Prop} {h : Nat} {A E : Option Addr} {cp ce : Nat} {c : Nat → Nat} {s : Us} (u : Ur w X h A cp E ce c s) (hc : Chg w w' F G) (h1 : ¬ F h) (h2 : ∀ ad, A = some ad → ¬ F ad.block) (h3 : ∀ ad, E = some ad → ¬ F ad.block) : Ur w' X h A cp E ce c s :=
  ⟨hc.bx u.box h1, hc.rv u.row h2, hc.rv u.cps h3, u.cpl, u.rof, u.cof, u.hX, fun j e => Nat.lt_of_lt_of_le (u.xlt j e) hc.size⟩
section
variable {w0 w w' : World} {X : Nat → Prop} {h g cp : Nat} {E : Option Addr} {ce : Nat} {c : Nat → Nat} {s : Us} {r4 r5 lev : Nat} {mv : Value} {M : List (Int × Nat)}
theorem Uw.below (u : Uw w0 w X h g cp E ce c s r4 r5 lev mv M) (hb : Below w.heap.size w w') : Uw w0 w' X h g cp E ce c s r4 r5 lev mv M :=
  ⟨u.ur.below hb, OwnV.below u.its hb, u.b4.next hb, u.b5.next hb, OwnV.below u.mvs hb, u.n4, u.go, u.mo, u.ho, u.eo, u.chg.trans (Chg.of hb _)⟩
theorem Uw.draws (u : Uw w0 w X h g cp E ce c s r4 r5 lev mv M) (n : Nat) : Uw w0 (w.drewN n) X h g cp E ce c s r4 r5 lev mv M := u.below (below_draws (Below.refl _ _) n)
/-- a block's level changes -/
theorem Uw.sv (u : Uw w0 w X h g cp E ce c s r4 r5 lev mv M) (ok : Oku s) {j : Nat} {y l : Int} (hy : s.L[j]? = some y) : Uw w0 (w.setCell ⟨g, j * 2 + 1, none⟩ (.int .i64 l)) X h g cp E ce c (s.sv y l) r4 r5 lev mv M := by
  have hj := (List.getElem?_eq_some_iff.1 hy).1
  have hch := one_chg (w := w) (r := g) (j * 2 + 1) (.int .i64 l)
  have hits : Its (w.setCell ⟨g, j * 2 + 1, none⟩ (.int .i64 l)) w0.heap.size (.slice (some ⟨g, 0, none⟩) s.L.length cp) s.L (upd s.v y l) := by
    have := OwnV.set u.its (i := j * 2 + 1) (by rw [itc_len]; omega) (.int .i64 l)
    rw [itc_set ok.nd hy] at this
    exact this
  obtain ⟨A, cp', e, hr, -, -⟩ := OwnV.read hits
  simp only [Value.slice.injEq] at e
  obtain ⟨rfl, -, rfl⟩ := e
  have hgh : g ≠ h := by have := u.ho; have := u.go.2.2; omega
  exact ⟨⟨hch.bx u.ur.box (fun e => hgh e.symm), hr, hch.rv u.ur.cps (fun ad e f => by have := u.eo ad e; have := u.go.2.2; omega), u.ur.cpl, u.ur.rof, u.ur.cof, u.ur.hX, fun j e => by rw [setSize]; exact u.ur.xlt j e⟩,
    hits, hch.bx u.b4 (fun e => u.go.1 e.symm), hch.bx u.b5 (fun e => u.go.2.1 e.symm), own_heap u.mvs (fun j e _ => Below.heap_setCell w _ _ j (fun e2 => (u.mo j e).1 e2)), u.n4, u.go, u.mo, u.ho, u.eo,
    chg_bel u.chg ((Below.refl _ _).setCell (p := ⟨g, j * 2 + 1, none⟩) u.go.2.2 _)⟩
/-- a move is told -/
theorem Uw.move (u : Uw w0 w X h g cp E ce c s r4 r5 lev mv M) {w2 : World} {mv2 : Value} {m : Int × Nat} (ho : OwnV w2 w0.heap.size 49 3 mv2 (M.length + 1) (mvc M ++ [.int .i64 m.1, .int .i64 (m.2 : Nat), .int .i64 (m.2 + 1 : Nat)])) (hg : GrownV w w2 mv mv2) :
    Uw w0 (w2.setCell ⟨r5, 1, none⟩ mv2) X h g cp E ce c s r4 r5 lev mv2 (M ++ [m]) ∧ w2.cell? ⟨r5, 1, none⟩ = some mv ∧ w2.frozen? ⟨r5, 1, none⟩ = false ∧ w2.cell? ⟨h, 0, none⟩ = some (.slice (some ⟨g, 0, none⟩) s.L.length cp) ∧ ∀ i x, (itc s.L s.v)[i]? = some x → w2.cell? ⟨g, i, none⟩ = some x := by
  have hsz : w0.heap.size ≤ w.heap.size := u.chg.size
  have hb2 : Below w0.heap.size w w2 := hg.below u.mvs hsz
  have hmh : ∀ j, mv.ownBlock = some j → w0.heap.size ≤ j := fun j e => (World.ownsRow.lt u.mvs j e).1
  have bx5 : Bx w2 r5 39 #[.int .i64 lev, mv] := u.b5.apart hg.1 (fun e => (u.mo r5 e.symm).2.2 rfl)
  have bx4 : Bx w2 r4 39 #[.int .i64 0, .slice none 0 0] := u.b4.apart hg.1 (fun e => (u.mo r4 e.symm).2.1 rfl)
  have bxh : Bx w2 h 60 #[.slice (some ⟨g, 0, none⟩) s.L.length cp, .slice E 4 ce] := u.ur.box.apart hg.1 (fun e => by have := hmh h e.symm; have := u.ho; omega)
  have hgl : g < w.heap.size := by
    have := World.ownsRow.lt u.its g rfl
    exact this.2
  have its2 : Its w2 w0.heap.size (.slice (some ⟨g, 0, none⟩) s.L.length cp) s.L s.v := own_heap u.its (fun j e hl => hg.1.block j hl (fun e2 => by
    simp [Value.ownBlock] at e
    subst e
    exact (u.mo g e2.symm).1 rfl))
  have hch := one_chg (w := w2) (r := r5) 1 mv2
  have its3 : Its (w2.setCell ⟨r5, 1, none⟩ mv2) w0.heap.size (.slice (some ⟨g, 0, none⟩) s.L.length cp) s.L s.v := own_heap its2 (fun j e _ => Below.heap_setCell w2 _ _ j (fun e2 => by
    simp [Value.ownBlock] at e
    subst e
    exact u.go.2.1 e2))
  obtain ⟨A, cp', e, hr, -, -⟩ := OwnV.read its3
  simp only [Value.slice.injEq] at e
  obtain ⟨rfl, -, rfl⟩ := e
  have hmo : ∀ j, mv2.ownBlock = some j → j ≠ g ∧ j ≠ r4 ∧ j ≠ r5 := fun j e => by
    rcases hg.2 with e2 | e2
    · exact u.mo j (by rw [← e2]; exact e)
    · rw [e2] at e
      injection e with e
      have h4 := u.b4.lt
      have h5 := u.b5.lt
      exact ⟨by omega, by omega, by omega⟩
  have cps2 : Rv w2 w2.heap.size E (ints (rcl c)) := fun j x hx => by
    obtain ⟨ad, e, h1, h2⟩ := u.ur.cps j x hx
    have hl := u.eo ad e
    exact ⟨ad, e, Nat.lt_of_lt_of_le h1 hg.1.size, (hb2.cell (p := ad.add j) (by rw [addBlk]; exact hl)).trans h2⟩
  have hh5 : h ≠ r5 := by have := u.ho; have := u.n4.2.2; omega
  refine ⟨⟨⟨hch.bx bxh hh5, hr, hch.rv cps2 (fun ad e f => by have := u.eo ad e; have := u.n4.2.2; omega), u.ur.cpl, u.ur.rof, u.ur.cof, u.ur.hX, fun j e => by rw [setSize]; exact Nat.lt_of_lt_of_le (u.ur.xlt j e) hg.1.size⟩,
    its3, hch.bx bx4 u.n4.2.1, bx5.set 1 mv2, ?_, u.n4, u.go, hmo, u.ho, u.eo, chg_bel (chg_bel u.chg hb2) ((Below.refl _ _).setCell (p := ⟨r5, 1, none⟩) u.n4.2.2 _)⟩, bx5.cell 1, bx5.free 1, bxh.cell 0, fun i x hx => (own_cell its2).2 x hx⟩
  unfold Mvs
  rw [mvc_app, List.length_append]
  exact own_heap ho (fun j e _ => Below.heap_setCell w2 _ _ j (fun e2 => (hmo j e).2.2 e2))
end
theorem wp_appV {P : Program} {S e : TypeId} {z : Value} {size bytes : Nat} (Z : Elt P S e z size bytes) {w : World} {o : Oper} {a : Act} {K : Act → World → Prop} {Q : Exit → Act → World → Prop} (s x : Operand)
    (ho : o.op = .call { callee := .builtin .append, args := #[s, x], argTypes := #[S, S] }) (b : Nat) (v : Value) (n : Nat) (us : List Value) (hown : OwnV w b e size v n us) (hs : a.eval s = v) (C : Nat) (A : Option Addr) (m c : Nat) (news : List Value)
    (hx : a.eval x = .slice A m c) (hm : news.length = m * size) (hr : Rv w C A news) (h1 : ∀ u ∈ news, u.oneCell' = true) (hlen : n + m ≤ maxLen) (hbytes : (n + m) * bytes ≤ 140737488355328) (hbase : b ≤ w.heap.size)
    (h : ∀ v' w', OwnV w' b e size v' (n + m) (us ++ news) → GrownV w w' v v' → K (a.put o.dst v') w') : o.wp P a w K Q := by
  obtain ⟨v', w', hrun, h2, h3⟩ := run_appV Z w o.type b v n us hown C A m c news hm hr h1 hlen hbytes hbase
  unfold Oper.wp execOp
  simp only [ho, resolve, invoke, builtin, Sem.run_bind, Sem.run_pure, Result.andThen_ok, List.map_toArray, List.map_cons, List.map_nil, hs, hx, hrun]
  exact h v' w' h2 h3
end Go.Proofs.Ytmkpimpckhppgaa
