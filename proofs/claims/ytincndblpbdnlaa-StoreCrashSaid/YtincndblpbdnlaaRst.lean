/-
  What is proved: what the reference's store in memory is (a struct of five rows), how it is kept, what is read and set of it. No condition on a program.
-/
import Derived.Test.YtincndblpbdnlaaApq
import Derived.Test.YtincndblpbdnlaaLong6
namespace Go.Proofs.Ytincndblpbdnlaa
open Go.RowKit

/-- whole numbers as cells -/
def cel (n : Nat) (f : Nat → Nat) : List Value := (List.range n).map fun i => .int .i64 (f i : Nat)
theorem cel_len (n : Nat) (f : Nat → Nat) : (cel n f).length = n := by simp [cel]
theorem cel_get {n i : Nat} (f : Nat → Nat) (h : i < n) : (cel n f)[i]? = some (.int .i64 (f i : Nat)) := by
  unfold cel
  rw [List.getElem?_map, List.getElem?_range h]
  rfl
theorem cel_set {n i : Nat} (f : Nat → Nat) (v : Nat) : (cel n f).set i (.int .i64 (v : Nat)) = cel n (upd f i v) := by
  apply List.ext_getElem?
  intro j
  by_cases hj : j < n
  · by_cases e : i = j
    · subst e
      rw [List.getElem?_set_self (by rw [cel_len]; exact hj), cel_get _ hj, upd_self]
    · rw [List.getElem?_set_ne e, cel_get _ hj, cel_get _ hj, upd_ne _ _ (fun h => e h.symm)]
  · rw [List.getElem?_eq_none (by rw [List.length_set, cel_len]; omega), List.getElem?_eq_none (by rw [cel_len]; omega)]
theorem cel_congr {n : Nat} {f g : Nat → Nat} (h : ∀ i, i < n → f i = g i) : cel n f = cel n g := by
  unfold cel
  apply List.map_congr_left
  intro i hi
  rw [h i (List.mem_range.1 hi)]
/-- two rows have no block in common -/
def Apt (u v : Value) : Prop := ∀ g, u.ownBlock = some g → v.ownBlock ≠ some g
theorem Apt.symm {u v : Value} (h : Apt u v) : Apt v u := fun g h1 h2 => h g h2 h1
theorem ownV_kept {w w' : World} {b s n : Nat} {e : TypeId} {v : Value} {us : List Value} (h : OwnV w b e s v n us) (hk : ∀ g, v.ownBlock = some g → w'.heap[g]? = w.heap[g]?) : OwnV w' b e s v n us := by
  refine ⟨h.1, ?_⟩
  rcases h.2 with hn | ⟨g, cap, cur, hv, hb', hgg, rest⟩
  · exact .inl hn
  · exact .inr ⟨g, cap, cur, hv, hb', (hk g (by rw [hv]; rfl)).trans hgg, rest⟩
theorem ownV_lt {w : World} {b s n : Nat} {e : TypeId} {v : Value} {us : List Value} (h : OwnV w b e s v n us) {g : Nat} (hg : v.ownBlock = some g) : b ≤ g ∧ g < w.heap.size := World.ownsRow.lt h g hg
/-- w' is w but for rows of numbers and of texts from block b on; bytes stay -/
structure Tch (w w' : World) (b : Nat) : Prop where
  os : w'.os = w.os
  tape : w'.tape = w.tape
  output : w'.output = w.output
  size : w.heap.size ≤ w'.heap.size
  blk : ∀ j, j < w.heap.size → (j < b ∨ ∃ cs t z, w.heap[j]? = some (.cells cs t z) ∧ t ≠ 3 ∧ t ≠ 36) → w'.heap[j]? = w.heap[j]?
  stay : Stay w w'
section
variable {w w' w'' : World} {b : Nat}
theorem Tch.refl (w : World) (b : Nat) : Tch w w b := ⟨rfl, rfl, rfl, Nat.le_refl _, fun _ _ _ => rfl, fun _ _ h => h⟩
theorem Tch.trans (h : Tch w w' b) (k : Tch w' w'' b) : Tch w w'' b := by
  refine ⟨k.os.trans h.os, k.tape.trans h.tape, k.output.trans h.output, Nat.le_trans h.size k.size, fun j hj hc => ?_, h.stay.trans k.stay⟩
  have e := h.blk j hj hc
  refine (k.blk j (Nat.lt_of_lt_of_le hj h.size) ?_).trans e
  rcases hc with h1 | ⟨cs, t, z, h1, h2⟩
  · exact .inl h1
  · exact .inr ⟨cs, t, z, e.trans h1, h2⟩
theorem Tch.of (h : Below w.heap.size w w') (b : Nat) : Tch w w' b := ⟨h.os, h.tape, h.output, h.size, fun j hj _ => h.block j hj, Stay.below h⟩
theorem Tch.below (h : Tch w w' b) (hb : b ≤ w.heap.size) : Below b w w' := ⟨h.os, h.tape, h.output, h.size, fun j hj => h.blk j (by omega) (.inl hj)⟩
theorem Tch.bx (h : Tch w w' b) {g : Nat} {t : TypeId} {cs : Array Value} (hx : Bx w g t cs) (h1 : t ≠ 3) (h2 : t ≠ 36) : Bx w' g t cs := (h.blk g hx.lt (.inr ⟨cs, t, _, hx, h1, h2⟩)).trans hx
theorem Tch.draws (h : Tch w w' b) (n : Nat) : Tch w (w'.drewN n) b := ⟨h.os, h.tape, h.output, h.size, h.blk, h.stay⟩
/-- a cell of a row of numbers or of texts is another one -/
theorem Tch.set {g : Nat} {e : TypeId} {s n c : Nat} {us : List Value} (h : OwnV w b e s (.slice (some ⟨g, 0, none⟩) n c) n us) (he : e = 3 ∨ e = 36) (i : Nat) (u : Value) (hst : Stay w (w.setCell ⟨g, i, none⟩ u)) : Tch w (w.setCell ⟨g, i, none⟩ u) b := by
  refine ⟨rfl, rfl, rfl, by rw [setSize]; exact Nat.le_refl _, fun j _ hc => Below.heap_setCell w ⟨g, i, none⟩ u j fun e' => ?_, hst⟩
  have e'' : j = g := e'
  subst e''
  rcases hc with h1 | ⟨cs, t, z, h1, h2, h3⟩
  · have := (ownV_lt h (g := j) rfl).1
    omega
  · rcases h.2 with ⟨hn, _⟩ | ⟨g', cap, cur, hv, _, hgg, _⟩
    · cases hn
    · injection hv with hv
      injection hv with hv
      injection hv with hv
      subst hv
      rw [h1] at hgg
      injection hgg with hgg
      injection hgg with _ hgg
      subst hgg
      rcases he with he | he
      · exact h2 he
      · exact h3 he
theorem Sx.tch {bb kd ks : Nat} {vv : Value} {st : St} {sh : Sh} (h : Sx w bb kd ks vv st sh) (ht : Tch w w' b) (h1 : kd < b) (h2 : ∀ g, vv.ownBlock = some g → g < b) : Sx w' bb kd ks vv st sh :=
  ⟨h.dk.kept ht.size ht.stay fun j hj => ht.blk j (h.dk.lt hj) (.inl (by
    rcases hj with rfl | e
    · exact h1
    · exact h2 _ e)), ht.bx h.bx (by decide) (by decide), h.ok, h.len, h.by_⟩
end
/-- block kx is the reference's store: its rows are r0 to r4, all of it lies from block b on -/
structure Rf (w : World) (b kx : Nat) (r0 r1 r2 r3 r4 : Value) (sh : Sh) (X : RS) : Prop where
  bx : Bx w kx 70 #[.int .i64 sh.B, .int .i64 sh.Z, .int .i64 sh.C, .int .i64 sh.S, r0, r1, r2, r3, r4]
  low : b ≤ kx
  T : ∃ us, OwnV w b 36 1 r1 sh.B us ∧ ∀ i, i < sh.B → ∃ u, us[i]? = some u ∧ Bs w u (X.T i)
  V : OwnV w b 3 1 r0 sh.B (cel sh.B X.V)
  P : OwnV w b 3 1 r2 (sh.S * sh.C) (cel (sh.S * sh.C) X.P)
  O : OwnV w b 3 1 r3 (sh.S * sh.C) (cel (sh.S * sh.C) X.O)
  K : OwnV w b 3 1 r4 (sh.S * sh.C) (cel (sh.S * sh.C) X.K)
  a02 : Apt r0 r2
  a03 : Apt r0 r3
  a04 : Apt r0 r4
  a23 : Apt r2 r3
  a24 : Apt r2 r4
  a34 : Apt r3 r4
section
variable {w w' : World} {b kx : Nat} {r0 r1 r2 r3 r4 : Value} {sh : Sh} {X : RS}
theorem Rf.kept (h : Rf w b kx r0 r1 r2 r3 r4 sh X) (hs : w.heap.size ≤ w'.heap.size) (st : Stay w w') (hb : ∀ j, j < w.heap.size → b ≤ j → w'.heap[j]? = w.heap[j]?) : Rf w' b kx r0 r1 r2 r3 r4 sh X where
  bx := (hb kx h.bx.lt h.low).trans h.bx
  low := h.low
  T := by
    obtain ⟨us, h1, h2⟩ := h.T
    exact ⟨us, ownV_kept h1 fun g hg => hb g (ownV_lt h1 hg).2 (ownV_lt h1 hg).1, fun i hi => by obtain ⟨u, e1, e2⟩ := h2 i hi; exact ⟨u, e1, e2.stay st hs⟩⟩
  V := ownV_kept h.V fun g hg => hb g (ownV_lt h.V hg).2 (ownV_lt h.V hg).1
  P := ownV_kept h.P fun g hg => hb g (ownV_lt h.P hg).2 (ownV_lt h.P hg).1
  O := ownV_kept h.O fun g hg => hb g (ownV_lt h.O hg).2 (ownV_lt h.O hg).1
  K := ownV_kept h.K fun g hg => hb g (ownV_lt h.K hg).2 (ownV_lt h.K hg).1
  a02 := h.a02
  a03 := h.a03
  a04 := h.a04
  a23 := h.a23
  a24 := h.a24
  a34 := h.a34
theorem Rf.below (h : Rf w b kx r0 r1 r2 r3 r4 sh X) (hb : Below w.heap.size w w') : Rf w' b kx r0 r1 r2 r3 r4 sh X := h.kept hb.size (Stay.below hb) fun j hj _ => hb.block j hj
/-- a store has been at work, whose disk lies ahead of b -/
theorem Rf.only (h : Rf w b kx r0 r1 r2 r3 r4 sh X) {kd : Nat} {vv : Value} (ho : Only w w' kd vv) (h1 : kd < b) (h2 : ∀ g, vv.ownBlock = some g → g < b) : Rf w' b kx r0 r1 r2 r3 r4 sh X :=
  h.kept ho.size ho.stay fun j hj hb => ho.block j hj (by omega) fun e => by have := h2 j e.symm; omega
theorem Rf.draws (h : Rf w b kx r0 r1 r2 r3 r4 sh X) (n : Nat) : Rf (w.drewN n) b kx r0 r1 r2 r3 r4 sh X := h.below (below_draws (Below.refl _ _) n)
/-- the struct's block is none of the rows' -/
theorem Rf.nk (h : Rf w b kx r0 r1 r2 r3 r4 sh X) : r0.ownBlock ≠ some kx ∧ r1.ownBlock ≠ some kx ∧ r2.ownBlock ≠ some kx ∧ r3.ownBlock ≠ some kx ∧ r4.ownBlock ≠ some kx := by
  obtain ⟨us, h1, _⟩ := h.T
  exact ⟨fun e => absurd (h.V.typ e h.bx) (by decide), fun e => absurd (h1.typ e h.bx) (by decide), fun e => absurd (h.P.typ e h.bx) (by decide), fun e => absurd (h.O.typ e h.bx) (by decide), fun e => absurd (h.K.typ e h.bx) (by decide)⟩
/-- a row of texts and a row of numbers have no block in common -/
theorem apt_typ {u v : Value} {b1 b2 s1 s2 n1 n2 : Nat} {e1 e2 : TypeId} {us vs : List Value} (h : OwnV w b1 e1 s1 u n1 us) (k : OwnV w b2 e2 s2 v n2 vs) (hne : e1 ≠ e2) : Apt u v := fun g hg hv => by
  rcases h.2 with ⟨rfl, _⟩ | ⟨g', cap, cur, rfl, _, hgg, _⟩
  · cases hg
  · injection hg with hg
    subst hg
    exact hne (k.typ hv hgg)
/-- a cell of row V is read -/
theorem Rf.getV (h : Rf w b kx r0 r1 r2 r3 r4 sh X) {i : Nat} (hi : i < sh.B) : ∃ g c, r0 = .slice (some ⟨g, 0, none⟩) sh.B c ∧ w.cell? ⟨g, i, none⟩ = some (.int .i64 (X.V i : Nat)) ∧ w.frozen? ⟨g, i, none⟩ = false := by
  have hr := h.V
  obtain ⟨g, c, rfl, _, _⟩ := World.ownsRow.form hr (by omega)
  exact ⟨g, c, rfl, (World.ownsRow.cellAt hr i (by omega)).trans (cel_get _ hi), World.ownsRow.frozenAt hr i⟩
/-- a cell of row V is another one -/
theorem Rf.setV {g n c : Nat} (h : Rf w b kx (.slice (some ⟨g, 0, none⟩) n c) r1 r2 r3 r4 sh X) {i : Nat} (hi : i < sh.B) (v : Nat) : Rf (w.setCell ⟨g, i, none⟩ (.int .i64 (v : Nat))) b kx (.slice (some ⟨g, 0, none⟩) n c) r1 r2 r3 r4 sh { X with V := upd X.V i v } ∧ Tch w (w.setCell ⟨g, i, none⟩ (.int .i64 (v : Nat))) b := by
  have hr := h.V
  have hn : n = sh.B := by
    obtain ⟨A, c', e, _⟩ := hr.read
    injection e
  subst hn
  have hst : Stay w (w.setCell ⟨g, i, none⟩ (.int .i64 (v : Nat))) := Stay.set w _ _ fun x e => by
    have e2 := (World.ownsRow.cellAt hr i (by omega)).trans (cel_get X.V hi)
    rw [e2] at e
    cases e
  refine ⟨?_, Tch.set hr (.inl rfl) i _ hst⟩
  have key : ∀ j, j ≠ g → (w.setCell ⟨g, i, none⟩ (.int .i64 (v : Nat))).heap[j]? = w.heap[j]? := fun j hj => Below.heap_setCell w ⟨g, i, none⟩ _ j fun e => hj e
  have hsz : w.heap.size ≤ (w.setCell ⟨g, i, none⟩ (.int .i64 (v : Nat))).heap.size := by rw [setSize]; exact Nat.le_refl _
  obtain ⟨us, t1, t2⟩ := h.T
  refine { bx := ?_, low := h.low, T := ⟨us, ?_, fun j hj => ?_⟩, V := by show OwnV _ _ _ _ _ _ (cel _ (upd X.V i v)); rw [← cel_set]; exact (World.ownsRow.stored hr i _).1, P := ownV_kept h.P fun g' hg' => key g' fun e => h.a02 g' (by rw [e]; rfl) hg', O := ownV_kept h.O fun g' hg' => key g' fun e => h.a03 g' (by rw [e]; rfl) hg', K := ownV_kept h.K fun g' hg' => key g' fun e => h.a04 g' (by rw [e]; rfl) hg', a02 := h.a02, a03 := h.a03, a04 := h.a04, a23 := h.a23, a24 := h.a24, a34 := h.a34 }
  · exact (key kx fun e => h.nk.1 (by rw [e]; rfl)).trans h.bx
  · exact ownV_kept t1 fun g' hg' => key g' fun e => apt_typ t1 hr (by decide) g' hg' (by rw [e]; rfl)
  · obtain ⟨u, e1, e2⟩ := t2 j hj
    exact ⟨u, e1, e2.stay hst hsz⟩
/-- a cell of row P is read -/
theorem Rf.getP (h : Rf w b kx r0 r1 r2 r3 r4 sh X) {i : Nat} (hi : i < (sh.S * sh.C)) : ∃ g c, r2 = .slice (some ⟨g, 0, none⟩) (sh.S * sh.C) c ∧ w.cell? ⟨g, i, none⟩ = some (.int .i64 (X.P i : Nat)) ∧ w.frozen? ⟨g, i, none⟩ = false := by
  have hr := h.P
  obtain ⟨g, c, rfl, _, _⟩ := World.ownsRow.form hr (by omega)
  exact ⟨g, c, rfl, (World.ownsRow.cellAt hr i (by omega)).trans (cel_get _ hi), World.ownsRow.frozenAt hr i⟩
/-- a cell of row P is another one -/
theorem Rf.setP {g n c : Nat} (h : Rf w b kx r0 r1 (.slice (some ⟨g, 0, none⟩) n c) r3 r4 sh X) {i : Nat} (hi : i < (sh.S * sh.C)) (v : Nat) : Rf (w.setCell ⟨g, i, none⟩ (.int .i64 (v : Nat))) b kx r0 r1 (.slice (some ⟨g, 0, none⟩) n c) r3 r4 sh { X with P := upd X.P i v } ∧ Tch w (w.setCell ⟨g, i, none⟩ (.int .i64 (v : Nat))) b := by
  have hr := h.P
  have hn : n = (sh.S * sh.C) := by
    obtain ⟨A, c', e, _⟩ := hr.read
    injection e
  subst hn
  have hst : Stay w (w.setCell ⟨g, i, none⟩ (.int .i64 (v : Nat))) := Stay.set w _ _ fun x e => by
    have e2 := (World.ownsRow.cellAt hr i (by omega)).trans (cel_get X.P hi)
    rw [e2] at e
    cases e
  refine ⟨?_, Tch.set hr (.inl rfl) i _ hst⟩
  have key : ∀ j, j ≠ g → (w.setCell ⟨g, i, none⟩ (.int .i64 (v : Nat))).heap[j]? = w.heap[j]? := fun j hj => Below.heap_setCell w ⟨g, i, none⟩ _ j fun e => hj e
  have hsz : w.heap.size ≤ (w.setCell ⟨g, i, none⟩ (.int .i64 (v : Nat))).heap.size := by rw [setSize]; exact Nat.le_refl _
  obtain ⟨us, t1, t2⟩ := h.T
  refine { bx := ?_, low := h.low, T := ⟨us, ?_, fun j hj => ?_⟩, P := by show OwnV _ _ _ _ _ _ (cel _ (upd X.P i v)); rw [← cel_set]; exact (World.ownsRow.stored hr i _).1, V := ownV_kept h.V fun g' hg' => key g' fun e => h.a02 g' hg' (by rw [e]; rfl), O := ownV_kept h.O fun g' hg' => key g' fun e => h.a23 g' (by rw [e]; rfl) hg', K := ownV_kept h.K fun g' hg' => key g' fun e => h.a24 g' (by rw [e]; rfl) hg', a02 := h.a02, a03 := h.a03, a04 := h.a04, a23 := h.a23, a24 := h.a24, a34 := h.a34 }
  · exact (key kx fun e => h.nk.2.2.1 (by rw [e]; rfl)).trans h.bx
  · exact ownV_kept t1 fun g' hg' => key g' fun e => apt_typ t1 hr (by decide) g' hg' (by rw [e]; rfl)
  · obtain ⟨u, e1, e2⟩ := t2 j hj
    exact ⟨u, e1, e2.stay hst hsz⟩
/-- a cell of row O is read -/
theorem Rf.getO (h : Rf w b kx r0 r1 r2 r3 r4 sh X) {i : Nat} (hi : i < (sh.S * sh.C)) : ∃ g c, r3 = .slice (some ⟨g, 0, none⟩) (sh.S * sh.C) c ∧ w.cell? ⟨g, i, none⟩ = some (.int .i64 (X.O i : Nat)) ∧ w.frozen? ⟨g, i, none⟩ = false := by
  have hr := h.O
  obtain ⟨g, c, rfl, _, _⟩ := World.ownsRow.form hr (by omega)
  exact ⟨g, c, rfl, (World.ownsRow.cellAt hr i (by omega)).trans (cel_get _ hi), World.ownsRow.frozenAt hr i⟩
/-- a cell of row O is another one -/
theorem Rf.setO {g n c : Nat} (h : Rf w b kx r0 r1 r2 (.slice (some ⟨g, 0, none⟩) n c) r4 sh X) {i : Nat} (hi : i < (sh.S * sh.C)) (v : Nat) : Rf (w.setCell ⟨g, i, none⟩ (.int .i64 (v : Nat))) b kx r0 r1 r2 (.slice (some ⟨g, 0, none⟩) n c) r4 sh { X with O := upd X.O i v } ∧ Tch w (w.setCell ⟨g, i, none⟩ (.int .i64 (v : Nat))) b := by
  have hr := h.O
  have hn : n = (sh.S * sh.C) := by
    obtain ⟨A, c', e, _⟩ := hr.read
    injection e
  subst hn
  have hst : Stay w (w.setCell ⟨g, i, none⟩ (.int .i64 (v : Nat))) := Stay.set w _ _ fun x e => by
    have e2 := (World.ownsRow.cellAt hr i (by omega)).trans (cel_get X.O hi)
    rw [e2] at e
    cases e
  refine ⟨?_, Tch.set hr (.inl rfl) i _ hst⟩
  have key : ∀ j, j ≠ g → (w.setCell ⟨g, i, none⟩ (.int .i64 (v : Nat))).heap[j]? = w.heap[j]? := fun j hj => Below.heap_setCell w ⟨g, i, none⟩ _ j fun e => hj e
  have hsz : w.heap.size ≤ (w.setCell ⟨g, i, none⟩ (.int .i64 (v : Nat))).heap.size := by rw [setSize]; exact Nat.le_refl _
  obtain ⟨us, t1, t2⟩ := h.T
  refine { bx := ?_, low := h.low, T := ⟨us, ?_, fun j hj => ?_⟩, O := by show OwnV _ _ _ _ _ _ (cel _ (upd X.O i v)); rw [← cel_set]; exact (World.ownsRow.stored hr i _).1, V := ownV_kept h.V fun g' hg' => key g' fun e => h.a03 g' hg' (by rw [e]; rfl), P := ownV_kept h.P fun g' hg' => key g' fun e => h.a23 g' hg' (by rw [e]; rfl), K := ownV_kept h.K fun g' hg' => key g' fun e => h.a34 g' (by rw [e]; rfl) hg', a02 := h.a02, a03 := h.a03, a04 := h.a04, a23 := h.a23, a24 := h.a24, a34 := h.a34 }
  · exact (key kx fun e => h.nk.2.2.2.1 (by rw [e]; rfl)).trans h.bx
  · exact ownV_kept t1 fun g' hg' => key g' fun e => apt_typ t1 hr (by decide) g' hg' (by rw [e]; rfl)
  · obtain ⟨u, e1, e2⟩ := t2 j hj
    exact ⟨u, e1, e2.stay hst hsz⟩
/-- a cell of row K is read -/
theorem Rf.getK (h : Rf w b kx r0 r1 r2 r3 r4 sh X) {i : Nat} (hi : i < (sh.S * sh.C)) : ∃ g c, r4 = .slice (some ⟨g, 0, none⟩) (sh.S * sh.C) c ∧ w.cell? ⟨g, i, none⟩ = some (.int .i64 (X.K i : Nat)) ∧ w.frozen? ⟨g, i, none⟩ = false := by
  have hr := h.K
  obtain ⟨g, c, rfl, _, _⟩ := World.ownsRow.form hr (by omega)
  exact ⟨g, c, rfl, (World.ownsRow.cellAt hr i (by omega)).trans (cel_get _ hi), World.ownsRow.frozenAt hr i⟩
/-- a cell of row K is another one -/
theorem Rf.setK {g n c : Nat} (h : Rf w b kx r0 r1 r2 r3 (.slice (some ⟨g, 0, none⟩) n c) sh X) {i : Nat} (hi : i < (sh.S * sh.C)) (v : Nat) : Rf (w.setCell ⟨g, i, none⟩ (.int .i64 (v : Nat))) b kx r0 r1 r2 r3 (.slice (some ⟨g, 0, none⟩) n c) sh { X with K := upd X.K i v } ∧ Tch w (w.setCell ⟨g, i, none⟩ (.int .i64 (v : Nat))) b := by
  have hr := h.K
  have hn : n = (sh.S * sh.C) := by
    obtain ⟨A, c', e, _⟩ := hr.read
    injection e
  subst hn
  have hst : Stay w (w.setCell ⟨g, i, none⟩ (.int .i64 (v : Nat))) := Stay.set w _ _ fun x e => by
    have e2 := (World.ownsRow.cellAt hr i (by omega)).trans (cel_get X.K hi)
    rw [e2] at e
    cases e
  refine ⟨?_, Tch.set hr (.inl rfl) i _ hst⟩
  have key : ∀ j, j ≠ g → (w.setCell ⟨g, i, none⟩ (.int .i64 (v : Nat))).heap[j]? = w.heap[j]? := fun j hj => Below.heap_setCell w ⟨g, i, none⟩ _ j fun e => hj e
  have hsz : w.heap.size ≤ (w.setCell ⟨g, i, none⟩ (.int .i64 (v : Nat))).heap.size := by rw [setSize]; exact Nat.le_refl _
  obtain ⟨us, t1, t2⟩ := h.T
  refine { bx := ?_, low := h.low, T := ⟨us, ?_, fun j hj => ?_⟩, K := by show OwnV _ _ _ _ _ _ (cel _ (upd X.K i v)); rw [← cel_set]; exact (World.ownsRow.stored hr i _).1, V := ownV_kept h.V fun g' hg' => key g' fun e => h.a04 g' hg' (by rw [e]; rfl), P := ownV_kept h.P fun g' hg' => key g' fun e => h.a24 g' hg' (by rw [e]; rfl), O := ownV_kept h.O fun g' hg' => key g' fun e => h.a34 g' hg' (by rw [e]; rfl), a02 := h.a02, a03 := h.a03, a04 := h.a04, a23 := h.a23, a24 := h.a24, a34 := h.a34 }
  · exact (key kx fun e => h.nk.2.2.2.2 (by rw [e]; rfl)).trans h.bx
  · exact ownV_kept t1 fun g' hg' => key g' fun e => apt_typ t1 hr (by decide) g' hg' (by rw [e]; rfl)
  · obtain ⟨u, e1, e2⟩ := t2 j hj
    exact ⟨u, e1, e2.stay hst hsz⟩
theorem Rf.atV {g n c : Nat} (h : Rf w b kx (.slice (some ⟨g, 0, none⟩) n c) r1 r2 r3 r4 sh X) {i : Nat} (hi : i < sh.B) : n = sh.B ∧ w.cell? ⟨g, i, none⟩ = some (.int .i64 (X.V i : Nat)) ∧ w.frozen? ⟨g, i, none⟩ = false := by
  obtain ⟨g', c', e, h1, h2⟩ := h.getV hi
  injection e with e1 e2 e3
  injection e1 with e1
  injection e1 with e1
  subst e1 e2
  exact ⟨rfl, h1, h2⟩
theorem Rf.atP {g n c : Nat} (h : Rf w b kx r0 r1 (.slice (some ⟨g, 0, none⟩) n c) r3 r4 sh X) {i : Nat} (hi : i < (sh.S * sh.C)) : n = (sh.S * sh.C) ∧ w.cell? ⟨g, i, none⟩ = some (.int .i64 (X.P i : Nat)) ∧ w.frozen? ⟨g, i, none⟩ = false := by
  obtain ⟨g', c', e, h1, h2⟩ := h.getP hi
  injection e with e1 e2 e3
  injection e1 with e1
  injection e1 with e1
  subst e1 e2
  exact ⟨rfl, h1, h2⟩
theorem Rf.atO {g n c : Nat} (h : Rf w b kx r0 r1 r2 (.slice (some ⟨g, 0, none⟩) n c) r4 sh X) {i : Nat} (hi : i < (sh.S * sh.C)) : n = (sh.S * sh.C) ∧ w.cell? ⟨g, i, none⟩ = some (.int .i64 (X.O i : Nat)) ∧ w.frozen? ⟨g, i, none⟩ = false := by
  obtain ⟨g', c', e, h1, h2⟩ := h.getO hi
  injection e with e1 e2 e3
  injection e1 with e1
  injection e1 with e1
  subst e1 e2
  exact ⟨rfl, h1, h2⟩
theorem Rf.atK {g n c : Nat} (h : Rf w b kx r0 r1 r2 r3 (.slice (some ⟨g, 0, none⟩) n c) sh X) {i : Nat} (hi : i < (sh.S * sh.C)) : n = (sh.S * sh.C) ∧ w.cell? ⟨g, i, none⟩ = some (.int .i64 (X.K i : Nat)) ∧ w.frozen? ⟨g, i, none⟩ = false := by
  obtain ⟨g', c', e, h1, h2⟩ := h.getK hi
  injection e with e1 e2 e3
  injection e1 with e1
  injection e1 with e1
  subst e1 e2
  exact ⟨rfl, h1, h2⟩
theorem Rf.atT {g n c : Nat} (h : Rf w b kx r0 (.slice (some ⟨g, 0, none⟩) n c) r2 r3 r4 sh X) {i : Nat} (hi : i < sh.B) : n = sh.B ∧ w.frozen? ⟨g, i, none⟩ = false ∧ ∃ u, w.cell? ⟨g, i, none⟩ = some u ∧ Bs w u (X.T i) := by
  obtain ⟨us, hr, ht⟩ := h.T
  have hn : n = sh.B := by
    obtain ⟨A, c', e, _⟩ := hr.read
    injection e
  subst hn
  obtain ⟨u, e1, e2⟩ := ht i hi
  exact ⟨rfl, World.ownsRow.frozenAt hr i, u, (World.ownsRow.cellAt hr i (by omega)).trans e1, e2⟩
/-- a text's cell is read -/
theorem Rf.getT (h : Rf w b kx r0 r1 r2 r3 r4 sh X) {i : Nat} (hi : i < sh.B) : ∃ g c u, r1 = .slice (some ⟨g, 0, none⟩) sh.B c ∧ w.cell? ⟨g, i, none⟩ = some u ∧ w.frozen? ⟨g, i, none⟩ = false ∧ Bs w u (X.T i) := by
  obtain ⟨us, hr, ht⟩ := h.T
  obtain ⟨g, c, rfl, _, _⟩ := World.ownsRow.form hr (by omega)
  obtain ⟨u, e1, e2⟩ := ht i hi
  exact ⟨g, c, u, rfl, (World.ownsRow.cellAt hr i (by omega)).trans e1, World.ownsRow.frozenAt hr i, e2⟩
/-- a text is another one -/
theorem Rf.setT {g n c : Nat} (h : Rf w b kx r0 (.slice (some ⟨g, 0, none⟩) n c) r2 r3 r4 sh X) {i : Nat} (hi : i < sh.B) {u : Value} {l : List Int} (hu : Bs w u l) : Rf (w.setCell ⟨g, i, none⟩ u) b kx r0 (.slice (some ⟨g, 0, none⟩) n c) r2 r3 r4 sh { X with T := upd X.T i l } ∧ Tch w (w.setCell ⟨g, i, none⟩ u) b := by
  obtain ⟨us, hr, ht⟩ := h.T
  have hn : n = sh.B := by
    obtain ⟨A, c', e, _⟩ := hr.read
    injection e
  subst hn
  have hst : Stay w (w.setCell ⟨g, i, none⟩ u) := Stay.set w _ _ fun x e => by
    obtain ⟨u', e1, e2⟩ := ht i hi
    rw [World.ownsRow.cellAt hr i (by omega), e1] at e
    injection e with e
    exact e2.no8 x e
  refine ⟨?_, Tch.set hr (.inr rfl) i _ hst⟩
  have key : ∀ j, j ≠ g → (w.setCell ⟨g, i, none⟩ u).heap[j]? = w.heap[j]? := fun j hj => Below.heap_setCell w ⟨g, i, none⟩ _ j fun e => hj e
  have hsz : w.heap.size ≤ (w.setCell ⟨g, i, none⟩ u).heap.size := by rw [setSize]; exact Nat.le_refl _
  refine { bx := ?_, low := h.low, T := ⟨us.set i u, (World.ownsRow.stored hr i u).1, fun j hj => ?_⟩, V := ownV_kept h.V fun g' hg' => key g' fun e => apt_typ h.V hr (by decide) g' hg' (by rw [e]; rfl), P := ownV_kept h.P fun g' hg' => key g' fun e => apt_typ h.P hr (by decide) g' hg' (by rw [e]; rfl), O := ownV_kept h.O fun g' hg' => key g' fun e => apt_typ h.O hr (by decide) g' hg' (by rw [e]; rfl), K := ownV_kept h.K fun g' hg' => key g' fun e => apt_typ h.K hr (by decide) g' hg' (by rw [e]; rfl), a02 := h.a02, a03 := h.a03, a04 := h.a04, a23 := h.a23, a24 := h.a24, a34 := h.a34 }
  · exact (key kx fun e => h.nk.2.1 (by rw [e]; rfl)).trans h.bx
  · have hl : us.length = sh.B := by rw [hr.1, Nat.mul_one]
    by_cases e : i = j
    · subst e
      exact ⟨u, List.getElem?_set_self (by omega), by show Bs _ _ (upd X.T i l i); rw [upd_self]; exact hu.stay hst hsz⟩
    · obtain ⟨u', e1, e2⟩ := ht j hj
      exact ⟨u', by rw [List.getElem?_set_ne e]; exact e1, by show Bs _ _ (upd X.T i l j); rw [upd_ne _ _ (fun h => e h.symm)]; exact e2.stay hst hsz⟩
end
end Go.Proofs.Ytincndblpbdnlaa
