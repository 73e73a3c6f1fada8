/-
  What is proved: what a disk in memory is (a struct of a row of texts, a fuse and a truth), how it is kept over what leaves its two blocks alone, and over bytes that stay. No condition on a program.
-/
import Derived.Test.YtcagochalnjagaaBase
import Derived.Test.YtcagochalnjagaaBsD
import Derived.Laws.OwnMore
namespace Go.Proofs.Ytcagochalnjagaa
open Go.RowKit

theorem bs_nil (w : World) : Bs w (.slice none 0 0) [] := ⟨none, 0, rfl, Rd.nil _ _ _, Nat.le_refl _, by unfold maxLen; omega⟩
theorem Bs.one {w : World} {v : Value} {l : List Int} (h : Bs w v l) : v.oneCell' = true := by obtain ⟨A, c, rfl, _⟩ := h; rfl
theorem Bs.no8 {w : World} {v : Value} {l : List Int} (h : Bs w v l) (x : Int) : v ≠ .int .u8 x := by obtain ⟨A, c, rfl, _⟩ := h; intro e; cases e

/-- each byte stays where it is -/
def Stay (w w' : World) : Prop := ∀ p x, w.cell? p = some (.int .u8 x) → w'.cell? p = some (.int .u8 x)
section
variable {w w' w'' : World} {v : Value} {l : List Int}
theorem Stay.trans (h : Stay w w') (k : Stay w' w'') : Stay w w'' := fun p x e => k p x (h p x e)
theorem Stay.below (h : Below w.heap.size w w') : Stay w w' := fun _ _ e => (h.cell (World.block_lt_of_cell? w _ e)).trans e
theorem Stay.set (w : World) (a : Addr) (u : Value) (h : ∀ x, w.cell? a ≠ some (.int .u8 x)) : Stay w (w.setCell a u) := fun p x e => by
  rw [World.cell?_setCell_other _ _ _ _ (by intro q; subst q; exact h x e)]
  exact e
theorem Bs.stay (h : Bs w v l) (k : Stay w w') (hs : w.heap.size ≤ w'.heap.size) : Bs w' v l := by
  obtain ⟨A, c, e, r, h1⟩ := h
  refine ⟨A, c, e, fun j x hx => ?_, h1⟩
  obtain ⟨ad, e2, hb, hc⟩ := r j x hx
  exact ⟨ad, e2, Nat.lt_of_lt_of_le hb hs, k _ _ hc⟩
theorem Bs.below (h : Bs w v l) (k : Below w.heap.size w w') : Bs w' v l := h.stay (Stay.below k) k.size
end

/-- w' is w but for block k, the block of the row v, and new ones; bytes stay -/
structure Only (w w' : World) (k : Nat) (v : Value) : Prop where
  os : w'.os = w.os
  tape : w'.tape = w.tape
  output : w'.output = w.output
  size : w.heap.size ≤ w'.heap.size
  block : ∀ j, j < w.heap.size → j ≠ k → some j ≠ v.ownBlock → w'.heap[j]? = w.heap[j]?
  stay : Stay w w'
section
variable {w w' w'' : World} {k : Nat} {v : Value}
theorem Only.refl (w : World) (k : Nat) (v : Value) : Only w w k v := ⟨rfl, rfl, rfl, Nat.le_refl _, fun _ _ _ _ => rfl, fun _ _ h => h⟩
theorem Only.trans (h : Only w w' k v) (g : Only w' w'' k v) : Only w w'' k v :=
  ⟨g.os.trans h.os, g.tape.trans h.tape, g.output.trans h.output, Nat.le_trans h.size g.size, fun j h1 h2 h3 => (g.block j (Nat.lt_of_lt_of_le h1 h.size) h2 h3).trans (h.block j h1 h2 h3), h.stay.trans g.stay⟩
theorem Only.of (h : Below w.heap.size w w') (k : Nat) (v : Value) : Only w w' k v := ⟨h.os, h.tape, h.output, h.size, fun j h1 _ _ => h.block j h1, Stay.below h⟩
theorem Only.setK (w : World) (k i : Nat) (v u : Value) (h : ∀ x, w.cell? ⟨k, i, none⟩ ≠ some (.int .u8 x)) : Only w (w.setCell ⟨k, i, none⟩ u) k v :=
  ⟨rfl, rfl, rfl, by rw [setSize]; exact Nat.le_refl _, fun j _ h2 _ => Below.heap_setCell w ⟨k, i, none⟩ u j h2, Stay.set w _ u h⟩
theorem Only.setV (w : World) (k g i : Nat) (v u : Value) (hv : v.ownBlock = some g) (h : ∀ x, w.cell? ⟨g, i, none⟩ ≠ some (.int .u8 x)) : Only w (w.setCell ⟨g, i, none⟩ u) k v :=
  ⟨rfl, rfl, rfl, by rw [setSize]; exact Nat.le_refl _, fun j _ _ h3 => Below.heap_setCell w ⟨g, i, none⟩ u j (fun e => h3 (by rw [hv, e])), Stay.set w _ u h⟩
theorem Only.bel {B : Nat} (h : Only w w' k v) (hk : B ≤ k) (hv : ∀ g, v.ownBlock = some g → B ≤ g) (hB : B ≤ w.heap.size) : Below B w w' :=
  ⟨h.os, h.tape, h.output, h.size, fun j hj => h.block j (by omega) (by omega) (fun e => by have := hv j e.symm; omega)⟩
theorem Only.draws (h : Only w w' k v) (n : Nat) : Only w (w'.drewN n) k v := ⟨h.os, h.tape, h.output, h.size, h.block, h.stay⟩
end

/-- what a disk holds -/
structure St where
  L : List (List Int)
  f : Int
  d : Bool

/-- block k is a disk of type T: its row is v, all of it lies from block b on -/
structure Dk (w : World) (T : TypeId) (b k : Nat) (v : Value) (s : St) : Prop where
  box : Bx w k T #[v, .int .i64 s.f, .bool s.d]
  low : b ≤ k
  row : ∃ us : List Value, OwnV w b 32 1 v s.L.length us ∧ ∀ (i : Nat) (l : List Int), s.L[i]? = some l → ∃ u, us[i]? = some u ∧ Bs w u l
  bnd : -9223372036854775808 ≤ s.f ∧ s.f ≤ 9223372036854775807
  ne : v.ownBlock ≠ some k

section
variable {w w' : World} {T : TypeId} {b k : Nat} {v : Value} {s : St}
theorem Dk.kept (h : Dk w T b k v s) (hs : w.heap.size ≤ w'.heap.size) (st : Stay w w') (hb : ∀ j, (j = k ∨ v.ownBlock = some j) → w'.heap[j]? = w.heap[j]?) : Dk w' T b k v s where
  box := (hb k (.inl rfl)).trans h.box
  low := h.low
  bnd := h.bnd
  ne := h.ne
  row := by
    obtain ⟨us, ho, hu⟩ := h.row
    refine ⟨us, ?_, fun i l e => by obtain ⟨u, e1, e2⟩ := hu i l e; exact ⟨u, e1, e2.stay st hs⟩⟩
    refine ⟨ho.1, ?_⟩
    rcases ho.2 with hn | ⟨g, cap, cur, hv, hb', hgg, rest⟩
    · exact .inl hn
    · exact .inr ⟨g, cap, cur, hv, hb', (hb g (.inr (by rw [hv]; rfl))).trans hgg, rest⟩
theorem Dk.rowLt (h : Dk w T b k v s) {g : Nat} (e : v.ownBlock = some g) : b ≤ g ∧ g < w.heap.size := by
  obtain ⟨us, ho, _⟩ := h.row
  exact World.ownsRow.lt ho g e
theorem Dk.lt (h : Dk w T b k v s) {j : Nat} (hj : j = k ∨ v.ownBlock = some j) : j < w.heap.size := by
  rcases hj with rfl | e
  · exact h.box.lt
  · exact (h.rowLt e).2
theorem Dk.below (h : Dk w T b k v s) (hb : Below w.heap.size w w') : Dk w' T b k v s :=
  h.kept hb.size (Stay.below hb) fun j hj => hb.block j (h.lt hj)
/-- another disk, whose blocks lie from b' on, has been at work -/
theorem Dk.other (h : Dk w T b k v s) {k' b' : Nat} {v' : Value} (ho : Only w w' k' v') (h1 : k < b') (h2 : ∀ g, v.ownBlock = some g → g < b') (h3 : b' ≤ k') (h4 : ∀ g, v'.ownBlock = some g → b' ≤ g) : Dk w' T b k v s :=
  h.kept ho.size ho.stay fun j hj => ho.block j (h.lt hj)
    (by
      rcases hj with rfl | e
      · omega
      · have := h2 _ e
        omega)
    (fun e' => by
      have := h4 _ e'.symm
      rcases hj with rfl | e
      · omega
      · have := h2 _ e; omega)
theorem Dk.other' (h : Dk w T b k v s) {k' : Nat} {v' : Value} (ho : Only w w' k' v') (h1 : k' < b) (h2 : ∀ g, v'.ownBlock = some g → g < b) : Dk w' T b k v s :=
  h.kept ho.size ho.stay fun j hj => ho.block j (h.lt hj)
    (by
      rcases hj with rfl | e
      · have := h.low
        omega
      · have := (h.rowLt e).1
        omega)
    (fun e' => by
      have := h2 _ e'.symm
      rcases hj with rfl | e
      · have := h.low; omega
      · have := (h.rowLt e).1; omega)
theorem Dk.onlyBel (h : Dk w T b k v s) (ho : Only w w' k v) (hB : b ≤ w.heap.size) : Below b w w' := ho.bel h.low (fun _ e => (h.rowLt e).1) hB
theorem Dk.draws (h : Dk w T b k v s) (n : Nat) : Dk (w.drewN n) T b k v s := ⟨h.box, h.low, h.row, h.bnd, h.ne⟩
/-- what the walks read of it -/
theorem Dk.shape (h : Dk w T b k v s) : ∃ A c, v = .slice A s.L.length c ∧ s.L.length ≤ c ∧ c ≤ maxLen := by
  obtain ⟨us, ho, _⟩ := h.row
  obtain ⟨A, c, e, _, h1, h2⟩ := ho.read
  exact ⟨A, c, e, h1, h2⟩
theorem Dk.cells (h : Dk w T b k v s) : w.cell? ⟨k, 0, none⟩ = some v ∧ w.cell? ⟨k, 1, none⟩ = some (.int .i64 s.f) ∧ w.cell? ⟨k, 2, none⟩ = some (.bool s.d) ∧
    w.frozen? ⟨k, 0, none⟩ = false ∧ w.frozen? ⟨k, 1, none⟩ = false ∧ w.frozen? ⟨k, 2, none⟩ = false :=
  ⟨h.box.cell 0, h.box.cell 1, h.box.cell 2, h.box.free 0, h.box.free 1, h.box.free 2⟩
/-- the sector i in memory -/
theorem Dk.sec (h : Dk w T b k v s) {i : Nat} {l : List Int} (e : s.L[i]? = some l) : ∃ g c u, v = .slice (some ⟨g, 0, none⟩) s.L.length c ∧ w.cell? ⟨g, i, none⟩ = some u ∧ w.frozen? ⟨g, i, none⟩ = false ∧ Bs w u l := by
  obtain ⟨us, ho, hu⟩ := h.row
  obtain ⟨u, e1, e2⟩ := hu i l e
  have hi : i < s.L.length := (List.getElem?_eq_some_iff.1 e).1
  obtain ⟨g, c, rfl, _, _⟩ := World.ownsRow.form ho (by omega)
  refine ⟨g, c, u, rfl, ?_, ?_, e2⟩
  · rw [World.ownsRow.cellAt ho i (by omega)]; exact e1
  · exact World.ownsRow.frozenAt ho i
/-- the fuse is another one -/
theorem Dk.setF (h : Dk w T b k v s) (n : Int) (hn : -9223372036854775808 ≤ n ∧ n ≤ 9223372036854775807) : Dk (w.setCell ⟨k, 1, none⟩ (.int .i64 n)) T b k v { s with f := n } ∧ Only w (w.setCell ⟨k, 1, none⟩ (.int .i64 n)) k v := by
  have ho : Only w (w.setCell ⟨k, 1, none⟩ (.int .i64 n)) k v := Only.setK w k 1 v _ fun x e => by
    have e' := (h.box.cell 1).symm.trans e
    cases e'
  refine ⟨⟨h.box.set 1 (.int .i64 n), h.low, ?_, hn, h.ne⟩, ho⟩
  obtain ⟨us, hw, hu⟩ := h.row
  exact ⟨us, ownsRow_setCell_other' hw h.ne _, fun i l e => by obtain ⟨u, e1, e2⟩ := hu i l e; exact ⟨u, e1, e2.stay ho.stay ho.size⟩⟩
where ownsRow_setCell_other' {w : World} {base : Nat} {e : TypeId} {size : Nat} {v : Value} {n k i : Nat} {xs : List Value} (h : OwnV w base e size v n xs) (hne : v.ownBlock ≠ some k) (u : Value) : OwnV (w.setCell ⟨k, i, none⟩ u) base e size v n xs := by
        refine ⟨h.1, ?_⟩
        rcases h.2 with hn | ⟨g, cap, cur, hv, hb', hgg, rest⟩
        · exact .inl hn
        · exact .inr ⟨g, cap, cur, hv, hb', (Below.heap_setCell w ⟨k, i, none⟩ u g (fun e => hne (by rw [hv]; exact congrArg some e))).trans hgg, rest⟩
/-- it is down, or up -/
theorem Dk.setD (h : Dk w T b k v s) (n : Bool) : Dk (w.setCell ⟨k, 2, none⟩ (.bool n)) T b k v { s with d := n } ∧ Only w (w.setCell ⟨k, 2, none⟩ (.bool n)) k v := by
  have ho : Only w (w.setCell ⟨k, 2, none⟩ (.bool n)) k v := Only.setK w k 2 v _ fun x e => by
    have e' := (h.box.cell 2).symm.trans e
    cases e'
  refine ⟨⟨h.box.set 2 (.bool n), h.low, ?_, h.bnd, h.ne⟩, ho⟩
  obtain ⟨us, hw, hu⟩ := h.row
  exact ⟨us, Dk.setF.ownsRow_setCell_other' hw h.ne _, fun i l e => by obtain ⟨u, e1, e2⟩ := hu i l e; exact ⟨u, e1, e2.stay ho.stay ho.size⟩⟩
/-- a sector is another text -/
theorem Dk.setL {g n c : Nat} (h : Dk w T b k (.slice (some ⟨g, 0, none⟩) n c) s) (i : Nat) (u : Value) (l : List Int) (hi : i < s.L.length) (hu : Bs w u l) :
    Dk (w.setCell ⟨g, i, none⟩ u) T b k (.slice (some ⟨g, 0, none⟩) n c) { s with L := s.L.set i l } ∧ Only w (w.setCell ⟨g, i, none⟩ u) k (.slice (some ⟨g, 0, none⟩) n c) := by
  have hg : (Value.slice (some ⟨g, 0, none⟩) n c).ownBlock = some g := rfl
  have ho : Only w (w.setCell ⟨g, i, none⟩ u) k (.slice (some ⟨g, 0, none⟩) n c) := Only.setV w k g i _ u hg fun x e => by
    obtain ⟨g', c', u', e1, e2, _, e4⟩ := h.sec (List.getElem?_eq_getElem hi)
    injection e1 with e1
    injection e1 with e1
    injection e1 with e1
    subst e1
    rw [e2] at e
    injection e with e
    exact e4.no8 x e
  refine ⟨⟨h.box.far ⟨g, i, none⟩ u (fun e => h.ne (by rw [hg]; exact congrArg some e)), h.low, ?_, h.bnd, h.ne⟩, ho⟩
  obtain ⟨us, hw, hus⟩ := h.row
  have hn : n = s.L.length := by
    obtain ⟨A, c', e, _⟩ := hw.read
    injection e
  subst hn
  refine ⟨us.set i u, ?_, fun j m e => ?_⟩
  · show OwnV _ _ _ _ _ (s.L.set i l).length _
    rw [List.length_set]
    exact (World.ownsRow.stored hw i u).1
  · have hl : us.length = s.L.length := by rw [hw.1, Nat.mul_one]
    have e' : (s.L.set i l)[j]? = some m := e
    by_cases hj : i = j
    · subst hj
      rw [List.getElem?_set_self hi] at e'
      injection e' with e'
      subst e'
      exact ⟨u, List.getElem?_set_self (by omega), hu.stay ho.stay ho.size⟩
    · rw [List.getElem?_set_ne hj] at e'
      obtain ⟨u', e1, e2⟩ := hus j m e'
      exact ⟨u', by rw [List.getElem?_set_ne hj]; exact e1, e2.stay ho.stay ho.size⟩
end
end Go.Proofs.Ytcagochalnjagaa
