/-
  What is proved: what the reference's space of lists in memory is; what becomes of it when one list is another row; the reference's New, Of, Without, Ahead, Place; lists that are compared. Condition: the space lies in memory as one.
-/
import Derived.Test.YtoiikjpeceolpaaAl10
import Derived.Test.YtoiikjpeceolpaaChg10
namespace Go.Proofs.Ytoiikjpeceolpaa
open Go.RowKit

/-- which blocks are a space of rows's -/
def Ft (k : Nat) (v : Value) (us : List Value) (j : Nat) : Prop := j = k ∨ v.ownBlock = some j ∨ ∃ u ∈ us, u.ownBlock = some j
/-- the reference's space in memory: the struct at k, the row v of its lists, the lists' rows us, which hold S -/
structure Lr (w : World) (k : Nat) (v : Value) (us : List Value) (S : List (List Int)) : Prop where
  box : Bx w k 35 #[v]
  row : OwnW w 37 v us
  len : us.length = S.length
  w40 : S.length ≤ 40
  cap : ∀ (i : Nat) l, S[i]? = some l → l.length ≤ 64
  way : ∀ (p : Nat) u l, us[p]? = some u → S[p]? = some l → OwnW w 3 u (ints l)
  vk : v.ownBlock ≠ some k
  uk : ∀ u ∈ us, u.ownBlock ≠ some k
  uv : ∀ u ∈ us, ∀ g, u.ownBlock = some g → v.ownBlock ≠ some g
  uu : ∀ (i j : Nat) u u' g, us[i]? = some u → us[j]? = some u' → u.ownBlock = some g → u'.ownBlock = some g → i = j
section
variable {w w' : World} {k : Nat} {v : Value} {us : List Value} {S : List (List Int)} {F G : Nat → Prop}
theorem Lr.lt (h : Lr w k v us S) {j : Nat} (hj : Ft k v us j) : j < w.heap.size := by
  rcases hj with rfl | e | ⟨u, hu, e⟩
  · exact h.box.lt
  · exact h.row.lt e
  · obtain ⟨p, hp, rfl⟩ := List.mem_iff_getElem.1 hu
    exact (h.way p _ _ (List.getElem?_eq_getElem hp) (List.getElem?_eq_getElem (h.len ▸ hp))).lt e
theorem Lr.kept (h : Lr w k v us S) (hb : ∀ j, Ft k v us j → w'.heap[j]? = w.heap[j]?) : Lr w' k v us S where
  box := (hb k (.inl rfl)).trans h.box
  row := h.row.kept fun g hg => hb g (.inr (.inl hg))
  len := h.len
  w40 := h.w40
  cap := h.cap
  way := fun p u l hu hf => (h.way p u l hu hf).kept fun g hg => hb g (.inr (.inr ⟨u, List.mem_of_getElem? hu, hg⟩))
  vk := h.vk
  uk := h.uk
  uv := h.uv
  uu := h.uu
theorem Lr.other (h : Lr w k v us S) (hc : Chg w w' F G) (hd : ∀ j, Ft k v us j → ¬ F j) : Lr w' k v us S := h.kept fun j hj => hc.block j (h.lt hj) (hd j hj)
theorem Lr.below (h : Lr w k v us S) (hb : Below w.heap.size w w') : Lr w' k v us S := h.kept fun j hj => hb.block j (h.lt hj)
theorem Lr.draws (h : Lr w k v us S) (n : Nat) : Lr (w.drewN n) k v us S := h.kept fun _ _ => rfl
/-- what the walks read -/
theorem Lr.cells (h : Lr w k v us S) : ∃ A c, v = .slice A S.length c ∧ w.cell? ⟨k, 0, none⟩ = some (.slice A S.length c) ∧ w.frozen? ⟨k, 0, none⟩ = false := by
  obtain ⟨A, c, e, _, _⟩ := h.row.read
  rw [h.len] at e
  exact ⟨A, c, e, by rw [← e]; exact h.box.cell 0, h.box.free 0⟩
theorem Lr.at_ (h : Lr w k v us S) {p : Nat} {l : List Int} (hp : S[p]? = some l) :
    ∃ g c A d, v = .slice (some ⟨g, 0, none⟩) S.length c ∧ us[p]? = some (.slice A l.length d) ∧ w.cell? ⟨g, p, none⟩ = some (.slice A l.length d) ∧ w.frozen? ⟨g, p, none⟩ = false ∧ OwnW w 3 (.slice A l.length d) (ints l) ∧ l.length ≤ 64 ∧ l.length ≤ d ∧ d ≤ maxLen := by
  have hl : p < us.length := by rw [h.len]; exact (List.getElem?_eq_some_iff.1 hp).1
  obtain ⟨g, c, e⟩ := h.row.place (by omega)
  have ho := h.way p _ l (List.getElem?_eq_getElem hl) hp
  obtain ⟨A, d, e2, hr, hd, hm⟩ := ho.read
  have hrow := h.row
  rw [e] at hrow
  obtain ⟨h1, h2⟩ := hrow.cellAt hl
  rw [h.len] at e
  rw [ints_length] at e2 hd
  have e3 : us[p]? = some (.slice A l.length d) := by rw [← e2]; exact List.getElem?_eq_getElem hl
  exact ⟨g, c, A, d, e, e3, h1.trans e3, h2, by rw [← e2]; exact ho, h.cap p l hp, hd, hm⟩

theorem mem_set_or {α : Type} {l : List α} {i : Nat} {a b : α} (h : b ∈ l.set i a) : b ∈ l ∨ b = a := by
  rcases List.mem_or_eq_of_mem_set h with h | h
  · exact .inl h
  · exact .inr h
/-- way p has become another row, and its place is to hold it -/
theorem Lr.put (h : Lr w k v us S) {p g n c : Nat} {u u1 : Value} {fs1 : List Int} {w1 : World} (hv : v = .slice (some ⟨g, 0, none⟩) n c) (hu : us[p]? = some u)
    (hg : GrW w w1 u u1) (ho : OwnW w1 3 u1 (ints fs1)) (hl : fs1.length ≤ 64) :
    w1.cell? ⟨k, 0, none⟩ = some v ∧ w1.cell? ⟨g, p, none⟩ = some u ∧ w1.frozen? ⟨g, p, none⟩ = false ∧
    Lr (w1.setCell ⟨g, p, none⟩ u1) k v (us.set p u1) (S.set p fs1) ∧ Chg w (w1.setCell ⟨g, p, none⟩ u1) (Ft k v us) (Ft k v (us.set p u1)) := by
  subst hv
  have hp : p < us.length := (List.getElem?_eq_some_iff.1 hu).1
  have hum : u ∈ us := List.mem_of_getElem? hu
  have hgb : (Value.slice (some (⟨g, 0, none⟩ : Addr)) n c).ownBlock = some g := rfl
  have box1 : Bx w1 k 35 #[.slice (some ⟨g, 0, none⟩) n c] := (hg.other h.box.lt (fun e => h.uk u hum e)).trans h.box
  have row1 : OwnW w1 37 (.slice (some ⟨g, 0, none⟩) n c) us := h.row.grown hg fun g' e e2 => h.uv u hum g' e2 e
  obtain ⟨q1, q2⟩ := row1.cellAt hp
  obtain ⟨row2, -⟩ := row1.set hp (u := u1)
  have hgk : g ≠ k := fun e => h.vk (by rw [hgb, e])
  have hgl : g < w.heap.size := h.row.lt hgb
  -- the new row's block is none of the others'
  have hnew : ∀ j, u1.ownBlock = some j → u.ownBlock = some j ∨ (w.heap.size ≤ j ∧ j < w1.heap.size) := fun j e => by
    rcases hg.at_ with e1 | e1
    · exact .inl (by rw [← e1]; exact e)
    · exact .inr (e1 j e)
  have hkl := h.box.lt
  have hul : ∀ (i : Nat) u' j, us[i]? = some u' → u'.ownBlock = some j → j < w.heap.size := fun i u' j e1 e2 => h.lt (.inr (.inr ⟨u', List.mem_of_getElem? e1, e2⟩))
  have hset : ∀ (i : Nat) u', (us.set p u1)[i]? = some u' → (i = p ∧ u' = u1) ∨ (i ≠ p ∧ us[i]? = some u') := fun i u' e => by
    rw [List.getElem?_set] at e
    by_cases hi : p = i
    · rw [if_pos hi] at e
      subst hi
      rw [if_pos hp] at e
      injection e with e
      exact .inl ⟨rfl, e.symm⟩
    · rw [if_neg hi] at e; exact .inr ⟨fun e' => hi e'.symm, e⟩
  refine ⟨box1.cell 0, by rw [q1]; exact hu, q2, ⟨box1.far _ _ hgk, row2, by rw [List.length_set, List.length_set]; exact h.len, by rw [List.length_set]; exact h.w40, ?_, ?_, h.vk, ?_, ?_, ?_⟩, ?_⟩
  · intro i fs hfs
    rw [List.getElem?_set] at hfs
    split at hfs
    · split at hfs
      · injection hfs with hfs; rw [← hfs]; exact hl
      · cases hfs
    · exact h.cap i fs hfs
  · intro i u' fs hu' hfs
    have hgne : ∀ j, u'.ownBlock = some j → j ≠ g := by
      intro j e e2
      subst e2
      rcases hset i u' hu' with ⟨rfl, rfl⟩ | ⟨hne, hu2⟩
      · rcases hnew j e with e3 | e3
        · exact h.uv u hum j e3 hgb
        · omega
      · exact h.uv u' (List.mem_of_getElem? hu2) j e hgb
    rcases hset i u' hu' with ⟨rfl, rfl⟩ | ⟨hne, hu2⟩
    · have hpS : i < S.length := by rw [← h.len]; exact hp
      rw [List.getElem?_set_self hpS] at hfs
      injection hfs with hfs
      subst hfs
      exact ho.kept fun j e => Below.heap_setCell w1 _ _ j (fun e2 => hgne j e e2)
    · rw [List.getElem?_set_ne (fun e => hne e.symm)] at hfs
      have o3 : OwnW w1 3 u' (ints fs) := (h.way i u' fs hu2 hfs).grown hg fun j e e2 => hne (h.uu i p u' u j hu2 hu e e2)
      exact o3.kept fun j e => Below.heap_setCell w1 _ _ j (fun e2 => hgne j e e2)
  · intro u' hu' e
    rcases mem_set_or hu' with hu' | rfl
    · exact h.uk u' hu' e
    · rcases hnew k e with e3 | e3
      · exact h.uk u hum e3
      · omega
  · intro u' hu' j e e2
    rcases mem_set_or hu' with hu' | rfl
    · exact h.uv u' hu' j e e2
    · rcases hnew j e with e3 | e3
      · exact h.uv u hum j e3 e2
      · rw [hgb] at e2; injection e2 with e2; omega
  · intro i j u' u'' b e1 e2 e3 e4
    rcases hset i u' e1 with ⟨rfl, rfl⟩ | ⟨hne, e1'⟩
    · rcases hset j u'' e2 with ⟨rfl, rfl⟩ | ⟨hne2, e2'⟩
      · rfl
      · rcases hnew b e3 with e5 | e5
        · exact h.uu i j u u'' b hu e2' e5 e4
        · have := hul j u'' b e2' e4; omega
    · rcases hset j u'' e2 with ⟨rfl, rfl⟩ | ⟨hne2, e2'⟩
      · rcases hnew b e4 with e5 | e5
        · exact h.uu i j u' u b e1' hu e3 e5
        · have := hul i u' b e1' e3; omega
      · exact h.uu i j u' u'' b e1' e2' e3 e4
  · refine ⟨hg.gr.os, hg.gr.tape, hg.gr.output, by rw [setSize]; exact hg.gr.size, fun j hj hf => ?_, fun j hj => ?_⟩
    · rw [Below.heap_setCell w1 _ _ j (fun e => hf (.inr (.inl (by rw [hgb]; exact congrArg some e.symm))))]
      exact hg.other hj fun e => hf (.inr (.inr ⟨u, hum, e⟩))
    · rcases hj with rfl | e | ⟨u', hu', e⟩
      · exact .inl (.inl rfl)
      · exact .inl (.inr (.inl e))
      · rcases mem_set_or hu' with hu' | rfl
        · exact .inl (.inr (.inr ⟨u', hu', e⟩))
        · rcases hnew j e with e3 | e3
          · exact .inl (.inr (.inr ⟨u, hum, e3⟩))
          · right; rw [setSize]; exact e3
end
end Go.Proofs.Ytoiikjpeceolpaa
