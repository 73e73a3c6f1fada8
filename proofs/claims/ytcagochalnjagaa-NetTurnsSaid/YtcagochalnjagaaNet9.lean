/-
  What is proved: what a net in memory is (a row of ways, each a row of frames), whatever a frame is told by; how it is kept, and what becomes of it when one way is another row, or its row another one's. No condition on a program.
-/
import Derived.Test.YtcagochalnjagaaOwn9
namespace Go.Proofs.Ytcagochalnjagaa
open Go.RowKit

abbrev Wy := List (List Int)
/-- how a frame is told -/
abbrev Tell := World → Value → List Int → Prop
structure Stb (E : Tell) : Prop where
  stay : ∀ (w w' : World) x l, Stay w w' → w.heap.size ≤ w'.heap.size → E w x l → E w' x l
  nb : ∀ w x l, E w x l → NB x
  one : ∀ w x l, E w x l → x.oneCell' = true

/-- cells that tell frames -/
def Cs (E : Tell) (w : World) (cs : List Value) (fs : Wy) : Prop := cs.length = fs.length ∧ ∀ (j : Nat) x l, cs[j]? = some x → fs[j]? = some l → E w x l
section
variable {E : Tell} {w w' : World} {cs ds : List Value} {fs gs : Wy}
theorem Cs.nil (E : Tell) (w : World) : Cs E w [] [] := ⟨rfl, fun j x l h => by simp at h⟩
theorem Cs.keep (h : Cs E w cs fs) (hE : Stb E) (k : Stay w w') (hs : w.heap.size ≤ w'.heap.size) : Cs E w' cs fs := ⟨h.1, fun j x l h1 h2 => hE.stay _ _ _ _ k hs (h.2 j x l h1 h2)⟩
theorem Cs.below (h : Cs E w cs fs) (hE : Stb E) (hb : Below w.heap.size w w') : Cs E w' cs fs := h.keep hE (Stay.below hb) hb.size
theorem Cs.get (h : Cs E w cs fs) {j : Nat} {l : List Int} (hl : fs[j]? = some l) : ∃ x, cs[j]? = some x ∧ E w x l := by
  have hj : j < cs.length := by rw [h.1]; exact (List.getElem?_eq_some_iff.1 hl).1
  exact ⟨_, List.getElem?_eq_getElem hj, h.2 j _ _ (List.getElem?_eq_getElem hj) hl⟩
theorem Cs.append (h : Cs E w cs fs) (k : Cs E w ds gs) : Cs E w (cs ++ ds) (fs ++ gs) := by
  refine ⟨by rw [List.length_append, List.length_append, h.1, k.1], fun j x l h1 h2 => ?_⟩
  by_cases hj : j < cs.length
  · rw [List.getElem?_append_left hj] at h1
    rw [List.getElem?_append_left (by rw [← h.1]; exact hj)] at h2
    exact h.2 j x l h1 h2
  · rw [List.getElem?_append_right (by omega)] at h1
    rw [List.getElem?_append_right (by rw [← h.1]; omega), ← h.1] at h2
    exact k.2 _ x l h1 h2
theorem Cs.one {x : Value} {l : List Int} (h : E w x l) : Cs E w [x] [l] := by
  refine ⟨rfl, fun j y m h1 h2 => ?_⟩
  cases j with
  | zero => simp at h1 h2; subst h1 h2; exact h
  | succ j => simp at h1
theorem Cs.take (h : Cs E w cs fs) (n : Nat) : Cs E w (cs.take n) (fs.take n) := by
  refine ⟨by rw [List.length_take, List.length_take, h.1], fun j x l h1 h2 => ?_⟩
  rw [List.getElem?_take] at h1 h2
  split at h1
  · rename_i hj
    rw [if_pos hj] at h2
    exact h.2 j x l h1 h2
  · cases h1
theorem Cs.drop (h : Cs E w cs fs) (n : Nat) : Cs E w (cs.drop n) (fs.drop n) := by
  refine ⟨by rw [List.length_drop, List.length_drop, h.1], fun j x l h1 h2 => ?_⟩
  rw [List.getElem?_drop] at h1 h2
  exact h.2 _ x l h1 h2
theorem Cs.set (h : Cs E w cs fs) (i : Nat) {x : Value} {l : List Int} (hx : E w x l) : Cs E w (cs.set i x) (fs.set i l) := by
  refine ⟨by rw [List.length_set, List.length_set, h.1], fun j y m h1 h2 => ?_⟩
  rw [List.getElem?_set] at h1 h2
  by_cases hj : i = j
  · subst hj
    rw [if_pos rfl] at h1 h2
    split at h1
    · rename_i hi
      rw [if_pos (by rw [← h.1]; exact hi)] at h2
      injection h1 with h1
      injection h2 with h2
      subst h1 h2
      exact hx
    · cases h1
  · rw [if_neg hj] at h1 h2
    exact h.2 j y m h1 h2
theorem Cs.each (h : Cs E w cs fs) {p : Value → Prop} (hp : ∀ x l, E w x l → p x) : ∀ x ∈ cs, p x := fun x hx => by
  obtain ⟨j, hj, rfl⟩ := List.mem_iff_getElem.1 hx
  obtain ⟨l, hl⟩ : ∃ l, fs[j]? = some l := ⟨_, List.getElem?_eq_getElem (by rw [← h.1]; exact hj)⟩
  exact hp _ l (h.2 j _ l (List.getElem?_eq_getElem hj) hl)
end

/-- which blocks are a net's -/
def Ft (k : Nat) (v : Value) (us : List Value) (j : Nat) : Prop := j = k ∨ v.ownBlock = some j ∨ ∃ u ∈ us, u.ownBlock = some j
/-- w' is w but for the blocks F, which have become G, and new ones; bytes stay -/
structure Chg (w w' : World) (F G : Nat → Prop) : Prop where
  os : w'.os = w.os
  tape : w'.tape = w.tape
  output : w'.output = w.output
  size : w.heap.size ≤ w'.heap.size
  block : ∀ j, j < w.heap.size → ¬ F j → w'.heap[j]? = w.heap[j]?
  foot : ∀ j, G j → F j ∨ (w.heap.size ≤ j ∧ j < w'.heap.size)
  stay : Stay w w'
section
variable {w w' w'' : World} {F G H : Nat → Prop}
theorem Chg.refl (w : World) (F : Nat → Prop) : Chg w w F F := ⟨rfl, rfl, rfl, Nat.le_refl _, fun _ _ _ => rfl, fun _ h => .inl h, fun _ _ h => h⟩
theorem Chg.trans (h : Chg w w' F G) (k : Chg w' w'' G H) : Chg w w'' F H := by
  refine ⟨k.os.trans h.os, k.tape.trans h.tape, k.output.trans h.output, Nat.le_trans h.size k.size, fun j h1 h2 => (k.block j (Nat.lt_of_lt_of_le h1 h.size) fun hg => ?_).trans (h.block j h1 h2), fun j hj => ?_, h.stay.trans k.stay⟩
  · rcases h.foot j hg with hf | hf
    · exact h2 hf
    · omega
  · rcases k.foot j hj with hg | hg
    · rcases h.foot j hg with hf | hf
      · exact .inl hf
      · right; have := k.size; omega
    · right; have := h.size; omega
theorem Chg.of (h : Below w.heap.size w w') (F : Nat → Prop) : Chg w w' F F := ⟨h.os, h.tape, h.output, h.size, fun j h1 _ => h.block j h1, fun _ h => .inl h, Stay.below h⟩
theorem Chg.bel {B : Nat} (h : Chg w w' F G) (hB : B ≤ w.heap.size) (hF : ∀ j, F j → B ≤ j) : Below B w w' := ⟨h.os, h.tape, h.output, h.size, fun j hj => h.block j (by omega) fun hf => by have := hF j hf; omega⟩
theorem Chg.cell (h : Chg w w' F G) {p : Addr} (hp : p.block < w.heap.size) (hf : ¬ F p.block) : w'.cell? p = w.cell? p := World.cell?_of_block (h.block _ hp hf)
theorem Chg.bx (h : Chg w w' F G) {g : Nat} {t : TypeId} {cs : Array Value} (hx : Bx w g t cs) (hf : ¬ F g) : Bx w' g t cs := (h.block g hx.lt hf).trans hx
theorem Chg.rv (h : Chg w w' F G) {A : Option Addr} {us : List Value} (hr : Rv w w.heap.size A us) (hf : ∀ ad, A = some ad → ¬ F ad.block) : Rv w' w'.heap.size A us := fun j u hu => by
  obtain ⟨ad, e, hb, hc⟩ := hr j u hu
  exact ⟨ad, e, Nat.lt_of_lt_of_le hb h.size, (h.cell (p := ad.add j) (by rw [addBlk]; exact hb) (by rw [addBlk]; exact hf ad e)).trans hc⟩
theorem Chg.ofDrew (h : Chg w.drew w' F G) : Chg w w' F G := ⟨h.os, h.tape, h.output, h.size, h.block, h.foot, h.stay⟩
theorem Chg.draws (h : Chg w w' F G) (n : Nat) : Chg w (w'.drewN n) F G := ⟨h.os, h.tape, h.output, h.size, h.block, h.foot, h.stay⟩
end

/-- a net in memory: the struct at k, the row v of its ways, the ways' rows us, which hold S -/
structure Nt (E : Tell) (T ew ef : TypeId) (w : World) (k : Nat) (v : Value) (us : List Value) (S : List Wy) : Prop where
  box : Bx w k T #[v]
  row : OwnW w ew v us
  len : us.length = S.length
  w32 : S.length ≤ 32
  cap : ∀ fs ∈ S, fs.length ≤ 400
  way : ∀ (p : Nat) u fs, us[p]? = some u → S[p]? = some fs → ∃ cs, OwnW w ef u cs ∧ Cs E w cs fs
  vk : v.ownBlock ≠ some k
  uk : ∀ u ∈ us, u.ownBlock ≠ some k
  uv : ∀ u ∈ us, ∀ g, u.ownBlock = some g → v.ownBlock ≠ some g
  uu : ∀ (i j : Nat) u u' g, us[i]? = some u → us[j]? = some u' → u.ownBlock = some g → u'.ownBlock = some g → i = j
section
variable {E : Tell} {T ew ef : TypeId} {w w' : World} {k : Nat} {v : Value} {us : List Value} {S : List Wy} {F G : Nat → Prop}
theorem Nt.lt (h : Nt E T ew ef w k v us S) {j : Nat} (hj : Ft k v us j) : j < w.heap.size := by
  rcases hj with rfl | e | ⟨u, hu, e⟩
  · exact h.box.lt
  · exact h.row.lt e
  · obtain ⟨p, hp, rfl⟩ := List.mem_iff_getElem.1 hu
    obtain ⟨cs, ho, _⟩ := h.way p _ _ (List.getElem?_eq_getElem hp) (List.getElem?_eq_getElem (h.len ▸ hp))
    exact ho.lt e
theorem Nt.kept (h : Nt E T ew ef w k v us S) (hE : Stb E) (hs : w.heap.size ≤ w'.heap.size) (st : Stay w w') (hb : ∀ j, Ft k v us j → w'.heap[j]? = w.heap[j]?) : Nt E T ew ef w' k v us S where
  box := (hb k (.inl rfl)).trans h.box
  row := h.row.kept fun g hg => hb g (.inr (.inl hg))
  len := h.len
  w32 := h.w32
  cap := h.cap
  way := fun p u fs hu hf => by
    obtain ⟨cs, h1, h2⟩ := h.way p u fs hu hf
    exact ⟨cs, h1.kept fun g hg => hb g (.inr (.inr ⟨u, List.mem_of_getElem? hu, hg⟩)), h2.keep hE st hs⟩
  vk := h.vk
  uk := h.uk
  uv := h.uv
  uu := h.uu
theorem Nt.other (h : Nt E T ew ef w k v us S) (hE : Stb E) (hc : Chg w w' F G) (hd : ∀ j, Ft k v us j → ¬ F j) : Nt E T ew ef w' k v us S :=
  h.kept hE hc.size hc.stay fun j hj => hc.block j (h.lt hj) (hd j hj)
theorem Nt.below (h : Nt E T ew ef w k v us S) (hE : Stb E) (hb : Below w.heap.size w w') : Nt E T ew ef w' k v us S :=
  h.kept hE hb.size (Stay.below hb) fun j hj => hb.block j (h.lt hj)
theorem Nt.draws (h : Nt E T ew ef w k v us S) (hE : Stb E) (n : Nat) : Nt E T ew ef (w.drewN n) k v us S := h.kept hE (Nat.le_refl _) (fun _ _ e => e) fun _ _ => rfl
/-- what the walks read -/
theorem Nt.cells (h : Nt E T ew ef w k v us S) : ∃ A c, v = .slice A S.length c ∧ w.cell? ⟨k, 0, none⟩ = some (.slice A S.length c) ∧ w.frozen? ⟨k, 0, none⟩ = false := by
  obtain ⟨A, c, e, _, _⟩ := h.row.read
  rw [h.len] at e
  exact ⟨A, c, e, by rw [← e]; exact h.box.cell 0, h.box.free 0⟩
theorem Nt.at_ (h : Nt E T ew ef w k v us S) {p : Nat} {fs : Wy} (hp : S[p]? = some fs) :
    ∃ g c u A d cs, v = .slice (some ⟨g, 0, none⟩) S.length c ∧ us[p]? = some u ∧ u = .slice A fs.length d ∧ w.cell? ⟨g, p, none⟩ = some u ∧ w.frozen? ⟨g, p, none⟩ = false ∧ OwnW w ef u cs ∧ Cs E w cs fs ∧ fs.length ≤ 400 := by
  have hl : p < us.length := by rw [h.len]; exact (List.getElem?_eq_some_iff.1 hp).1
  obtain ⟨g, c, e⟩ := h.row.place (by omega)
  obtain ⟨cs, ho, hc⟩ := h.way p _ fs (List.getElem?_eq_getElem hl) hp
  obtain ⟨A, d, e2, _⟩ := ho.read
  have hr := h.row
  rw [e] at hr
  obtain ⟨h1, h2⟩ := hr.cellAt hl
  rw [h.len] at e
  exact ⟨g, c, _, A, d, cs, e, List.getElem?_eq_getElem hl, by rw [← hc.1]; exact e2, by rw [h1]; exact List.getElem?_eq_getElem hl, h2, ho, hc, h.cap fs (List.mem_of_getElem? hp)⟩

theorem mem_set_or {α : Type} {l : List α} {i : Nat} {a b : α} (h : b ∈ l.set i a) : b ∈ l ∨ b = a := by
  rcases List.mem_or_eq_of_mem_set h with h | h
  · exact .inl h
  · exact .inr h
/-- way p has become another row, and its place is to hold it -/
theorem Nt.put (h : Nt E T ew ef w k v us S) (hE : Stb E) {p g n c : Nat} {u u1 : Value} {cs1 : List Value} {fs1 : Wy} {w1 : World} (hv : v = .slice (some ⟨g, 0, none⟩) n c) (hu : us[p]? = some u)
    (hg : GrW w w1 u u1) (ho : OwnW w1 ef u1 cs1) (hc : Cs E w1 cs1 fs1) (hl : fs1.length ≤ 400) (hnb : NB u1) :
    w1.cell? ⟨k, 0, none⟩ = some v ∧ w1.cell? ⟨g, p, none⟩ = some u ∧ w1.frozen? ⟨g, p, none⟩ = false ∧
    Nt E T ew ef (w1.setCell ⟨g, p, none⟩ u1) k v (us.set p u1) (S.set p fs1) ∧ Chg w (w1.setCell ⟨g, p, none⟩ u1) (Ft k v us) (Ft k v (us.set p u1)) := by
  subst hv
  have hp : p < us.length := (List.getElem?_eq_some_iff.1 hu).1
  have hum : u ∈ us := List.mem_of_getElem? hu
  have hgb : (Value.slice (some (⟨g, 0, none⟩ : Addr)) n c).ownBlock = some g := rfl
  have box1 : Bx w1 k T #[.slice (some ⟨g, 0, none⟩) n c] := (hg.other h.box.lt (fun e => h.uk u hum e)).trans h.box
  have row1 : OwnW w1 ew (.slice (some ⟨g, 0, none⟩) n c) us := h.row.grown hg fun g' e e2 => h.uv u hum g' e2 e
  obtain ⟨q1, q2⟩ := row1.cellAt hp
  obtain ⟨row2, gr2⟩ := row1.set hp hnb
  have hgk : g ≠ k := fun e => h.vk (by rw [hgb, e])
  have hgl : g < w.heap.size := h.row.lt hgb
  -- the new row's block is none of the others'
  have hnew : ∀ j, u1.ownBlock = some j → u.ownBlock = some j ∨ (w.heap.size ≤ j ∧ j < w1.heap.size) := fun j e => by
    rcases hg.at_ with e1 | e1
    · exact .inl (by rw [← e1]; exact e)
    · exact .inr (e1 j e)
  have hkl := h.box.lt
  have hul : ∀ (i : Nat) u' j, us[i]? = some u' → u'.ownBlock = some j → j < w.heap.size := fun i u' j e1 e2 => h.lt (.inr (.inr ⟨u', List.mem_of_getElem? e1, e2⟩))
  have hset : ∀ (i : Nat) u', (us.set p u1)[i]? = some u' → (i = p ∧ u' = u1) ∨ (i ≠ p ∧ us[i]? = some u') := fun i u' e => by
    rw [List.getElem?_set] at e
    by_cases hi : p = i
    · rw [if_pos hi] at e
      subst hi
      rw [if_pos hp] at e
      injection e with e
      exact .inl ⟨rfl, e.symm⟩
    · rw [if_neg hi] at e; exact .inr ⟨fun e' => hi e'.symm, e⟩
  refine ⟨box1.cell 0, by rw [q1]; exact hu, q2, ⟨box1.far _ _ hgk, row2, by rw [List.length_set, List.length_set]; exact h.len, by rw [List.length_set]; exact h.w32, ?_, ?_, h.vk, ?_, ?_, ?_⟩, ?_⟩
  · intro fs hfs
    rcases mem_set_or hfs with hfs | rfl
    · exact h.cap fs hfs
    · exact hl
  · intro i u' fs hu' hfs
    have hgne : ∀ j, u'.ownBlock = some j → j ≠ g := by
      intro j e e2
      subst e2
      rcases hset i u' hu' with ⟨rfl, rfl⟩ | ⟨hne, hu2⟩
      · rcases hnew j e with e3 | e3
        · exact h.uv u hum j e3 hgb
        · omega
      · exact h.uv u' (List.mem_of_getElem? hu2) j e hgb
    rcases hset i u' hu' with ⟨rfl, rfl⟩ | ⟨hne, hu2⟩
    · have hpS : i < S.length := by rw [← h.len]; exact hp
      rw [List.getElem?_set_self hpS] at hfs
      injection hfs with hfs
      subst hfs
      refine ⟨cs1, ho.kept fun j e => Below.heap_setCell w1 _ _ j (fun e2 => hgne j e e2), hc.keep hE gr2.stay (by rw [setSize]; exact Nat.le_refl _)⟩
    · rw [List.getElem?_set_ne (fun e => hne e.symm)] at hfs
      obtain ⟨cs, o1, o2⟩ := h.way i u' fs hu2 hfs
      have o3 : OwnW w1 ef u' cs := o1.grown hg fun j e e2 => hne (h.uu i p u' u j hu2 hu e e2)
      exact ⟨cs, o3.kept fun j e => Below.heap_setCell w1 _ _ j (fun e2 => hgne j e e2), (o2.keep hE hg.stay hg.gr.size).keep hE gr2.stay (by rw [setSize]; exact Nat.le_refl _)⟩
  · intro u' hu' e
    rcases mem_set_or hu' with hu' | rfl
    · exact h.uk u' hu' e
    · rcases hnew k e with e3 | e3
      · exact h.uk u hum e3
      · omega
  · intro u' hu' j e e2
    rcases mem_set_or hu' with hu' | rfl
    · exact h.uv u' hu' j e e2
    · rcases hnew j e with e3 | e3
      · exact h.uv u hum j e3 e2
      · rw [hgb] at e2; injection e2 with e2; omega
  · intro i j u' u'' b e1 e2 e3 e4
    rcases hset i u' e1 with ⟨rfl, rfl⟩ | ⟨hne, e1'⟩
    · rcases hset j u'' e2 with ⟨rfl, rfl⟩ | ⟨hne2, e2'⟩
      · rfl
      · rcases hnew b e3 with e5 | e5
        · exact h.uu i j u u'' b hu e2' e5 e4
        · have := hul j u'' b e2' e4; omega
    · rcases hset j u'' e2 with ⟨rfl, rfl⟩ | ⟨hne2, e2'⟩
      · rcases hnew b e4 with e5 | e5
        · exact h.uu i j u' u b e1' hu e3 e5
        · have := hul i u' b e1' e3; omega
      · exact h.uu i j u' u'' b e1' e2' e3 e4
  · refine ⟨hg.gr.os, hg.gr.tape, hg.gr.output, by rw [setSize]; exact hg.gr.size, fun j hj hf => ?_, fun j hj => ?_, hg.stay.trans gr2.stay⟩
    · rw [Below.heap_setCell w1 _ _ j (fun e => hf (.inr (.inl (by rw [hgb]; exact congrArg some e.symm))))]
      exact hg.other hj fun e => hf (.inr (.inr ⟨u, hum, e⟩))
    · rcases hj with rfl | e | ⟨u', hu', e⟩
      · exact .inl (.inl rfl)
      · exact .inl (.inr (.inl e))
      · rcases mem_set_or hu' with hu' | rfl
        · exact .inl (.inr (.inr ⟨u', hu', e⟩))
        · rcases hnew j e with e3 | e3
          · exact .inl (.inr (.inr ⟨u, hum, e3⟩))
          · right; rw [setSize]; exact e3
/-- way p's own row holds something else -/
theorem Nt.stir (h : Nt E T ew ef w k v us S) (hE : Stb E) {p : Nat} {u : Value} {cs1 : List Value} {fs1 : Wy} {w1 : World} (hu : us[p]? = some u)
    (hg : GrW w w1 u u) (ho : OwnW w1 ef u cs1) (hc : Cs E w1 cs1 fs1) (hl : fs1.length ≤ 400) : Nt E T ew ef w1 k v us (S.set p fs1) ∧ Chg w w1 (Ft k v us) (Ft k v us) := by
  have hp : p < us.length := (List.getElem?_eq_some_iff.1 hu).1
  have hum : u ∈ us := List.mem_of_getElem? hu
  refine ⟨⟨(hg.other h.box.lt (fun e => h.uk u hum e)).trans h.box, h.row.grown hg fun g' e e2 => h.uv u hum g' e2 e, by rw [List.length_set]; exact h.len, by rw [List.length_set]; exact h.w32, ?_, ?_, h.vk, h.uk, h.uv, h.uu⟩, ?_⟩
  · intro fs hfs
    rcases mem_set_or hfs with hfs | rfl
    · exact h.cap fs hfs
    · exact hl
  · intro i u' fs hu' hfs
    by_cases hi : p = i
    · subst hi
      rw [hu] at hu'
      injection hu' with hu'
      subst hu'
      rw [List.getElem?_set_self (by rw [← h.len]; exact hp)] at hfs
      injection hfs with hfs
      subst hfs
      exact ⟨cs1, ho, hc⟩
    · rw [List.getElem?_set_ne hi] at hfs
      obtain ⟨cs, o1, o2⟩ := h.way i u' fs hu' hfs
      exact ⟨cs, o1.grown hg fun j e e2 => hi (h.uu i p u' u j hu' hu e e2).symm, o2.keep hE hg.stay hg.gr.size⟩
  · exact ⟨hg.gr.os, hg.gr.tape, hg.gr.output, hg.gr.size, fun j hj hf => hg.other hj fun e => hf (.inr (.inr ⟨u, hum, e⟩)), fun j hj => .inl hj, hg.stay⟩
end

/-- the frames of a way -/
def wy (S : List Wy) (way : Int) : Wy := if 0 ≤ way then S.getD way.toNat [] else []
def isw (S : List Wy) (way : Int) : Prop := 0 ≤ way ∧ way < S.length
def vld (fs : Wy) (i : Int) : Prop := 0 ≤ i ∧ i < fs.length
instance (S : List Wy) (way : Int) : Decidable (isw S way) := inferInstanceAs (Decidable (_ ∧ _))
instance (fs : Wy) (i : Int) : Decidable (vld fs i) := inferInstanceAs (Decidable (_ ∧ _))
theorem wy_at {S : List Wy} {p : Nat} {fs : Wy} (h : S[p]? = some fs) : wy S p = fs := by
  unfold wy
  rw [if_pos (by omega), Int.toNat_natCast, List.getD, h]
  rfl
theorem isw_at {S : List Wy} {way : Int} (h : isw S way) : ∃ (p : Nat) (fs : Wy), way = p ∧ S[p]? = some fs ∧ wy S way = fs := by
  obtain ⟨h1, h2⟩ := h
  have hp : way.toNat < S.length := by omega
  refine ⟨way.toNat, S[way.toNat], by omega, List.getElem?_eq_getElem hp, ?_⟩
  have := wy_at (List.getElem?_eq_getElem hp)
  rwa [show ((way.toNat : Nat) : Int) = way from by omega] at this
theorem wy_out {S : List Wy} {way : Int} (h : ¬ isw S way) : wy S way = [] := by
  unfold wy
  split
  · rename_i h0
    have : S.length ≤ way.toNat := by
      unfold isw at h
      omega
    rw [List.getD, List.getElem?_eq_none this]
    rfl
  · rfl
theorem vld_isw {S : List Wy} {way i : Int} (h : vld (wy S way) i) : isw S way := by
  by_cases hw : isw S way
  · exact hw
  · rw [wy_out hw] at h
    obtain ⟨h1, h2⟩ := h
    simp at h2
    omega
theorem vld_at {fs : Wy} {i : Int} (h : vld fs i) : ∃ (q : Nat) (l : List Int), i = q ∧ fs[q]? = some l ∧ q < fs.length := by
  obtain ⟨h1, h2⟩ := h
  have hp : i.toNat < fs.length := by omega
  exact ⟨i.toNat, fs[i.toNat], by omega, List.getElem?_eq_getElem hp, hp⟩
end Go.Proofs.Ytcagochalnjagaa
