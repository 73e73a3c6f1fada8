/-
  What is proved: what the reference's MQ in memory is (a struct of eight cells, the row of its queues, how often, when they expire; the queues' and the ghosts' rows are read, and replaced); what it becomes when one of these is stored. Condition: it lies in memory as one.
-/
import Derived.Test.YtlafhejnnilpmaaPu12
import Derived.Test.YtlafhejnnilpmaaRe11
namespace Go.Proofs.Ytlafhejnnilpmaa
open Go.RowKit

/-- 64 numbers -/
def nums (o : Int → Int) : Array Value := Array.ofFn (n := 64) fun i => .int .i64 (o ((i.1 : Nat) : Int))
theorem nums_size (o : Int → Int) : (nums o).size = 64 := by simp [nums]
theorem nums_at (o : Int → Int) {p : Nat} (h : p < 64) : (nums o)[p]? = some (.int .i64 (o p)) := by simp [nums, h]
theorem nums_set (o : Int → Int) {p : Nat} (v : Int) : (nums o).setIfInBounds p (.int .i64 v) = nums (upd o p v) := by
  refine Array.ext (by simp [nums]) fun j h1 h2 => ?_
  rw [Array.getElem_setIfInBounds (by simpa using h1)]
  simp only [nums, Array.getElem_ofFn, upd]
  by_cases e : p = j
  · subst e; rw [if_pos rfl, if_pos rfl]
  · rw [if_neg e, if_neg (show ¬ ((j : Nat) : Int) = p from by omega)]
theorem nums_zero : Array.replicate 64 (Value.int .i64 0) = nums fun _ => 0 := by
  refine Array.ext (by simp [nums]) fun j h1 h2 => ?_
  simp [nums]
/-- a row that is read, and lies off the blocks X -/
def Rt (w : World) (X : Nat → Prop) (u : Value) (l : List Int) : Prop := ∃ A c, u = .slice A l.length c ∧ Rw w A l ∧ l.length ≤ c ∧ c ≤ maxLen ∧ ∀ ad, A = some ad → ¬ X ad.block
section
variable {w w' : World} {X F G : Nat → Prop} {u : Value} {l : List Int}
theorem Rt.below (h : Rt w X u l) (hb : Below w.heap.size w w') : Rt w' X u l := by
  obtain ⟨A, c, e, hr, h1, h2, h3⟩ := h
  exact ⟨A, c, e, hr.below hb, h1, h2, h3⟩
theorem Rt.chg (h : Rt w X u l) (hc : Chg w w' F G) (hF : ∀ j, F j → X j) : Rt w' X u l := by
  obtain ⟨A, c, e, hr, h1, h2, h3⟩ := h
  exact ⟨A, c, e, hr.chg hc fun ad e2 hf => h3 ad e2 (hF _ hf), h1, h2, h3⟩
theorem Rt.told {A : Option Addr} {c : Nat} (hX : ∀ j, X j → j < w.heap.size) (ho : OwnW w' 3 (.slice A l.length c) (ints l)) (hg : GrW w w' nl (.slice A l.length c)) : Rt w' X (.slice A l.length c) l := by
  obtain ⟨h1, h2, h3, h4⟩ := rw_told ho hg
  exact ⟨A, c, rfl, h1, h3, h4, fun ad e hx => by have := h2 ad e; have := hX _ hx; omega⟩
end
/-- the reference's MQ: the struct at h, the row of queues at a, how often at p, when they expire at e; its shape; what the row holds; the ghosts' row; the queues, the ghosts -/
structure Rm (w : World) (X : Nat → Prop) (h a p e C N L H cv : Nat) (us : List Value) (ug : Value) (R : List (List Int)) (G : List Int) (o x : Int → Int) (t : Nat) : Prop where
  box : Bx w h 60 #[.int .i64 C, .int .i64 L, .int .i64 H, .slice (some ⟨a, 0, none⟩) N cv, ug, .slice (some ⟨p, 0, none⟩) 64 64, .slice (some ⟨e, 0, none⟩) 64 64, .int .i64 t]
  row : OwnW w 44 (.slice (some ⟨a, 0, none⟩) N cv) us
  way : ∀ q u, us[q]? = some u → Rt w X u (R.getD q [])
  gh : Rt w X ug G
  oft : Bx w p 3 (nums o)
  exp : Bx w e 3 (nums x)
  rl : R.length = N
  n8 : 1 ≤ N ∧ N ≤ 8
  r64 : ∀ q, (R.getD q []).length ≤ 64
  g64 : G.length ≤ 64
  xb : ∀ j, X j → j < w.heap.size
  xh : X h
  xa : X a
  xp : X p
  xe : X e
  ha : h ≠ a
  hp : h ≠ p
  he : h ≠ e
  ap : a ≠ p
  ae : a ≠ e
  pe : p ≠ e
/-- which blocks are its own -/
def Fr (h a p e : Nat) (j : Nat) : Prop := j = h ∨ j = a ∨ j = p ∨ j = e
theorem fr_h {h a p e : Nat} : Fr h a p e h := .inl rfl
theorem fr_a {h a p e : Nat} : Fr h a p e a := .inr (.inl rfl)
theorem fr_p {h a p e : Nat} : Fr h a p e p := .inr (.inr (.inl rfl))
theorem fr_e {h a p e : Nat} : Fr h a p e e := .inr (.inr (.inr rfl))
theorem chg_in {w w1 : World} {F : Nat → Prop} (h : Chg w w1 F F) {k : Nat} (hk : F k) (i : Nat) (v : Value) : Chg w (w1.setCell ⟨k, i, none⟩ v) F F :=
  ⟨h.os, h.tape, h.output, by rw [setSize]; exact h.size, fun j h1 h2 => (Below.heap_setCell w1 ⟨k, i, none⟩ v j (fun e => h2 (e ▸ hk))).trans (h.block j h1 h2), fun _ e => .inl e⟩
section
variable {w w' : World} {X : Nat → Prop} {h a p e C N L H cv : Nat} {us : List Value} {ug : Value} {R : List (List Int)} {G : List Int} {o x : Int → Int} {t : Nat}
theorem Rm.below (m : Rm w X h a p e C N L H cv us ug R G o x t) (hb : Below w.heap.size w w') : Rm w' X h a p e C N L H cv us ug R G o x t :=
  { m with box := m.box.next hb, row := m.row.below hb, way := fun q u hu => (m.way q u hu).below hb, gh := m.gh.below hb, oft := m.oft.next hb, exp := m.exp.next hb, xb := fun j hj => Nat.lt_of_lt_of_le (m.xb j hj) hb.size }
theorem Rm.draws (m : Rm w X h a p e C N L H cv us ug R G o x t) (n : Nat) : Rm (w.drewN n) X h a p e C N L H cv us ug R G o x t := m.below (below_draws (Below.refl _ _) n)
/-- blocks of X that are not its own change -/
theorem Rm.chg {F F' : Nat → Prop} (m : Rm w X h a p e C N L H cv us ug R G o x t) (hc : Chg w w' F F') (hF : ∀ j, F j → X j) (hn : ∀ j, F j → ¬ Fr h a p e j) : Rm w' X h a p e C N L H cv us ug R G o x t :=
  { m with
    box := hc.bx m.box fun hf => hn _ hf fr_h
    row := m.row.kept fun g hg => by
      simp [Value.ownBlock] at hg
      subst hg
      exact hc.block _ (m.xb _ m.xa) fun hf => hn _ hf fr_a
    way := fun q u hu => (m.way q u hu).chg hc hF
    gh := m.gh.chg hc hF
    oft := hc.bx m.oft fun hf => hn _ hf fr_p
    exp := hc.bx m.exp fun hf => hn _ hf fr_e
    xb := fun j hj => Nat.lt_of_lt_of_le (m.xb j hj) hc.size }
theorem Rm.lu (m : Rm w X h a p e C N L H cv us ug R G o x t) : us.length = N := m.row.len.symm
theorem Rm.fr (m : Rm w X h a p e C N L H cv us ug R G o x t) (i : Nat) : w.frozen? ⟨h, i, none⟩ = false := m.box.free i
theorem Rm.c0 (m : Rm w X h a p e C N L H cv us ug R G o x t) : w.cell? ⟨h, 0, none⟩ = some (.int .i64 C) := m.box.cell 0
theorem Rm.c1 (m : Rm w X h a p e C N L H cv us ug R G o x t) : w.cell? ⟨h, 1, none⟩ = some (.int .i64 L) := m.box.cell 1
theorem Rm.c2 (m : Rm w X h a p e C N L H cv us ug R G o x t) : w.cell? ⟨h, 2, none⟩ = some (.int .i64 H) := m.box.cell 2
theorem Rm.c3 (m : Rm w X h a p e C N L H cv us ug R G o x t) : w.cell? ⟨h, 3, none⟩ = some (.slice (some ⟨a, 0, none⟩) N cv) := m.box.cell 3
theorem Rm.c4 (m : Rm w X h a p e C N L H cv us ug R G o x t) : w.cell? ⟨h, 4, none⟩ = some ug := m.box.cell 4
theorem Rm.c5 (m : Rm w X h a p e C N L H cv us ug R G o x t) : w.cell? ⟨h, 5, none⟩ = some (.slice (some ⟨p, 0, none⟩) 64 64) := m.box.cell 5
theorem Rm.c6 (m : Rm w X h a p e C N L H cv us ug R G o x t) : w.cell? ⟨h, 6, none⟩ = some (.slice (some ⟨e, 0, none⟩) 64 64) := m.box.cell 6
theorem Rm.c7 (m : Rm w X h a p e C N L H cv us ug R G o x t) : w.cell? ⟨h, 7, none⟩ = some (.int .i64 t) := m.box.cell 7
theorem Rm.cap (m : Rm w X h a p e C N L H cv us ug R G o x t) : N ≤ cv ∧ cv ≤ maxLen := by
  obtain ⟨A, c, e1, _, h1, h2⟩ := m.row.read
  injection e1 with _ _ e3
  subst e3
  exact ⟨by rw [← m.lu]; exact h1, h2⟩
/-- a queue's row -/
theorem Rm.at_ (m : Rm w X h a p e C N L H cv us ug R G o x t) {q : Nat} (hq : q < N) :
    ∃ A c, us[q]? = some (.slice A (R.getD q []).length c) ∧ w.cell? ⟨a, q, none⟩ = some (.slice A (R.getD q []).length c) ∧ w.frozen? ⟨a, q, none⟩ = false ∧ Rw w A (R.getD q []) ∧ (R.getD q []).length ≤ c ∧ c ≤ maxLen := by
  have hl : q < us.length := by rw [m.lu]; exact hq
  obtain ⟨A, c, e1, hr, h1, h2, -⟩ := m.way q _ (List.getElem?_eq_getElem hl)
  obtain ⟨k1, k2⟩ := m.row.cellAt hl
  have e2 : us[q]? = some (.slice A (R.getD q []).length c) := by rw [← e1]; exact List.getElem?_eq_getElem hl
  exact ⟨A, c, e2, k1.trans e2, k2, hr, h1, h2⟩
theorem Rm.co (m : Rm w X h a p e C N L H cv us ug R G o x t) {b : Nat} (hb : b < 64) : w.cell? ⟨p, b, none⟩ = some (.int .i64 (o b)) := (m.oft.cell b).trans (nums_at o hb)
theorem Rm.cx (m : Rm w X h a p e C N L H cv us ug R G o x t) {b : Nat} (hb : b < 64) : w.cell? ⟨e, b, none⟩ = some (.int .i64 (x b)) := (m.exp.cell b).trans (nums_at x hb)
theorem Rm.setO (m : Rm w X h a p e C N L H cv us ug R G o x t) {b : Nat} (v : Int) : Rm (w.setCell ⟨p, b, none⟩ (.int .i64 v)) X h a p e C N L H cv us ug R G (upd o b v) x t := by
  have hc := chg_set (Chg.refl w (· = p)) b (.int .i64 v)
  have ho := m.oft.set b (.int .i64 v)
  rw [nums_set] at ho
  exact { m with
    box := m.box.far _ _ m.hp.symm
    row := m.row.kept fun g hg => by
      simp [Value.ownBlock] at hg
      subst hg
      exact Below.heap_setCell w _ _ _ m.ap
    way := fun q u hu => (m.way q u hu).chg hc fun j e => by rw [e]; exact m.xp
    gh := m.gh.chg hc fun j e => by rw [e]; exact m.xp
    oft := ho
    exp := m.exp.far _ _ m.pe
    xb := fun j hj => by rw [setSize]; exact m.xb j hj }
theorem Rm.setX (m : Rm w X h a p e C N L H cv us ug R G o x t) {b : Nat} (v : Int) : Rm (w.setCell ⟨e, b, none⟩ (.int .i64 v)) X h a p e C N L H cv us ug R G o (upd x b v) t := by
  have hc := chg_set (Chg.refl w (· = e)) b (.int .i64 v)
  have ho := m.exp.set b (.int .i64 v)
  rw [nums_set] at ho
  exact { m with
    box := m.box.far _ _ m.he.symm
    row := m.row.kept fun g hg => by
      simp [Value.ownBlock] at hg
      subst hg
      exact Below.heap_setCell w _ _ _ m.ae
    way := fun q u hu => (m.way q u hu).chg hc fun j e => by rw [e]; exact m.xe
    gh := m.gh.chg hc fun j e => by rw [e]; exact m.xe
    oft := m.oft.far _ _ m.pe.symm
    exp := ho
    xb := fun j hj => by rw [setSize]; exact m.xb j hj }
theorem Rm.setT (m : Rm w X h a p e C N L H cv us ug R G o x t) (t' : Nat) : Rm (w.setCell ⟨h, 7, none⟩ (.int .i64 t')) X h a p e C N L H cv us ug R G o x t' := by
  have hc := chg_set (Chg.refl w (· = h)) 7 (.int .i64 t')
  have hb := m.box.set 7 (.int .i64 t')
  exact { m with
    box := hb
    row := m.row.kept fun g hg => by
      simp [Value.ownBlock] at hg
      subst hg
      exact Below.heap_setCell w _ _ _ m.ha.symm
    way := fun q u hu => (m.way q u hu).chg hc fun j e => by rw [e]; exact m.xh
    gh := m.gh.chg hc fun j e => by rw [e]; exact m.xh
    oft := m.oft.far _ _ m.hp
    exp := m.exp.far _ _ m.he
    xb := fun j hj => by rw [setSize]; exact m.xb j hj }
/-- the ghosts are another row -/
theorem Rm.setG (m : Rm w X h a p e C N L H cv us ug R G o x t) {u : Value} {G' : List Int} (hu : Rt w X u G') (hg : G'.length ≤ 64) : Rm (w.setCell ⟨h, 4, none⟩ u) X h a p e C N L H cv us u R G' o x t := by
  have hc := chg_set (Chg.refl w (· = h)) 4 u
  have hb := m.box.set 4 u
  exact { m with
    box := hb
    row := m.row.kept fun g hg => by
      simp [Value.ownBlock] at hg
      subst hg
      exact Below.heap_setCell w _ _ _ m.ha.symm
    way := fun q u hu => (m.way q u hu).chg hc fun j e => by rw [e]; exact m.xh
    gh := hu.chg hc fun j e => by rw [e]; exact m.xh
    g64 := hg
    oft := m.oft.far _ _ m.hp
    exp := m.exp.far _ _ m.he
    xb := fun j hj => by rw [setSize]; exact m.xb j hj }
/-- queue q is another row -/
theorem Rm.setR (m : Rm w X h a p e C N L H cv us ug R G o x t) {q : Nat} (hq : q < N) {u : Value} {l : List Int} (hu : Rt w X u l) (hl : l.length ≤ 64) : Rm (w.setCell ⟨a, q, none⟩ u) X h a p e C N L H cv (us.set q u) ug (R.set q l) G o x t := by
  have hc := chg_set (Chg.refl w (· = a)) q u
  have hql : q < us.length := by rw [m.lu]; exact hq
  have hqr : q < R.length := by rw [m.rl]; exact hq
  exact { m with
    box := m.box.far _ _ m.ha.symm
    row := (m.row.set hql).1
    rl := by rw [List.length_set]; exact m.rl
    r64 := fun i => by
      rw [gd_set _ hqr]
      split
      · exact hl
      · exact m.r64 i
    way := fun i v hv => by
      rw [gd_set _ hqr]
      by_cases e : q = i
      · subst e
        rw [List.getElem?_set_self hql] at hv
        injection hv with hv
        subst hv
        rw [if_pos rfl]
        exact hu.chg hc fun j e => by rw [e]; exact m.xa
      · rw [List.getElem?_set_ne e] at hv
        rw [if_neg e]
        exact (m.way i v hv).chg hc fun j e => by rw [e]; exact m.xa
    gh := m.gh.chg hc fun j e => by rw [e]; exact m.xa
    oft := m.oft.far _ _ m.ap
    exp := m.exp.far _ _ m.ae
    xb := fun j hj => by rw [setSize]; exact m.xb j hj }
end
/-- the same, its rows hidden -/
def Rq (w : World) (X : Nat → Prop) (h a p e C N L H : Nat) (R : List (List Int)) (G : List Int) (o x : Int → Int) (t : Nat) : Prop := ∃ cv us ug, Rm w X h a p e C N L H cv us ug R G o x t
theorem Rq.below {w w' : World} {X : Nat → Prop} {h a p e C N L H : Nat} {R : List (List Int)} {G : List Int} {o x : Int → Int} {t : Nat} (m : Rq w X h a p e C N L H R G o x t) (hb : Below w.heap.size w w') : Rq w' X h a p e C N L H R G o x t := by
  obtain ⟨cv, us, ug, m⟩ := m
  exact ⟨cv, us, ug, m.below hb⟩
end Go.Proofs.Ytlafhejnnilpmaa
