/-
  What is proved: the walk of ConfTurned: hints that are turned about are right just where they were. No condition.
-/
import Derived.Test.YtehmcnghincakaaWake3
import Derived.BigRegion
import Derived.BigQuiet
import Derived.Deep.QuietTactic
import Derived.RegionTactic
namespace Go.Proofs.Ytehmcnghincakaa
open Go.RowKit

theorem eHint : Elt Try.prog 23 41 (.agg #[.int .i64 0, .int .i64 0, .int .i64 0, .bool false]) 4 32 := ⟨Try.underlying23, by kernel_rfl, rfl, by decide⟩

/-- cell j of hints that lie one behind the other -/
def hcell (hh : Nat → Hn) (j : Nat) : Value :=
  if j % 4 = 0 then .int .i64 (hh (j / 4)).f else if j % 4 = 1 then .int .i64 (hh (j / 4)).s else if j % 4 = 2 then .int .i64 (hh (j / 4)).o else .bool (hh (j / 4)).l
theorem hvs_cell (hh : Nat → Hn) (n j : Nat) (h : j < n * 4) : (hvs hh n)[j]? = some (hcell hh j) := by
  obtain ⟨a0, a1, a2, a3⟩ := hvs_at hh n (j / 4) (by omega)
  unfold hcell
  by_cases h0 : j % 4 = 0
  · rw [if_pos h0, ← a0]; congr 1; omega
  · by_cases h1 : j % 4 = 1
    · rw [if_neg h0, if_pos h1, ← a1]; congr 1; omega
    · by_cases h2 : j % 4 = 2
      · rw [if_neg h0, if_neg h1, if_pos h2, ← a2]; congr 1; omega
      · rw [if_neg h0, if_neg h1, if_neg h2, ← a3]; congr 1; omega
theorem Arr.rv {w : World} {g n : Nat} {hh : Nat → Hn} (h : Arr w g (n * 4) (hcell hh)) : Rv w w.heap.size (some ⟨g, 0, none⟩) (hvs hh n) := by
  intro j u hu
  have hj : j < n * 4 := by
    rw [← hvs_length hh n]
    exact (List.getElem?_eq_some_iff.1 hu).1
  rw [hvs_cell hh n j hj] at hu
  refine ⟨_, rfl, h.lt, ?_⟩
  rw [← hu, ← h.cell j hj]
  unfold Addr.add
  by_cases e : j = 0
  · subst e; rfl
  · rw [if_neg e, Nat.zero_add]
theorem own_harr {w : World} {b n : Nat} {v : Value} {hh : Nat → Hn} (h : OwnV w b 41 4 v n (hvs hh n)) (hn : 0 < n) : ∃ g c, v = .slice (some ⟨g, 0, none⟩) n c ∧ b ≤ g ∧ Arr w g (n * 4) (hcell hh) := by
  rcases h.2 with ⟨hv, h0⟩ | ⟨g, cap, cur, hv, hb, hh', hnc, hm, hs, ht⟩
  · omega
  · subst hv
    refine ⟨g, cap, rfl, hb, (World.ownsRow.lt h g rfl).2, fun i hi => ?_, fun i _ => World.ownsRow.frozenAt h i⟩
    rw [World.ownsRow.cellAt h i hi, hvs_cell hh n i hi]

theorem hcell_at (hh : Nat → Hn) (i : Nat) : hcell hh (i * 4) = .int .i64 (hh i).f ∧ hcell hh (i * 4 + 1) = .int .i64 (hh i).s ∧ hcell hh (i * 4 + 2) = .int .i64 (hh i).o ∧ hcell hh (i * 4 + 3) = .bool (hh i).l := by
  unfold hcell
  refine ⟨?_, ?_, ?_, ?_⟩
  · rw [if_pos (by omega), show i * 4 / 4 = i by omega]
  · rw [if_neg (by omega), if_pos (by omega), show (i * 4 + 1) / 4 = i by omega]
  · rw [if_neg (by omega), if_neg (by omega), if_pos (by omega), show (i * 4 + 2) / 4 = i by omega]
  · rw [if_neg (by omega), if_neg (by omega), if_neg (by omega), show (i * 4 + 3) / 4 = i by omega]

def upd (hh : Nat → Hn) (a : Nat) (p : Hn) : Nat → Hn := fun t => if t = a then p else hh t
theorem hcell_upd (hh : Nat → Hn) (a : Nat) (p : Hn) (j : Nat) : hcell (upd hh a p) j = if j = a * 4 + 3 then .bool p.l else if j = a * 4 + 2 then .int .i64 p.o else if j = a * 4 + 1 then .int .i64 p.s else if j = a * 4 then .int .i64 p.f else hcell hh j := by
  unfold hcell upd
  by_cases e : j / 4 = a
  · rw [if_pos e]
    by_cases h0 : j % 4 = 0
    · rw [if_pos h0, if_neg (by omega), if_neg (by omega), if_neg (by omega), if_pos (by omega)]
    · by_cases h1 : j % 4 = 1
      · rw [if_neg h0, if_pos h1, if_neg (by omega), if_neg (by omega), if_pos (by omega)]
      · by_cases h2 : j % 4 = 2
        · rw [if_neg h0, if_neg h1, if_pos h2, if_neg (by omega), if_pos (by omega)]
        · rw [if_neg h0, if_neg h1, if_neg h2, if_pos (by omega)]
  · rw [if_neg e, if_neg (show ¬ j = a * 4 + 3 by omega), if_neg (show ¬ j = a * 4 + 2 by omega), if_neg (show ¬ j = a * 4 + 1 by omega), if_neg (show ¬ j = a * 4 by omega)]
theorem Arr.set4 {w : World} {g n : Nat} {hh : Nat → Hn} (h : Arr w g (n * 4) (hcell hh)) {a : Nat} (ha : a < n) (p : Hn) :
    Arr ((((w.setCell ⟨g, a * 4, none⟩ (.int .i64 p.f)).setCell ⟨g, a * 4 + 1, none⟩ (.int .i64 p.s)).setCell ⟨g, a * 4 + 2, none⟩ (.int .i64 p.o)).setCell ⟨g, a * 4 + 3, none⟩ (.bool p.l)) g (n * 4) (hcell (upd hh a p)) :=
  ((((h.set (i := a * 4) (by omega) _).set (i := a * 4 + 1) (by omega) _).set (i := a * 4 + 2) (by omega) _).set (i := a * 4 + 3) (by omega) _).alike fun j _ => hcell_upd hh a p j
theorem Arr.hcongr {w : World} {g n : Nat} {hh kk : Nat → Hn} (h : Arr w g (n * 4) (hcell hh)) (e : kk = hh) : Arr w g (n * 4) (hcell kk) := by rw [e]; exact h

def swp (hh : Nat → Hn) (a b : Nat) : Nat → Hn := fun t => if t = a then hh b else if t = b then hh a else hh t
theorem swp_upd (hh : Nat → Hn) (a b : Nat) : swp hh a b = upd (upd hh a (hh b)) b (hh a) := by
  funext t
  unfold swp upd
  by_cases h1 : t = a
  · subst h1
    by_cases h2 : t = b
    · subst h2; rw [if_pos rfl]
    · rw [if_pos rfl, if_neg h2, if_pos rfl]
  · rw [if_neg h1, if_neg h1]
theorem swp_swp (hh : Nat → Hn) (a b : Nat) : ∀ t, swp (swp hh a b) a b t = hh t := fun t => by
  unfold swp
  by_cases h1 : t = a
  · subst h1
    by_cases h2 : b = t
    · subst h2; simp
    · simp [h2]
  · by_cases h2 : t = b
    · subst h2; simp [h1]
    · simp [h1, h2]
theorem hints_swp {hh : Nat → Hn} {n : Nat} {bl : Int} {a b : Nat} (ha : a < n) (hb : b < n) (h : HintsP hh n bl) : HintsP (swp hh a b) n bl := by
  obtain ⟨h8, h1, h2⟩ := h
  have sym : ∀ i, i < n → ∀ k, k < n → i ≠ k → ∀ x, ¬ (Has (hh i) x ∧ Has (hh k) x) := fun i hi k hk hne x hx => by
    rcases Nat.lt_or_ge k i with hlt | hge
    · exact h2 i hi k hlt x hx
    · exact h2 k hk i (by omega) x ⟨hx.2, hx.1⟩
  let s : Nat → Nat := fun t => if t = a then b else if t = b then a else t
  have hs : ∀ t, t < n → s t < n := fun t ht => by simp only [s]; split <;> (try split) <;> omega
  have hin : ∀ t u, s t = s u → t = u := fun t u => by
    simp only [s]
    intro e
    by_cases h1 : t = a
    · rw [if_pos h1] at e
      by_cases h3 : u = a
      · omega
      · rw [if_neg h3] at e
        by_cases h4 : u = b
        · rw [if_pos h4] at e; omega
        · rw [if_neg h4] at e; omega
    · rw [if_neg h1] at e
      by_cases h2 : t = b
      · rw [if_pos h2] at e
        by_cases h3 : u = a
        · rw [if_pos h3] at e; omega
        · rw [if_neg h3] at e
          by_cases h4 : u = b
          · omega
          · rw [if_neg h4] at e; omega
      · rw [if_neg h2] at e
        by_cases h3 : u = a
        · rw [if_pos h3] at e; omega
        · rw [if_neg h3] at e
          by_cases h4 : u = b
          · rw [if_pos h4] at e; omega
          · rw [if_neg h4] at e; omega
  have e : ∀ t, swp hh a b t = hh (s t) := fun t => by
    unfold swp
    simp only [s]
    split
    · rfl
    · split <;> rfl
  refine ⟨h8, fun i hi => by rw [e]; exact h1 _ (hs i hi), fun i hi k hk x hx => ?_⟩
  rw [e, e] at hx
  exact sym _ (hs i hi) _ (hs k (by omega)) (fun q => by have := hin _ _ q; omega) x hx
theorem hints_swp_iff {hh : Nat → Hn} {n : Nat} {bl : Int} {a b : Nat} (ha : a < n) (hb : b < n) : HintsP (swp hh a b) n bl ↔ HintsP hh n bl := by
  refine ⟨fun h => ?_, hints_swp ha hb⟩
  have := hints_swp ha hb h
  rwa [show swp (swp hh a b) a b = hh from funext (swp_swp hh a b)] at this

theorem below_drewN' {B : Nat} {a w : World} (h : Below B a w) (n : Nat) : Below B a (w.drewN n) := ⟨h.os, h.tape, h.output, h.size, h.block⟩

set_option maxRecDepth 100000 in
set_option maxHeartbeats 1000000 in
theorem turned_short (A : Option Addr) (n c : Nat) (hh : Nat → Hn) (bl : Int) (x y : Nat) (w : World) (h0 : 0 < n) (hn : n ≤ 20) (hb0 : -9223372036854775808 ≤ bl) (hx : x ≤ 255) (hy : y ≤ 255) (hr : Rv w w.heap.size A (hvs hh n)) :
    Calls Try.prog 5 #[.slice A n c, .int .i64 bl, .agg #[.int .u8 x, .int .u8 y]] w fun e w' => e = .returned (.bool true) ∧ Below w.heap.size w w' := by
  have n0 : ((n : Int) == 0) = false := by simp; omega
  have n20 : decide ((n : Int) > 20) = false := decide_eq_false (by omega)
  go_enter Try.func5, Try.ntmps5
  go_wp2_with fail
  refine (wakes_any _).mono ?_
  rintro e w1 ⟨rfl, hb1⟩
  have HB1 := hid (on (below_alloc w (.cells #[.int .u8 x, .int .u8 y] 39)) hb1)
  have HX1 := hid ((Bx.new w 39 #[.int .u8 x, .int .u8 y]).next hb1)
  have HR1 := hid (hr.now HB1.out)
  clear hb1 hr
  go_wp2_with (at_builtin; refine wpList_appV eHint rfl _ _ rfl w1.heap.size _ 0 [] (World.ownsRow_lit (size := 4) (e := 41) (base := w1.heap.size) w1 #[] 0 (Nat.le_refl _) (by unfold maxLen; omega) rfl) rfl _ _ n c (hvs hh n) rfl (hvs_length hh n) (HR1.out.below (below_alloc w1 _) (Nat.le_refl _)) (hvs_one hh n) (by unfold maxLen; omega) (by omega) (by rw [World.size_alloc]; omega) ?_; intro v' w2 hown2 hg2)
  have hb2 : Below w1.heap.size w1 w2 := (below_alloc w1 _).trans (hg2.below (World.ownsRow_lit (size := 4) (e := 41) (base := w1.heap.size) w1 #[] 0 (Nat.le_refl _) (by unfold maxLen; omega) rfl) (by rw [World.size_alloc]; omega))
  rw [Nat.zero_add, List.nil_append] at hown2
  obtain ⟨g, c', rfl, hg, harr⟩ := own_harr hown2 h0
  have HK2 := hid hb2
  have HX2 := hid (HX1.out.next hb2)
  have HA2 := hid harr
  have hwg : w.heap.size < g := Nat.lt_of_lt_of_le HX1.out.lt hg
  clear hb2 hg2 hown2 harr HX1
  have z0 := HX2.out.cell 0
  have z1 := HX2.out.cell 1
  go_wp2_with fail
  go_quiet (fail)
  go_wp2_with fail
  obtain ⟨a, ha⟩ : ∃ a : Nat, (x : Int) % (n : Int) = a := ⟨x % n, by omega⟩
  obtain ⟨b, hb⟩ : ∃ b : Nat, (y : Int) % (n : Int) = b := ⟨y % n, by omega⟩
  rw [ha, hb]
  have han : a < n := by have := Int.emod_lt_of_pos (x : Int) (show (0 : Int) < n by omega); omega
  have hbn : b < n := by have := Int.emod_lt_of_pos (y : Int) (show (0 : Int) < n by omega); omega
  have han' : (a : Int) < n := by omega
  have hbn' : (b : Int) < n := by omega
  clear ha hb z0 z1
  have a0 := HA2.out.cell (a * 4) (by omega)
  have a1 := HA2.out.cell (a * 4 + 1) (by omega)
  have a2 := HA2.out.cell (a * 4 + 2) (by omega)
  have a3 := HA2.out.cell (a * 4 + 3) (by omega)
  have fa0 := HA2.out.free (a * 4) (by omega)
  have fa1 := HA2.out.free (a * 4 + 1) (by omega)
  have fa2 := HA2.out.free (a * 4 + 2) (by omega)
  have fa3 := HA2.out.free (a * 4 + 3) (by omega)
  obtain ⟨⟨pf, ps, po, pl⟩, hpa⟩ : ∃ v, hh a = v := ⟨_, rfl⟩
  obtain ⟨e0, e1, e2, e3⟩ := hcell_at hh a
  rw [e0, hpa] at a0
  rw [e1, hpa] at a1
  rw [e2, hpa] at a2
  rw [e3, hpa] at a3
  dsimp only at a0 a1 a2 a3
  have HPA := hid hpa
  clear hpa e0 e1 e2 e3
  by_cases hab : a = b
  · subst hab
    clear hbn hbn'
    go_region
    all_goals
      go_wp2_with fail
      have HA8 := hid ((((show Arr (w2.drewN (nq + 1)) g (n * 4) (hcell hh) from ⟨HA2.out.lt, HA2.out.cell, HA2.out.free⟩).set4 han ⟨pf, ps, po, pl⟩).set4 han ⟨pf, ps, po, pl⟩).hcongr (kk := swp hh a a) (by rw [swp_upd, HPA.out]))
      have HK8 := hid (below_set (below_set (below_set (below_set (below_set (below_set (below_set (below_set (below_drewN' HK2.out (nq + 1)) ⟨g, a * 4, none⟩ (.int .i64 pf) hg) ⟨g, a * 4 + 1, none⟩ (.int .i64 ps) hg) ⟨g, a * 4 + 2, none⟩ (.int .i64 po) hg) ⟨g, a * 4 + 3, none⟩ (.bool pl) hg) ⟨g, a * 4, none⟩ (.int .i64 pf) hg) ⟨g, a * 4 + 1, none⟩ (.int .i64 ps) hg) ⟨g, a * 4 + 2, none⟩ (.int .i64 po) hg) ⟨g, a * 4 + 3, none⟩ (.bool pl) hg)
      dsimp only at HA8 HK8
      refine (chints_any _ n c' (swp hh a a) bl _ (by unfold maxLen; omega) hb0 HA8.out.rv).mono ?_
      rintro e w9 ⟨rfl, hb9⟩
      have HK9 := hid (on HK8.out hb9)
      clear hb9 HA8 HK8
      rw [dec_congr (hints_swp_iff han han)]
      go_wp2_with fail
      refine (chints_any A n c hh bl _ (by unfold maxLen; omega) hb0 (HR1.out.now HK9.out)).mono ?_
      rintro e w10 ⟨rfl, hb10⟩
      go_wp2
      go_ret
      exact ⟨rfl, on (on HB1.out HK9.out) hb10⟩
  · obtain ⟨⟨qf, qs, qo, ql⟩, hpb⟩ : ∃ v, hh b = v := ⟨_, rfl⟩
    have b0 := HA2.out.cell (b * 4) (by omega)
    have b1 := HA2.out.cell (b * 4 + 1) (by omega)
    have b2 := HA2.out.cell (b * 4 + 2) (by omega)
    have b3 := HA2.out.cell (b * 4 + 3) (by omega)
    have fb0 := HA2.out.free (b * 4) (by omega)
    have fb1 := HA2.out.free (b * 4 + 1) (by omega)
    have fb2 := HA2.out.free (b * 4 + 2) (by omega)
    have fb3 := HA2.out.free (b * 4 + 3) (by omega)
    obtain ⟨e0, e1, e2, e3⟩ := hcell_at hh b
    rw [e0, hpb] at b0
    rw [e1, hpb] at b1
    rw [e2, hpb] at b2
    rw [e3, hpb] at b3
    dsimp only at b0 b1 b2 b3
    have HPB := hid hpb
    clear hpb e0 e1 e2 e3
    have hba : ¬ b = a := fun e => hab e.symm
    have q0 : ¬ a * 4 + 1 = b * 4 := by omega
    have r0 : ¬ b * 4 = a * 4 + 1 := by omega
    have q1 : ¬ a * 4 + 2 = b * 4 := by omega
    have r1 : ¬ b * 4 = a * 4 + 2 := by omega
    have q2 : ¬ a * 4 + 3 = b * 4 := by omega
    have r2 : ¬ b * 4 = a * 4 + 3 := by omega
    have q3 : ¬ b * 4 + 1 = a * 4 := by omega
    have r3 : ¬ a * 4 = b * 4 + 1 := by omega
    have q4 : ¬ b * 4 + 2 = a * 4 := by omega
    have r4 : ¬ a * 4 = b * 4 + 2 := by omega
    have q5 : ¬ b * 4 + 3 = a * 4 := by omega
    have r5 : ¬ a * 4 = b * 4 + 3 := by omega
    go_region
    all_goals
      go_wp2_with fail
      have HA8 := hid ((((show Arr (w2.drewN (nq + 1)) g (n * 4) (hcell hh) from ⟨HA2.out.lt, HA2.out.cell, HA2.out.free⟩).set4 han ⟨qf, qs, qo, ql⟩).set4 hbn ⟨pf, ps, po, pl⟩).hcongr (kk := swp hh a b) (by rw [swp_upd, HPA.out, HPB.out]))
      have HK8 := hid (below_set (below_set (below_set (below_set (below_set (below_set (below_set (below_set (below_drewN' HK2.out (nq + 1)) ⟨g, a * 4, none⟩ (.int .i64 qf) hg) ⟨g, a * 4 + 1, none⟩ (.int .i64 qs) hg) ⟨g, a * 4 + 2, none⟩ (.int .i64 qo) hg) ⟨g, a * 4 + 3, none⟩ (.bool ql) hg) ⟨g, b * 4, none⟩ (.int .i64 pf) hg) ⟨g, b * 4 + 1, none⟩ (.int .i64 ps) hg) ⟨g, b * 4 + 2, none⟩ (.int .i64 po) hg) ⟨g, b * 4 + 3, none⟩ (.bool pl) hg)
      dsimp only at HA8 HK8
      refine (chints_any _ n c' (swp hh a b) bl _ (by unfold maxLen; omega) hb0 HA8.out.rv).mono ?_
      rintro e w9 ⟨rfl, hb9⟩
      have HK9 := hid (on HK8.out hb9)
      clear hb9 HA8 HK8
      rw [dec_congr (hints_swp_iff han hbn)]
      go_wp2_with fail
      refine (chints_any A n c hh bl _ (by unfold maxLen; omega) hb0 (HR1.out.now HK9.out)).mono ?_
      rintro e w10 ⟨rfl, hb10⟩
      go_wp2
      go_ret
      exact ⟨rfl, on (on HB1.out HK9.out) hb10⟩

set_option maxRecDepth 100000 in
set_option maxHeartbeats 1000000 in
theorem turned_walk (A : Option Addr) (n c : Nat) (hh : Nat → Hn) (bl : Int) (x y : Nat) (w : World) (hn : n ≤ maxLen) (hb0 : -9223372036854775808 ≤ bl) (hx : x ≤ 255) (hy : y ≤ 255) (hr : Rv w w.heap.size A (hvs hh n)) :
    Calls Try.prog 5 #[.slice A n c, .int .i64 bl, .agg #[.int .u8 x, .int .u8 y]] w fun e w' => e = .returned (.bool true) ∧ Below w.heap.size w w' := by
  unfold maxLen at hn
  by_cases h : 0 < n ∧ n ≤ 20
  · exact turned_short A n c hh bl x y w h.1 h.2 hb0 hx hy hr
  · have hd : ((n : Int) == 0) = true ∨ (((n : Int) == 0) = false ∧ decide ((n : Int) > 20) = true) := by
      by_cases e : n = 0
      · left; simp [e]
      · right; exact ⟨by simp [e], decide_eq_true (by omega)⟩
    clear h
    rcases hd with hd | ⟨hd, hd2⟩
    all_goals
      go_enter Try.func5, Try.ntmps5
      go_wp2_with fail
      refine (wakes_any _).mono ?_
      rintro e w1 ⟨rfl, hb1⟩
      go_wp2
      go_ret
      exact ⟨rfl, on (below_alloc w _) hb1⟩
end Go.Proofs.Ytehmcnghincakaa
