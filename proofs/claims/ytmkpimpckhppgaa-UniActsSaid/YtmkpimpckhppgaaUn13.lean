/-
  What is proved: what a stack in memory is (a block of 68 cells: its space, its capacities, the levels by block), and what it becomes when a level is stored; uni's isBlock, isLevel, capacity, Level, All, Count, forget. Condition: the stack lies in memory as one.
-/
import Derived.Test.YtmkpimpckhppgaaPu13
import Derived.Test.YtmkpimpckhppgaaRw13
import Derived.Test.YtmkpimpckhppgaaLk10
import Derived.Deep.RegionHeld3
import Derived.BigQuiet
namespace Go.Proofs.Ytmkpimpckhppgaa
open Go.RowKit

/-- the cells of a stack -/
def ucf (c : Nat → Nat) (v : Int → Int) (i : Nat) : Int := if i < 4 then (c i : Int) else v ((i - 4 : Nat) : Int)
def uc (k : Nat) (c : Nat → Nat) (v : Int → Int) : Array Value := Array.ofFn (n := 68) fun i => if i.1 = 0 then .pointer (some ⟨k, 0, none⟩) else .int .i64 (ucf c v i)
section
variable (k : Nat) (c : Nat → Nat) (v : Int → Int)
theorem uc_size : (uc k c v).size = 68 := by simp [uc]
theorem uc_at {i : Nat} (h : i < 68) (h0 : i ≠ 0) : (uc k c v)[i]? = some (.int .i64 (ucf c v i)) := by simp [uc, h, h0]
theorem uc_0 : (uc k c v)[0]? = some (.pointer (some ⟨k, 0, none⟩)) := by simp [uc]
theorem uc_c {l : Nat} (h1 : 1 ≤ l) (h3 : l ≤ 3) : (uc k c v)[l]? = some (.int .i64 (c l)) := by
  rw [uc_at _ _ _ (by omega) (by omega)]; unfold ucf; rw [if_pos (by omega)]
theorem uc_v {p : Nat} (h : p < 64) : (uc k c v)[4 + p]? = some (.int .i64 (v p)) := by
  rw [uc_at _ _ _ (by omega) (by omega)]; unfold ucf; rw [if_neg (by omega), show 4 + p - 4 = p from by omega]
theorem uc_set {p : Nat} (x : Int) : (uc k c v).setIfInBounds (4 + p) (.int .i64 x) = uc k c (upd v p x) := by
  refine Array.ext (by simp [uc]) fun j h1 h2 => ?_
  rw [Array.getElem_setIfInBounds (by simpa using h1)]
  simp only [uc, Array.getElem_ofFn]
  by_cases hz : j = 0
  · rw [if_pos hz, if_pos hz, if_neg (by omega)]
  · rw [if_neg hz, if_neg hz]
    unfold ucf upd
    by_cases h4 : j < 4
    · rw [if_pos h4, if_pos h4, if_neg (by omega)]
    · rw [if_neg h4, if_neg h4]
      by_cases hp : 4 + p = j
      · rw [if_pos hp, if_pos (by omega)]
      · rw [if_neg hp, if_neg (by omega)]
end
/-- block g is a stack of these capacities, its space lies at k -/
structure Un (w : World) (g k : Nat) (c : Nat → Nat) (s : Us) : Prop where
  box : Bx w g 57 (uc k c s.v)
  sq : Sq w k [s.L]
  ne : g ≠ k
  cap : ∀ l, 1 ≤ l → l ≤ 3 → 1 ≤ c l ∧ c l ≤ 16
/-- which blocks of memory are a stack's -/
def Uf (g k : Nat) (j : Nat) : Prop := j = g ∨ j = k
theorem uf_set {w w1 : World} {g k : Nat} (h : Chg w w1 (Uf g k) (Uf g k)) (i : Nat) (v : Value) : Chg w (w1.setCell ⟨g, i, none⟩ v) (Uf g k) (Uf g k) :=
  ⟨h.os, h.tape, h.output, by rw [setSize]; exact h.size, fun j h1 h2 => (Below.heap_setCell w1 ⟨g, i, none⟩ v j (fun e => h2 (.inl e))).trans (h.block j h1 h2), fun _ e => .inl e⟩
theorem uf_k {w w1 w2 : World} {g k : Nat} (h : Chg w w1 (Uf g k) (Uf g k)) (hc : Chg w1 w2 (· = k) (· = k)) : Chg w w2 (Uf g k) (Uf g k) :=
  h.trans ⟨hc.os, hc.tape, hc.output, hc.size, fun j h1 h2 => hc.block j h1 fun e => h2 (.inr e), fun _ e => .inl e⟩
section
variable {w w' : World} {g k : Nat} {c : Nat → Nat} {s : Us}
theorem Un.below (h : Un w g k c s) (hb : Below w.heap.size w w') : Un w' g k c s := ⟨h.box.next hb, h.sq.below hb, h.ne, h.cap⟩
theorem Un.draws (h : Un w g k c s) (n : Nat) : Un (w.drewN n) g k c s := h.below (below_draws (Below.refl _ _) n)
theorem Un.chg {F G : Nat → Prop} (h : Un w g k c s) (hc : Chg w w' F G) (h1 : ¬ F g) (h2 : ¬ F k) : Un w' g k c s := ⟨hc.bx h.box h1, h.sq.same (hc.block k h.sq.lt h2), h.ne, h.cap⟩
theorem Un.step {L : List Int} (h : Un w g k c s) (hs : Sq w' k [L]) (hc : Chg w w' (· = k) (· = k)) : Un w' g k c ⟨L, s.v⟩ := ⟨hc.bx h.box h.ne, hs, h.ne, h.cap⟩
theorem Un.c0 (h : Un w g k c s) : w.cell? ⟨g, 0, none⟩ = some (.pointer (some ⟨k, 0, none⟩)) := (h.box.cell 0).trans (uc_0 _ _ _)
theorem Un.cC (h : Un w g k c s) {l : Nat} (h1 : 1 ≤ l) (h3 : l ≤ 3) : w.cell? ⟨g, l, none⟩ = some (.int .i64 (c l)) := (h.box.cell l).trans (uc_c _ _ _ h1 h3)
theorem Un.cV (h : Un w g k c s) {p : Nat} (hp : p < 64) : w.cell? ⟨g, 4 + p, none⟩ = some (.int .i64 (s.v p)) := (h.box.cell _).trans (uc_v _ _ _ hp)
theorem Un.free (h : Un w g k c s) (i : Nat) : w.frozen? ⟨g, i, none⟩ = false := h.box.free i
theorem Un.setV (h : Un w g k c s) (p : Nat) (x : Int) : Un (w.setCell ⟨g, 4 + p, none⟩ (.int .i64 x)) g k c ⟨s.L, upd s.v p x⟩ := by
  have := h.box.set (4 + p) (.int .i64 x)
  rw [uc_set] at this
  exact ⟨this, h.sq.same (Below.heap_setCell w _ _ k (fun e => h.ne e.symm)), h.ne, h.cap⟩
end

set_option maxHeartbeats 400000 in
theorem ublock_any (w : World) (x : Int) : Calls Try.prog 28 #[.int .i64 x] w fun e w' => e = .returned (.bool (decide (vb x))) ∧ w = w' := by
  by_cases h0 : x < 0
  · have hd : decide ((0 : Int) ≤ x) = false := by simpa using h0
    have e : decide (vb x) = false := decide_eq_false fun h => by have := h.1; omega
    rw [e]
    go_enter Try.func28, Try.ntmps28
    go_wp2
    go_ret
    exact ⟨rfl, rfl⟩
  · have h1 : 0 ≤ x := by omega
    have e : decide (vb x) = decide (x < 64) := decide_eq_decide.2 ⟨fun h => h.2, fun h => ⟨h1, h⟩⟩
    rw [e]
    clear h0 e
    go_enter Try.func28, Try.ntmps28
    go_wp2
    go_ret
    exact ⟨rfl, rfl⟩
/-- a level of 1 to 3 -/
def lv (x : Int) : Prop := 1 ≤ x ∧ x ≤ 3
instance (x : Int) : Decidable (lv x) := inferInstanceAs (Decidable (_ ∧ _))
set_option maxHeartbeats 400000 in
theorem ulevel_any (w : World) (x : Int) : Calls Try.prog 35 #[.int .i64 x] w fun e w' => e = .returned (.bool (decide (lv x))) ∧ w = w' := by
  by_cases h0 : x < 1
  · have hd : decide ((1 : Int) ≤ x) = false := by simpa using h0
    have e : decide (lv x) = false := decide_eq_false fun h => by have := h.1; omega
    rw [e]
    go_enter Try.func35, Try.ntmps35
    go_wp2
    go_ret
    exact ⟨rfl, rfl⟩
  · have h1 : 1 ≤ x := by omega
    have e : decide (lv x) = decide (x ≤ 3) := decide_eq_decide.2 ⟨fun h => h.2, fun h => ⟨h1, h⟩⟩
    rw [e]
    clear h0 e
    go_enter Try.func35, Try.ntmps35
    go_wp2
    go_ret
    exact ⟨rfl, rfl⟩
section
variable {w : World} {g k : Nat} {c : Nat → Nat} {s : Us}
set_option maxHeartbeats 400000 in
theorem un_cap (h : Un w g k c s) {l : Nat} (h1 : 1 ≤ l) (h3 : l ≤ 3) : Calls Try.prog 45 #[.pointer (some ⟨g, 0, none⟩), .int .i64 l] w fun e w' => e = .returned (.int .i64 (c l)) ∧ w = w' := by
  have cc := h.cC h1 h3
  generalize c l = n at *
  clear h
  have h4 : l = 1 ∨ l = 2 ∨ l = 3 := by omega
  rcases h4 with rfl | rfl | rfl
  all_goals
    go_enter Try.func45, Try.ntmps45
    go_wp2
    go_ret
    exact ⟨rfl, rfl⟩
set_option maxHeartbeats 400000 in
theorem un_level (h : Un w g k c s) (ok : Oku s) (b : Int) : Calls Try.prog 19 #[.pointer (some ⟨g, 0, none⟩), .int .i64 b] w fun e w' => e = .returned (.int .i64 (s.v b)) ∧ w = w' := by
  have HB := hid (fun w => ublock_any w b)
  by_cases hv : vb b
  · rw [decide_eq_true hv] at HB
    obtain ⟨p, rfl⟩ : ∃ p : Nat, b = p := ⟨b.toNat, by have := hv.1; omega⟩
    have hp : p < 64 := by have := hv.2; omega
    have hpp : (p : Int) < 64 := by omega
    have cV := h.cV hp
    generalize s.v p = y at *
    clear h ok hv
    go_enter Try.func19, Try.ntmps19
    go_wp2_with (go_at_call 28; refine (HB.out _).mono ?_; rintro e w' ⟨rfl, rfl⟩)
    go_ret
    exact ⟨rfl, rfl⟩
  · rw [decide_eq_false hv] at HB
    rw [ok.out b fun e => hv (ok.lt b e)]
    clear h ok hv
    go_enter Try.func19, Try.ntmps19
    go_wp2_with (go_at_call 28; refine (HB.out _).mono ?_; rintro e w' ⟨rfl, rfl⟩)
    go_ret
    exact ⟨rfl, rfl⟩
set_option maxHeartbeats 400000 in
theorem un_level_nil (w : World) (b : Int) : Calls Try.prog 19 #[.pointer none, .int .i64 b] w fun e w' => e = .returned (.int .i64 0) ∧ w = w' := by
  go_enter Try.func19, Try.ntmps19
  go_wp2
  go_ret
  exact ⟨rfl, rfl⟩
set_option maxHeartbeats 400000 in
theorem un_all (h : Un w g k c s) : Calls Try.prog 22 #[.pointer (some ⟨g, 0, none⟩)] w (Told w s.L) := by
  have c0 := h.c0
  have HA := hid (all_in h.sq (i := 0) (l := s.L) rfl)
  clear h
  go_enter Try.func22, Try.ntmps22
  go_wp2_with (go_at_call 37; refine HA.out.mono ?_; rintro e w' ⟨A, c, rfl, ho, hg⟩; have HO := hid ho; have HG := hid hg; clear ho hg)
  go_ret
  exact ⟨A, c, rfl, HO.out, HG.out⟩
set_option maxHeartbeats 400000 in
theorem un_all_nil (w : World) : Calls Try.prog 22 #[.pointer none] w fun e w' => e = .returned (.slice none 0 0) ∧ w = w' := by
  go_enter Try.func22, Try.ntmps22
  go_wp2
  go_ret
  exact ⟨rfl, rfl⟩
/-- how many of the first j have a level -/
def cN (s : Us) (l : Int) (j : Nat) : Nat := (s.L.take j).countP fun b => s.v b == l
theorem cN_le (s : Us) (l : Int) (j : Nat) : cN s l j ≤ s.L.length := by
  unfold cN
  have h1 := List.countP_le_length (p := fun b => s.v b == l) (l := s.L.take j)
  rw [List.length_take] at h1
  omega
theorem cN_all (s : Us) (l : Int) : cN s l s.L.length = s.ct l := by unfold cN Us.ct; rw [List.take_length]
theorem cN_yes {s : Us} {l : Int} {j : Nat} (hj : j < s.L.length) (h : s.v s.L[j] = l) : cN s l (j + 1) = cN s l j + 1 := by
  unfold cN
  rw [List.take_succ_eq_append_getElem hj, List.countP_append, List.countP_singleton, if_pos (by simpa using h)]
theorem cN_no {s : Us} {l : Int} {j : Nat} (hj : j < s.L.length) (h : s.v s.L[j] ≠ l) : cN s l (j + 1) = cN s l j := by
  unfold cN
  rw [List.take_succ_eq_append_getElem hj, List.countP_append, List.countP_singleton, if_neg (by simpa using h), Nat.add_zero]
set_option maxRecDepth 10000 in
set_option maxHeartbeats 1000000 in
theorem un_count (h : Un w g k c s) (ok : Oku s) (l : Int) : Calls Try.prog 20 #[.pointer (some ⟨g, 0, none⟩), .int .i64 l] w fun e w' => e = .returned (.int .i64 (s.ct l)) ∧ Below w.heap.size w w' := by
  have HU := hid h
  have HK := hid ok
  have h64 := ok.len
  obtain ⟨n, hn⟩ : ∃ n, s.L.length = n := ⟨_, rfl⟩
  have HN := hid hn
  have HA := hid (un_all h)
  have HE := hid (cN_all s l)
  clear h ok
  rw [hn] at h64
  clear hn
  go_enter Try.func20, Try.ntmps20
  go_wp2_with (go_at_call 22; refine HA.out.mono ?_; rintro e w1 ⟨A, cp, rfl, ho, hg⟩; have HR := hid (rw_told ho hg).1; have HU1 := hid (HU.out.below hg.nilBelow); have HB1 := hid hg.nilBelow; rw [HN.out]; clear ho hg)
  go_loopg [5, 11] n (fun gk t5 t11 wr => ∃ j : Nat, j + gk = n ∧ t5 = .int .i64 (cN s l j) ∧ t11 = .int .i64 j ∧ Un wr g k c s ∧ Rw wr A s.L ∧ Below w.heap.size w wr)
  case atStart => exact ⟨0, by omega, rfl, rfl, HU1.out, HR.out, HB1.out⟩
  case round =>
    obtain ⟨j, hj, rfl, rfl, hu, hr, hb⟩ := hrel
    have HU2 := hid hu
    have HR2 := hid hr
    have HB2 := hid hb
    clear hu hr hb HU1 HR HB1
    by_cases hlt : j < n
    · have hjl : j < s.L.length := by rw [HN.out]; exact hlt
      obtain ⟨ad, rfl, hca⟩ := row_at HR2.out hjl
      have hv := HK.out.lt _ (List.getElem_mem hjl)
      have HY := hid (fun e => cN_yes (s := s) (l := l) hjl e)
      have HNO := hid (fun e => cN_no (s := s) (l := l) hjl e)
      generalize s.L[j] = x at *
      obtain ⟨p, rfl⟩ : ∃ p : Nat, x = p := ⟨x.toNat, by omega⟩
      have hp : p < 64 := by omega
      have hpp : (p : Int) < 64 := by omega
      have cV := HU2.out.cV hp
      have hjn : (j : Int) < (n : Int) := by omega
      have hle := cN_le s l j
      rw [HN.out] at hle
      generalize cN s l j = m at *
      clear hjl hv
      generalize hy : s.v p = y at *
      by_cases he : y = l
      · subst he
        have HC := hid (HY.out rfl)
        clear HY HNO
        go_wp2
        go_roundg (gk - 1)
        case measure => omega
        case rel => exact ⟨j + 1, by omega, by rw [HC.out]; go_num, by go_num, HU2.out, HR2.out, HB2.out⟩
      · have HC := hid (HNO.out he)
        have hne : (y == l) = false := by simpa using he
        clear HY HNO
        go_wp2
        go_roundg (gk - 1)
        case measure => omega
        case rel => exact ⟨j + 1, by omega, by rw [HC.out], by go_num, HU2.out, HR2.out, HB2.out⟩
    · obtain rfl : j = n := by omega
      rw [HN.out] at HE
      rw [HE.out]
      go_wp2
      go_ret
      exact ⟨rfl, HB2.out⟩
set_option maxHeartbeats 400000 in
theorem un_count_nil (w : World) (l : Int) : Calls Try.prog 20 #[.pointer none, .int .i64 l] w fun e w' => e = .returned (.int .i64 0) ∧ w = w' := by
  go_enter Try.func20, Try.ntmps20
  go_wp2_with (go_at_call 22; refine (un_all_nil _).mono ?_; rintro e w1 ⟨rfl, rfl⟩)
  go_loopg [5, 11] 1 (fun _ t5 t11 wr => t5 = .int .i64 0 ∧ t11 = .int .i64 0 ∧ wr = w)
  case atStart => exact ⟨rfl, rfl, rfl⟩
  case round =>
    obtain ⟨rfl, rfl, rfl⟩ := hrel
    go_wp2
    go_ret
    exact ⟨rfl, rfl⟩
set_option maxHeartbeats 400000 in
theorem un_forget (h : Un w g k c s) {b : Int} (hb : vb b) : Calls Try.prog 24 #[.pointer (some ⟨g, 0, none⟩), .int .i64 b] w fun e w' => e = .returned (.tuple #[]) ∧ Un w' g k c (s.fg b) ∧ Chg w w' (Uf g k) (Uf g k) := by
  obtain ⟨p, rfl⟩ : ∃ p : Nat, b = p := ⟨b.toNat, by have := hb.1; omega⟩
  have hp : p < 64 := by have := hb.2; omega
  have hpp : (p : Int) < 64 := by omega
  have c0 := h.c0
  have HR := hid (remove_any h.sq (p : Int))
  rw [show woS (p : Int) [s.L] = [wo (p : Int) s.L] from rfl] at HR
  have HU := hid h
  clear h hb
  go_enter Try.func24, Try.ntmps24
  go_upto_region 1 with (go_at_call 39; refine HR.out.mono ?_; rintro e w1 ⟨rfl, hs, hc⟩; have HU1 := hid (HU.out.step hs hc); have HC1 := hid (uf_k (Chg.refl w (Uf g k)) hc); clear hs hc)
  clear c0
  have cV := HU1.out.cV hp
  have bf := HU1.out.free
  go_wp2
  refine bodyPost_end (results_none rfl _ _ _) rfl ?_
  exact ⟨rfl, HU1.out.setV p 0, uf_set HC1.out _ _⟩
end
end Go.Proofs.Ytmkpimpckhppgaa
