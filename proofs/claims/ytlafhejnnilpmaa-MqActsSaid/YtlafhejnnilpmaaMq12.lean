/-
  What is proved: what an MQ in memory is (a block of 134 cells: its space, its shape, the time, how often, when they expire), and what it becomes when one of these is stored; mq's within, right, Has, Often, Queue, Ghosts, All, Len. Condition: the MQ lies in memory as one.
-/
import Derived.Test.YtlafhejnnilpmaaPu12
import Derived.Test.YtlafhejnnilpmaaLk10
import Derived.Test.YtlafhejnnilpmaaAl10
import Derived.Test.YtlafhejnnilpmaaNw10
import Derived.Deep.RegionHeld3
import Derived.BigQuiet
namespace Go.Proofs.Ytlafhejnnilpmaa
open Go.RowKit

/-- the cells of an MQ -/
def mcf (C N L H t : Nat) (o x : Int → Int) (i : Nat) : Int := if i = 1 then C else if i = 2 then N else if i = 3 then L else if i = 4 then H else if i = 5 then t else if i < 70 then o ((i - 6 : Nat) : Int) else x ((i - 70 : Nat) : Int)
def mc (k C N L H t : Nat) (o x : Int → Int) : Array Value := Array.ofFn (n := 134) fun i => if i.1 = 0 then .pointer (some ⟨k, 0, none⟩) else .int .i64 (mcf C N L H t o x i)
section
variable (k C N L H t : Nat) (o x : Int → Int)
theorem mc_size : (mc k C N L H t o x).size = 134 := by simp [mc]
theorem mc_at {i : Nat} (h : i < 134) (h0 : i ≠ 0) : (mc k C N L H t o x)[i]? = some (.int .i64 (mcf C N L H t o x i)) := by simp [mc, h, h0]
theorem mc_0 : (mc k C N L H t o x)[0]? = some (.pointer (some ⟨k, 0, none⟩)) := by simp [mc]
theorem mc_o {p : Nat} (h : p < 64) : (mc k C N L H t o x)[6 + p]? = some (.int .i64 (o p)) := by
  rw [mc_at _ _ _ _ _ _ _ _ (by omega) (by omega)]; unfold mcf
  rw [if_neg (by omega), if_neg (by omega), if_neg (by omega), if_neg (by omega), if_neg (by omega), if_pos (by omega), show 6 + p - 6 = p from by omega]
theorem mc_x {p : Nat} (h : p < 64) : (mc k C N L H t o x)[70 + p]? = some (.int .i64 (x p)) := by
  rw [mc_at _ _ _ _ _ _ _ _ (by omega) (by omega)]; unfold mcf
  rw [if_neg (by omega), if_neg (by omega), if_neg (by omega), if_neg (by omega), if_neg (by omega), if_neg (by omega), show 70 + p - 70 = p from by omega]
theorem mc_set {t' : Nat} {o' x' : Int → Int} {i : Nat} {v : Int} (h0 : i ≠ 0) (h : ∀ j, j < 134 → j ≠ 0 → mcf C N L H t' o' x' j = if i = j then v else mcf C N L H t o x j) : (mc k C N L H t o x).setIfInBounds i (.int .i64 v) = mc k C N L H t' o' x' := by
  refine Array.ext (by simp [mc]) fun j h1 h2 => ?_
  have hj : j < 134 := by rw [mc_size] at h2; exact h2
  rw [Array.getElem_setIfInBounds (by simpa using h1)]
  simp only [mc, Array.getElem_ofFn]
  by_cases hz : j = 0
  · rw [if_pos hz, if_pos hz, if_neg (by omega)]
  · rw [if_neg hz, if_neg hz, h j hj hz]
    split <;> rfl
theorem mc_setT (t' : Nat) : (mc k C N L H t o x).setIfInBounds 5 (.int .i64 t') = mc k C N L H t' o x := mc_set _ _ _ _ _ _ _ _ (by omega) fun j hj h0 => by
  unfold mcf
  by_cases h5 : 5 = j
  · subst h5; simp
  · rw [if_neg h5, if_neg (show ¬ j = 5 from by omega), if_neg (show ¬ j = 5 from by omega)]
theorem mc_setO {p : Nat} (h : p < 64) (v : Int) : (mc k C N L H t o x).setIfInBounds (6 + p) (.int .i64 v) = mc k C N L H t (upd o p v) x := mc_set _ _ _ _ _ _ _ _ (by omega) fun j hj h0 => by
  unfold mcf upd
  by_cases hp : 6 + p = j
  · rw [if_pos hp, if_neg (by omega), if_neg (by omega), if_neg (by omega), if_neg (by omega), if_neg (by omega), if_pos (by omega), if_pos (by omega)]
  · rw [if_neg hp]
    by_cases h70 : j < 70
    · rw [if_pos h70, if_pos h70]
      by_cases h5 : j ≤ 5
      · have h15 : j = 1 ∨ j = 2 ∨ j = 3 ∨ j = 4 ∨ j = 5 := by omega
        rcases h15 with rfl | rfl | rfl | rfl | rfl <;> simp
      · rw [if_neg (show ¬ ((j - 6 : Nat) : Int) = p from by omega)]
    · rw [if_neg h70, if_neg h70]
theorem mc_setX {p : Nat} (v : Int) : (mc k C N L H t o x).setIfInBounds (70 + p) (.int .i64 v) = mc k C N L H t o (upd x p v) := mc_set _ _ _ _ _ _ _ _ (by omega) fun j hj h0 => by
  unfold mcf upd
  by_cases hp : 70 + p = j
  · rw [if_pos hp, if_neg (by omega), if_neg (by omega), if_neg (by omega), if_neg (by omega), if_neg (by omega), if_neg (by omega), if_pos (by omega)]
  · rw [if_neg hp]
    by_cases h70 : j < 70
    · rw [if_pos h70, if_pos h70]
    · rw [if_neg h70, if_neg h70, if_neg (show ¬ ((j - 70 : Nat) : Int) = p from by omega)]
end
/-- block g is an MQ of this shape, its space lies at k -/
structure Mq (w : World) (g k C N L H : Nat) (m : Ms) : Prop where
  box : Bx w g 57 (mc k C N L H m.t m.o m.x)
  sq : Sq w k m.S
  ne : g ≠ k
/-- which blocks of memory are an MQ's -/
def Mf (g k : Nat) (j : Nat) : Prop := j = g ∨ j = k
theorem mf_set {w w1 : World} {g k : Nat} (h : Chg w w1 (Mf g k) (Mf g k)) (i : Nat) (v : Value) : Chg w (w1.setCell ⟨g, i, none⟩ v) (Mf g k) (Mf g k) :=
  ⟨h.os, h.tape, h.output, by rw [setSize]; exact h.size, fun j h1 h2 => (Below.heap_setCell w1 ⟨g, i, none⟩ v j (fun e => h2 (.inl e))).trans (h.block j h1 h2), fun _ e => .inl e⟩
theorem mf_k {w w1 w2 : World} {g k : Nat} (h : Chg w w1 (Mf g k) (Mf g k)) (hc : Chg w1 w2 (· = k) (· = k)) : Chg w w2 (Mf g k) (Mf g k) :=
  h.trans ⟨hc.os, hc.tape, hc.output, hc.size, fun j h1 h2 => hc.block j h1 fun e => h2 (.inr e), fun _ e => .inl e⟩
section
variable {w w' : World} {g k C N L H : Nat} {m : Ms}
theorem Mq.below (h : Mq w g k C N L H m) (hb : Below w.heap.size w w') : Mq w' g k C N L H m := ⟨h.box.next hb, h.sq.below hb, h.ne⟩
theorem Mq.draws (h : Mq w g k C N L H m) (n : Nat) : Mq (w.drewN n) g k C N L H m := h.below (below_draws (Below.refl _ _) n)
theorem Mq.chg {F G : Nat → Prop} (h : Mq w g k C N L H m) (hc : Chg w w' F G) (h1 : ¬ F g) (h2 : ¬ F k) : Mq w' g k C N L H m := ⟨hc.bx h.box h1, h.sq.same (hc.block k h.sq.lt h2), h.ne⟩
theorem Mq.step {S : List (List Int)} (h : Mq w g k C N L H m) (hs : Sq w' k S) (hc : Chg w w' (· = k) (· = k)) : Mq w' g k C N L H { m with S := S } := ⟨hc.bx h.box h.ne, hs, h.ne⟩
theorem Mq.c0 (h : Mq w g k C N L H m) : w.cell? ⟨g, 0, none⟩ = some (.pointer (some ⟨k, 0, none⟩)) := (h.box.cell 0).trans (mc_0 _ _ _ _ _ _ _ _)
theorem Mq.c1 (h : Mq w g k C N L H m) : w.cell? ⟨g, 1, none⟩ = some (.int .i64 C) := (h.box.cell 1).trans (mc_at _ _ _ _ _ _ _ _ (by omega) (by omega))
theorem Mq.c2 (h : Mq w g k C N L H m) : w.cell? ⟨g, 2, none⟩ = some (.int .i64 N) := (h.box.cell 2).trans (mc_at _ _ _ _ _ _ _ _ (by omega) (by omega))
theorem Mq.c3 (h : Mq w g k C N L H m) : w.cell? ⟨g, 3, none⟩ = some (.int .i64 L) := (h.box.cell 3).trans (mc_at _ _ _ _ _ _ _ _ (by omega) (by omega))
theorem Mq.c4 (h : Mq w g k C N L H m) : w.cell? ⟨g, 4, none⟩ = some (.int .i64 H) := (h.box.cell 4).trans (mc_at _ _ _ _ _ _ _ _ (by omega) (by omega))
theorem Mq.c5 (h : Mq w g k C N L H m) : w.cell? ⟨g, 5, none⟩ = some (.int .i64 m.t) := (h.box.cell 5).trans (mc_at _ _ _ _ _ _ _ _ (by omega) (by omega))
theorem Mq.cO (h : Mq w g k C N L H m) {p : Nat} (hp : p < 64) : w.cell? ⟨g, 6 + p, none⟩ = some (.int .i64 (m.o p)) := (h.box.cell _).trans (mc_o _ _ _ _ _ _ _ _ hp)
theorem Mq.cX (h : Mq w g k C N L H m) {p : Nat} (hp : p < 64) : w.cell? ⟨g, 70 + p, none⟩ = some (.int .i64 (m.x p)) := (h.box.cell _).trans (mc_x _ _ _ _ _ _ _ _ hp)
theorem Mq.free (h : Mq w g k C N L H m) (i : Nat) : w.frozen? ⟨g, i, none⟩ = false := h.box.free i
theorem Mq.setT (h : Mq w g k C N L H m) (t' : Nat) : Mq (w.setCell ⟨g, 5, none⟩ (.int .i64 t')) g k C N L H { m with t := t' } := by
  have := h.box.set 5 (.int .i64 t')
  rw [mc_setT] at this
  exact ⟨this, h.sq.same (Below.heap_setCell w _ _ k (fun e => h.ne e.symm)), h.ne⟩
theorem Mq.setO (h : Mq w g k C N L H m) {p : Nat} (hp : p < 64) (v : Int) : Mq (w.setCell ⟨g, 6 + p, none⟩ (.int .i64 v)) g k C N L H { m with o := upd m.o p v } := by
  have := h.box.set (6 + p) (.int .i64 v)
  rw [mc_setO _ _ _ _ _ _ _ _ hp] at this
  exact ⟨this, h.sq.same (Below.heap_setCell w _ _ k (fun e => h.ne e.symm)), h.ne⟩
theorem Mq.setX (h : Mq w g k C N L H m) {p : Nat} (v : Int) : Mq (w.setCell ⟨g, 70 + p, none⟩ (.int .i64 v)) g k C N L H { m with x := upd m.x p v } := by
  have := h.box.set (70 + p) (.int .i64 v)
  rw [mc_setX] at this
  exact ⟨this, h.sq.same (Below.heap_setCell w _ _ k (fun e => h.ne e.symm)), h.ne⟩
end

set_option maxHeartbeats 400000 in
theorem within_any (n a b : Int) (w : World) : Calls Try.prog 42 #[.int .i64 n, .int .i64 a, .int .i64 b] w fun e w' => e = .returned (.bool (decide (a ≤ n ∧ n ≤ b))) ∧ w = w' := by
  by_cases h1 : a ≤ n
  · have e : decide (a ≤ n ∧ n ≤ b) = decide (n ≤ b) := decide_eq_decide.2 ⟨fun h => h.2, fun h => ⟨h1, h⟩⟩
    rw [e]
    clear e
    go_enter Try.func42, Try.ntmps42
    go_wp2
    go_ret
    exact ⟨rfl, rfl⟩
  · have e : decide (a ≤ n ∧ n ≤ b) = false := decide_eq_false fun h => h1 h.1
    rw [e]
    clear e
    go_enter Try.func42, Try.ntmps42
    go_wp2
    go_ret
    exact ⟨rfl, rfl⟩
/-- a shape that may be -/
def shp (c n l h : Int) : Prop := (1 ≤ c ∧ c ≤ 16) ∧ (1 ≤ n ∧ n ≤ 8) ∧ (1 ≤ l ∧ l ≤ 100) ∧ (0 ≤ h ∧ h ≤ 16)
instance (c n l h : Int) : Decidable (shp c n l h) := inferInstanceAs (Decidable (_ ∧ _))
set_option maxHeartbeats 1000000 in
theorem right_any (c n l h : Int) (w : World) : Calls Try.prog 30 #[.agg #[.int .i64 c, .int .i64 n, .int .i64 l, .int .i64 h]] w fun e w' => e = .returned (.bool (decide (shp c n l h))) ∧ Below w.heap.size w w' := by
  have HB := hid (below_alloc w (.cells #[.int .i64 c, .int .i64 n, .int .i64 l, .int .i64 h] 23))
  have HC := hid (fun w => within_any c 1 16 w)
  have HN := hid (fun w => within_any n 1 8 w)
  have HL := hid (fun w => within_any l 1 100 w)
  have HH := hid (fun w => within_any h 0 16 w)
  by_cases h1 : 1 ≤ c ∧ c ≤ 16
  · rw [decide_eq_true h1] at HC
    by_cases h2 : 1 ≤ n ∧ n ≤ 8
    · rw [decide_eq_true h2] at HN
      by_cases h3 : 1 ≤ l ∧ l ≤ 100
      · rw [decide_eq_true h3] at HL
        have e : decide (shp c n l h) = decide (0 ≤ h ∧ h ≤ 16) := decide_eq_decide.2 ⟨fun h => h.2.2.2, fun h => ⟨h1, h2, h3, h⟩⟩
        rw [e]
        generalize decide (0 ≤ h ∧ h ≤ 16) = b at *
        clear e h1 h2 h3
        go_enter Try.func30, Try.ntmps30
        go_wp2_with (go_at_call 42; (first | (with_reducible refine (HC.out _).mono ?_) | (with_reducible refine (HN.out _).mono ?_) | (with_reducible refine (HL.out _).mono ?_) | (with_reducible refine (HH.out _).mono ?_)); rintro e w' ⟨rfl, rfl⟩)
        go_ret
        exact ⟨rfl, HB.out⟩
      · rw [decide_eq_false h3] at HL
        rw [decide_eq_false (show ¬ shp c n l h from fun e => h3 e.2.2.1)]
        clear h1 h2 h3
        go_enter Try.func30, Try.ntmps30
        go_wp2_with (go_at_call 42; (first | (with_reducible refine (HC.out _).mono ?_) | (with_reducible refine (HN.out _).mono ?_) | (with_reducible refine (HL.out _).mono ?_)); rintro e w' ⟨rfl, rfl⟩)
        go_ret
        exact ⟨rfl, HB.out⟩
    · rw [decide_eq_false h2] at HN
      rw [decide_eq_false (show ¬ shp c n l h from fun e => h2 e.2.1)]
      clear h1 h2
      go_enter Try.func30, Try.ntmps30
      go_wp2_with (go_at_call 42; (first | (with_reducible refine (HC.out _).mono ?_) | (with_reducible refine (HN.out _).mono ?_)); rintro e w' ⟨rfl, rfl⟩)
      go_ret
      exact ⟨rfl, HB.out⟩
  · rw [decide_eq_false h1] at HC
    rw [decide_eq_false (show ¬ shp c n l h from fun e => h1 e.1)]
    clear h1
    go_enter Try.func30, Try.ntmps30
    go_wp2_with (go_at_call 42; (with_reducible refine (HC.out _).mono ?_); rintro e w' ⟨rfl, rfl⟩)
    go_ret
    exact ⟨rfl, HB.out⟩
section
variable {w : World} {g k C N L H : Nat} {m : Ms}
set_option maxHeartbeats 400000 in
theorem mq_has (h : Mq w g k C N L H m) (ok : Okm C N L H m) (b : Int) : Calls Try.prog 19 #[.pointer (some ⟨g, 0, none⟩), .int .i64 b] w fun e w' => e = .returned (.bool (decide (b ∈ m.al))) ∧ w = w' := by
  have c0 := h.c0
  by_cases hx : inS m.S b
  · obtain ⟨i, hi⟩ := inS_gd.1 hx
    obtain ⟨hl, hs⟩ := gd_mem hi
    rw [ok.len] at hl
    have HO := hid (of_yes h.sq hs hi)
    have e : (b ∈ m.al) ↔ i ≠ 8 := ⟨fun hb => by
      obtain ⟨j, hj, hm⟩ := ok.there hb
      have := ok.wf.same hi hm
      have := ok.n
      omega, fun hne => mem_alls.2 ⟨i, by omega, hi⟩⟩
    by_cases h8 : i = 8
    · rw [decide_eq_false fun hb => (e.1 hb) h8]
      subst h8
      clear h ok hx hi hl hs e
      go_enter Try.func19, Try.ntmps19
      go_wp2_with (go_at_call 40; refine HO.out.mono ?_; rintro e w' ⟨rfl, rfl⟩)
      go_ret
      exact ⟨rfl, rfl⟩
    · rw [decide_eq_true (e.2 h8)]
      have hd : ((i : Int) != 8) = true := by simp; omega
      have hd2 : decide ((i : Int) = 8) = false := by simp; omega
      have hi8 : i < 8 := by omega
      clear h ok hx hi hl hs e h8
      go_enter Try.func19, Try.ntmps19
      go_wp2_with (go_at_call 40; refine HO.out.mono ?_; rintro e w' ⟨rfl, rfl⟩)
      go_ret
      exact ⟨by simp [], rfl⟩
  · rw [decide_eq_false fun hb => hx (ok.in_al hb)]
    have HO := hid (of_no h.sq hx)
    clear h ok hx
    go_enter Try.func19, Try.ntmps19
    go_wp2_with (go_at_call 40; refine HO.out.mono ?_; rintro e w' ⟨rfl, rfl⟩)
    go_ret
    exact ⟨rfl, rfl⟩
set_option maxHeartbeats 400000 in
theorem mq_has_nil (w : World) (b : Int) : Calls Try.prog 19 #[.pointer none, .int .i64 b] w fun e w' => e = .returned (.bool false) ∧ w = w' := by
  go_enter Try.func19, Try.ntmps19
  go_wp2
  go_ret
  exact ⟨rfl, rfl⟩
set_option maxHeartbeats 400000 in
theorem mq_often (h : Mq w g k C N L H m) (ok : Okm C N L H m) (b : Int) : Calls Try.prog 21 #[.pointer (some ⟨g, 0, none⟩), .int .i64 b] w fun e w' => e = .returned (.int .i64 (m.o b)) ∧ w = w' := by
  by_cases h0 : b < 0
  · rw [ok.o0 b fun e => by have := ok.lt e; omega]
    clear h ok
    go_enter Try.func21, Try.ntmps21
    go_wp2
    go_ret
    exact ⟨rfl, rfl⟩
  · by_cases h64 : 64 ≤ b
    · rw [ok.o0 b fun e => by have := ok.lt e; omega]
      clear h ok
      go_enter Try.func21, Try.ntmps21
      go_wp2
      go_ret
      exact ⟨rfl, rfl⟩
    · obtain ⟨p, rfl⟩ : ∃ p : Nat, b = p := ⟨b.toNat, by omega⟩
      have hp : p < 64 := by omega
      have hpp : (p : Int) < 64 := by omega
      have cO := h.cO hp
      clear h ok
      go_enter Try.func21, Try.ntmps21
      go_wp2
      go_ret
      exact ⟨rfl, rfl⟩
set_option maxHeartbeats 400000 in
theorem mq_often_nil (w : World) (b : Int) : Calls Try.prog 21 #[.pointer none, .int .i64 b] w fun e w' => e = .returned (.int .i64 0) ∧ w = w' := by
  go_enter Try.func21, Try.ntmps21
  go_wp2
  go_ret
  exact ⟨rfl, rfl⟩
set_option maxHeartbeats 400000 in
theorem mq_ghosts (h : Mq w g k C N L H m) (ok : Okm C N L H m) : Calls Try.prog 26 #[.pointer (some ⟨g, 0, none⟩)] w (Told w (m.S.getD 8 [])) := by
  have c0 := h.c0
  have HA := hid (all_in h.sq (gd_some (i := 8) (by rw [ok.len]; omega)))
  clear h ok
  go_enter Try.func26, Try.ntmps26
  go_wp2_with (go_at_call 41; refine HA.out.mono ?_; rintro e w' ⟨A, c, rfl, ho, hg⟩; have HO := hid ho; have HG := hid hg; clear ho hg)
  go_ret
  exact ⟨A, c, rfl, HO.out, HG.out⟩
set_option maxHeartbeats 400000 in
theorem mq_ghosts_nil (w : World) : Calls Try.prog 26 #[.pointer none] w fun e w' => e = .returned (.slice none 0 0) ∧ w = w' := by
  go_enter Try.func26, Try.ntmps26
  go_wp2
  go_ret
  exact ⟨rfl, rfl⟩
set_option maxHeartbeats 400000 in
theorem mq_queue (h : Mq w g k C N L H m) (ok : Okm C N L H m) {i : Nat} (hi : i < N) : Calls Try.prog 29 #[.pointer (some ⟨g, 0, none⟩), .int .i64 i] w (Told w (m.S.getD i [])) := by
  have c0 := h.c0
  have c2 := h.c2
  have HA := hid (all_in h.sq (gd_some (i := i) (by rw [ok.len]; have := ok.n; omega)))
  have hd : decide ((N : Int) ≤ (i : Int)) = false := by simp; omega
  clear h ok
  go_enter Try.func29, Try.ntmps29
  go_wp2_with (go_at_call 41; refine HA.out.mono ?_; rintro e w' ⟨A, c, rfl, ho, hg⟩; have HO := hid ho; have HG := hid hg; clear ho hg)
  go_ret
  exact ⟨A, c, rfl, HO.out, HG.out⟩
set_option maxHeartbeats 400000 in
theorem mq_queue_over (h : Mq w g k C N L H m) {i : Int} (hi : (N : Int) ≤ i) : Calls Try.prog 29 #[.pointer (some ⟨g, 0, none⟩), .int .i64 i] w (Told w []) := by
  have c2 := h.c2
  have hd : decide ((N : Int) ≤ i) = true := by simpa using hi
  clear h
  go_enter Try.func29, Try.ntmps29
  go_wp2
  go_ret
  exact ⟨_, _, rfl, ownW_nil _ _, GrW.refl _ _⟩
set_option maxHeartbeats 400000 in
theorem mq_queue_under (h : Mq w g k C N L H m) {i : Int} (hi : i < 0) : Calls Try.prog 29 #[.pointer (some ⟨g, 0, none⟩), .int .i64 i] w (Told w []) := by
  have c0 := h.c0
  have c2 := h.c2
  have HA := hid (all_out h.sq (x := i) (fun e => by have := e.1; omega))
  have hd : decide ((N : Int) ≤ i) = false := by simp; omega
  clear h
  go_enter Try.func29, Try.ntmps29
  go_wp2_with (go_at_call 41; refine HA.out.mono ?_; rintro e w' ⟨A, c, rfl, ho, hg⟩; have HO := hid ho; have HG := hid hg; clear ho hg)
  go_ret
  exact ⟨A, c, rfl, HO.out, HG.out⟩
set_option maxHeartbeats 400000 in
theorem mq_queue_nil (w : World) (i : Int) : Calls Try.prog 29 #[.pointer none, .int .i64 i] w fun e w' => e = .returned (.slice none 0 0) ∧ w = w' := by
  go_enter Try.func29, Try.ntmps29
  go_wp2
  go_ret
  exact ⟨rfl, rfl⟩
theorem told_rv {w' : World} {l : List Int} {A : Option Addr} {c : Nat} (ho : OwnW w' 3 (.slice A l.length c) (ints l)) : Rv w' w'.heap.size A (ints l) := by
  obtain ⟨A', c', e', hr, h1, h2⟩ := ho.read
  simp only [Value.slice.injEq] at e'
  obtain ⟨rfl, -, rfl⟩ := e'
  exact hr
theorem ints_app (l l' : List Int) : ints (l ++ l') = ints l ++ ints l' := List.map_append
set_option maxRecDepth 10000 in
set_option maxHeartbeats 1000000 in
theorem mq_all (h : Mq w g k C N L H m) (ok : Okm C N L H m) : Calls Try.prog 25 #[.pointer (some ⟨g, 0, none⟩)] w (Told w m.al) := by
  have c2 := h.c2
  have HM := hid h
  have HK := hid ok
  have h8 := ok.n
  have HG0 := hid (GrW.refl w nl)
  clear h ok
  go_enter Try.func25, Try.ntmps25
  go_wp2
  clear c2
  go_loopg [3, 4] N (fun gk s t wr => ∃ (out : List Int) (v : Value), v = s ∧ t = .int .i64 ((gk : Int) - 1) ∧ gk ≤ N ∧ out ++ alls m.S gk = m.al ∧ OwnW wr 3 v (ints out) ∧ GrW w wr nl v)
  case atStart => exact ⟨[], _, rfl, rfl, Nat.le_refl _, by rw [List.nil_append]; exact HK.out.allsN, ownW_nil _ _, HG0.out⟩
  case round =>
    obtain ⟨out, v, rfl, rfl, hle, hal, ho, hg⟩ := hrel
    have HO := hid ho
    have HG := hid hg
    have HAL := hid hal
    obtain ⟨A, c0, e0, -⟩ := ho.read
    rw [ints_length] at e0
    subst e0
    have h64 : (out ++ alls m.S gk).length ≤ 64 := by rw [hal]; have := HK.out.cap; have := HK.out.c; omega
    rw [List.length_append] at h64
    clear ho hg hal
    cases gk with
    | zero =>
      obtain rfl : out = m.al := by have := HAL.out; unfold alls at this; rw [List.append_nil] at this; exact this
      go_wp2
      go_ret
      exact ⟨_, _, rfl, HO.out, HG.out⟩
    | succ j =>
      have hj : j < N := by omega
      have hlen : (m.S.getD j []).length + (alls m.S j).length = (alls m.S (j + 1)).length := by show _ = (m.S.getD j [] ++ alls m.S j).length; rw [List.length_append]
      have HLE := hid (show out.length + (m.S.getD j []).length ≤ 64 from by omega)
      have HN2 := hid (show (out ++ m.S.getD j []) ++ alls m.S j = m.al from by rw [List.append_assoc]; exact HAL.out)
      have HQ := hid (mq_queue (HM.out.below HG.out.nilBelow) HK.out hj)
      have ej : ((j + 1 : Nat) : Int) - 1 = j := by omega
      rw [ej]
      obtain ⟨n0, hn0⟩ : ∃ n, out.length = n := ⟨_, rfl⟩
      rw [hn0] at HLE HG HO ⊢
      have HN0 := hid hn0
      generalize m.S.getD j [] = lq at *
      clear h64 hlen HAL ej hn0
      go_wp2_with (first
        | (go_at_call 29; refine HQ.out.mono ?_; rintro e w2 ⟨B, cB, rfl, hob, hgb⟩; (have HR2 := hid (told_rv hob); have HO2 := hid (HO.out.below hgb.nilBelow); have HG2 := hid (HG.out.trans (GrW.of hgb.nilBelow _)); clear hob hgb))
        | (at_builtin; (refine wpList_appW elt_int rfl (.tmp 17) (.tmp 20) rfl _ _ HO2.out rfl _ _ lq.length _ (ints lq) rfl (ints_length _) HR2.out (ints_one _) (by rw [ints_length, HN0.out]; unfold maxLen; have := HLE.out; omega) (by rw [ints_length, HN0.out]; have := HLE.out; omega) ?_); (intro v3 w3 ho3 hg3; have HO3 := hid ho3; have HG3 := hid (HG2.out.trans hg3); clear ho3 hg3)))
      go_roundg j
      case measure => omega
      case rel => exact ⟨out ++ lq, v3, rfl, by go_num, by omega, HN2.out, by rw [ints_app]; exact HO3.out, HG3.out⟩
set_option maxHeartbeats 400000 in
theorem mq_all_nil (w : World) : Calls Try.prog 25 #[.pointer none] w fun e w' => e = .returned (.slice none 0 0) ∧ w = w' := by
  go_enter Try.func25, Try.ntmps25
  go_wp2
  go_ret
  exact ⟨rfl, rfl⟩
set_option maxHeartbeats 400000 in
theorem mq_len (h : Mq w g k C N L H m) (ok : Okm C N L H m) : Calls Try.prog 28 #[.pointer (some ⟨g, 0, none⟩)] w fun e w' => e = .returned (.int .i64 m.al.length) ∧ Below w.heap.size w w' := by
  have HA := hid (mq_all h ok)
  clear h ok
  go_enter Try.func28, Try.ntmps28
  go_wp2_with (go_at_call 25; refine HA.out.mono ?_; rintro e w' ⟨A, c, rfl, ho, hg⟩; have HG := hid hg.nilBelow; clear ho hg)
  go_ret
  exact ⟨rfl, HG.out⟩
set_option maxHeartbeats 400000 in
theorem mq_len_nil (w : World) : Calls Try.prog 28 #[.pointer none] w fun e w' => e = .returned (.int .i64 0) ∧ w = w' := by
  go_enter Try.func28, Try.ntmps28
  go_wp2_with (go_at_call 25; refine (mq_all_nil _).mono ?_; rintro e w' ⟨rfl, rfl⟩)
  go_ret
  exact ⟨rfl, rfl⟩
end
end Go.Proofs.Ytlafhejnnilpmaa
