/-
  What is proved: what an MQ in memory is (a block of 134 cells: its space, its shape, the time, how often, when they expire), and what it becomes when one of these is stored; mq's within, right, Has, Often, Queue, Ghosts, All, Len. Condition: the MQ lies in memory as one.
  (Left out here, as nothing of this law reaches it: mq_often, mq_often_nil, mq_ghosts, mq_ghosts_nil.) -/
import Derived.Test.YtbcejfonkehjgaaGreatDoorK01
import Derived.Test.YtbcejfonkehjgaaGreatDoorK03
import Derived.Test.YtbcejfonkehjgaaGreatDoorK04
import Derived.Deep.RegionHeld3
import Derived.BigQuiet
import Derived.Lib.Tables
import Derived.BigRegion
import Derived.BigFrame
namespace Go.Proofs.YtbcejfonkehjgaaGreatDoor
open Go.RowKit

def mcf (C N L H t : Nat) (o x : Int → Int) (i : Nat) : Int := if i = 1 then C else if i = 2 then N else if i = 3 then L else if i = 4 then H else if i = 5 then t else if i < 70 then o ((i - 6 : Nat) : Int) else x ((i - 70 : Nat) : Int)
def mc (k C N L H t : Nat) (o x : Int → Int) : Array Value := Array.ofFn (n := 134) fun i => if i.1 = 0 then .pointer (some ⟨k, 0, none⟩) else .int .i64 (mcf C N L H t o x i)
section
variable (k C N L H t : Nat) (o x : Int → Int)
theorem mc_size : (mc k C N L H t o x).size = 134 := by simp [mc]
theorem mc_at {i : Nat} (h : i < 134) (h0 : i ≠ 0) : (mc k C N L H t o x)[i]? = some (.int .i64 (mcf C N L H t o x i)) := by simp [mc, h, h0]
theorem mc_0 : (mc k C N L H t o x)[0]? = some (.pointer (some ⟨k, 0, none⟩)) := by simp [mc]
theorem mc_o {p : Nat} (h : p < 64) : (mc k C N L H t o x)[6 + p]? = some (.int .i64 (o p)) := by
  rw [mc_at _ _ _ _ _ _ _ _ (by omega) (by omega)]; unfold mcf
  rw [if_neg (by omega), if_neg (by omega), if_neg (by omega), if_neg (by omega), if_neg (by omega), if_pos (by omega), show 6 + p - 6 = p from by omega]
theorem mc_x {p : Nat} (h : p < 64) : (mc k C N L H t o x)[70 + p]? = some (.int .i64 (x p)) := by
  rw [mc_at _ _ _ _ _ _ _ _ (by omega) (by omega)]; unfold mcf
  rw [if_neg (by omega), if_neg (by omega), if_neg (by omega), if_neg (by omega), if_neg (by omega), if_neg (by omega), show 70 + p - 70 = p from by omega]
theorem mc_set {t' : Nat} {o' x' : Int → Int} {i : Nat} {v : Int} (h0 : i ≠ 0) (h : ∀ j, j < 134 → j ≠ 0 → mcf C N L H t' o' x' j = if i = j then v else mcf C N L H t o x j) : (mc k C N L H t o x).setIfInBounds i (.int .i64 v) = mc k C N L H t' o' x' := by
  refine Array.ext (by simp [mc]) fun j h1 h2 => ?_
  have hj : j < 134 := by rw [mc_size] at h2; exact h2
  rw [Array.getElem_setIfInBounds (by simpa using h1)]
  simp only [mc, Array.getElem_ofFn]
  by_cases hz : j = 0
  · rw [if_pos hz, if_pos hz, if_neg (by omega)]
  · rw [if_neg hz, if_neg hz, h j hj hz]
    split <;> rfl
theorem mc_setT (t' : Nat) : (mc k C N L H t o x).setIfInBounds 5 (.int .i64 t') = mc k C N L H t' o x := mc_set _ _ _ _ _ _ _ _ (by omega) fun j hj h0 => by
  unfold mcf
  by_cases h5 : 5 = j
  · subst h5; simp
  · rw [if_neg h5, if_neg (show ¬ j = 5 from by omega), if_neg (show ¬ j = 5 from by omega)]
theorem mc_setO {p : Nat} (h : p < 64) (v : Int) : (mc k C N L H t o x).setIfInBounds (6 + p) (.int .i64 v) = mc k C N L H t (upd o p v) x := mc_set _ _ _ _ _ _ _ _ (by omega) fun j hj h0 => by
  unfold mcf upd
  by_cases hp : 6 + p = j
  · rw [if_pos hp, if_neg (by omega), if_neg (by omega), if_neg (by omega), if_neg (by omega), if_neg (by omega), if_pos (by omega), if_pos (by omega)]
  · rw [if_neg hp]
    by_cases h70 : j < 70
    · rw [if_pos h70, if_pos h70]
      by_cases h5 : j ≤ 5
      · have h15 : j = 1 ∨ j = 2 ∨ j = 3 ∨ j = 4 ∨ j = 5 := by omega
        rcases h15 with rfl | rfl | rfl | rfl | rfl <;> simp
      · rw [if_neg (show ¬ ((j - 6 : Nat) : Int) = p from by omega)]
    · rw [if_neg h70, if_neg h70]
theorem mc_setX {p : Nat} (v : Int) : (mc k C N L H t o x).setIfInBounds (70 + p) (.int .i64 v) = mc k C N L H t o (upd x p v) := mc_set _ _ _ _ _ _ _ _ (by omega) fun j hj h0 => by
  unfold mcf upd
  by_cases hp : 70 + p = j
  · rw [if_pos hp, if_neg (by omega), if_neg (by omega), if_neg (by omega), if_neg (by omega), if_neg (by omega), if_neg (by omega), if_pos (by omega)]
  · rw [if_neg hp]
    by_cases h70 : j < 70
    · rw [if_pos h70, if_pos h70]
    · rw [if_neg h70, if_neg h70, if_neg (show ¬ ((j - 70 : Nat) : Int) = p from by omega)]
end
structure Mq (w : World) (g k C N L H : Nat) (m : Ms) : Prop where
  box : Bx w g 202 (mc k C N L H m.t m.o m.x)
  sq : Sq w k m.S
  ne : g ≠ k
def Mf (g k : Nat) (j : Nat) : Prop := j = g ∨ j = k
theorem mf_set {w w1 : World} {g k : Nat} (h : Chg w w1 (Mf g k) (Mf g k)) (i : Nat) (v : Value) : Chg w (w1.setCell ⟨g, i, none⟩ v) (Mf g k) (Mf g k) :=
  ⟨h.os, h.tape, h.output, by rw [setSize]; exact h.size, fun j h1 h2 => (Below.heap_setCell w1 ⟨g, i, none⟩ v j (fun e => h2 (.inl e))).trans (h.block j h1 h2), fun _ e => .inl e⟩
theorem mf_k {w w1 w2 : World} {g k : Nat} (h : Chg w w1 (Mf g k) (Mf g k)) (hc : Chg w1 w2 (· = k) (· = k)) : Chg w w2 (Mf g k) (Mf g k) :=
  h.trans ⟨hc.os, hc.tape, hc.output, hc.size, fun j h1 h2 => hc.block j h1 fun e => h2 (.inr e), fun _ e => .inl e⟩
section
variable {w w' : World} {g k C N L H : Nat} {m : Ms}
theorem Mq.below (h : Mq w g k C N L H m) (hb : Below w.heap.size w w') : Mq w' g k C N L H m := ⟨h.box.next hb, h.sq.below hb, h.ne⟩
theorem Mq.draws (h : Mq w g k C N L H m) (n : Nat) : Mq (w.drewN n) g k C N L H m := h.below (below_draws (Below.refl _ _) n)
theorem Mq.chg {F G : Nat → Prop} (h : Mq w g k C N L H m) (hc : Chg w w' F G) (h1 : ¬ F g) (h2 : ¬ F k) : Mq w' g k C N L H m := ⟨hc.bx h.box h1, h.sq.same (hc.block k h.sq.lt h2), h.ne⟩
theorem Mq.step {S : List (List Int)} (h : Mq w g k C N L H m) (hs : Sq w' k S) (hc : Chg w w' (· = k) (· = k)) : Mq w' g k C N L H { m with S := S } := ⟨hc.bx h.box h.ne, hs, h.ne⟩
theorem Mq.c0 (h : Mq w g k C N L H m) : w.cell? ⟨g, 0, none⟩ = some (.pointer (some ⟨k, 0, none⟩)) := (h.box.cell 0).trans (mc_0 _ _ _ _ _ _ _ _)
theorem Mq.c1 (h : Mq w g k C N L H m) : w.cell? ⟨g, 1, none⟩ = some (.int .i64 C) := (h.box.cell 1).trans (mc_at _ _ _ _ _ _ _ _ (by omega) (by omega))
theorem Mq.c2 (h : Mq w g k C N L H m) : w.cell? ⟨g, 2, none⟩ = some (.int .i64 N) := (h.box.cell 2).trans (mc_at _ _ _ _ _ _ _ _ (by omega) (by omega))
theorem Mq.c3 (h : Mq w g k C N L H m) : w.cell? ⟨g, 3, none⟩ = some (.int .i64 L) := (h.box.cell 3).trans (mc_at _ _ _ _ _ _ _ _ (by omega) (by omega))
theorem Mq.c4 (h : Mq w g k C N L H m) : w.cell? ⟨g, 4, none⟩ = some (.int .i64 H) := (h.box.cell 4).trans (mc_at _ _ _ _ _ _ _ _ (by omega) (by omega))
theorem Mq.c5 (h : Mq w g k C N L H m) : w.cell? ⟨g, 5, none⟩ = some (.int .i64 m.t) := (h.box.cell 5).trans (mc_at _ _ _ _ _ _ _ _ (by omega) (by omega))
theorem Mq.cO (h : Mq w g k C N L H m) {p : Nat} (hp : p < 64) : w.cell? ⟨g, 6 + p, none⟩ = some (.int .i64 (m.o p)) := (h.box.cell _).trans (mc_o _ _ _ _ _ _ _ _ hp)
theorem Mq.cX (h : Mq w g k C N L H m) {p : Nat} (hp : p < 64) : w.cell? ⟨g, 70 + p, none⟩ = some (.int .i64 (m.x p)) := (h.box.cell _).trans (mc_x _ _ _ _ _ _ _ _ hp)
theorem Mq.free (h : Mq w g k C N L H m) (i : Nat) : w.frozen? ⟨g, i, none⟩ = false := h.box.free i
theorem Mq.setT (h : Mq w g k C N L H m) (t' : Nat) : Mq (w.setCell ⟨g, 5, none⟩ (.int .i64 t')) g k C N L H { m with t := t' } := by
  have := h.box.set 5 (.int .i64 t')
  rw [mc_setT] at this
  exact ⟨this, h.sq.same (Below.heap_setCell w _ _ k (fun e => h.ne e.symm)), h.ne⟩
theorem Mq.setO (h : Mq w g k C N L H m) {p : Nat} (hp : p < 64) (v : Int) : Mq (w.setCell ⟨g, 6 + p, none⟩ (.int .i64 v)) g k C N L H { m with o := upd m.o p v } := by
  have := h.box.set (6 + p) (.int .i64 v)
  rw [mc_setO _ _ _ _ _ _ _ _ hp] at this
  exact ⟨this, h.sq.same (Below.heap_setCell w _ _ k (fun e => h.ne e.symm)), h.ne⟩
theorem Mq.setX (h : Mq w g k C N L H m) {p : Nat} (v : Int) : Mq (w.setCell ⟨g, 70 + p, none⟩ (.int .i64 v)) g k C N L H { m with x := upd m.x p v } := by
  have := h.box.set (70 + p) (.int .i64 v)
  rw [mc_setX] at this
  exact ⟨this, h.sq.same (Below.heap_setCell w _ _ k (fun e => h.ne e.symm)), h.ne⟩
end

set_option maxHeartbeats 400000 in
theorem within_any (n a b : Int) (w : World) : Calls Tryz.prog 147 #[.int .i64 n, .int .i64 a, .int .i64 b] w fun e w' => e = .returned (.bool (decide (a ≤ n ∧ n ≤ b))) ∧ w = w' := by
  by_cases h1 : a ≤ n
  · have e : decide (a ≤ n ∧ n ≤ b) = decide (n ≤ b) := decide_eq_decide.2 ⟨fun h => h.2, fun h => ⟨h1, h⟩⟩
    rw [e]
    clear e
    go_enter Tryz.func147, Tryz.ntmps147
    go_wp2
    go_ret
    exact ⟨rfl, rfl⟩
  · have e : decide (a ≤ n ∧ n ≤ b) = false := decide_eq_false fun h => h1 h.1
    rw [e]
    clear e
    go_enter Tryz.func147, Tryz.ntmps147
    go_wp2
    go_ret
    exact ⟨rfl, rfl⟩
def shp (c n l h : Int) : Prop := (1 ≤ c ∧ c ≤ 16) ∧ (1 ≤ n ∧ n ≤ 8) ∧ (1 ≤ l ∧ l ≤ 100) ∧ (0 ≤ h ∧ h ≤ 16)
instance (c n l h : Int) : Decidable (shp c n l h) := inferInstanceAs (Decidable (_ ∧ _))
set_option maxHeartbeats 1000000 in
theorem mqright_any (c n l h : Int) (w : World) : Calls Tryz.prog 114 #[.agg #[.int .i64 c, .int .i64 n, .int .i64 l, .int .i64 h]] w fun e w' => e = .returned (.bool (decide (shp c n l h))) ∧ Below w.heap.size w w' := by
  have HB := hid (below_alloc w (.cells #[.int .i64 c, .int .i64 n, .int .i64 l, .int .i64 h] 162))
  have HC := hid (fun w => within_any c 1 16 w)
  have HN := hid (fun w => within_any n 1 8 w)
  have HL := hid (fun w => within_any l 1 100 w)
  have HH := hid (fun w => within_any h 0 16 w)
  by_cases h1 : 1 ≤ c ∧ c ≤ 16
  · rw [decide_eq_true h1] at HC
    by_cases h2 : 1 ≤ n ∧ n ≤ 8
    · rw [decide_eq_true h2] at HN
      by_cases h3 : 1 ≤ l ∧ l ≤ 100
      · rw [decide_eq_true h3] at HL
        have e : decide (shp c n l h) = decide (0 ≤ h ∧ h ≤ 16) := decide_eq_decide.2 ⟨fun h => h.2.2.2, fun h => ⟨h1, h2, h3, h⟩⟩
        rw [e]
        generalize decide (0 ≤ h ∧ h ≤ 16) = b at *
        clear e h1 h2 h3
        go_enter Tryz.func114, Tryz.ntmps114
        go_wp2_with (go_at_call 147; (first | (with_reducible refine (HC.out _).mono ?_) | (with_reducible refine (HN.out _).mono ?_) | (with_reducible refine (HL.out _).mono ?_) | (with_reducible refine (HH.out _).mono ?_)); rintro e w' ⟨rfl, rfl⟩)
        go_ret
        exact ⟨rfl, HB.out⟩
      · rw [decide_eq_false h3] at HL
        rw [decide_eq_false (show ¬ shp c n l h from fun e => h3 e.2.2.1)]
        clear h1 h2 h3
        go_enter Tryz.func114, Tryz.ntmps114
        go_wp2_with (go_at_call 147; (first | (with_reducible refine (HC.out _).mono ?_) | (with_reducible refine (HN.out _).mono ?_) | (with_reducible refine (HL.out _).mono ?_)); rintro e w' ⟨rfl, rfl⟩)
        go_ret
        exact ⟨rfl, HB.out⟩
    · rw [decide_eq_false h2] at HN
      rw [decide_eq_false (show ¬ shp c n l h from fun e => h2 e.2.1)]
      clear h1 h2
      go_enter Tryz.func114, Tryz.ntmps114
      go_wp2_with (go_at_call 147; (first | (with_reducible refine (HC.out _).mono ?_) | (with_reducible refine (HN.out _).mono ?_)); rintro e w' ⟨rfl, rfl⟩)
      go_ret
      exact ⟨rfl, HB.out⟩
  · rw [decide_eq_false h1] at HC
    rw [decide_eq_false (show ¬ shp c n l h from fun e => h1 e.1)]
    clear h1
    go_enter Tryz.func114, Tryz.ntmps114
    go_wp2_with (go_at_call 147; (with_reducible refine (HC.out _).mono ?_); rintro e w' ⟨rfl, rfl⟩)
    go_ret
    exact ⟨rfl, HB.out⟩
section
variable {w : World} {g k C N L H : Nat} {m : Ms}
set_option maxHeartbeats 400000 in
theorem mq_has (h : Mq w g k C N L H m) (ok : Okm C N L H m) (b : Int) : Calls Tryz.prog 222 #[.pointer (some ⟨g, 0, none⟩), .int .i64 b] w fun e w' => e = .returned (.bool (decide (b ∈ m.al))) ∧ w = w' := by
  have c0 := h.c0
  by_cases hx : inS m.S b
  · obtain ⟨i, hi⟩ := inS_gd.1 hx
    obtain ⟨hl, hs⟩ := gd_mem hi
    rw [ok.len] at hl
    have HO := hid (of_yes h.sq hs hi)
    have e : (b ∈ m.al) ↔ i ≠ 8 := ⟨fun hb => by
      obtain ⟨j, hj, hm⟩ := ok.there hb
      have := ok.wf.same hi hm
      have := ok.n
      omega, fun hne => mem_alls.2 ⟨i, by omega, hi⟩⟩
    by_cases h8 : i = 8
    · rw [decide_eq_false fun hb => (e.1 hb) h8]
      subst h8
      clear h ok hx hi hl hs e
      go_enter Tryz.func222, Tryz.ntmps222
      go_wp2_with (go_at_call 210; refine HO.out.mono ?_; rintro e w' ⟨rfl, rfl⟩)
      go_ret
      exact ⟨rfl, rfl⟩
    · rw [decide_eq_true (e.2 h8)]
      have hd : ((i : Int) != 8) = true := by simp; omega
      have hd2 : decide ((i : Int) = 8) = false := by simp; omega
      have hi8 : i < 8 := by omega
      clear h ok hx hi hl hs e h8
      go_enter Tryz.func222, Tryz.ntmps222
      go_wp2_with (go_at_call 210; refine HO.out.mono ?_; rintro e w' ⟨rfl, rfl⟩)
      go_ret
      exact ⟨by simp [], rfl⟩
  · rw [decide_eq_false fun hb => hx (ok.in_al hb)]
    have HO := hid (of_no h.sq hx)
    clear h ok hx
    go_enter Tryz.func222, Tryz.ntmps222
    go_wp2_with (go_at_call 210; refine HO.out.mono ?_; rintro e w' ⟨rfl, rfl⟩)
    go_ret
    exact ⟨rfl, rfl⟩
set_option maxHeartbeats 400000 in
theorem mq_queue (h : Mq w g k C N L H m) (ok : Okm C N L H m) {i : Nat} (hi : i < N) : Calls Tryz.prog 229 #[.pointer (some ⟨g, 0, none⟩), .int .i64 i] w (Told w (m.S.getD i [])) := by
  have c0 := h.c0
  have c2 := h.c2
  have HA := hid (all_in h.sq (gd_some (i := i) (by rw [ok.len]; have := ok.n; omega)))
  have hd : decide ((N : Int) ≤ (i : Int)) = false := by simp; omega
  clear h ok
  go_enter Tryz.func229, Tryz.ntmps229
  go_wp2_with (go_at_call 208; refine HA.out.mono ?_; rintro e w' ⟨A, c, rfl, ho, hg⟩; have HO := hid ho; have HG := hid hg; clear ho hg)
  go_ret
  exact ⟨A, c, rfl, HO.out, HG.out⟩
theorem told_rv {w' : World} {l : List Int} {A : Option Addr} {c : Nat} (ho : OwnW w' 3 (.slice A l.length c) (ints l)) : Rv w' w'.heap.size A (ints l) := by
  obtain ⟨A', c', e', hr, h1, h2⟩ := ho.read
  simp only [Value.slice.injEq] at e'
  obtain ⟨rfl, -, rfl⟩ := e'
  exact hr
theorem ints_app (l l' : List Int) : ints (l ++ l') = ints l ++ ints l' := List.map_append
set_option maxRecDepth 10000 in
set_option maxHeartbeats 1000000 in
theorem mq_all (h : Mq w g k C N L H m) (ok : Okm C N L H m) : Calls Tryz.prog 221 #[.pointer (some ⟨g, 0, none⟩)] w (Told w m.al) := by
  have c2 := h.c2
  have HM := hid h
  have HK := hid ok
  have h8 := ok.n
  have HG0 := hid (GrW.refl w nl)
  clear h ok
  go_enter Tryz.func221, Tryz.ntmps221
  go_wp2
  clear c2
  go_loopg [3, 4] N (fun gk s t wr => ∃ (out : List Int) (v : Value), v = s ∧ t = .int .i64 ((gk : Int) - 1) ∧ gk ≤ N ∧ out ++ alls m.S gk = m.al ∧ OwnW wr 3 v (ints out) ∧ GrW w wr nl v)
  case atStart => exact ⟨[], _, rfl, rfl, Nat.le_refl _, by rw [List.nil_append]; exact HK.out.allsN, ownW_nil _ _, HG0.out⟩
  case round =>
    obtain ⟨out, v, rfl, rfl, hle, hal, ho, hg⟩ := hrel
    have HO := hid ho
    have HG := hid hg
    have HAL := hid hal
    obtain ⟨A, c0, e0, -⟩ := ho.read
    rw [ints_length] at e0
    subst e0
    have h64 : (out ++ alls m.S gk).length ≤ 64 := by rw [hal]; have := HK.out.cap; have := HK.out.c; omega
    rw [List.length_append] at h64
    clear ho hg hal
    cases gk with
    | zero =>
      obtain rfl : out = m.al := by have := HAL.out; unfold alls at this; rw [List.append_nil] at this; exact this
      go_wp2
      go_ret
      exact ⟨_, _, rfl, HO.out, HG.out⟩
    | succ j =>
      have hj : j < N := by omega
      have hlen : (m.S.getD j []).length + (alls m.S j).length = (alls m.S (j + 1)).length := by show _ = (m.S.getD j [] ++ alls m.S j).length; rw [List.length_append]
      have HLE := hid (show out.length + (m.S.getD j []).length ≤ 64 from by omega)
      have HN2 := hid (show (out ++ m.S.getD j []) ++ alls m.S j = m.al from by rw [List.append_assoc]; exact HAL.out)
      have HQ := hid (mq_queue (HM.out.below HG.out.nilBelow) HK.out hj)
      have ej : ((j + 1 : Nat) : Int) - 1 = j := by omega
      rw [ej]
      obtain ⟨n0, hn0⟩ : ∃ n, out.length = n := ⟨_, rfl⟩
      rw [hn0] at HLE HG HO ⊢
      have HN0 := hid hn0
      generalize m.S.getD j [] = lq at *
      clear h64 hlen HAL ej hn0
      go_wp2_with (first
        | (go_at_call 229; refine HQ.out.mono ?_; rintro e w2 ⟨B, cB, rfl, hob, hgb⟩; (have HR2 := hid (told_rv hob); have HO2 := hid (HO.out.below hgb.nilBelow); have HG2 := hid (HG.out.trans (GrW.of hgb.nilBelow _)); clear hob hgb))
        | (at_builtin; (refine wpList_appW elt_int rfl (.tmp 17) (.tmp 20) rfl _ _ HO2.out rfl _ _ lq.length _ (ints lq) rfl (ints_length _) HR2.out (ints_one _) (by rw [ints_length, HN0.out]; unfold maxLen; have := HLE.out; omega) (by rw [ints_length, HN0.out]; have := HLE.out; omega) ?_); (intro v3 w3 ho3 hg3; have HO3 := hid ho3; have HG3 := hid (HG2.out.trans hg3); clear ho3 hg3)))
      go_roundg j
      case measure => omega
      case rel => exact ⟨out ++ lq, v3, rfl, by go_num, by omega, HN2.out, by rw [ints_app]; exact HO3.out, HG3.out⟩
set_option maxHeartbeats 400000 in
theorem mq_len (h : Mq w g k C N L H m) (ok : Okm C N L H m) : Calls Tryz.prog 223 #[.pointer (some ⟨g, 0, none⟩)] w fun e w' => e = .returned (.int .i64 m.al.length) ∧ Below w.heap.size w w' := by
  have HA := hid (mq_all h ok)
  clear h ok
  go_enter Tryz.func223, Tryz.ntmps223
  go_wp2_with (go_at_call 221; refine HA.out.mono ?_; rintro e w' ⟨A, c, rfl, ho, hg⟩; have HG := hid hg.nilBelow; clear ho hg)
  go_ret
  exact ⟨rfl, HG.out⟩
end
end Go.Proofs.YtbcejfonkehjgaaGreatDoor
namespace Go.Proofs.YtbcejfonkehjgaaGreatDoor
open Go.RowKit

set_option maxRecDepth 100000 in
theorem len8_log : ∀ n : Fin 256, 1 ≤ n.val → Lib.len8 (n.val : Int) = ((Nat.log2 n.val + 1 : Nat) : Int) := by decide +kernel
theorem wpList_index_str {P : Program} {w : World} {ops : Array Oper} {rest : List Oper} {o : Oper} {a : Act} {Q : Exit → Act → World → Prop} (hgd : o.guard = none) (ty : TypeId) (s : ByteArray) (x : Operand) (ho : o.op = .index ty (.const (.string s)) x)
    (k : IntKind) (i v : Int) (hx : a.eval x = .int k i) (hv : (Instr.index ty (.string s) (.int k i)).run P w = .ok (.int .u8 v) w) (h : wpList P ops Q rest (a.put o.dst (.int .u8 v)) w) : wpList P ops Q (o :: rest) a w :=
  wpList_plain hgd fun K hK => by
    have hc : a.eval (.const (.string s)) = .string s := rfl
    unfold Oper.wp execOp
    simp only [ho, hx, hc, hv, Sem.run_bind, Sem.run_pure, Result.andThen_ok]
    exact hK _ _ h
set_option maxHeartbeats 1000000 in
set_option maxRecDepth 100000 in
theorem len64_small (n : Nat) (hn : 1 ≤ n ∧ n ≤ 255) (w : World) : Calls Tryz.prog 236 #[.int .u64 n] w fun e w' => e = .returned (.int .i64 ((Nat.log2 n + 1 : Nat))) ∧ w = w' := by
  have h := len8_log ⟨n, by omega⟩ hn.1
  have hl : Nat.log2 n < 8 := (Nat.log2_lt (by omega)).2 (by omega)
  obtain ⟨z, hz⟩ : ∃ z, Nat.log2 n + 1 = z := ⟨_, rfl⟩
  rw [hz] at h ⊢
  have hz9 : z ≤ 8 := by omega
  have h' : Lib.len8 (n : Int) = (z : Int) := h
  have n0 : (0 : Int) ≤ (n : Int) := by omega
  have n1 : (n : Int) ≤ 255 := by omega
  have HV := hid (fun (s : ByteArray) (hs : s = Lib.len8tab) (w : World) => show (Instr.index 9 (.string s) (.int .u8 n)).run Tryz.prog w = .ok (.int .u8 z) w from by
    rw [hs, Lib.run_index_len8tab w 9 .u8 n Tryz.underlying9 n0 n1, h'])
  clear hl hz h hn h'
  generalize (n : Int) = x at *
  go_enter Tryz.func236, Tryz.ntmps236
  generalize hsx : ({ data := (([0, 1, 2, 2, 3, 3, 3, 3, 4, 4, 4, 4, 4, 4, 4, 4, 5, 5, 5, 5, 5, 5, 5, 5, 5, 5, 5, 5, 5, 5, 5, 5, 6, 6, 6, 6, 6, 6, 6, 6, 6, 6, 6, 6, 6, 6, 6, 6, 6, 6, 6, 6, 6, 6, 6, 6, 6, 6, 6, 6, 6, 6, 6, 6].append [7, 7, 7, 7, 7, 7, 7, 7, 7, 7, 7, 7, 7, 7, 7, 7, 7, 7, 7, 7, 7, 7, 7, 7, 7, 7, 7, 7, 7, 7, 7, 7, 7, 7, 7, 7, 7, 7, 7, 7, 7, 7, 7, 7, 7, 7, 7, 7, 7, 7, 7, 7, 7, 7, 7, 7, 7, 7, 7, 7, 7, 7, 7, 7]).append ([8, 8, 8, 8, 8, 8, 8, 8, 8, 8, 8, 8, 8, 8, 8, 8, 8, 8, 8, 8, 8, 8, 8, 8, 8, 8, 8, 8, 8, 8, 8, 8, 8, 8, 8, 8, 8, 8, 8, 8, 8, 8, 8, 8, 8, 8, 8, 8, 8, 8, 8, 8, 8, 8, 8, 8, 8, 8, 8, 8, 8, 8, 8, 8].append [8, 8, 8, 8, 8, 8, 8, 8, 8, 8, 8, 8, 8, 8, 8, 8, 8, 8, 8, 8, 8, 8, 8, 8, 8, 8, 8, 8, 8, 8, 8, 8, 8, 8, 8, 8, 8, 8, 8, 8, 8, 8, 8, 8, 8, 8, 8, 8, 8, 8, 8, 8, 8, 8, 8, 8, 8, 8, 8, 8, 8, 8, 8, 8])).toArray } : ByteArray) = sx
  have HS := hid (show sx = Lib.len8tab from hsx.symm.trans (by kernel_rfl))
  clear hsx
  go_upto_region 10 with fail
  go_wp2_with (refine wpList_index_str rfl 9 _ (.tmp 21) rfl .u8 x z rfl (HV.out _ HS.out _) ?_)
  go_ret
  refine ⟨?_, rfl⟩
  go_num
theorem log2_div (n : Nat) : ∀ k : Nat, 2 ^ k ≤ n → Nat.log2 n = Nat.log2 (n / 2 ^ k) + k
  | 0, _ => by simp
  | k + 1, h => by
    have h1 : 2 ^ k ≤ n := Nat.le_trans (Nat.pow_le_pow_right (by omega) (by omega)) h
    have h2 : 2 ≤ n / 2 ^ k := by
      rw [Nat.le_div_iff_mul_le (Nat.pow_pos (by omega))]
      rw [Nat.pow_succ] at h
      omega
    have e : n / 2 ^ (k + 1) = n / 2 ^ k / 2 := by rw [Nat.pow_succ, Nat.div_div_eq_div_mul]
    have e2 := Nat.log2_def (n / 2 ^ k)
    rw [if_pos h2] at e2
    have e3 := log2_div n k h1
    rw [e]
    omega
set_option maxHeartbeats 1000000 in
set_option maxRecDepth 100000 in
theorem len64_mid (n : Nat) (hn : 256 ≤ n ∧ n ≤ 65535) (w : World) : Calls Tryz.prog 236 #[.int .u64 n] w fun e w' => e = .returned (.int .i64 ((Nat.log2 n + 1 : Nat))) ∧ w = w' := by
  have hlog := log2_div n 8 (by omega)
  rw [show (2 : Nat) ^ 8 = 256 from rfl] at hlog
  obtain ⟨y, hy⟩ : ∃ y, n / 256 = y := ⟨_, rfl⟩
  rw [hy] at hlog
  have hy1 : 1 ≤ y ∧ y ≤ 255 := by omega
  have h := len8_log ⟨y, by omega⟩ hy1.1
  obtain ⟨z, hz⟩ : ∃ z, Nat.log2 y + 1 = z := ⟨_, rfl⟩
  have hz9 : z ≤ 8 := by have := (Nat.log2_lt (n := y) (k := 8) (by omega)).2 (by omega); omega
  rw [show Nat.log2 n + 1 = z + 8 from by omega]
  rw [hz] at h
  have h' : Lib.len8 (y : Int) = (z : Int) := h
  have y0 : (0 : Int) ≤ (y : Int) := by omega
  have y1 : (y : Int) ≤ 255 := by omega
  have n0 : (256 : Int) ≤ (n : Int) := by omega
  have n1 : (n : Int) ≤ 65535 := by omega
  have hxy : (n : Int) / 256 = (y : Int) := by omega
  have HV := hid (fun (s : ByteArray) (hs : s = Lib.len8tab) (w : World) => show (Instr.index 9 (.string s) (.int .u8 y)).run Tryz.prog w = .ok (.int .u8 z) w from by
    rw [hs, Lib.run_index_len8tab w 9 .u8 y Tryz.underlying9 y0 y1, h'])
  clear hlog hy hy1 h hz hn h'
  generalize (n : Int) = x at *
  go_enter Tryz.func236, Tryz.ntmps236
  generalize hsx : ({ data := (([0, 1, 2, 2, 3, 3, 3, 3, 4, 4, 4, 4, 4, 4, 4, 4, 5, 5, 5, 5, 5, 5, 5, 5, 5, 5, 5, 5, 5, 5, 5, 5, 6, 6, 6, 6, 6, 6, 6, 6, 6, 6, 6, 6, 6, 6, 6, 6, 6, 6, 6, 6, 6, 6, 6, 6, 6, 6, 6, 6, 6, 6, 6, 6].append [7, 7, 7, 7, 7, 7, 7, 7, 7, 7, 7, 7, 7, 7, 7, 7, 7, 7, 7, 7, 7, 7, 7, 7, 7, 7, 7, 7, 7, 7, 7, 7, 7, 7, 7, 7, 7, 7, 7, 7, 7, 7, 7, 7, 7, 7, 7, 7, 7, 7, 7, 7, 7, 7, 7, 7, 7, 7, 7, 7, 7, 7, 7, 7]).append ([8, 8, 8, 8, 8, 8, 8, 8, 8, 8, 8, 8, 8, 8, 8, 8, 8, 8, 8, 8, 8, 8, 8, 8, 8, 8, 8, 8, 8, 8, 8, 8, 8, 8, 8, 8, 8, 8, 8, 8, 8, 8, 8, 8, 8, 8, 8, 8, 8, 8, 8, 8, 8, 8, 8, 8, 8, 8, 8, 8, 8, 8, 8, 8].append [8, 8, 8, 8, 8, 8, 8, 8, 8, 8, 8, 8, 8, 8, 8, 8, 8, 8, 8, 8, 8, 8, 8, 8, 8, 8, 8, 8, 8, 8, 8, 8, 8, 8, 8, 8, 8, 8, 8, 8, 8, 8, 8, 8, 8, 8, 8, 8, 8, 8, 8, 8, 8, 8, 8, 8, 8, 8, 8, 8, 8, 8, 8, 8])).toArray } : ByteArray) = sx
  have HS := hid (show sx = Lib.len8tab from hsx.symm.trans (by kernel_rfl))
  clear hsx
  go_upto_region 10 with fail
  go_wp2_with (refine wpList_index_str rfl 9 _ (.tmp 21) rfl .u8 y z rfl (HV.out _ HS.out _) ?_)
  go_ret
  refine ⟨?_, rfl⟩
  go_num
set_option maxHeartbeats 1000000 in
set_option maxRecDepth 100000 in
theorem len64_big (n : Nat) (hn : 65536 ≤ n ∧ n ≤ 16777215) (w : World) : Calls Tryz.prog 236 #[.int .u64 n] w fun e w' => e = .returned (.int .i64 ((Nat.log2 n + 1 : Nat))) ∧ w = w' := by
  have hlog := log2_div n 16 (by omega)
  rw [show (2 : Nat) ^ 16 = 65536 from rfl] at hlog
  obtain ⟨y, hy⟩ : ∃ y, n / 65536 = y := ⟨_, rfl⟩
  rw [hy] at hlog
  have hy1 : 1 ≤ y ∧ y ≤ 255 := by omega
  have h := len8_log ⟨y, by omega⟩ hy1.1
  obtain ⟨z, hz⟩ : ∃ z, Nat.log2 y + 1 = z := ⟨_, rfl⟩
  have hz9 : z ≤ 8 := by have := (Nat.log2_lt (n := y) (k := 8) (by omega)).2 (by omega); omega
  rw [show Nat.log2 n + 1 = z + 16 from by omega]
  rw [hz] at h
  have h' : Lib.len8 (y : Int) = (z : Int) := h
  have y0 : (0 : Int) ≤ (y : Int) := by omega
  have y1 : (y : Int) ≤ 255 := by omega
  have n0 : (65536 : Int) ≤ (n : Int) := by omega
  have n1 : (n : Int) ≤ 16777215 := by omega
  have hxy : (n : Int) / 65536 = (y : Int) := by omega
  have HV := hid (fun (s : ByteArray) (hs : s = Lib.len8tab) (w : World) => show (Instr.index 9 (.string s) (.int .u8 y)).run Tryz.prog w = .ok (.int .u8 z) w from by
    rw [hs, Lib.run_index_len8tab w 9 .u8 y Tryz.underlying9 y0 y1, h'])
  clear hlog hy hy1 h hz hn h'
  generalize (n : Int) = x at *
  go_enter Tryz.func236, Tryz.ntmps236
  generalize hsx : ({ data := (([0, 1, 2, 2, 3, 3, 3, 3, 4, 4, 4, 4, 4, 4, 4, 4, 5, 5, 5, 5, 5, 5, 5, 5, 5, 5, 5, 5, 5, 5, 5, 5, 6, 6, 6, 6, 6, 6, 6, 6, 6, 6, 6, 6, 6, 6, 6, 6, 6, 6, 6, 6, 6, 6, 6, 6, 6, 6, 6, 6, 6, 6, 6, 6].append [7, 7, 7, 7, 7, 7, 7, 7, 7, 7, 7, 7, 7, 7, 7, 7, 7, 7, 7, 7, 7, 7, 7, 7, 7, 7, 7, 7, 7, 7, 7, 7, 7, 7, 7, 7, 7, 7, 7, 7, 7, 7, 7, 7, 7, 7, 7, 7, 7, 7, 7, 7, 7, 7, 7, 7, 7, 7, 7, 7, 7, 7, 7, 7]).append ([8, 8, 8, 8, 8, 8, 8, 8, 8, 8, 8, 8, 8, 8, 8, 8, 8, 8, 8, 8, 8, 8, 8, 8, 8, 8, 8, 8, 8, 8, 8, 8, 8, 8, 8, 8, 8, 8, 8, 8, 8, 8, 8, 8, 8, 8, 8, 8, 8, 8, 8, 8, 8, 8, 8, 8, 8, 8, 8, 8, 8, 8, 8, 8].append [8, 8, 8, 8, 8, 8, 8, 8, 8, 8, 8, 8, 8, 8, 8, 8, 8, 8, 8, 8, 8, 8, 8, 8, 8, 8, 8, 8, 8, 8, 8, 8, 8, 8, 8, 8, 8, 8, 8, 8, 8, 8, 8, 8, 8, 8, 8, 8, 8, 8, 8, 8, 8, 8, 8, 8, 8, 8, 8, 8, 8, 8, 8, 8])).toArray } : ByteArray) = sx
  have HS := hid (show sx = Lib.len8tab from hsx.symm.trans (by kernel_rfl))
  clear hsx
  go_upto_region 10 with fail
  go_wp2_with (refine wpList_index_str rfl 9 _ (.tmp 21) rfl .u8 y z rfl (HV.out _ HS.out _) ?_)
  go_ret
  refine ⟨?_, rfl⟩
  go_num
theorem len64_any (n : Nat) (hn : 1 ≤ n ∧ n ≤ 16777215) (w : World) : Calls Tryz.prog 236 #[.int .u64 n] w fun e w' => e = .returned (.int .i64 ((Nat.log2 n + 1 : Nat))) ∧ w = w' := by
  by_cases h1 : n ≤ 255
  · exact len64_small n ⟨hn.1, h1⟩ w
  · by_cases h2 : n ≤ 65535
    · exact len64_mid n ⟨by omega, h2⟩ w
    · exact len64_big n ⟨by omega, hn.2⟩ w
set_option maxHeartbeats 400000 in
theorem bitlen_any (n : Nat) (hn : 1 ≤ n ∧ n ≤ 16777215) (w : World) : Calls Tryz.prog 234 #[.int .u64 n] w fun e w' => e = .returned (.int .i64 ((Nat.log2 n + 1 : Nat))) ∧ w = w' := by
  have HL := hid (len64_any n hn)
  generalize Nat.log2 n + 1 = z at *
  have n0 : (0 : Int) ≤ (n : Int) := by omega
  have n1 : (n : Int) ≤ 16777215 := by omega
  clear hn
  generalize (n : Int) = x at *
  go_enter Tryz.func234, Tryz.ntmps234
  go_wp2_with (go_at_call 236; refine (HL.out _).mono ?_; rintro e w' ⟨rfl, rfl⟩)
  go_ret
  exact ⟨rfl, rfl⟩
section
variable {w : World} {g k C N L H : Nat} {m : Ms}
set_option maxHeartbeats 1000000 in
theorem mq_queueof (h : Mq w g k C N L H m) (hN : 1 ≤ N ∧ N ≤ 8) (n : Int) (hn : 1 ≤ n ∧ n ≤ 16777215) : Calls Tryz.prog 233 #[.pointer (some ⟨g, 0, none⟩), .int .i64 n] w fun e w' => e = .returned (.int .i64 (qn n N : Nat)) ∧ ∃ d, w' = w.drewN d := by
  have c2 := h.c2
  obtain ⟨p, rfl⟩ : ∃ p : Nat, n = p := ⟨n.toNat, by omega⟩
  have hwr : IntKind.u64.wrap (p : Int) = (p : Int) := by
    show (p : Int) % 18446744073709551616 = p
    omega
  have HB := hid (fun w => show Calls Tryz.prog 234 #[.int .u64 (IntKind.u64.wrap (p : Int))] w fun e w' => e = .returned (.int .i64 ((Nat.log2 p + 1 : Nat))) ∧ w = w' from by rw [hwr]; exact bitlen_any p (by omega) w)
  clear hwr
  have hl : Nat.log2 p < 24 := (Nat.log2_lt (by omega)).2 (by omega)
  have e : ((qn (p : Int) N : Nat) : Int) = if ((Nat.log2 p : Nat) : Int) < (N : Int) - 1 then ((Nat.log2 p : Nat) : Int) else (N : Int) - 1 := by
    unfold qn
    rw [Int.toNat_natCast]
    split <;> omega
  rw [e]
  generalize Nat.log2 p = z at *
  have n0 : (0 : Int) ≤ (p : Int) := by omega
  have n1 : (p : Int) ≤ 16777215 := by omega
  have wz : IntKind.i64.wrap (z : Int) = (z : Int) := by rw [IntKind.wrap_i64]; omega
  have wn : IntKind.i64.wrap ((N : Int) - 1) = (N : Int) - 1 := by rw [IntKind.wrap_i64]; omega
  clear h e hn
  generalize (p : Int) = x at *
  by_cases hlt : (z : Int) < (N : Int) - 1
  all_goals
    (first | rw [if_pos hlt] | rw [if_neg hlt])
    go_enter Tryz.func233, Tryz.ntmps233
    go_upto_region 1 with fail
    go_region_with (go_at_call 234; refine (HB.out _).mono ?_; rintro e w' ⟨rfl, rfl⟩)
    all_goals
      first
        | (exfalso; omega)
        | (go_wp2; all_goals (first | (exfalso; omega) | (go_ret; exact ⟨congrArg Ending.returned (congrArg (Value.int IntKind.i64) (by omega)), 1, rfl⟩)))
end
end Go.Proofs.YtbcejfonkehjgaaGreatDoor
namespace Go.Proofs.YtbcejfonkehjgaaGreatDoor
open Go.RowKit

section
variable {w : World} {g k C N L H : Nat} {m : Ms}
theorem front_pl {S : List (List Int)} (hl : S.length = 9) {q : Nat} (hq : q < 9) {b : Int} (hb : vb b) : putE S q b = 0 ∧ frontS S q b = (woS b S).set q (b :: (woS b S).getD q []) := by
  have ho : okp S q b := ⟨⟨by omega, by omega⟩, hb⟩
  refine ⟨if_pos ho, ?_⟩
  unfold frontS
  rw [if_pos ho, Int.toNat_natCast]
set_option maxHeartbeats 1000000 in
theorem mq_put (h : Mq w g k C N L H m) (hl : m.S.length = 9) (hL : L ≤ 100) (ht : m.t ≤ 16000000) {q : Nat} (hq : q < 9) {b : Int} (hb : vb b) :
    Calls Tryz.prog 232 #[.pointer (some ⟨g, 0, none⟩), .int .i64 q, .int .i64 b] w fun e w' => e = .returned (.tuple #[]) ∧ Mq w' g k C N L H (m.pl L q b) ∧ Chg w w' (Mf g k) (Mf g k) := by
  have c0 := h.c0
  have HF := hid (front_any h.sq q b)
  rw [(front_pl hl hq hb).1, (front_pl hl hq hb).2] at HF
  obtain ⟨p, rfl⟩ : ∃ p : Nat, b = p := ⟨b.toNat, by have := hb.1; omega⟩
  have hp : p < 64 := by have := hb.2; omega
  have hpp : (p : Int) < 64 := by omega
  have HM := hid h
  have HP := hid hp
  clear h hl hq hb
  go_enter Tryz.func232, Tryz.ntmps232
  go_upto_region 1 with (go_at_call 207; refine HF.out.mono ?_; rintro e w1 ⟨rfl, hs, hc⟩; have HM1 := hid (HM.out.step hs hc); have HC1 := hid (mf_k (Chg.refl w (Mf g k)) hc); clear hs hc)
  clear c0
  have c3 := HM1.out.c3
  have c5 := HM1.out.c5
  have cx := HM1.out.cX HP.out
  have fr := HM1.out.free
  dsimp only at c5 cx
  obtain ⟨t, htt⟩ : ∃ t, m.t = t := ⟨_, rfl⟩
  rw [htt] at c5 ht
  have HT := hid htt
  clear htt
  go_region
  go_wp2
  exact bodyPost_end (results_none rfl _ _ _) rfl ⟨rfl, by have := (HM1.out.draws 1).setX (p := p) ((m.t : Int) + L); rw [HT.out] at this; unfold Ms.pl; rw [HT.out]; exact this, mf_set (Chg.draws HC1.out 1) _ _⟩
theorem last_mem_gd {l : List Int} (hn : l ≠ []) {b : Int} (hb : l.getLast? = some b) : lastV l = .tuple #[.int .i64 b, .bool true] := by
  unfold lastV
  rw [dif_neg hn]
  rw [List.getLast?_eq_some_getLast hn] at hb
  injection hb with hb
  rw [hb]
theorem ag1_none {m : Ms} {L i : Nat} (h : m.S.getD i [] = []) : m.ag1 L i = m := by
  unfold Ms.ag1
  rw [h]
  rfl
theorem ag1_some {m : Ms} {L i : Nat} {b : Int} (h : (m.S.getD i []).getLast? = some b) : m.ag1 L i = if m.x b < m.t then m.pl L (i - 1) b else m := by
  unfold Ms.ag1
  rw [h]
set_option maxHeartbeats 2000000 in
theorem mq_age (h : Mq w g k C N L H m) (ok : Okm C N L H m) (ht : m.t ≤ 16000000) :
    Calls Tryz.prog 226 #[.pointer (some ⟨g, 0, none⟩)] w fun e w' => e = .returned (.tuple #[]) ∧ Mq w' g k C N L H (Ms.ags L (N - 1) m) ∧ Chg w w' (Mf g k) (Mf g k) := by
  have HM := hid h
  have HK := hid ok
  have h8 := ok.n
  clear h ok
  go_enter Tryz.func226, Tryz.ntmps226
  go_wp2
  go_loopg [2] N (fun gk t wr => ∃ i : Nat, i + gk = N ∧ i + 1 ≤ N ∧ t = .int .i64 ((i : Int) + 1) ∧ Mq wr g k C N L H (Ms.ags L i m) ∧ Chg w wr (Mf g k) (Mf g k))
  case atStart => exact ⟨0, by omega, by omega, rfl, HM.out, Chg.refl _ _⟩
  case round =>
    obtain ⟨i, hgk, hi, rfl, hq, hc⟩ := hrel
    have HQ := hid hq
    have HC := hid hc
    have c2 := hq.c2
    have c0 := hq.c0
    clear hq hc
    by_cases hlt : i + 1 < N
    · have hl1 : (i : Int) + 1 < (N : Int) := by omega
      have HO := hid (HK.out.ags (i := i) (by omega))
      have HLA := hid (last_in HQ.out.sq (gd_some (i := i + 1) (by rw [HO.out.len]; omega)))
      have e1 : ((i + 1 : Nat) : Int) = (i : Int) + 1 := by omega
      rw [e1] at HLA
      have HT := hid (show (Ms.ags L i m).t ≤ 16000000 from by rw [(ags_t L i m).1]; exact ht)
      have HS := hid (show Ms.ags L (i + 1) m = (Ms.ags L i m).ag1 L (i + 1) from rfl)
      generalize Ms.ags L i m = M at *
      clear e1
      cases hl : (M.S.getD (i + 1) []).getLast? with
      | none =>
        have hn : M.S.getD (i + 1) [] = [] := List.getLast?_eq_none_iff.1 hl
        have HA := hid (ag1_none (L := L) hn)
        rw [hn] at HLA
        rw [show lastV [] = .tuple #[.int .i64 0, .bool false] from dif_pos rfl] at HLA
        clear hl hn
        go_upto_region 4 with (go_at_call 212; refine HLA.out.mono ?_; rintro e w2 ⟨rfl, d, rfl⟩; have HQ2 := hid (HQ.out.draws d); have HC2 := hid (Chg.draws HC.out d))
        go_region
        go_wp2
        go_roundg (gk - 1)
        case measure => omega
        case rel => exact ⟨i + 1, by omega, by omega, by go_num, by rw [HS.out, HA.out]; exact HQ2.out.draws 1, Chg.draws HC2.out 1⟩
      | some b =>
        have hne : M.S.getD (i + 1) [] ≠ [] := fun e => by rw [e] at hl; cases hl
        have hb := HO.out.wf.ltg (last_mem hl)
        have HA := hid (ag1_some (L := L) hl)
        rw [last_mem_gd hne hl] at HLA
        obtain ⟨p, rfl⟩ : ∃ p : Nat, b = p := ⟨b.toNat, by omega⟩
        have HP := hid (show p < 64 from by omega)
        have hpp : (p : Int) < 64 := by omega
        have HV := hid (show vb (p : Int) from hb)
        clear hl hne hb
        go_upto_region 4 with (go_at_call 212; refine HLA.out.mono ?_; rintro e w2 ⟨rfl, d, rfl⟩; have HQ2 := hid (HQ.out.draws d); have HC2 := hid (Chg.draws HC.out d))
        clear c2 c0
        have cx := HQ.out.cX HP.out
        have c5 := HQ.out.c5
        obtain ⟨u, hu⟩ : ∃ u, M.x p = u := ⟨_, rfl⟩
        obtain ⟨t, htt⟩ : ∃ u, M.t = u := ⟨_, rfl⟩
        rw [hu] at cx HA
        rw [htt] at c5 HA
        have HTT := hid htt
        clear hu htt
        by_cases hex : u < (t : Int)
        · rw [if_pos hex] at HA
          go_quiet (fail)
          clear cx c5
          have HPUT := hid (mq_put (HQ.out.draws (d + nq)) HO.out.len (by have := HK.out.l; omega) HT.out (q := i) (by omega) HV.out)
          go_wp2_with (go_at_call 232; go_must (refine HPUT.out.mono ?_); rintro e w3 ⟨rfl, hq, hc⟩; have HQ3 := hid hq; have HC3 := hid ((Chg.draws HC.out (d + nq)).trans hc); clear hq hc)
          go_roundg (gk - 1)
          case measure => omega
          case rel => exact ⟨i + 1, by omega, by omega, by go_num, by rw [HS.out, HA.out]; exact HQ3.out, HC3.out⟩
        · rw [if_neg hex] at HA
          have hd : decide (u < (t : Int)) = false := by simpa using hex
          go_quiet (fail)
          clear cx c5
          go_wp2
          go_roundg (gk - 1)
          case measure => omega
          case rel => exact ⟨i + 1, by omega, by omega, by go_num, by rw [HS.out, HA.out]; exact HQ.out.draws (d + nq), Chg.draws HC.out (d + nq)⟩
    · obtain rfl : i = N - 1 := by omega
      have hl1 : ¬ (((N - 1 : Nat) : Int) + 1 < (N : Int)) := by omega
      go_wp2
      exact bodyPost_end (results_none rfl _ _ _) rfl ⟨rfl, HQ.out, HC.out⟩
end
end Go.Proofs.YtbcejfonkehjgaaGreatDoor
namespace Go.Proofs.YtbcejfonkehjgaaGreatDoor
open Go.RowKit

section
variable {w : World} {g k C N L H : Nat} {m : Ms}
set_option maxHeartbeats 1000000 in
theorem mq_forget (h : Mq w g k C N L H m) {b : Int} (hb : vb b) :
    Calls Tryz.prog 230 #[.pointer (some ⟨g, 0, none⟩), .int .i64 b] w fun e w' => e = .returned (.tuple #[]) ∧ Mq w' g k C N L H (m.fo b) ∧ Chg w w' (Mf g k) (Mf g k) := by
  have c0 := h.c0
  have HR := hid (remove_any h.sq b)
  obtain ⟨p, rfl⟩ : ∃ p : Nat, b = p := ⟨b.toNat, by have := hb.1; omega⟩
  have hp : p < 64 := by have := hb.2; omega
  have hpp : (p : Int) < 64 := by omega
  have HM := hid h
  have HP := hid hp
  clear h hb
  go_enter Tryz.func230, Tryz.ntmps230
  go_upto_region 1 with (go_at_call 209; refine HR.out.mono ?_; rintro e w1 ⟨rfl, hs, hc⟩; have HM1 := hid (HM.out.step hs hc); have HC1 := hid (mf_k (Chg.refl w (Mf g k)) hc); clear hs hc)
  clear c0
  have co := HM1.out.cO HP.out
  have fr := HM1.out.free
  go_wp2
  exact bodyPost_end (results_none rfl _ _ _) rfl ⟨rfl, HM1.out.setO HP.out 0, mf_set HC1.out _ _⟩
set_option maxHeartbeats 1000000 in
theorem mq_haunt (h : Mq w g k C N L H m) (ok : Okm C N L H m) (hH : H ≤ 16) {v : Int} (hv : v ∈ m.al) :
    Calls Tryz.prog 231 #[.pointer (some ⟨g, 0, none⟩), .int .i64 v] w fun e w' => e = .returned (.tuple #[]) ∧ Mq w' g k C N L H (m.ha H v) ∧ Chg w w' (Mf g k) (Mf g k) := by
  have c0 := h.c0
  have HF := hid (front_any h.sq 8 v)
  have hb : vb v := ok.lt (ok.in_al hv)
  have e8 : putE m.S 8 v = 0 ∧ frontS m.S 8 v = (woS v m.S).set 8 (m.gg v) := front_pl ok.len (q := 8) (by omega) hb
  rw [e8.1, e8.2] at HF
  have HM := hid h
  have HK := hid ok
  have hl : 8 < (woS v m.S).length := by rw [woS_len, ok.len]; omega
  have HG := hid (show ((woS v m.S).set 8 (m.gg v))[8]? = some (m.gg v) from List.getElem?_set_self hl)
  obtain ⟨n, hn⟩ : ∃ n, (m.gg v).length = n := ⟨_, rfl⟩
  have HN := hid hn
  have HW := hid ((ok.ghost hv 17 (Nat.le_refl _) (by have := gg_len m v; have := ok.gh; omega)).1.wf.lt 8)
  have HHA := hid (show m.ha H v = if n ≤ H then ({ m with S := (woS v m.S).set 8 (m.gg v) } : Ms) else ({ m with S := (woS v m.S).set 8 (m.gg v) } : Ms).fo ((m.gg v).getLast (by simp [Ms.gg])) from by unfold Ms.ha; rw [hn])
  have hlv : lastV (m.gg v) = .tuple #[.int .i64 ((m.gg v).getLast (by simp [Ms.gg])), .bool true] := dif_neg (by simp [Ms.gg])
  have HLV := hid hlv
  have HME := hid (show (m.gg v).getLast (by simp [Ms.gg]) ∈ m.gg v from List.getLast_mem _)
  clear h ok hv hb e8 hl hn hlv
  generalize (m.gg v).getLast (by simp [Ms.gg]) = z at *
  go_enter Tryz.func231, Tryz.ntmps231
  go_upto_region 1 with (go_at_call 207; refine HF.out.mono ?_; rintro e w1 ⟨rfl, hs, hc⟩; have HM1 := hid (HM.out.step hs hc); have HC1 := hid (mf_k (Chg.refl w (Mf g k)) hc); clear hs hc)
  clear c0
  have c0 := HM1.out.c0
  have c4 := HM1.out.c4
  have HMD := hid (HM1.out.draws 1)
  go_region_held3 (fun w' => w'.cell? ⟨g, 0, none⟩ = some (.pointer (some ⟨k, 0, none⟩)) ∧ w'.cell? ⟨g, 4, none⟩ = some (.int .i64 H)) (first | exact kp | exact ⟨c0, c4⟩) (first | (go_at_call 205; refine (len_in HMD.out.sq HG.out).mono ?_; rintro e w2 ⟨rfl, hb⟩; rw [HN.out]; have HM2 := hid (HMD.out.below hb); have HC2 := hid ((Chg.draws HC1.out 1).trans (Chg.of hb _)); have kp := And.intro HM2.out.c0 HM2.out.c4; clear hb))
  clear kp c0 c4
  have c0 := HM2.out.c0
  by_cases hle : n ≤ H
  · have e := HHA.out
    rw [if_pos hle] at e
    have HE := hid e
    clear e
    go_wp2
    exact bodyPost_ret (results_none rfl _ _ _) rfl ⟨rfl, by rw [HE.out]; exact HM2.out, HC2.out⟩
  · have e := HHA.out
    rw [if_neg hle] at e
    have HE := hid e
    have HV := hid (show vb z from HW.out _ z HG.out HME.out)
    clear e
    go_wp2_with (first | (go_at_call 212; refine (last_in HM2.out.sq HG.out).mono ?_; rintro e w3 ⟨rfl, d, rfl⟩; rw [HLV.out]; have HM3 := hid (HM2.out.draws d); have HC3 := hid (Chg.draws HC2.out d)) | (go_at_call 230; refine (mq_forget HM3.out HV.out).mono ?_; rintro e w4 ⟨rfl, hq, hc⟩; have HM4 := hid hq; have HC4 := hid (HC3.out.trans hc); clear hq hc))
    exact bodyPost_end (results_none rfl _ _ _) rfl ⟨rfl, by rw [HE.out]; exact HM4.out, HC4.out⟩
set_option maxHeartbeats 1000000 in
theorem mq_evict (h : Mq w g k C N L H m) (ok : Okm C N L H m) (hH : H ≤ 16) (hp : 0 < m.al.length) :
    Calls Tryz.prog 227 #[.pointer (some ⟨g, 0, none⟩)] w fun e w' => e = .returned (.tuple #[.int .i64 m.vc, .bool true]) ∧ Mq w' g k C N L H (m.ha H m.vc) ∧ Chg w w' (Mf g k) (Mf g k) := by
  have c2 := h.c2
  have HM := hid h
  have HK := hid ok
  obtain ⟨v1, v2, v3, v4⟩ := ok.vic hp
  have h8 := ok.n
  have HV3 := hid v3
  have HV4 := hid v4
  have hne : m.S.getD m.vi [] ≠ [] := fun e => by rw [e] at v2; cases v2
  have HLV := hid (last_mem_gd hne v2)
  have HS := hid (fun i (hi : i < N) => gd_some (S := m.S) (i := i) (by rw [HK.out.len]; omega))
  clear h ok hp v2 v3 v4 hne
  generalize m.vc = v at *
  generalize m.vi = iv at *
  go_enter Tryz.func227, Tryz.ntmps227
  go_wp2
  clear c2
  go_loopg [2, 3, 10] N (fun gk s2 s3 s10 wr => ∃ i : Nat, i + gk = N ∧ i ≤ iv ∧ s2 = .int .i64 0 ∧ s3 = .bool false ∧ s10 = .int .i64 i ∧ Mq wr g k C N L H m ∧ Chg w wr (Mf g k) (Mf g k))
  case atStart => exact ⟨0, by omega, by omega, rfl, rfl, rfl, HM.out, Chg.refl _ _⟩
  case round =>
    obtain ⟨i, hgk, hi, rfl, rfl, rfl, hq, hc⟩ := hrel
    have HQ := hid hq
    have HC := hid hc
    have c0 := hq.c0
    clear hq hc
    have hlt : i < N := by omega
    have hl1 : (i : Int) < (N : Int) := by omega
    have HLA := hid (last_in HQ.out.sq (HS.out i hlt))
    by_cases he : i = iv
    · subst he
      rw [HLV.out] at HLA
      go_wp2_with (first | (go_at_call 212; refine HLA.out.mono ?_; rintro e w2 ⟨rfl, d, rfl⟩; have HQ2 := hid (HQ.out.draws d); have HC2 := hid (Chg.draws HC.out d)) | (go_at_call 231; refine (mq_haunt HQ2.out HK.out hH HV4.out).mono ?_; rintro e w3 ⟨rfl, hq, hc⟩; have HQ3 := hid hq; have HC3 := hid (HC2.out.trans hc); clear hq hc))
      go_ret2
      exact ⟨rfl, HQ3.out, HC3.out⟩
    · rw [HV3.out i (by omega), show lastV [] = .tuple #[.int .i64 0, .bool false] from dif_pos rfl] at HLA
      go_wp2_with (go_at_call 212; refine HLA.out.mono ?_; rintro e w2 ⟨rfl, d, rfl⟩; have HQ2 := hid (HQ.out.draws d); have HC2 := hid (Chg.draws HC.out d))
      go_roundg (gk - 1)
      case measure => omega
      case rel => exact ⟨i + 1, by omega, by omega, rfl, rfl, by go_num, HQ2.out, HC2.out⟩
set_option maxHeartbeats 1000000 in
theorem mq_use (h : Mq w g k C N L H m) (ok : Okm C N L H m) (ht : m.t ≤ 10000000) {b : Int} (hb : vb b) (hc : b ∈ m.al ∨ m.al.length < C) :
    Calls Tryz.prog 228 #[.pointer (some ⟨g, 0, none⟩), .int .i64 b] w fun e w' => e = .returned (.tuple #[]) ∧ Mq w' g k C N L H (m.us N L b) ∧ Chg w w' (Mf g k) (Mf g k) := by
  have HPL := hid (ok.placed hb hc)
  have HT := hid (show ((m.bump b).pl L (qn (m.o b + 1) N) b).t ≤ 16000000 from by show m.t + 1 ≤ 16000000; omega)
  have HBM := hid (show (m.bump b).S.length = 9 ∧ L ≤ 100 ∧ (m.bump b).t ≤ 16000000 ∧ qn (m.o b + 1) N < 9 ∧ 1 ≤ N ∧ N ≤ 8 from ⟨ok.len, ok.l.2, by show m.t + 1 ≤ 16000000; omega, by have := qn_lt (n := m.o b + 1) ok.n.1; have := ok.n; omega, ok.n⟩)
  have HVB := hid hb
  have HM := hid h
  obtain ⟨p, rfl⟩ : ∃ p : Nat, b = p := ⟨b.toNat, by have := hb.1; omega⟩
  have hp : p < 64 := by have := hb.2; omega
  have hpp : (p : Int) < 64 := by omega
  have HP := hid hp
  have c5 := h.c5
  have fr := h.free
  have hob := ok.o_nn p
  obtain ⟨ob, hobb⟩ : ∃ ob, m.o p = ob := ⟨_, rfl⟩
  rw [hobb] at hob
  have HOB := hid hobb
  have HO1 := hid (show 1 ≤ ob + 1 ∧ ob + 1 ≤ 16777215 from by omega)
  have hob1 : ob ≤ 10000000 := by omega
  have hob0 : 0 ≤ ob := hob.1
  have HUS := hid (show m.us N L p = Ms.ags L (N - 1) ((m.bump p).pl L (qn (m.o p + 1) N) p) from rfl)
  obtain ⟨t, htt⟩ : ∃ t, m.t = t := ⟨_, rfl⟩
  rw [htt] at c5
  have htb : t ≤ 10000000 := by omega
  have HTT := hid htt
  clear h ok hb hc hobb htt ht
  go_enter Tryz.func228, Tryz.ntmps228
  go_upto_region 1 with fail
  have HM1 := hid (HM.out.setT (t + 1))
  have HC1 := hid (mf_set (Chg.refl w (Mf g k)) 5 (.int .i64 ((t : Int) + 1)))
  rw [show ((t + 1 : Nat) : Int) = (t : Int) + 1 from by omega] at HM1
  generalize w.setCell ⟨g, 5, none⟩ (.int .i64 ((t : Int) + 1)) = w1 at *
  clear c5 fr
  have co := HM1.out.cO HP.out
  have fr := HM1.out.free
  dsimp only at co
  rw [HOB.out] at co
  go_region
  have HM2 := hid (show Mq (w1.setCell ⟨g, 6 + p, none⟩ (.int .i64 (ob + 1))) g k C N L H (m.bump p) from by
    have := HM1.out.setO HP.out (ob + 1)
    unfold Ms.bump
    rw [HOB.out, HTT.out]
    exact this)
  have HC2 := hid (show Chg w (w1.setCell ⟨g, 6 + p, none⟩ (.int .i64 (ob + 1))) (Mf g k) (Mf g k) from mf_set HC1.out (6 + p) (.int .i64 (ob + 1)))
  generalize w1.setCell ⟨g, 6 + p, none⟩ (.int .i64 (ob + 1)) = w2 at *
  have HM2D := hid (show Mq w2.drew g k C N L H (m.bump p) from HM2.out.draws 1)
  clear co fr hob
  have co := HM2.out.cO HP.out
  rw [show (m.bump p).o p = ob + 1 from by show upd m.o p (m.o p + 1) p = ob + 1; rw [upd_same, HOB.out]] at co
  rw [HOB.out] at HPL HT HBM HUS
  go_wp2_with (first
    | (go_at_call 233; refine (mq_queueof HM2D.out HBM.out.2.2.2.2 (ob + 1) HO1.out).mono ?_; rintro e w3 ⟨rfl, d, rfl⟩; have HM3 := hid (HM2.out.draws (1 + d)); have HC3 := hid (Chg.draws HC2.out (1 + d)))
    | (go_at_call 232; refine (mq_put HM3.out HBM.out.1 HBM.out.2.1 HBM.out.2.2.1 HBM.out.2.2.2.1 HVB.out).mono ?_; rintro e w4 ⟨rfl, hq, hc⟩; have HM4 := hid hq; have HC4 := hid (HC3.out.trans hc); clear hq hc)
    | (go_at_call 226; refine (mq_age HM4.out HPL.out HT.out).mono ?_; rintro e w5 ⟨rfl, hq, hc⟩; have HM5 := hid hq; have HC5 := hid (HC4.out.trans hc); clear hq hc))
  exact bodyPost_end (results_none rfl _ _ _) rfl ⟨rfl, by rw [HUS.out]; exact HM5.out, HC5.out⟩
def Ms.useM (m : Ms) (N L : Nat) (b : Int) : Ms := if b ∈ m.al then m.us N L b else m
theorem Okm.useM (ok : Okm C N L H m) (b : Int) : Okm C N L H (m.useM N L b) ∧ (m.useM N L b).t ≤ m.t + 1 := by
  unfold Ms.useM
  by_cases hb : b ∈ m.al
  · rw [if_pos hb]
    exact ⟨ok.us (ok.lt (ok.in_al hb)) (.inl hb), Nat.le_of_eq (us_t m N L b)⟩
  · rw [if_neg hb]
    exact ⟨ok, by omega⟩
set_option maxHeartbeats 1000000 in
theorem mq_Use (h : Mq w g k C N L H m) (ok : Okm C N L H m) (ht : m.t ≤ 10000000) (b : Int) :
    Calls Tryz.prog 225 #[.pointer (some ⟨g, 0, none⟩), .int .i64 b] w fun e w' => e = .returned (.bool (decide (b ∈ m.al))) ∧ Mq w' g k C N L H (m.useM N L b) ∧ Chg w w' (Mf g k) (Mf g k) := by
  have HH := hid (mq_has h ok b)
  have HM := hid h
  by_cases hb : b ∈ m.al
  · have e : m.useM N L b = m.us N L b := if_pos hb
    rw [decide_eq_true hb] at HH ⊢
    rw [e]
    have HU := hid (mq_use h ok ht (ok.lt (ok.in_al hb)) (.inl hb))
    clear h ok e hb
    go_enter Tryz.func225, Tryz.ntmps225
    go_wp2_with (first | (go_at_call 222; refine HH.out.mono ?_; rintro e w1 ⟨rfl, rfl⟩) | (go_at_call 228; refine HU.out.mono ?_; rintro e w2 ⟨rfl, hq, hc⟩; have HM2 := hid hq; have HC2 := hid hc; clear hq hc))
    go_ret
    exact ⟨rfl, HM2.out, HC2.out⟩
  · have e : m.useM N L b = m := if_neg hb
    rw [decide_eq_false hb] at HH ⊢
    rw [e]
    clear h ok e hb
    go_enter Tryz.func225, Tryz.ntmps225
    go_wp2_with (go_at_call 222; refine HH.out.mono ?_; rintro e w1 ⟨rfl, rfl⟩)
    go_ret
    exact ⟨rfl, HM.out, Chg.refl _ _⟩
def Ms.remM (m : Ms) (b : Int) : Ms := if b ∈ m.al then m.fo b else m
theorem Okm.remM (ok : Okm C N L H m) (b : Int) : Okm C N L H (m.remM b) ∧ (m.remM b).t = m.t := by
  unfold Ms.remM
  by_cases hb : b ∈ m.al
  · rw [if_pos hb]
    exact ⟨ok.fo b, rfl⟩
  · rw [if_neg hb]
    exact ⟨ok, rfl⟩
set_option maxHeartbeats 1000000 in
theorem mq_remove (h : Mq w g k C N L H m) (ok : Okm C N L H m) (b : Int) :
    Calls Tryz.prog 224 #[.pointer (some ⟨g, 0, none⟩), .int .i64 b] w fun e w' => e = .returned (.bool (decide (b ∈ m.al))) ∧ Mq w' g k C N L H (m.remM b) ∧ Chg w w' (Mf g k) (Mf g k) := by
  have HH := hid (mq_has h ok b)
  have HM := hid h
  by_cases hb : b ∈ m.al
  · have e : m.remM b = m.fo b := if_pos hb
    rw [decide_eq_true hb] at HH ⊢
    rw [e]
    have HU := hid (mq_forget h (b := b) (ok.lt (ok.in_al hb)))
    clear h ok e hb
    go_enter Tryz.func224, Tryz.ntmps224
    go_wp2_with (first | (go_at_call 222; refine HH.out.mono ?_; rintro e w1 ⟨rfl, rfl⟩) | (go_at_call 230; refine HU.out.mono ?_; rintro e w2 ⟨rfl, hq, hc⟩; have HM2 := hid hq; have HC2 := hid hc; clear hq hc))
    go_ret
    exact ⟨rfl, HM2.out, HC2.out⟩
  · have e : m.remM b = m := if_neg hb
    rw [decide_eq_false hb] at HH ⊢
    rw [e]
    clear h ok e hb
    go_enter Tryz.func224, Tryz.ntmps224
    go_wp2_with (go_at_call 222; refine HH.out.mono ?_; rintro e w1 ⟨rfl, rfl⟩)
    go_ret
    exact ⟨rfl, HM.out, Chg.refl _ _⟩
def Ms.goes (m : Ms) (C : Nat) (b : Int) : Prop := vb b ∧ b ∉ m.al ∧ m.al.length = C
instance decMqGoes (m : Ms) (C : Nat) (b : Int) : Decidable (m.goes C b) := inferInstanceAs (Decidable (_ ∧ _ ∧ _))
def Ms.adV (m : Ms) (C : Nat) (b : Int) : Int := if m.goes C b then m.vc else 0
def Ms.adE (b : Int) : Int := if vb b then 0 else 3
def Ms.adM (m : Ms) (C N L H : Nat) (b : Int) : Ms := if m.goes C b then (m.ha H m.vc).us N L b else if vb b then m.us N L b else m
theorem ha_t (m : Ms) (H : Nat) (v : Int) : (m.ha H v).t = m.t := by
  unfold Ms.ha
  split <;> rfl
theorem Okm.adM (ok : Okm C N L H m) (hH : H ≤ 16) (b : Int) : Okm C N L H (m.adM C N L H b) ∧ (m.adM C N L H b).t ≤ m.t + 1 := by
  unfold Ms.adM
  by_cases hg : m.goes C b
  · rw [if_pos hg]
    obtain ⟨hv, hn, hl⟩ := hg
    obtain ⟨-, -, -, v4⟩ := ok.vic (by have := ok.c; omega)
    obtain ⟨o1, o2⟩ := ok.ha hH v4
    exact ⟨o1.us hv (.inr (by omega)), by rw [us_t, ha_t]; exact Nat.le_refl _⟩
  · rw [if_neg hg]
    by_cases hv : vb b
    · rw [if_pos hv]
      refine ⟨ok.us hv ?_, Nat.le_of_eq (us_t m N L b)⟩
      by_cases hb : b ∈ m.al
      · exact .inl hb
      · exact .inr (by have := ok.cap; have : m.al.length ≠ C := fun e => hg ⟨hv, hb, e⟩; omega)
    · rw [if_neg hv]
      exact ⟨ok, by omega⟩
end
end Go.Proofs.YtbcejfonkehjgaaGreatDoor
