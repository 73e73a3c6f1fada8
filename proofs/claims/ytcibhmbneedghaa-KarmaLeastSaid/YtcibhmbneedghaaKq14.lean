/-
  What is proved: karma's wrong tells whether a number of a part may not be; slices.ContainsFunc over parts with it, and over hints with what asks how often; karma's refuses tells what is wrong with telling a cost. Condition: hints and parts are read as such.
-/
import Derived.Test.YtcibhmbneedghaaKo14
import Derived.Test.YtcibhmbneedghaaRHints
namespace Go.Proofs.Ytcibhmbneedghaa
open Go.RowKit

abbrev f4 (a b c d : Int) (i : Nat) : Int := [a, b, c, d].getD i 0
/-- the cells of parts, one behind the other -/
def pvs (P : Nat → Nat → Int) (m : Nat) : List Value := (List.range (m * 4)).map fun j => .int .i64 (P (j / 4) (j % 4))
theorem pvs_length (P : Nat → Nat → Int) (m : Nat) : (pvs P m).length = m * 4 := by simp [pvs]
theorem pvs_one (P : Nat → Nat → Int) (m : Nat) : ∀ u ∈ pvs P m, u.oneCell' = true := fun u hu => by
  obtain ⟨j, _, rfl⟩ := List.mem_map.1 hu
  rfl
theorem pvs_at (P : Nat → Nat → Int) {m i t : Nat} (hi : i < m) (ht : t < 4) : (pvs P m)[i * 4 + t]? = some (.int .i64 (P i t)) := by
  unfold pvs
  rw [List.getElem?_map, List.getElem?_range (by omega)]
  show some (Value.int .i64 (P ((i * 4 + t) / 4) ((i * 4 + t) % 4))) = _
  rw [show (i * 4 + t) / 4 = i by omega, show (i * 4 + t) % 4 = t by omega]
theorem pvs_congr {P R : Nat → Nat → Int} {m : Nat} (h : ∀ i, i < m → ∀ t, t < 4 → P i t = R i t) : pvs P m = pvs R m := by
  unfold pvs
  refine List.map_congr_left fun j hj => ?_
  have := List.mem_range.1 hj
  rw [h (j / 4) (by omega) (j % 4) (by omega)]
/-- a part that is read -/
structure PAt (w : World) (a : Addr) (x : Nat → Int) : Prop where
  lt : a.block < w.heap.size
  c0 : w.cell? a = some (.int .i64 (x 0))
  c1 : w.cell? ⟨a.block, a.off + 1, none⟩ = some (.int .i64 (x 1))
  c2 : w.cell? ⟨a.block, a.off + 2, none⟩ = some (.int .i64 (x 2))
  c3 : w.cell? ⟨a.block, a.off + 3, none⟩ = some (.int .i64 (x 3))
theorem Rv.part {w : World} {A : Option Addr} {P : Nat → Nat → Int} {m q : Nat} (hr : Rv w w.heap.size A (pvs P m)) (hq : q < m) : ∃ ad, A = some ad ∧ PAt w (ad.add (q * 4)) (P q) := by
  obtain ⟨ad, rfl, hb, c0⟩ := hr _ _ (pvs_at P hq (t := 0) (by omega))
  obtain ⟨_, e1, _, c1⟩ := hr _ _ (pvs_at P hq (t := 1) (by omega))
  obtain ⟨_, e2, _, c2⟩ := hr _ _ (pvs_at P hq (t := 2) (by omega))
  obtain ⟨_, e3, _, c3⟩ := hr _ _ (pvs_at P hq (t := 3) (by omega))
  injection e1 with e1
  injection e2 with e2
  injection e3 with e3
  subst e1 e2 e3
  rw [addSucc _ _ _ (by omega)] at c1 c2 c3
  rw [Nat.add_zero] at c0
  exact ⟨ad, rfl, by rw [addBlk]; exact hb, c0, c1, c2, c3⟩
theorem PAt.next {w w' : World} {a : Addr} {x : Nat → Int} (hh : PAt w a x) (hb : Below w.heap.size w w') : PAt w' a x :=
  ⟨Nat.lt_of_lt_of_le hh.lt hb.size, (hb.cell hh.lt).trans hh.c0, (hb.cell (p := ⟨a.block, a.off + 1, none⟩) hh.lt).trans hh.c1, (hb.cell (p := ⟨a.block, a.off + 2, none⟩) hh.lt).trans hh.c2, (hb.cell (p := ⟨a.block, a.off + 3, none⟩) hh.lt).trans hh.c3⟩
set_option maxHeartbeats 400000 in
theorem wrong_any (a b c d : Int) (w : World) :
    Calls Try.prog 44 #[.agg #[.int .i64 a, .int .i64 b, .int .i64 c, .int .i64 d]] w fun e w' => e = .returned (.bool (dec (Outs 0 32 (f4 a b c d) 4))) ∧ Below w.heap.size w w' := by
  have hx := Bx.new w 57 #[.int .i64 a, .int .i64 b, .int .i64 c, .int .i64 d]
  have hb := below_alloc w (.cells #[.int .i64 a, .int .i64 b, .int .i64 c, .int .i64 d] 57)
  have HCF := hid (fun (w' : World) (v : Value) (hv : OutV w' 0 32 v) (hx : Bx w' w.heap.size 57 #[.int .i64 a, .int .i64 b, .int .i64 c, .int .i64 d]) => contains_out w.heap.size 4 4 (f4 a b c d) 0 32 v w' (by omega) hv fun i hi => by
    rw [hx.cell]
    have h4 : i = 0 ∨ i = 1 ∨ i = 2 ∨ i = 3 := by omega
    rcases h4 with rfl | rfl | rfl | rfl <;> rfl)
  have HX := hid hx
  have HB := hid hb
  clear hx hb
  go_enter Try.func44, Try.ntmps44
  go_upto_region 1 with fail
  generalize w.alloc (.cells #[.int .i64 a, .int .i64 b, .int .i64 c, .int .i64 d] 57) = w1 at *
  have HXD := hid (show Bx w1.drew w.heap.size 57 #[.int .i64 a, .int .i64 b, .int .i64 c, .int .i64 d] from HX.out)
  have HBD := hid (below_draws HB.out 1)
  rw [show w1.drewN 1 = w1.drew from rfl] at HBD
  go_region_with (first
    | (go_at_call 27; refine (outside_any 0 32 _).mono ?_; rintro e w2 ⟨v, rfl, hv, hb⟩; have HV := hid hv; have HX2 := hid (show Bx w2 w.heap.size 57 #[.int .i64 a, .int .i64 b, .int .i64 c, .int .i64 d] from HXD.out.next hb); have HB2 := hid (show Below w.heap.size w w2 from on HBD.out hb); clear hv hb)
    | (go_at_call 28; refine (HCF.out _ _ HV.out HX2.out).mono ?_; rintro e w3 ⟨rfl, rfl⟩))
  go_wp2
  go_ret
  exact ⟨rfl, HB2.out⟩
/-- one of the first m parts has a number that may not be -/
def PBad (P : Nat → Nat → Int) (m : Nat) : Prop := ∃ i, i < m ∧ Outs 0 32 (P i) 4
theorem f4_congr (x : Nat → Int) (lo hi : Int) : Outs lo hi (f4 (x 0) (x 1) (x 2) (x 3)) 4 ↔ Outs lo hi x 4 := by
  have h : ∀ i, i < 4 → f4 (x 0) (x 1) (x 2) (x 3) i = x i := fun i hi => by
    have h4 : i = 0 ∨ i = 1 ∨ i = 2 ∨ i = 3 := by omega
    rcases h4 with rfl | rfl | rfl | rfl <;> rfl
  unfold Outs
  constructor
  · rintro ⟨i, h1, h2⟩; exact ⟨i, h1, by rw [← h i h1]; exact h2⟩
  · rintro ⟨i, h1, h2⟩; exact ⟨i, h1, by rw [h i h1]; exact h2⟩
set_option maxHeartbeats 400000 in
theorem idx_parts (A : Option Addr) (m c : Nat) (P : Nat → Nat → Int) (w : World) (hm : m ≤ 1000) (hr : Rv w w.heap.size A (pvs P m)) :
    Calls Try.prog 48 #[.slice A m c, .func (.func 44) #[] #[]] w fun e w' => ∃ r : Int, e = .returned (.int .i64 r) ∧ (0 ≤ r ↔ PBad P m) ∧ Below w.heap.size w w' := by
  have HR := hid hr
  clear hr
  go_enter Try.func48, Try.ntmps48
  go_wp2
  go_loopg [8] m (fun gk t8 wr => ∃ j : Nat, j + gk = m ∧ t8 = .int .i64 j ∧ (∀ i, i < j → ¬ Outs 0 32 (P i) 4) ∧ Below w.heap.size w wr)
  case atStart => exact ⟨0, by omega, rfl, fun i hi => absurd hi (Nat.not_lt_zero i), Below.refl _ _⟩
  case round =>
    obtain ⟨j, hj, rfl, hall, hb⟩ := hrel
    have HALL := hid hall
    have HB := hid hb
    clear hall hb
    by_cases hlt : j < m
    · have hlt' : (j : Int) < (m : Int) := by omega
      obtain ⟨ad, rfl, hat⟩ := (HR.out.now HB.out).part hlt
      obtain ⟨_, c0, c1, c2, c3⟩ := hat
      have HC := hid (f4_congr (P j) 0 32)
      have HP := hid (fun i => (show i < j + 1 → ¬ Outs 0 32 (P j) 4 → ¬ Outs 0 32 (P i) 4 from fun hi h => by
          by_cases e : i = j
          · rw [e]; exact h
          · exact HALL.out i (by omega)))
      have HQ := hid (show Outs 0 32 (P j) 4 → PBad P m from fun h => ⟨j, hlt, h⟩)
      generalize P j 0 = x0 at *
      generalize P j 1 = x1 at *
      generalize P j 2 = x2 at *
      generalize P j 3 = x3 at *
      by_cases ho : Outs 0 32 (f4 x0 x1 x2 x3) 4
      · have HX := hid (HQ.out (HC.out.1 ho))
        have HW := hid (fun w => wrong_any x0 x1 x2 x3 w)
        rw [dec_true ho] at HW
        clear ho HP HQ
        go_wp2_with (go_at_call 44; refine (HW.out _).mono ?_; rintro e w' ⟨rfl, hb⟩; have HB2 := hid (on HB.out hb); clear hb)
        go_ret
        exact ⟨(j : Int), rfl, ⟨fun _ => HX.out, fun _ => by omega⟩, HB2.out⟩
      · have HN := hid (fun i hi => HP.out i hi fun h => ho (HC.out.2 h))
        have HW := hid (fun w => wrong_any x0 x1 x2 x3 w)
        rw [dec_false ho] at HW
        clear ho HP HQ
        go_wp2_with (go_at_call 44; refine (HW.out _).mono ?_; rintro e w' ⟨rfl, hb⟩; have HB2 := hid (on HB.out hb); clear hb)
        go_roundg (gk - 1)
        case measure => omega
        case rel => exact ⟨j + 1, by omega, by go_num, HN.out, HB2.out⟩
    · have hlt' : ¬ (j : Int) < (m : Int) := by omega
      obtain rfl : j = m := by omega
      go_wp2
      go_ret
      refine ⟨-1, rfl, ⟨fun h => by omega, fun ⟨i, h1, h2⟩ => absurd h2 (HALL.out i h1)⟩, HB.out⟩
theorem contains_parts (A : Option Addr) (m c : Nat) (P : Nat → Nat → Int) (w : World) (hm : m ≤ 1000) (hr : Rv w w.heap.size A (pvs P m)) :
    Calls Try.prog 43 #[.slice A m c, .func (.func 44) #[] #[]] w fun e w' => e = .returned (.bool (dec (PBad P m))) ∧ Below w.heap.size w w' := by
  have HI := hid (idx_parts A m c P w hm hr)
  clear hr
  go_enter Try.func43, Try.ntmps43
  go_wp2_with (go_at_call 48; refine HI.out.mono ?_; rintro e w' ⟨r, rfl, hr, hb⟩; have HR := hid hr; have HB := hid hb; clear hr hb)
  go_ret
  exact ⟨ret_dec (by rw [← HR.out]; simp), HB.out⟩
/-- one of the first n hints is asked for too often -/
def OBad (hh : Nat → Hn) (n : Nat) : Prop := ∃ i, i < n ∧ ((hh i).o < 0 ∨ 100000 < (hh i).o)
set_option maxHeartbeats 400000 in
theorem tooOften_any (f s o : Int) (l : Bool) (p : Addr) (v : Value) (w : World) (hp : w.cell? p = some v) (hpl : p.block < w.heap.size) (hv : OutV w 0 100000 v) :
    Calls Try.prog 46 #[.agg #[.int .i64 f, .int .i64 s, .int .i64 o, .bool l], .pointer (some p)] w fun e w' => e = .returned (.bool (decide (o < 0 ∨ 100000 < o))) ∧ Below w.heap.size w w' := by
  obtain ⟨q, r, rfl, h1, h2, h3, h4⟩ := hv
  have hb := below_alloc w (.cells #[.int .i64 f, .int .i64 s, .int .i64 o, .bool l] 45)
  have c0 := (hb.cell hpl).trans hp
  have HC := hid (And.intro ((hb.cell h3).trans h1) ((hb.cell h4).trans h2))
  have hx := (hbox_new w ⟨f, s, o, l⟩ 45).o
  dsimp only at hx
  have HB := hid hb
  clear hb h1 h2 h3 h4 hp
  go_enter Try.func46, Try.ntmps46
  go_upto_region 1 with fail
  generalize w.alloc (.cells #[.int .i64 f, .int .i64 s, .int .i64 o, .bool l] 45) = w1 at *
  go_wp2_with (go_at_call 38; refine (outs1_any o 0 100000 q r _ HC.out.1 HC.out.2).mono ?_; rintro e w2 ⟨rfl, rfl⟩)
  go_ret
  refine ⟨?_, HB.out⟩
  show Ending.returned (.bool (decide (o < 0) || decide (100000 < o))) = _
  rw [Bool.decide_or]
set_option maxHeartbeats 400000 in
theorem idx_hints (A : Option Addr) (n c : Nat) (hh : Nat → Hn) (p : Addr) (v : Value) (w : World) (hn : n ≤ 1000) (hr : Rv w w.heap.size A (hvs hh n)) (hp : w.cell? p = some v) (hpl : p.block < w.heap.size) (hv : OutV w 0 100000 v) :
    Calls Try.prog 49 #[.slice A n c, .func (.func 46) #[] #[.pointer (some p)]] w fun e w' => ∃ r : Int, e = .returned (.int .i64 r) ∧ (0 ≤ r ↔ OBad hh n) ∧ Below w.heap.size w w' := by
  have HR := hid hr
  have HT := hid (fun (w' : World) (hb : Below w.heap.size w w') f s o l => tooOften_any f s o l p v w' ((hb.cell hpl).trans hp) (Nat.lt_of_lt_of_le hpl hb.size) (hv.below hb))
  clear hr hp hpl hv
  go_enter Try.func49, Try.ntmps49
  go_wp2
  go_loopg [8] n (fun gk t8 wr => ∃ j : Nat, j + gk = n ∧ t8 = .int .i64 j ∧ (∀ i, i < j → ¬ ((hh i).o < 0 ∨ 100000 < (hh i).o)) ∧ Below w.heap.size w wr)
  case atStart => exact ⟨0, by omega, rfl, fun i hi => absurd hi (Nat.not_lt_zero i), Below.refl _ _⟩
  case round =>
    obtain ⟨j, hj, rfl, hall, hb⟩ := hrel
    have HALL := hid hall
    have HB := hid hb
    clear hall hb
    by_cases hlt : j < n
    · have hlt' : (j : Int) < (n : Int) := by omega
      obtain ⟨ad, rfl, hat⟩ := (HR.out.now HB.out).hint hlt
      have HP := hid (fun i => (show i < j + 1 → ¬ ((hh j).o < 0 ∨ 100000 < (hh j).o) → ¬ ((hh i).o < 0 ∨ 100000 < (hh i).o) from fun hi h => by
          by_cases e : i = j
          · rw [e]; exact h
          · exact HALL.out i (by omega)))
      have HQ := hid (show ((hh j).o < 0 ∨ 100000 < (hh j).o) → OBad hh n from fun h => ⟨j, hlt, h⟩)
      obtain ⟨⟨f, s, o, l⟩, hH⟩ : ∃ x, hh j = x := ⟨_, rfl⟩
      rw [hH] at hat HP HQ
      obtain ⟨_, c0, c1, c2, c3⟩ := hat
      dsimp only at c0 c1 c2 c3 HP HQ
      clear hH
      have HW := hid (HT.out _ HB.out f s o l)
      by_cases ho : o < 0 ∨ 100000 < o
      · have HX := hid (HQ.out ho)
        rw [decide_eq_true ho] at HW
        clear ho HP HQ
        go_wp2_with (go_at_call 46; refine HW.out.mono ?_; rintro e w' ⟨rfl, hb⟩; have HB2 := hid (on HB.out hb); clear hb)
        go_ret
        exact ⟨(j : Int), rfl, ⟨fun _ => HX.out, fun _ => by omega⟩, HB2.out⟩
      · have HN := hid (fun i hi => HP.out i hi ho)
        rw [decide_eq_false ho] at HW
        clear ho HP HQ
        go_wp2_with (go_at_call 46; refine HW.out.mono ?_; rintro e w' ⟨rfl, hb⟩; have HB2 := hid (on HB.out hb); clear hb)
        go_roundg (gk - 1)
        case measure => omega
        case rel => exact ⟨j + 1, by omega, by go_num, HN.out, HB2.out⟩
    · have hlt' : ¬ (j : Int) < (n : Int) := by omega
      obtain rfl : j = n := by omega
      go_wp2
      go_ret
      refine ⟨-1, rfl, ⟨fun h => by omega, fun ⟨i, h1, h2⟩ => absurd h2 (HALL.out i h1)⟩, HB.out⟩
theorem contains_hints (A : Option Addr) (n c : Nat) (hh : Nat → Hn) (p : Addr) (v : Value) (w : World) (hn : n ≤ 1000) (hr : Rv w w.heap.size A (hvs hh n)) (hp : w.cell? p = some v) (hpl : p.block < w.heap.size) (hv : OutV w 0 100000 v) :
    Calls Try.prog 45 #[.slice A n c, .func (.func 46) #[] #[.pointer (some p)]] w fun e w' => e = .returned (.bool (dec (OBad hh n))) ∧ Below w.heap.size w w' := by
  have HI := hid (idx_hints A n c hh p v w hn hr hp hpl hv)
  clear hr hp hv
  go_enter Try.func45, Try.ntmps45
  go_wp2_with (go_at_call 49; refine HI.out.mono ?_; rintro e w' ⟨r, rfl, hr, hb⟩; have HR := hid hr; have HB := hid hb; clear hr hb)
  go_ret
  exact ⟨ret_dec (by rw [← HR.out]; simp), HB.out⟩
end Go.Proofs.Ytcibhmbneedghaa
