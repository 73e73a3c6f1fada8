/-
  What is proved: karma's Cost answers what hints with parts cost, or what is wrong. Condition: hints and parts are read as such; there are no more than 20.
-/
import Derived.Test.YtcibhmbneedghaaKn14
import Derived.Test.YtcibhmbneedghaaKr14
namespace Go.Proofs.Ytcibhmbneedghaa
open Go.RowKit

theorem sN_le {f : Nat → Nat} {B : Nat} : ∀ {n : Nat}, (∀ i, i < n → f i ≤ B) → sN f n ≤ B * n
  | 0, _ => Nat.le_refl _
  | n + 1, h => by
    have h1 := sN_le (n := n) fun i hi => h i (by omega)
    have h2 := h n (by omega)
    rw [sN, Nat.mul_succ]
    omega
theorem index4 (cs : Array Value) (q : Nat) (v : Value) (hq : q < 4) (hv : cs[q]? = some v) (w : World) : (Instr.index 50 (.agg cs) (.int .i64 q)).run Try.prog w = .ok v w := by
  obtain ⟨i, hi, hz, hs, hb⟩ := info_parts eInts
  have hagg : ∀ w, (isAgg 3).run Try.prog w = .ok false w := fun w => by unfold isAgg; rw [Sem.run_bind, run_underlying Try.underlying3 w]; rfl
  have h0 : (q : Int) < 4 := by omega
  simp [Instr.index, asIntOf, run_underlying Try.underlying50, part, hagg, hv, sizeOf, typeInfo, hi, hs]
  intro h
  omega
/-- four numbers as cells -/
def c4n (x : Nat → Nat) : Array Value := #[.int .i64 (x 0 : Nat), .int .i64 (x 1 : Nat), .int .i64 (x 2 : Nat), .int .i64 (x 3 : Nat)]
theorem c4n_at (x : Nat → Nat) {j : Nat} (hj : j < 4) : (c4n x)[j]? = some (.int .i64 (x j : Nat)) := by
  have h4 : j = 0 ∨ j = 1 ∨ j = 2 ∨ j = 3 := by omega
  rcases h4 with rfl | rfl | rfl | rfl <;> rfl
/-- what a part costs where each block is used once -/
def cs4 (x k : Nat → Nat) : Nat := sN (fun t => x t * k t) 4
theorem cs4_le {x k : Nat → Nat} (hx : ∀ t, t < 4 → x t ≤ 32) (hk : ∀ t, t < 4 → k t ≤ 1000) : cs4 x k ≤ 128000 := sN_le (B := 32 * 1000) fun i hi => Nat.mul_le_mul (hx i hi) (hk i hi)
set_option maxHeartbeats 1000000 in
theorem pcost_any (x k : Nat → Nat) (hx : ∀ t, t < 4 → x t ≤ 32) (hk : ∀ t, t < 4 → k t ≤ 1000) (w : World) :
    Calls Try.prog 37 #[.agg (c4n x), .agg (c4n k)] w fun e w' => e = .returned (.int .i64 (cs4 x k : Nat)) ∧ Below w.heap.size w w' := by
  have hb1 := below_alloc w (.cells (c4n x) 57)
  have hx1 := Bx.new w 57 (c4n x)
  obtain ⟨w1, hw1⟩ : ∃ w1, w.alloc (.cells (c4n x) 57) = w1 := ⟨_, rfl⟩
  have hg := World.size_alloc w (.cells (c4n x) 57)
  rw [hw1] at hb1 hx1 hg
  have hb2 := on hb1 (below_alloc w1 (.cells (c4n k) 50))
  have hx2 := hx1.alloc (.cells (c4n k) 50)
  have hk2 := Bx.new w1 50 (c4n k)
  rw [hg] at hk2
  have HIX := hid (fun (j : Nat) (hj : j < 4) (W : World) => (show (Instr.index 50 (.agg #[.int .i64 (x 0 : Nat), .int .i64 (x 1 : Nat), .int .i64 (x 2 : Nat), .int .i64 (x 3 : Nat)]) (.int .i64 j)).run Try.prog W = .ok (.int .i64 (x j : Nat)) W from index4 (c4n x) j (.int .i64 (x j : Nat)) hj (c4n_at x hj) W))
  have HK := hid hk2
  have HB := hid hb2
  have HX := hid hx2
  have HG := hid hg
  have HLX := hid hx
  have HLK := hid hk
  have HW := hid hw1
  clear hb1 hx1 hb2 hx2 hk2 hx hk hw1 hg
  go_enter Try.func37, Try.ntmps37
  go_upto_region 1 with fail
  rw [HW.out]
  generalize w1.alloc (.cells (c4n k) 50) = w2 at *
  have p0 := HX.out.cell 0
  have p1 := HX.out.cell 1
  have p2 := HX.out.cell 2
  have p3 := HX.out.cell 3
  rw [c4n_at x (by omega)] at p0 p1 p2 p3
  go_wp2
  go_loopg [5, 10] 4 (fun gk t5 t10 wr => ∃ j : Nat, j + gk = 4 ∧ t5 = .int .i64 (sN (fun t => x t * k t) j : Nat) ∧ t10 = .int .i64 j ∧ wr = w2)
  case atStart => exact ⟨0, by omega, rfl, rfl, rfl⟩
  case round =>
    obtain ⟨j, hj, rfl, rfl, rfl⟩ := hrel
    by_cases hlt : j < 4
    · have hlt' : (j : Int) < 4 := by omega
      have i0 := HIX.out j hlt
      have k0 := HK.out.cell j
      have hm := Nat.mul_le_mul (HLX.out j hlt) (HLK.out j hlt)
      have hs := sN_le (n := j) (B := 32 * 1000) fun i hi => Nat.mul_le_mul (HLX.out i (by omega)) (HLK.out i (by omega))
      have hs2 : 32 * 1000 * j ≤ 128000 := by omega
      rw [c4n_at k hlt] at k0
      have HN := hid (show sN (fun t => x t * k t) (j + 1) = sN (fun t => x t * k t) j + x j * k j from rfl)
      have HM := hid (Int.natCast_mul (x j) (k j))
      generalize sN (fun t => x t * k t) j = z at *
      have hxj := HLX.out j hlt
      have hkj := HLK.out j hlt
      generalize x j = xj at *
      generalize k j = kj at *
      have hp1 : 0 ≤ (xj : Int) * (kj : Int) := by rw [← Int.natCast_mul]; omega
      have hp2 : (xj : Int) * (kj : Int) ≤ 32000 := by rw [← Int.natCast_mul]; exact Int.ofNat_le.2 hm
      clear hm
      go_wp2
      go_roundg (gk - 1)
      case measure => omega
      case rel => exact ⟨j + 1, by omega, by rw [HN.out, Int.natCast_add, Int.natCast_mul], by go_num, rfl⟩
    · have hlt' : ¬ (j : Int) < 4 := by omega
      obtain rfl : j = 4 := by omega
      go_wp2
      go_ret
      exact ⟨rfl, HB.out⟩
/-- what hint i costs, times b -/
def ct (hh : Nat → Hn) (P : Nat → Nat → Nat) (k : Nat → Nat) (b i : Nat) : Nat := cs4 (P i) k * oft hh i * (b / sz hh i)
theorem ct_le {hh : Nat → Hn} {P : Nat → Nat → Nat} {k : Nat → Nat} {b i : Nat} (hx : ∀ t, t < 4 → P i t ≤ 32) (hk : ∀ t, t < 4 → k t ≤ 1000) (ho : oft hh i ≤ 100000) (hb : b ≤ 1048576) : ct hh P k b i ≤ 128000 * 100000 * 1048576 :=
  Nat.mul_le_mul (Nat.mul_le_mul (cs4_le hx hk) ho) (Nat.le_trans (Nat.div_le_self _ _) hb)
/-- what Cost answers where nothing is wrong -/
def CostOk (hh : Nat → Hn) (n : Nat) (P : Nat → Nat → Nat) (k : Nat → Nat) (e : Ending) : Prop :=
  e = .returned (.tuple #[.int .i64 (sN (ct hh P k (cml (szs hh n))) n : Nat), .int .i64 (cml (szs hh n) : Nat), .int .i64 0])
set_option maxHeartbeats 1000000 in
theorem cost_bad (A B : Option Addr) (n c m cp : Nat) (hh : Nat → Hn) (P : Nat → Nat → Int) (k : Nat → Int) (w : World) (hn : n ≤ 20) (hm : m ≤ 20) (hr : Rv w w.heap.size A (hvs hh n)) (hp : Rv w w.heap.size B (pvs P m)) (hbad : ∀ r, RefP hh n P m k r → r ≠ 0) :
    Calls Try.prog 23 #[.slice A n c, .slice B m cp, .agg #[.int .i64 (k 0), .int .i64 (k 1), .int .i64 (k 2), .int .i64 (k 3)]] w fun e w' => ∃ r, e = .returned (.tuple #[.int .i64 0, .int .i64 0, .int .i64 r]) ∧ RefP hh n P m k r ∧ Below w.heap.size w w' := by
  have hx := Bx.new w 50 #[.int .i64 (k 0), .int .i64 (k 1), .int .i64 (k 2), .int .i64 (k 3)]
  have hb := below_alloc w (.cells #[.int .i64 (k 0), .int .i64 (k 1), .int .i64 (k 2), .int .i64 (k 3)] 50)
  have p0 := hx.cell 0
  have p1 := hx.cell 1
  have p2 := hx.cell 2
  have p3 := hx.cell 3
  have HRF := hid (refuses_any A B n c m cp hh P k _ hn hm (hr.now hb) (hp.now hb))
  have HB := hid hb
  have HBAD := hid hbad
  clear hx hb hr hp hbad
  go_enter Try.func23, Try.ntmps23
  go_upto_region 2 with (go_at_call 35; refine HRF.out.mono ?_; rintro e w2 ⟨r, rfl, hr, hb⟩; have HR := hid hr; have HB2 := hid (on HB.out hb); clear hr hb)
  have h0 : (r != 0) = true := by simpa using HBAD.out r HR.out
  go_wp2
  go_ret3
  exact ⟨r, rfl, HR.out, HB2.out⟩
theorem ref_ok {hh : Nat → Hn} {n : Nat} {P : Nat → Nat → Nat} {k : Nat → Nat} {r : Int} (hP : HintsP hh n 32) (hx : ∀ i, i < n → ∀ t, t < 4 → P i t ≤ 32) (hk : ∀ t, t < 4 → k t ≤ 1000) (ho : ∀ i, i < n → oft hh i ≤ 100000) (h : RefP hh n (fun i t => (P i t : Int)) n (fun t => (k t : Int)) r) : r = 0 := by
  have hb : ¬ CBad n (fun i t => (P i t : Int)) n (fun t => (k t : Int)) := by
    rintro (h | ⟨i, hi, t, ht, h⟩ | ⟨t, ht, h⟩)
    · exact h rfl
    · have := hx i hi t ht; dsimp only at h; omega
    · have := hk t ht; dsimp only at h; omega
  have hob : ¬ OBad hh n := by
    rintro ⟨i, hi, h⟩
    have h1 := ho i hi
    have h2 := hP.2.1 i hi
    unfold okH at h2
    unfold oft at h1
    omega
  rcases h with h | h | h | h
  · exact absurd hP h.1
  · exact absurd h.2.1 hb
  · exact absurd h.2.2.1 hob
  · exact h.2.2.2
set_option maxHeartbeats 2000000 in
theorem cost_good (A B : Option Addr) (n c cp : Nat) (hh : Nat → Hn) (P : Nat → Nat → Nat) (k : Nat → Nat) (w : World) (hr : Rv w w.heap.size A (hvs hh n)) (hp : Rv w w.heap.size B (pvs (fun i t => (P i t : Int)) n))
    (hP : HintsP hh n 32) (hx : ∀ i, i < n → ∀ t, t < 4 → P i t ≤ 32) (hk : ∀ t, t < 4 → k t ≤ 1000) (ho : ∀ i, i < n → oft hh i ≤ 100000) :
    Calls Try.prog 23 #[.slice A n c, .slice B n cp, .agg (c4n k)] w fun e w' => CostOk hh n P k e ∧ Below w.heap.size w w' := by
  have hn8 := hP.1
  have hx0 := Bx.new w 50 (c4n k)
  have hb := below_alloc w (.cells (c4n k) 50)
  have HR := hid hr
  have HPR := hid hp
  have HP := hid hP
  have HLX := hid hx
  have HLK := hid hk
  have HLO := hid ho
  have HRF := hid (refuses_any A B n c n cp hh (fun i t => (P i t : Int)) (fun t => (k t : Int)) _ (by omega) (by omega) (hr.now hb) (hp.now hb))
  have HROK := hid (fun r => ref_ok (r := r) hP hx hk ho)
  have HB := hid hb
  obtain ⟨g, hg⟩ : ∃ g, w.heap.size = g := ⟨_, rfl⟩
  have p0 := hx0.cell 0
  have p1 := hx0.cell 1
  have p2 := hx0.cell 2
  have p3 := hx0.cell 3
  rw [c4n_at k (by omega)] at p0 p1 p2 p3
  rw [hg] at hx0
  have HG := hid hg
  have HX := hid hx0
  clear hx0 hb hr hp hP hx hk ho hg
  go_enter Try.func23, Try.ntmps23
  go_upto_region 2 with (go_at_call 35; refine HRF.out.mono ?_; rintro e w2 ⟨r, rfl, hr, hb⟩; obtain rfl : r = 0 := HROK.out r hr; have HX2 := hid (HX.out.next hb); have HB2 := hid (on HB.out hb); clear hr hb)
  clear p0 p1 p2 p3 HRF HROK
  rw [HG.out]
  go_wp2
  go_loopg [7, 22] n (fun gk t7 t22 wr => ∃ j : Nat, j + gk = n ∧ t7 = .int .i64 (cml (szs hh j) : Nat) ∧ t22 = .int .i64 j ∧ Below w.heap.size w wr ∧ Bx wr g 50 (c4n k))
  case atStart => exact ⟨0, by omega, rfl, rfl, HB2.out, HX2.out⟩
  case round =>
    clear HX2 HB2 HX HB
    obtain ⟨j, hj, rfl, rfl, hb, hx⟩ := hrel
    have HX := hid hx
    have HB := hid hb
    clear hx hb
    by_cases hlt : j < n
    · have hlt' : (j : Int) < (n : Int) := by omega
      obtain ⟨ad, rfl, hat⟩ := (HR.out.now HB.out).hint hlt
      have ho := HP.out.2.1 j hlt
      have hle := szs_cml (HP.out.less (show j ≤ n by omega))
      have hpos := cml_pos (szs_pos (HP.out.less (show j ≤ n by omega)))
      have HNX := hid (show cml (szs hh (j + 1)) = Nat.lcm (cml (szs hh j)) (sz hh j) from by rw [szs_succ, cml_app])
      obtain ⟨⟨f, s, o, l⟩, hH⟩ : ∃ x, hh j = x := ⟨_, rfl⟩
      rw [hH] at hat ho
      have c0 := hat.f
      have c1 := hat.s
      have c2 := hat.o
      have c3 := hat.l
      dsimp only at c0 c1 c2 c3
      unfold okH at ho
      dsimp only at ho
      obtain ⟨S, rfl⟩ : ∃ S : Nat, s = S := ⟨s.toNat, by omega⟩
      have HNX2 := hid (show cml (szs hh (j + 1)) = Nat.lcm (cml (szs hh j)) S from by rw [HNX.out]; unfold sz; rw [hH]; rfl)
      generalize cml (szs hh j) = m at *
      have HMU := hid (fun w => multiple_any m S hpos hle (by omega) w)
      have HB3 := hid (on HB.out (below_alloc wr (.cells #[.int .i64 f, .int .i64 S, .int .i64 o, .bool l] 45)))
      have HX3 := hid (HX.out.alloc (.cells #[.int .i64 f, .int .i64 S, .int .i64 o, .bool l] 45))
      clear hat hH HNX ho
      go_wp2_with (go_at_call 36; refine (HMU.out _).mono ?_; rintro e w4 ⟨d, rfl, rfl⟩)
      go_roundg (gk - 1)
      case measure => omega
      case rel => exact ⟨j + 1, by omega, by rw [HNX2.out], by go_num, below_draws HB3.out _, HX3.out⟩
    · have hlt' : ¬ (j : Int) < (n : Int) := by omega
      obtain rfl : j = n := by omega
      clear hj hlt
      have hbl := szs_cml HP.out
      have HDV := hid (fun i (hi : i < j) => (cml_dvd (L := szs hh j) (n := sz hh i) (List.mem_map.2 ⟨i, List.mem_range.2 hi, rfl⟩)))
      have HCT := hid (fun i (hi : i < j) => ct_le (b := cml (szs hh j)) (HLX.out i hi) HLK.out (HLO.out i hi) hbl)
      have HCO := hid (show ∀ e, e = .returned (.tuple #[.int .i64 (sN (ct hh P k (cml (szs hh j))) j : Nat), .int .i64 (cml (szs hh j) : Nat), .int .i64 0]) → CostOk hh j P k e from fun e h => h)
      generalize cml (szs hh j) = b at *
      go_wp2
      go_loopg [6, 33] j (fun gk t6 t33 wr => ∃ i : Nat, i + gk = j ∧ t6 = .int .i64 (sN (ct hh P k b) i : Nat) ∧ t33 = .int .i64 i ∧ Below w.heap.size w wr ∧ Bx wr g 50 (c4n k))
      case atStart => exact ⟨0, by omega, rfl, rfl, HB.out, HX.out⟩
      case round =>
        clear HX HB
        obtain ⟨i, hi, rfl, rfl, hb, hx⟩ := hrel
        have HX := hid hx
        have HB := hid hb
        clear hx hb
        by_cases hlt : i < j
        · have hlt' : (i : Int) < (j : Int) := by omega
          obtain ⟨ad, rfl, hat⟩ := (HR.out.now HB.out).hint hlt
          obtain ⟨bd, rfl, hpt⟩ := (HPR.out.now HB.out).part hlt
          have ho := HP.out.2.1 i hlt
          obtain ⟨⟨f, s, o, l⟩, hH⟩ : ∃ x, hh i = x := ⟨_, rfl⟩
          rw [hH] at hat ho
          have c0 := hat.f
          have c1 := hat.s
          have c2 := hat.o
          have c3 := hat.l
          dsimp only at c0 c1 c2 c3
          unfold okH at ho
          dsimp only at ho
          obtain ⟨S, rfl⟩ : ∃ S : Nat, s = S := ⟨s.toNat, by omega⟩
          obtain ⟨O, rfl⟩ : ∃ O : Nat, o = O := ⟨o.toNat, by omega⟩
          have hO := HLO.out i hlt
          have e1 : oft hh i = O := by unfold oft; rw [hH]; rfl
          have e2 : sz hh i = S := by unfold sz; rw [hH]; rfl
          have hC := cs4_le (HLX.out i hlt) HLK.out
          have hct := HCT.out i hlt
          have hZ := sN_le (n := i) fun i' hi' => HCT.out i' (by omega)
          have hN := HP.out.1
          have HN := hid (show sN (ct hh P k b) (i + 1) = sN (ct hh P k b) i + cs4 (P i) k * O * (b / S) from by rw [← e1, ← e2]; rfl)
          rw [show ct hh P k b i = cs4 (P i) k * O * (b / S) from by rw [← e1, ← e2]; rfl] at hct
          have hbq : b / S ≤ 1048576 := Nat.le_trans (Nat.div_le_self _ _) hbl
          have hdiv : (b : Int) / (S : Int) = ((b / S : Nat) : Int) := (Int.natCast_ediv b S).symm
          have hS0 : (S : Int) ≠ 0 := by omega
          rw [e1] at hO
          have HPC := hid (fun w => pcost_any (P i) k (HLX.out i hlt) HLK.out w)
          have q0 := hpt.c0
          have q1 := hpt.c1
          have q2 := hpt.c2
          have q3 := hpt.c3
          have hbx := below_alloc wr (.cells #[.int .i64 f, .int .i64 S, .int .i64 O, .bool l] 45)
          have HPT := hid (hpt.next hbx)
          have HX3 := hid (HX.out.next hbx)
          have HH3 := hid (hbox_new wr ⟨f, S, O, l⟩ 45)
          have HB3 := hid (on HB.out hbx)
          generalize sN (ct hh P k b) i = Z at *
          generalize cs4 (P i) k = C at *
          generalize b / S = q at *
          have hp1 : ((C * O : Nat) : Int) = (C : Int) * (O : Int) := Int.natCast_mul C O
          have hp2 : ((C * O * q : Nat) : Int) = (C : Int) * (O : Int) * (q : Int) := by rw [Int.natCast_mul, hp1]
          have hp3 : C * O ≤ 128000 * 100000 := Nat.mul_le_mul hC hO
          generalize C * O * q = CQ at *
          generalize C * O = CO at *
          have hz1 : 128000 * 100000 * 1048576 * i ≤ 128000 * 100000 * 1048576 * 8 := Nat.mul_le_mul_left _ (by omega)
          go_upto_region 13 with fail
          clear c0 c1 c2 c3 q0 q1 q2 q3 hbx hpt hat hH
          obtain ⟨hb, hhb⟩ : ∃ x, wr.heap.size = x := ⟨_, rfl⟩
          rw [hhb] at HH3 ⊢
          generalize wr.alloc (.cells #[.int .i64 f, .int .i64 S, .int .i64 O, .bool l] 45) = w3 at *
          have z0 : ∀ s_ : Since w3, s_.at_.cell? (bd.add (i * 4)) = some (.int .i64 (P i 0 : Nat)) := fun s_ => (HPT.out.next s_.bel).c0
          have z1 : ∀ s_ : Since w3, s_.at_.cell? ⟨(bd.add (i * 4)).block, (bd.add (i * 4)).off + 1, none⟩ = some (.int .i64 (P i 1 : Nat)) := fun s_ => (HPT.out.next s_.bel).c1
          have z2 : ∀ s_ : Since w3, s_.at_.cell? ⟨(bd.add (i * 4)).block, (bd.add (i * 4)).off + 2, none⟩ = some (.int .i64 (P i 2 : Nat)) := fun s_ => (HPT.out.next s_.bel).c2
          have z3 : ∀ s_ : Since w3, s_.at_.cell? ⟨(bd.add (i * 4)).block, (bd.add (i * 4)).off + 3, none⟩ = some (.int .i64 (P i 3 : Nat)) := fun s_ => (HPT.out.next s_.bel).c3
          have y0 : ∀ s_ : Since w3, s_.at_.cell? ⟨g, 0, none⟩ = some (.int .i64 (k 0 : Nat)) := fun s_ => (HX3.out.next s_.bel).cell 0
          have y1 : ∀ s_ : Since w3, s_.at_.cell? ⟨g, 1, none⟩ = some (.int .i64 (k 1 : Nat)) := fun s_ => (HX3.out.next s_.bel).cell 1
          have y2 : ∀ s_ : Since w3, s_.at_.cell? ⟨g, 2, none⟩ = some (.int .i64 (k 2 : Nat)) := fun s_ => (HX3.out.next s_.bel).cell 2
          have y3 : ∀ s_ : Since w3, s_.at_.cell? ⟨g, 3, none⟩ = some (.int .i64 (k 3 : Nat)) := fun s_ => (HX3.out.next s_.bel).cell 3
          have x1 : ∀ s_ : Since w3, s_.at_.cell? ⟨hb, 1, none⟩ = some (.int .i64 S) := fun s_ => (HH3.out.next s_.bel).s
          have x2 : ∀ s_ : Since w3, s_.at_.cell? ⟨hb, 2, none⟩ = some (.int .i64 O) := fun s_ => (HH3.out.next s_.bel).o
          refine wp_region_since (by kernel_rfl) (by kernel_rfl) ?_
          repeat (go_big_quiet_step ((go_at_call 37; exact Calls.since _ (HPC.out _))))
          refine wpQuiet_nil ?_
          rintro _ ⟨s_, rfl⟩
          have HB4 := hid (on HB3.out s_.bel)
          have HX4 := hid (HX3.out.next s_.bel)
          clear z0 z1 z2 z3 y0 y1 y2 y3 x1 x2
          go_wp2
          go_roundg (gk - 1)
          case measure => omega
          case rel => exact ⟨i + 1, by omega, by rw [HN.out, Int.natCast_add, hp2], by go_num, HB4.out, HX4.out⟩
        · have hlt' : ¬ (i : Int) < (j : Int) := by omega
          obtain rfl : i = j := by omega
          go_wp2
          go_ret3
          exact ⟨HCO.out _ rfl, HB.out⟩
end Go.Proofs.Ytcibhmbneedghaa
