/-
  What is proved: the reference's Cost tells what hints with parts cost. Condition: the hints are right, and read as such; the parts and costs may be.
-/
import Derived.Test.YtcibhmbneedghaaKc14
namespace Go.Proofs.Ytcibhmbneedghaa
open Go.RowKit

/-- what the first t places of hint i cost -/
def ptc (hh : Nat → Hn) (P : Nat → Nat → Nat) (k : Nat → Nat) (b i t : Nat) : Nat := sN (fun t => b / sz hh i * oft hh i * P i t * k t) t
theorem sN_mul (f : Nat → Nat) (m : Nat) : ∀ n, sN (fun t => m * f t) n = m * sN f n
  | 0 => rfl
  | n + 1 => by rw [sN, sN, sN_mul f m n, Nat.mul_add]
theorem ptc_ct (hh : Nat → Hn) (P : Nat → Nat → Nat) (k : Nat → Nat) (b i : Nat) : ptc hh P k b i 4 = ct hh P k b i := by
  unfold ptc ct cs4
  rw [sN_congr (g := fun t => b / sz hh i * oft hh i * (P i t * k t)) fun t _ => Nat.mul_assoc _ _ _, sN_mul (fun t => P i t * k t)]
  rw [Nat.mul_comm (b / sz hh i) (oft hh i), Nat.mul_comm _ (sN _ _), Nat.mul_assoc]
theorem ptc_le {hh : Nat → Hn} {P : Nat → Nat → Nat} {k : Nat → Nat} {b i t : Nat} (hx : ∀ t, t < 4 → P i t ≤ 32) (hk : ∀ t, t < 4 → k t ≤ 1000) (ho : oft hh i ≤ 100000) (hb : b ≤ 1048576) (ht : t ≤ 4) : ptc hh P k b i t ≤ 1048576 * 100000 * 32 * 1000 * t :=
  sN_le fun t ht => Nat.mul_le_mul (Nat.mul_le_mul (Nat.mul_le_mul (Nat.le_trans (Nat.div_le_self _ _) hb) ho) (hx t (by omega))) (hk t (by omega))
set_option maxRecDepth 20000 in
set_option maxHeartbeats 2000000 in
theorem rcost_any (A B : Option Addr) (n c cp b N : Nat) (hh : Nat → Hn) (P : Nat → Nat → Nat) (k : Nat → Nat) (w : World) (hN : N = n * 4) (hr : Rv w w.heap.size A (hvs hh n)) (hp : Rv w w.heap.size B (pvs (fun i t => (P i t : Int)) n))
    (hP : HintsP hh n 32) (hx : ∀ i, i < n → ∀ t, t < 4 → P i t ≤ 32) (hk : ∀ t, t < 4 → k t ≤ 1000) (ho : ∀ i, i < n → oft hh i ≤ 100000) (hb : b ≤ 1048576) :
    Calls Try.prog 26 #[.slice A n c, .slice B N cp, .agg #[.int .i64 (k 0 : Nat), .int .i64 (k 1 : Nat), .int .i64 (k 2 : Nat), .int .i64 (k 3 : Nat)], .int .i64 b] w fun e w' => e = .returned (.int .i64 (sN (ct hh P k b) n : Nat)) ∧ Below w.heap.size w w' := by
  have hn8 := hP.1
  have HR := hid hr
  have HPR := hid hp
  have HP := hid hP
  have HLX := hid hx
  have HLK := hid hk
  have HLO := hid ho
  have HB0 := hid (below_alloc w (.cells (c4n k) 50))
  have HX0 := hid (Bx.new w 50 (c4n k))
  have HN := hid hN
  obtain ⟨g, hg⟩ : ∃ g, w.heap.size = g := ⟨_, rfl⟩
  rw [hg] at HX0
  have HG := hid hg
  clear hr hp hP hx hk ho hg hN
  go_enter Try.func26, Try.ntmps26
  go_upto_region 1 with fail
  rw [show (w.alloc (.cells #[.int .i64 (k 0 : Nat), .int .i64 (k 1 : Nat), .int .i64 (k 2 : Nat), .int .i64 (k 3 : Nat)] 50)) = w.alloc (.cells (c4n k) 50) from rfl, HG.out]
  generalize w.alloc (.cells (c4n k) 50) = w1 at *
  go_wp2
  go_loopg [9, 10] n (fun gk t9 t10 wr => ∃ i m : Nat, i + gk = n ∧ t9 = .int .i64 (sN (ct hh P k b) i : Nat) ∧ t10 = .int .i64 i ∧ wr = w1.drewN m)
  case atStart => exact ⟨0, 0, by omega, rfl, rfl, rfl⟩
  case round =>
    obtain ⟨i, m, hi, rfl, rfl, rfl⟩ := hrel
    by_cases hlt : i < n
    · have hlt' : (i : Int) < (n : Int) := by omega
      obtain ⟨ad, rfl, hat⟩ := (HR.out.now HB0.out).hint hlt
      have ho := HP.out.2.1 i hlt
      have hO := HLO.out i hlt
      have hZ := sN_le (n := i) fun i' (hi' : i' < i) => ct_le (hh := hh) (P := P) (k := k) (b := b) (HLX.out i' (by omega)) HLK.out (HLO.out i' (by omega)) hb
      have hz1 : 128000 * 100000 * 1048576 * i ≤ 128000 * 100000 * 1048576 * 8 := Nat.mul_le_mul_left _ (by omega)
      have HPL := hid (fun t (ht : t ≤ 4) => ptc_le (hh := hh) (P := P) (k := k) (b := b) (HLX.out i hlt) HLK.out hO hb ht)
      have HNX := hid (show sN (ct hh P k b) (i + 1) = sN (ct hh P k b) i + ct hh P k b i from rfl)
      have HPC := hid (ptc_ct hh P k b i)
      have HPS := hid (fun t => (show ptc hh P k b i (t + 1) = ptc hh P k b i t + b / sz hh i * oft hh i * P i t * k t from rfl))
      obtain ⟨⟨f, s, o, l⟩, hH⟩ : ∃ x, hh i = x := ⟨_, rfl⟩
      rw [hH] at hat ho
      have c1 := hat.s
      have c2 := hat.o
      dsimp only at c1 c2
      unfold okH at ho
      dsimp only at ho
      obtain ⟨S, rfl⟩ : ∃ S : Nat, s = S := ⟨s.toNat, by omega⟩
      obtain ⟨O, rfl⟩ : ∃ O : Nat, o = O := ⟨o.toNat, by omega⟩
      have e1 : oft hh i = O := by unfold oft; rw [hH]; rfl
      have e2 : sz hh i = S := by unfold sz; rw [hH]; rfl
      rw [e1] at hO
      rw [e1, e2] at HPS
      have hdiv : (b : Int) / (S : Int) = ((b / S : Nat) : Int) := (Int.natCast_ediv b S).symm
      have hS0 : (S : Int) ≠ 0 := by omega
      have hbq : b / S ≤ 1048576 := Nat.le_trans (Nat.div_le_self _ _) hb
      generalize sN (ct hh P k b) i = Z at *
      generalize b / S = Q at *
      obtain ⟨QO, hQO⟩ : ∃ x, Q * O = x := ⟨_, rfl⟩
      have hQOl : QO ≤ 1048576 * 100000 := by rw [← hQO]; exact Nat.mul_le_mul hbq hO
      have h1 : (Q : Int) * (O : Int) = (QO : Int) := by rw [← hQO, Int.natCast_mul]
      rw [hQO] at HPS
      clear hat hH e1 e2 hQO ho
      generalize gk = K0 at *
      go_wp2
      go_loopg [9, 11] 4 (fun gk t9 t11 wi => ∃ t m : Nat, t + gk = 4 ∧ t9 = .int .i64 ((Z + ptc hh P k b i t : Nat) : Int) ∧ t11 = .int .i64 t ∧ wi = w1.drewN m)
      case atStart => exact ⟨0, m, by omega, rfl, rfl, rfl⟩
      case round =>
        obtain ⟨t, m', ht, rfl, rfl, rfl⟩ := hrel
        by_cases ht4 : t < 4
        · have ht4' : (t : Int) < 4 := by omega
          obtain ⟨bd, rfl, _, q0⟩ := (HPR.out.now HB0.out) _ _ (pvs_at (fun i t => (P i t : Int)) hlt ht4)
          have k0 := HX0.out.cell t
          rw [c4n_at k ht4] at k0
          have hpl := HPL.out t (by omega)
          have hps := HPS.out t
          have hpt := HLX.out i hlt t ht4
          have hkt := HLK.out t ht4
          obtain ⟨I, hI⟩ : ∃ I : Nat, I = 4 * i := ⟨_, rfl⟩
          obtain ⟨J, hJ⟩ : ∃ J : Nat, J = i * 4 + t := ⟨_, rfl⟩
          have hI' : 4 * (i : Int) = (I : Int) := by omega
          have hJ' : (I : Int) + (t : Int) = (J : Int) := by omega
          have hJN : (J : Int) < (N : Int) := by have := HN.out; omega
          rw [← hJ] at q0
          obtain ⟨Y, hY⟩ : ∃ x, ptc hh P k b i t = x := ⟨_, rfl⟩
          have HY := hid hY
          rw [hY] at hpl hps ⊢
          generalize P i t = p at *
          generalize k t = kt at *
          obtain ⟨QP, hQP⟩ : ∃ x, QO * p = x := ⟨_, rfl⟩
          have h2 : (QO : Int) * (p : Int) = (QP : Int) := by rw [← hQP, Int.natCast_mul]
          have hQPl : QP ≤ 1048576 * 100000 * 32 := by rw [← hQP]; exact Nat.mul_le_mul hQOl hpt
          rw [hQP] at hps
          obtain ⟨QK, hQK⟩ : ∃ x, QP * kt = x := ⟨_, rfl⟩
          have h3 : (QP : Int) * (kt : Int) = (QK : Int) := by rw [← hQK, Int.natCast_mul]
          have hQKl : QK ≤ 1048576 * 100000 * 32 * 1000 := by rw [← hQK]; exact Nat.mul_le_mul hQPl hkt
          rw [hQK] at hps
          have hlim : 1048576 * 100000 * 32 * 1000 * t ≤ 1048576 * 100000 * 32 * 1000 * 4 := Nat.mul_le_mul_left _ (by omega)
          have HPS2 := hid hps
          obtain ⟨ZY, hZY⟩ : ∃ x, Z + Y = x := ⟨_, rfl⟩
          have HZY := hid hZY
          have hZYl : ZY ≤ 4000000000000000000 := by omega
          rw [hZY]
          clear hI hJ hY hQP hQK hps hZY hpl hlim
          go_upto_region 8 with fail
          go_quiet (fail)
          go_wp2
          go_roundg (gk - 1)
          case measure => omega
          case rel => exact ⟨t + 1, _, by omega, by rw [HPS2.out, ← Nat.add_assoc, HZY.out]; go_num, by go_num, rfl⟩
        · have ht4' : ¬ (t : Int) < 4 := by omega
          have h4 : t = 4 := by omega
          subst h4
          go_wp2
          go_roundg (K0 - 1)
          case measure => omega
          case rel => exact ⟨i + 1, m', by omega, by rw [HNX.out, HPC.out]; go_num, by go_num, rfl⟩
    · have hlt' : ¬ (i : Int) < (n : Int) := by omega
      have hin : n = i := by omega
      subst hin
      go_wp2
      go_ret
      exact ⟨rfl, below_draws HB0.out m⟩
end Go.Proofs.Ytcibhmbneedghaa
