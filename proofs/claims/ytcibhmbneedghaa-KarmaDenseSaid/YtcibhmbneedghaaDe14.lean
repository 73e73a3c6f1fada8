/-
  What is proved: KarmaDense's walk. Condition: hints are read as such.
-/
import Derived.Test.YtcibhmbneedghaaRo14
namespace Go.Proofs.Ytcibhmbneedghaa
open Go.RowKit

theorem KP_dense {hh : Nat → Hn} {n i k t v : Nat} {u : Nat → Nat} (h : OrdH hh n (ordd hh n)) (hi : i < n) (hk : k < n) (hl : LH hh i k) (hv : v < t) (hv3 : v < 3) (hp : 0 < KP hh n u i t) : KP hh n u k v = 0 := by
  obtain ⟨p, hp1, rfl⟩ := h.on hi
  obtain ⟨r, hr1, rfl⟩ := h.on hk
  have hpr : p < r := by
    refine Classical.byContradiction fun hne => ?_
    by_cases e : p = r
    · subst e; exact LH_asym hh _ _ hl hl
    · exact LH_asym hh _ _ hl (h.srt r p (by omega) hp1)
  exact PP_dense h.inj hpr hr1 hv hv3 hp
theorem LH_of {hh : Nat → Hn} {i k : Nat} (h : oft hh k * sz hh i < oft hh i * sz hh k) : LH hh i k := by
  refine .inl ?_
  unfold cfOf cmpI
  rw [if_pos h]
set_option maxRecDepth 20000 in
set_option maxHeartbeats 4000000 in
theorem dense_bad (A : Option Addr) (n c : Nat) (hh : Nat → Hn) (b x y z : Int) (w : World) (hn : n ≤ 20) (hcA : A = none → c = 0) (hr : Rv w w.heap.size A (hvs hh n)) (hok : ¬ (CapP b x y z ∧ HintsP hh n b)) :
    Calls Try.prog 9 #[.agg #[.slice A n c, .int .i64 b, .int .i64 x, .int .i64 y, .int .i64 z]] w fun e w' => e = .returned (.bool true) ∧ Below w.heap.size w w' := by
  have hl20 : decide (20 < n) = false := by simp; omega
  have HLO := hid (fun w => long_any A n c b x y z w)
  rw [hl20] at HLO
  have HR := hid hr
  have HX0 := hid (Lx.new w A n c b x y z)
  obtain ⟨q, hq⟩ : ∃ q, w.heap.size = q := ⟨_, rfl⟩
  have HQ2 := hid hq
  rw [hq] at HX0
  have HN := hid (fun w (hr : Rv w w.heap.size A (hvs hh n)) => new_bad (w := w) (c := c) (b := b) (x := x) (y := y) (z := z) (by omega) hcA hr hok)
  clear hr hl20 hq hok hcA
  go_enter Try.func9, Try.ntmps9
  go_upto_region 1 with fail
  rw [HQ2.out]
  generalize w.alloc (.cells #[.slice A n c, .int .i64 b, .int .i64 x, .int .i64 y, .int .i64 z] 25) = w1 at *
  go_wp2_with (first
    | (go_at_call 10; refine (wakes_any _).mono ?_; rintro e w2 ⟨rfl, hb⟩; have HX2 := hid (HX0.out.below hb); obtain ⟨p0, p1, p2, p3, p4⟩ := HX2.out.all; clear hb)
    | (go_at_call 11; refine (HLO.out _).mono ?_; rintro e w3 ⟨rfl, hb⟩; have HX3 := hid (HX2.out.below hb); obtain ⟨r0, r1, r2, r3, r4⟩ := HX3.out.all; clear hb)
    | (go_at_call 12; refine (HN.out _ (HR.out.now HX3.out.bel)).mono ?_; rintro e w4 ⟨r, rfl, -, hr0, hb⟩; have HX4 := hid (HX3.out.below hb); clear hb))
  go_ret
  exact ⟨rfl, HX4.out.bel⟩
set_option maxRecDepth 20000 in
set_option maxHeartbeats 4000000 in
theorem dense_ok (A : Option Addr) (n c : Nat) (hh : Nat → Hn) (b : Int) (u : Nat → Nat) (w : World) (hcA : A = none → c = 0) (hr : Rv w w.heap.size A (hvs hh n))
    (hcp : CapP b (u 0 : Nat) (u 1 : Nat) (u 2 : Nat)) (hu : cN (u 0 : Nat) (u 1 : Nat) (u 2 : Nat) = u) (hu16 : ∀ t, t < 3 → u t ≤ 16) (hhp : HintsP hh n b) :
    Calls Try.prog 9 #[.agg #[.slice A n c, .int .i64 b, .int .i64 (u 0 : Nat), .int .i64 (u 1 : Nat), .int .i64 (u 2 : Nat)]] w fun e w' => e = .returned (.bool true) ∧ Below w.heap.size w w' := by
  have hn8 := hhp.1
  have hl20 : decide (20 < n) = false := by simp; omega
  have HLO := hid (fun w => long_any A n c b (u 0 : Nat) (u 1 : Nat) (u 2 : Nat) w)
  rw [hl20] at HLO
  have HR := hid hr
  have HX0 := hid (Lx.new w A n c b (u 0 : Nat) (u 1 : Nat) (u 2 : Nat))
  obtain ⟨q, hq⟩ : ∃ q, w.heap.size = q := ⟨_, rfl⟩
  have HQ2 := hid hq
  rw [hq] at HX0
  have HN := hid (fun w (hr : Rv w w.heap.size A (hvs hh n)) => new_ok (u := u) (w := w) (c := c) (by omega) hcA hr hcp hu hhp)
  have HH := hid hhp
  have HU := hid hu16
  clear hr hl20 hq hcp hu hu16 hhp hcA
  go_enter Try.func9, Try.ntmps9
  go_upto_region 1 with fail
  rw [HQ2.out]
  generalize w.alloc (.cells #[.slice A n c, .int .i64 b, .int .i64 (u 0 : Nat), .int .i64 (u 1 : Nat), .int .i64 (u 2 : Nat)] 25) = w1 at *
  go_upto_region 8 with (first
    | (go_at_call 10; refine (wakes_any _).mono ?_; rintro e w2 ⟨rfl, hb⟩; have HX2 := hid (HX0.out.below hb); obtain ⟨p0, p1, p2, p3, p4⟩ := HX2.out.all; clear hb)
    | (go_at_call 11; refine (HLO.out _).mono ?_; rintro e w3 ⟨rfl, hb⟩; have HX3 := hid (HX2.out.below hb); obtain ⟨r0, r1, r2, r3, r4⟩ := HX3.out.all; clear hb)
    | (go_at_call 12; refine (HN.out _ (HR.out.now HX3.out.bel)).mono ?_; rintro e w4 ⟨g, A1, c1, B1, d1, rfl, hp, hb, hg⟩; have HP4 := hid hp; have HX4 := hid (HX3.out.below hb); clear hp hb hg))
  clear p0 p1 p2 p3 p4 r0 r1 r2 r3 r4 HX0 HX2 HX3 HN HLO
  have HOD := hid HP4.out.od
  go_upto_region 9 with (go_at_call 19; refine (parts_any HP4.out).mono ?_; rintro e w6 ⟨A6, c6, rfl, h1, h2, h3⟩; have HX6 := hid (HX4.out.below h2); have HR6 := hid h1; clear h1 h2 h3)
  obtain ⟨b0, b1, b2, b3, b4⟩ := HX6.out.all
  go_wp2
  clear b0 b1 b2 b3 b4
  go_loopg [36] n (fun gk t36 wr => ∃ i : Nat, i + gk = n ∧ t36 = .int .i64 i ∧ Lx w wr q A n c b (u 0 : Nat) (u 1 : Nat) (u 2 : Nat) ∧ Rv wr wr.heap.size A6 (pvs (kps hh n u) n))
  case atStart => exact ⟨0, by omega, rfl, HX6.out, HR6.out⟩
  case round =>
    clear HX6 HR6 HX4 HP4
    obtain ⟨i, hi, rfl, hx, hrr⟩ := hrel
    have HX := hid hx
    have HRR := hid hrr
    clear hx hrr
    by_cases hlt : i < n
    · have hlt' : (i : Int) < (n : Int) := by omega
      obtain ⟨ad, rfl, hat⟩ := (HR.out.now HX.out.bel).hint hlt
      have ho := HH.out.2.1 i hlt
      have HL := hid (fun k (hk : k < n) (h : oft hh k * sz hh i < oft hh i * sz hh k) t v (hv : v < t) (hv3 : v < 3) (hp : 0 < KP hh n u i t) => KP_dense (u := u) HOD.out hlt hk (LH_of h) hv hv3 hp)
      obtain ⟨⟨f, s, o, l⟩, hH⟩ : ∃ x, hh i = x := ⟨_, rfl⟩
      rw [hH] at hat ho
      have c0 := hat.f
      have c1 := hat.s
      have c2 := hat.o
      have c3 := hat.l
      dsimp only at c0 c1 c2 c3
      unfold okH at ho
      dsimp only at ho
      obtain ⟨S, rfl⟩ : ∃ S : Nat, s = S := ⟨s.toNat, by omega⟩
      obtain ⟨O, rfl⟩ : ∃ O : Nat, o = O := ⟨o.toNat, by omega⟩
      have e1 : oft hh i = O := by unfold oft; rw [hH]; rfl
      have e2 : sz hh i = S := by unfold sz; rw [hH]; rfl
      rw [e1, e2] at HL
      have hbx := below_alloc wr (.cells #[.int .i64 f, .int .i64 S, .int .i64 O, .bool l] 45)
      have HX2 := hid (HX.out.below hbx)
      have HRR2 := hid (HRR.out.now hbx)
      have HA2 := hid (hbox_new wr ⟨f, S, O, l⟩ 45)
      have hS : S ≤ 32 := by omega
      have hO : O ≤ 2147483647 := by omega
      clear hat hH hbx ho e1 e2 HX HRR
      go_upto_region 12 with fail
      obtain ⟨a, ha⟩ : ∃ a, wr.heap.size = a := ⟨_, rfl⟩
      rw [ha] at HA2 ⊢
      clear c0 c1 c2 c3
      generalize wr.alloc (.cells #[.int .i64 f, .int .i64 S, .int .i64 O, .bool l] 45) = wa at *
      obtain ⟨b0, b1, b2, b3, b4⟩ := HX2.out.all
      generalize gk = K0 at *
      go_wp2
      clear b0 b1 b2 b3 b4
      go_loopg [44] n (fun gk t44 wk => ∃ k : Nat, k + gk = n ∧ t44 = .int .i64 k ∧ Lx w wk q (some ad) n c b (u 0 : Nat) (u 1 : Nat) (u 2 : Nat) ∧ Rv wk wk.heap.size A6 (pvs (kps hh n u) n) ∧ HAt wk ⟨a, 0, none⟩ ⟨f, S, O, l⟩)
      case atStart => exact ⟨0, by omega, rfl, HX2.out, HRR2.out, HA2.out⟩
      case round =>
        clear HX2 HRR2 HA2
        obtain ⟨k, hk, rfl, hx, hrr, hha⟩ := hrel
        have HX := hid hx
        have HRR := hid hrr
        have HA := hid hha
        clear hx hrr hha
        by_cases hkn : k < n
        · have hkn' : (k : Int) < (n : Int) := by omega
          obtain ⟨_, ead, hat⟩ := (HR.out.now HX.out.bel).hint hkn
          injection ead with ead
          subst ead
          have ho := HH.out.2.1 k hkn
          obtain ⟨⟨f', s', o', l'⟩, hH⟩ : ∃ x, hh k = x := ⟨_, rfl⟩
          have HLK := hid (HL.out k hkn)
          rw [hH] at hat ho
          have c0 := hat.f
          have c1 := hat.s
          have c2 := hat.o
          have c3 := hat.l
          dsimp only at c0 c1 c2 c3
          unfold okH at ho
          dsimp only at ho
          obtain ⟨S', rfl⟩ : ∃ S : Nat, s' = S := ⟨s'.toNat, by omega⟩
          obtain ⟨O', rfl⟩ : ∃ O : Nat, o' = O := ⟨o'.toNat, by omega⟩
          have e1 : oft hh k = O' := by unfold oft; rw [hH]; rfl
          have e2 : sz hh k = S' := by unfold sz; rw [hH]; rfl
          rw [e1, e2] at HLK
          have hbx := below_alloc wr (.cells #[.int .i64 f', .int .i64 S', .int .i64 O', .bool l'] 45)
          have HX2 := hid (HX.out.below hbx)
          have HRR2 := hid (HRR.out.now hbx)
          have HA2 := hid (HA.out.next hbx)
          have HB2 := hid (hbox_new wr ⟨f', S', O', l'⟩ 45)
          have hm1 : O * S' ≤ 2147483647 * 32 := Nat.mul_le_mul hO (by omega)
          have hm2 : O' * S ≤ 2147483647 * 32 := Nat.mul_le_mul (by omega) hS
          have hp1 : (O : Int) * (S' : Int) = ((O * S' : Nat) : Int) := (Int.natCast_mul O S').symm
          have hp2 : (O' : Int) * (S : Int) = ((O' * S : Nat) : Int) := (Int.natCast_mul O' S).symm
          clear hat hH hbx ho e1 e2 HX HRR HA
          go_upto_region 15 with fail
          obtain ⟨bb, hbb⟩ : ∃ a, wr.heap.size = a := ⟨_, rfl⟩
          rw [hbb] at HB2 ⊢
          clear c0 c1 c2 c3
          generalize wr.alloc (.cells #[.int .i64 f', .int .i64 S', .int .i64 O', .bool l'] 45) = wb at *
          have x1 := HA2.out.s
          have x2 := HA2.out.o
          have y1 := HB2.out.s
          have y2 := HB2.out.o
          dsimp only at x1 x2 y1 y2
          generalize O * S' = P1 at *
          generalize O' * S = P2 at *
          generalize gk = K1 at *
          by_cases hle : P1 ≤ P2
          · have hle' : (P1 : Int) ≤ (P2 : Int) := by omega
            go_wp2
            go_roundg (K1 - 1)
            case measure => omega
            case rel => exact ⟨k + 1, by omega, by go_num, HX2.out, HRR2.out, HA2.out⟩
          · have hle' : ¬ (P1 : Int) ≤ (P2 : Int) := by omega
            have HD := hid (HLK.out (by omega))
            go_wp2
            clear x1 x2 y1 y2
            go_loopg [10, 11, 60] 4 (fun gk t10 t11 t60 wt => ∃ t la fi : Nat, t + gk = 4 ∧ t10 = .int .i64 la ∧ t11 = .int .i64 fi ∧ t60 = .int .i64 t ∧ (la = 0 ∨ 0 < KP hh n u i la) ∧ la ≤ 3 ∧ (fi = 3 ∨ 0 < KP hh n u k fi) ∧ fi ≤ 3 ∧ wt = wb)
            case atStart => exact ⟨0, 0, 3, by omega, rfl, rfl, rfl, .inl rfl, by omega, .inl rfl, by omega, rfl⟩
            case round =>
              obtain ⟨t, la, fi, ht, rfl, rfl, rfl, hla, hla3, hfi, hfi3, rfl⟩ := hrel
              have HLA := hid hla
              have HFI := hid hfi
              clear hla hfi
              by_cases ht4 : t < 4
              · have ht4' : (t : Int) < 4 := by omega
                obtain ⟨R, hR⟩ : ∃ R : Nat, R + t = 3 := ⟨3 - t, by omega⟩
                have hR' : 3 - (t : Int) = (R : Int) := by omega
                have hR4 : R < 4 := by omega
                have hR5 : (R : Int) < 4 := by omega
                obtain ⟨bd, rfl, q0⟩ := pvs_cell HRR2.out hlt ht4
                obtain ⟨_, e, q1⟩ := pvs_cell HRR2.out hkn hR4
                injection e with e
                subst e
                have z0 : wr.cell? ((bd.add (i * 4)).add t) = some (.int .i64 (KP hh n u i t : Nat)) := q0
                have z1 : wr.cell? ((bd.add (k * 4)).add R) = some (.int .i64 (KP hh n u k R : Nat)) := q1
                clear q0 q1 hR
                by_cases hX : 0 < KP hh n u i t
                · have HPX := hid hX
                  have hX' : ((KP hh n u i t : Nat) : Int) > 0 := by omega
                  clear hX
                  by_cases hY : 0 < KP hh n u k R
                  · have HPY := hid hY
                    have hY' : ((KP hh n u k R : Nat) : Int) > 0 := by omega
                    clear hY
                    go_wp2
                    go_roundg (gk - 1)
                    case measure => omega
                    case rel => exact ⟨t + 1, t, R, by omega, rfl, rfl, by go_num, .inr HPX.out, by omega, .inr HPY.out, by omega, rfl⟩
                  · have hY0 : KP hh n u k R = 0 := by omega
                    rw [hY0] at z1
                    clear hY
                    go_wp2
                    go_roundg (gk - 1)
                    case measure => omega
                    case rel => exact ⟨t + 1, t, fi, by omega, rfl, rfl, by go_num, .inr HPX.out, by omega, HFI.out, by omega, rfl⟩
                · have hX0 : KP hh n u i t = 0 := by omega
                  rw [hX0] at z0
                  clear hX
                  by_cases hY : 0 < KP hh n u k R
                  · have HPY := hid hY
                    have hY' : ((KP hh n u k R : Nat) : Int) > 0 := by omega
                    clear hY
                    go_wp2
                    go_roundg (gk - 1)
                    case measure => omega
                    case rel => exact ⟨t + 1, la, R, by omega, rfl, rfl, by go_num, HLA.out, by omega, .inr HPY.out, by omega, rfl⟩
                  · have hY0 : KP hh n u k R = 0 := by omega
                    rw [hY0] at z1
                    clear hY
                    go_wp2
                    go_roundg (gk - 1)
                    case measure => omega
                    case rel => exact ⟨t + 1, la, fi, by omega, rfl, rfl, by go_num, HLA.out, by omega, HFI.out, by omega, rfl⟩
              · have ht4' : ¬ (t : Int) < 4 := by omega
                have hlf : ¬ (la : Int) > (fi : Int) := fun h => by
                  have h1 : 0 < KP hh n u i la := HLA.out.resolve_left (by omega)
                  have h2 : 0 < KP hh n u k fi := HFI.out.resolve_left (by omega)
                  have := HD.out la fi (by omega) (by omega) h1
                  omega
                go_wp2
                go_roundg (K1 - 1)
                case measure => omega
                case rel => exact ⟨k + 1, by omega, by go_num, HX2.out, HRR2.out, HA2.out⟩
        · have hkn' : ¬ (k : Int) < (n : Int) := by omega
          have hk2 : n = k := by omega
          subst hk2
          go_wp2
          go_roundg (K0 - 1)
          case measure => omega
          case rel => exact ⟨i + 1, by omega, by go_num, HX.out, HRR.out⟩
    · have hlt' : ¬ (i : Int) < (n : Int) := by omega
      go_wp2
      go_ret
      exact ⟨rfl, HX.out.bel⟩
set_option maxRecDepth 20000 in
set_option maxHeartbeats 1000000 in
theorem dense_walk (A : Option Addr) (n c : Nat) (hh : Nat → Hn) (b x y z : Int) (w : World) (hcA : A = none → c = 0) (hr : Rv w w.heap.size A (hvs hh n)) :
    Calls Try.prog 9 #[.agg #[.slice A n c, .int .i64 b, .int .i64 x, .int .i64 y, .int .i64 z]] w fun e w' => e = .returned (.bool true) ∧ Below w.heap.size w w' := by
  by_cases hn : n ≤ 20
  · by_cases hok : CapP b x y z ∧ HintsP hh n b
    · obtain ⟨hcp, hhp⟩ := hok
      obtain ⟨u, hu, rfl, rfl, rfl, hu16⟩ := capN hcp
      exact dense_ok A n c hh b u w hcA hr hcp hu hu16 hhp
    · exact dense_bad A n c hh b x y z w hn hcA hr hok
  · have hl20 : decide (20 < n) = true := by simp; omega
    have HLO := hid (fun w => long_any A n c b x y z w)
    rw [hl20] at HLO
    have HX0 := hid (Lx.new w A n c b x y z)
    obtain ⟨q, hq⟩ : ∃ q, w.heap.size = q := ⟨_, rfl⟩
    have HQ2 := hid hq
    rw [hq] at HX0
    clear hr hl20 hq hcA
    go_enter Try.func9, Try.ntmps9
    go_upto_region 1 with fail
    rw [HQ2.out]
    generalize w.alloc (.cells #[.slice A n c, .int .i64 b, .int .i64 x, .int .i64 y, .int .i64 z] 25) = w1 at *
    go_wp2_with (first
      | (go_at_call 10; refine (wakes_any _).mono ?_; rintro e w2 ⟨rfl, hb⟩; have HX2 := hid (HX0.out.below hb); obtain ⟨p0, p1, p2, p3, p4⟩ := HX2.out.all; clear hb)
      | (go_at_call 11; refine (HLO.out _).mono ?_; rintro e w3 ⟨rfl, hb⟩; have HX3 := hid (HX2.out.below hb); clear hb))
    go_ret
    exact ⟨rfl, HX3.out.bel⟩
end Go.Proofs.Ytcibhmbneedghaa
