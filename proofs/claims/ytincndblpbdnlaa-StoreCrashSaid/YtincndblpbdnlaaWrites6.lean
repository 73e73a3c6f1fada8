/-
  What is proved: the walk of StoreWrites: each write is answered, and blocks have, what the document says, also when the store is opened anew in between. Condition: the acts are read as such.
-/
import Derived.Test.YtincndblpbdnlaaOnce6
import Derived.Test.YtincndblpbdnlaaRnew
import Derived.Test.YtincndblpbdnlaaSm6
namespace Go.Proofs.Ytincndblpbdnlaa
open Go.RowKit

theorem alike_self (sh : Sh) (X : RS) : alike sh X X = true := by simp [alike]
/-- a store with nothing pending, opened anew -/
theorem open_again {w : World} {bb kd ks : Nat} {vv : Value} {L : List (List Int)} {X : RS} {sh : Sh} {B Z C S : Nat} (hsh : sh = ⟨B, Z, C, S⟩) {f : Int} {d : Bool} (h : Sx w bb kd ks vv ⟨L, f, d⟩ sh) (hf : Fine sh L X) :
    Calls Try.prog 14 #[.pointer (some ⟨kd, 0, none⟩), .agg #[.int .i64 B, .int .i64 Z, .int .i64 C, .int .i64 S]] w fun e w' =>
      ∃ k2, e = .returned (.tuple #[.pointer (some ⟨k2, 0, none⟩), .int .i64 0]) ∧ Sx w' bb kd k2 vv ⟨L, f, d⟩ sh ∧ Only w w' kd vv := by
  subst hsh
  have hl : 0 < L.length := by
    have h1 := hf.len
    rw [top_eq] at h1
    omega
  have hr := hf.rdo f d
  have := open_ok B Z C S h.dk hf.ok hf.len h.by_ _ (sec_some hl) (by show (rdo _ ⟨L, f, d⟩ (sec L 0)).2 = 0; rw [hr])
  rw [hr] at this
  exact this.mono fun e w' ⟨k2, h1, h2, h3, _⟩ => ⟨k2, h1, h2, h3⟩
theorem rwr_copy {sh : Sh} {X : RS} {x : Wr} {A : Option Addr} {c : Nat} : rwr sh X ⟨x.c, x.s, x.b, x.o, x.k, A, c, x.l⟩ = rwr sh X x := rfl
theorem own_empty (w : World) : OwnV (w.alloc (.cells #[] 5)) w.heap.size 5 1 (.slice (some ⟨w.heap.size, 0, none⟩) 0 0) 0 [] :=
  ⟨by simp, .inr ⟨w.heap.size, 0, #[], rfl, Nat.le_refl _, Bx.new w _ _, Nat.le_refl _, Nat.zero_le _, by simp, by simp⟩⟩
set_option maxRecDepth 100000 in
set_option maxHeartbeats 1600000 in
theorem writes_walk (B Z C S : Int) (A : Option Addr) (n cap : Nat) (f : Nat → Ac) (w : World) (hn : n ≤ maxLen) (h : Acts w A n f) :
    Calls Try.prog 3 #[.agg #[.int .i64 B, .int .i64 Z, .int .i64 C, .int .i64 S], .slice A n cap] w fun e w' => e = .returned (.bool true) ∧ Below w.heap.size w w' := by
  obtain ⟨W0, hW0, BX0, HB0, -⟩ := below_new w 23 #[.int .i64 B, .int .i64 Z, .int .i64 C, .int .i64 S]
  have HW := hid hW0
  have HS0 := hid BX0
  have B0 := hid HB0
  have HA0 := hid (h.below HB0)
  have HNN := hid hn
  have HA := hid h
  clear hW0 BX0 HB0 h
  go_enter Try.func3, Try.ntmps3
  go_wp2_with fail
  rw [HW.out]
  refine (wakes_any _).mono ?_
  rintro e w1 ⟨rfl, hb⟩
  have B1 := hid (on B0.out hb)
  have HA1 := hid (HA0.out.below hb)
  have HS1 := hid (HS0.out.next hb)
  clear hb B0 HA0 HS0 HW
  go_wp2_with fail
  refine (long_any A n cap f _ HNN.out HA1.out).mono ?_
  rintro e w' ⟨b, rfl, rfl, hb⟩
  cases b
  case true =>
    clear hb
    go_wp2
    go_ret
    exact ⟨rfl, B1.out⟩
  obtain ⟨hn60, hl⟩ := hb rfl
  have HL := hid hl
  clear hb hl
  go_wp2_with (refine wpList_load_bxg (by rfl) 23 (.tmp 2) rfl _ _ _ _ rfl HS1.out Try.underlying23 rfl (by kernel_rfl) ?_)
  refine (lawright_any B Z C S _).mono ?_
  rintro e W ⟨rfl, hb⟩
  have HA2 := hid (HA1.out.below hb)
  have HS2 := hid (HS1.out.next hb)
  have B2 := hid (on B1.out hb)
  clear hb HA1 HS1 B1
  by_cases hr : RightI B Z C S
  case neg =>
    rw [dec_false hr]
    clear hr
    go_wp2
    go_ret
    exact ⟨rfl, B2.out⟩
  rw [dec_true hr]
  obtain ⟨⟨b1, b2⟩, ⟨z1, z2⟩, ⟨c1, c2⟩, s1, s2⟩ := hr
  obtain ⟨B, rfl⟩ := Int.eq_ofNat_of_zero_le (show 0 ≤ B by omega)
  obtain ⟨Z, rfl⟩ := Int.eq_ofNat_of_zero_le (show 0 ≤ Z by omega)
  obtain ⟨C, rfl⟩ := Int.eq_ofNat_of_zero_le (show 0 ≤ C by omega)
  obtain ⟨S, rfl⟩ := Int.eq_ofNat_of_zero_le (show 0 ≤ S by omega)
  have OK := hid (show (Sh.mk B Z C S).ok from ⟨⟨by show 1 ≤ B; omega, by show B ≤ 32; omega⟩, ⟨by show 1 ≤ Z; omega, by show Z ≤ 16; omega⟩, ⟨by show 1 ≤ C; omega, by show C ≤ 4; omega⟩, by show 1 ≤ S; omega, by show S ≤ 4; omega⟩)
  clear b1 b2 z1 z2 c1 c2 s1 s2
  go_wp2_with fail
  refine (new_any 64 _).mono ?_
  rintro e y1 ⟨kd, vv, rfl, hk, hb1⟩
  have K1 := hid (show Dk y1 67 W.heap.size kd vv ⟨List.replicate 64 [], -1, false⟩ from hk)
  have S1 := hid (HS2.out.next hb1)
  have LB := hid (Nat.le_of_lt HS2.out.lt)
  have L0 := hid hb1.size
  have B3 := hid (on B2.out hb1)
  have e0 : y1.cell? ⟨w.heap.size, 0, none⟩ = some (.int .i64 (B : Nat)) := S1.out.cell 0
  have e1 : y1.cell? ⟨w.heap.size, 1, none⟩ = some (.int .i64 (Z : Nat)) := S1.out.cell 1
  have e2 : y1.cell? ⟨w.heap.size, 2, none⟩ = some (.int .i64 (C : Nat)) := S1.out.cell 2
  have e3 : y1.cell? ⟨w.heap.size, 3, none⟩ = some (.int .i64 (S : Nat)) := S1.out.cell 3
  clear hk hb1 HS2 B2 HA2
  go_wp2_with fail
  refine (refnew_any ⟨B, Z, C, S⟩ OK.out y1).mono ?_
  rintro e y2 ⟨r0, r1, r2, r3, r4, rfl, hr, hb2⟩
  have K2 := hid (K1.out.below hb2)
  have S2 := hid (S1.out.next hb2)
  have B4 := hid (on B3.out hb2)
  have LK := hid (K1.out.lt (.inl rfl))
  have LV := hid (fun g e => K1.out.lt (j := g) (.inr e))
  have R2 := hid hr
  have LW := hid (show W.heap.size ≤ y2.heap.size from Nat.le_trans L0.out hb2.size)
  have LY := hid (show w.heap.size ≤ y1.heap.size from B3.out.size)
  clear hr hb2 K1 S1 B3 e0 e1 e2 e3
  generalize y1.heap.size = b0 at *
  go_wp2_with (refine wpList_load_bx rfl 23 (.tmp 2) rfl _ _ _ _ rfl S2.out Try.underlying23 rfl (by kernel_rfl) ?_)
  refine (open_new B Z C S OK.out K2.out).mono ?_
  rintro e y3 ⟨ks, rfl, hx, ho, -⟩
  have X3 := hid hx
  have S3 := hid (S2.out.dsk K2.out ho (by decide) (by decide))
  have B5 := hid (B4.out.trans ((K2.out.onlyBel ho LW.out).mono LB.out))
  have R3 := hid (R2.out.only ho LK.out LV.out)
  have F3 := hid (fine_new OK.out)
  generalize hbb : W.heap.size = bb at *
  obtain ⟨sh, hsh⟩ : ∃ sh : Sh, sh = ⟨B, Z, C, S⟩ := ⟨_, rfl⟩
  have HSH := hid hsh
  rw [show (RS.zero Z) = RS.zero (Sh.mk B Z C S).Z from rfl, ← hsh] at R3
  rw [← hsh] at X3 F3
  obtain ⟨X0, hX0⟩ : ∃ X, RS.zero sh.Z = X := ⟨_, rfl⟩
  rw [hX0] at F3 R3
  clear hx ho K2 S2 B4 R2 hsh hX0 L0 hbb LW OK
  go_wp2_with fail
  go_loopg [7, 45] n (fun gk k7 t wr => ∃ p : Nat, p + gk = n ∧ t = .int .i64 p ∧ ∃ L X ks, k7 = .pointer (some ⟨ks, 0, none⟩) ∧ Hid (Sx wr bb kd ks vv ⟨L, -1, false⟩ sh) ∧ Hid (Fine sh L X) ∧ Hid (Rf wr b0 b0 r0 r1 r2 r3 r4 sh X) ∧ Hid (Bx wr w.heap.size 23 #[.int .i64 B, .int .i64 Z, .int .i64 C, .int .i64 S]) ∧ Hid (Below w.heap.size w wr))
  case atStart => exact ⟨0, by omega, rfl, _, _, _, rfl, X3, F3, R3, S3, B5⟩
  case round =>
    obtain ⟨p, hp, rfl, L, X, ks, rfl, HX, HF, HR, HS, HB⟩ := hrel
    clear X3 F3 R3 S3 B5
    by_cases hlt : p < n
    · obtain ⟨ad, rfl, hat⟩ := (HA.out.below HB.out) p hlt
      have h100 := HL.out p hlt
      obtain ⟨⟨ki, ni, x⟩, hy⟩ : ∃ y, f p = y := ⟨_, rfl⟩
      rw [hy] at hat h100
      obtain ⟨-, hc, hg, -⟩ := hat
      dsimp only at hc hg h100
      have HAT := hid (show At wr (ad.add (p * 8)) [.int .i64 ki, .int .i64 ni, .int .i64 x.c, .int .i64 x.s, .int .i64 x.b, .int .i64 x.o, .int .i64 x.k, .slice x.A x.l.length x.cap] from hc)
      obtain ⟨W1, hW1, BX1, HB1, -⟩ := below_new wr 40 #[.int .i64 ki, .int .i64 ni, .int .i64 x.c, .int .i64 x.s, .int .i64 x.b, .int .i64 x.o, .int .i64 x.k, .slice x.A x.l.length x.cap]
      have HW1 := hid hW1
      have E1 := hid BX1
      have X1 := hid (HX.out.below HB1)
      have R1 := hid (HR.out.below HB1)
      have S1 := hid (HS.out.next HB1)
      have G1 := hid (hg.below HB1)
      have B1 := hid (on HB.out HB1)
      have q0 : W1.cell? ⟨wr.heap.size, 0, none⟩ = some (.int .i64 ki) := BX1.cell 0
      clear hW1 BX1 HB1 hc hg hy HX HB HR HS
      go_upto_region 13 with (refine wpList_load_at rfl 40 (.tmp 47) rfl _ rfl [.int .i64 ki, .int .i64 ni, .int .i64 x.c, .int .i64 x.s, .int .i64 x.b, .int .i64 x.o, .int .i64 x.k, .slice x.A x.l.length x.cap] _ HAT.out Try.underlying40 rfl (by kernel_rfl) ?_)
      rw [HW1.out]
      clear HAT HW1
      by_cases hki : ki = 0
      · subst hki
        obtain ⟨W2, hW2, BX2, HB2, -⟩ := below_new W1 38 #[.int .i64 x.c, .int .i64 x.s, .int .i64 x.b, .int .i64 x.o, .int .i64 x.k, .slice x.A x.l.length x.cap]
        have HW2 := hid hW2
        have W2b := hid BX2
        have E2 := hid (E1.out.next HB2)
        have G2 := hid (G1.out.below HB2)
        have HB2h := hid HB2
        clear hW2 BX2 HB2
        go_upto_region 18 with (refine wpList_load_mid rfl 38 (.tmp 60) rfl _ 2 rfl [.int .i64 x.c, .int .i64 x.s, .int .i64 x.b, .int .i64 x.o, .int .i64 x.k, .slice x.A x.l.length x.cap] _ (E1.out.range 2 _ range6) Try.underlying38 rfl (by kernel_rfl) ?_)
        rw [HW2.out]
        clear HW2 q0
        have q7 : W2.cell? ⟨wr.heap.size, 7, none⟩ = some (.slice x.A x.l.length x.cap) := E2.out.cell 7
        have lt2 : wr.heap.size < W2.heap.size := E2.out.lt
        have EM := hid (own_empty W2)
        have RX := hid (Rv.now (rv_of_rd G2.out.r) (below_alloc W2 (.cells #[] 5)))
        go_upto_region 19 with (at_builtin; (refine wpList_appV elt_byte rfl (.tmp 62) (.tmp 65) rfl W2.heap.size _ 0 [] EM.out rfl _ x.A x.l.length x.cap (bytes x.l) rfl (by rw [bytes_length, Nat.mul_one]) RX.out (bytes_one x.l) (by unfold maxLen; omega) (by omega) (by simp) ?_); intro v8 w8 hown8 hg8; rw [Nat.zero_add, List.nil_append] at hown8; have HB8 := hid ((below_alloc W2 (.cells #[] 5)).trans (hg8.below EM.out (by simp))); have HU8 := hid (ownV_bs hown8 rfl); obtain ⟨A8, c8, rfl, -, -, -⟩ := hown8.read; have T8 := hid (W2b.out.next HB8.out); have y0 := T8.out.cell 5; have y1 := T8.out.free 5; clear hown8 hg8)
        refine wp_world fun w9 hw9 => ?_
        have T9 := hid (show Bx w9 W1.heap.size 38 #[.int .i64 x.c, .int .i64 x.s, .int .i64 x.b, .int .i64 x.o, .int .i64 x.k, .slice A8 x.l.length c8] by rw [hw9]; exact T8.out.set 5 _)
        have HB9 : Below W1.heap.size W1 w9 := by rw [hw9]; exact below_set (HB2h.out.trans (HB8.out.mono HB2h.out.size)) ⟨W1.heap.size, 5, none⟩ _ (Nat.le_refl _)
        have U9 := hid (show Bs w9 (.slice A8 x.l.length c8) x.l by rw [hw9]; exact HU8.out.stay (Stay.set w8 ⟨W1.heap.size, 5, none⟩ _ fun y e => by rw [T8.out.cell 5] at e; cases e) (by rw [setSize]; exact Nat.le_refl _))
        have E9 := hid (E1.out.next HB9)
        have X9 := hid (X1.out.below HB9)
        have R9 := hid (R1.out.below HB9)
        have S9 := hid (S1.out.next HB9)
        have G9 := hid (G1.out.below HB9)
        have B9 := hid (on B1.out HB9)
        clear hw9 HB9 T8 HU8 HB8 y0 y1 RX EM lt2 q7 E2 G2 W2b HB2h E1 X1 R1 S1 G1 B1
        generalize W1.heap.size = g11 at *
        go_wp2_with (refine wpList_load_bx rfl 38 (.tmp 11) rfl _ _ _ _ rfl T9.out Try.underlying38 rfl (by kernel_rfl) ?_)
        refine (stw_free X9.out HF.out ⟨x.c, x.s, x.b, x.o, x.k, A8, c8, x.l⟩ G9.out.by_ U9.out.rn).mono ?_
        rw [rwr_copy]
        rintro e w3 ⟨rfl, L3, hx, hf, ho⟩
        have X3 := hid hx
        have F3 := hid hf
        have B3 := hid (B9.out.trans ((X9.out.bel hx ho).mono LB.out))
        have E3 := hid (E9.out.dsk X9.out.dk ho (by decide) (by decide))
        have T3 := hid (T9.out.dsk X9.out.dk ho (by decide) (by decide))
        have S3 := hid (S9.out.dsk X9.out.dk ho (by decide) (by decide))
        have G3 := hid (G9.out.only ho)
        have U3 := hid (U9.out.stay ho.stay ho.size)
        have R3 := hid (R9.out.only ho LK.out LV.out)
        have OK := hid HF.out.ok
        have HLE := hid (fun j (hj : j < sh.B) => (HF.out.agr.le hj).1)
        clear hx hf ho X9 B9 E9 T9 S9 G9 U9 R9
        go_wp2_with (refine wpList_load_mid rfl 38 (.tmp 76) rfl _ 2 rfl [.int .i64 x.c, .int .i64 x.s, .int .i64 x.b, .int .i64 x.o, .int .i64 x.k, .slice x.A x.l.length x.cap] _ (E3.out.range 2 _ range6) Try.underlying38 rfl (by kernel_rfl) ?_)
        refine (rwrite_any R3.out OK.out x G3.out HLE.out).mono ?_
        generalize hR : rwr sh X x = R at *
        obtain ⟨X', c1, e1⟩ := R
        dsimp only at F3 ⊢
        rintro e w4 ⟨rfl, hr, ht⟩
        have R4 := hid hr
        have X4 := hid (X3.out.tch ht LK.out LV.out)
        have B4 := hid (B3.out.trans ((ht.below (Nat.le_of_lt R3.out.bx.lt)).mono LY.out))
        have E4 := hid (ht.bx E3.out (by decide) (by decide))
        have T4 := hid (ht.bx T3.out (by decide) (by decide))
        have S4 := hid (ht.bx S3.out (by decide) (by decide))
        have G4 := hid (show x.Good w4 from ⟨G3.out.r.stay ht.stay ht.size, G3.out.by_, G3.out.le⟩)
        have U4 := hid (U3.out.stay ht.stay ht.size)
        clear hr ht hR X3 B3 E3 T3 S3 G3 U3 R3 OK HLE HF
        have z1 : (c1 != c1) = false := by simp
        have z2 : (e1 != e1) = false := by simp
        have z5 : w4.cell? ⟨g11, 5, none⟩ = some (.slice A8 x.l.length c8) := T4.out.cell 5
        have z7 : w4.cell? ⟨wr.heap.size, 7, none⟩ = some (.slice x.A x.l.length x.cap) := E4.out.cell 7
        go_wp2_with fail
        refine (lsame_any X4.out F3.out R4.out).mono ?_
        rw [alike_self]
        rintro e w5 ⟨rfl, hb⟩
        have X5 := hid (X4.out.below hb)
        have R5 := hid (R4.out.below hb)
        have B5 := hid (on B4.out hb)
        have S5 := hid (S4.out.next hb)
        have G5 := hid (G4.out.below hb)
        have U5 := hid (U4.out.below hb)
        have k5 : w5.cell? ⟨g11, 5, none⟩ = some (.slice A8 x.l.length c8) := (T4.out.next hb).cell 5
        have k7 : w5.cell? ⟨wr.heap.size, 7, none⟩ = some (.slice x.A x.l.length x.cap) := (E4.out.next hb).cell 7
        have hmx : x.l.length ≤ maxLen := by unfold maxLen; omega
        clear hb X4 R4 B4 S4 G4 U4 T4 E4 z5 z7
        go_wp2_with (go_at_call 18; refine (same_yes A8 x.A _ _ c8 x.cap x.l _ _ _ rfl rfl hmx U5.out.rn G5.out.r).mono ?_; rintro e w8 ⟨rfl, d8, rfl⟩)
        go_roundg (gk - 1)
        case measure => omega
        case rel => exact ⟨p + 1, by omega, by go_num, _, _, _, rfl, hid (X5.out.below (below_draws (Below.refl _ _) _)), F3, hid (R5.out.draws _), hid (S5.out.draws _), hid (below_draws B5.out _)⟩
      · have q1 : (ki != 0) = true := by simpa using hki
        clear hki
        go_wp2_with (refine wpList_load_bx rfl 23 (.tmp 2) rfl _ _ _ _ rfl S1.out Try.underlying23 rfl (by kernel_rfl) ?_)
        refine (open_again HSH.out X1.out HF.out).mono ?_
        rintro e y3 ⟨k3, rfl, hx, ho⟩
        have X3 := hid hx
        have S3 := hid (S1.out.dsk X1.out.dk ho (by decide) (by decide))
        have B3 := hid (B1.out.trans ((X1.out.dk.onlyBel ho (Nat.le_trans X1.out.dk.low (Nat.le_of_lt X1.out.dk.box.lt))).mono LB.out))
        have R3 := hid (R1.out.only ho LK.out LV.out)
        clear hx ho X1 S1 B1 R1 E1 G1 q0
        go_wp2
        go_roundg (gk - 1)
        case measure => omega
        case rel => exact ⟨p + 1, by omega, by go_num, _, _, _, rfl, X3, HF, R3, S3, B3⟩
    · obtain rfl : p = n := by omega
      go_wp2
      go_ret
      exact ⟨rfl, HB.out⟩
end Go.Proofs.Ytincndblpbdnlaa
