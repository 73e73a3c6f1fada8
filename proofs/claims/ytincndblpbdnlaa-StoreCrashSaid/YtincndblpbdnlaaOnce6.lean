/-
  What is proved: the walk of StoreOnce: a write that comes again, however often, is answered as it was, and changes nothing; an older one is refused. Condition: the acts are read as such.
-/
import Derived.Test.YtincndblpbdnlaaLong6
namespace Go.Proofs.Ytincndblpbdnlaa
open Go.RowKit

theorem age_self (b o : Int) (p q : Nat) (h1 : b = p) (h2 : o = q) : age b o p q = 0 := by
  subst h1 h2
  unfold age orI cmpI
  simp
theorem age_zero {b o : Int} {p q : Nat} (h : age b o p q = 0) : b = p ∧ o = q := by
  unfold age orI cmpI at h
  rcases Int.lt_trichotomy b p with h1 | h1 | h1
  · simp [h1] at h
  · refine ⟨h1, ?_⟩
    subst h1
    rcases Int.lt_trichotomy o q with h2 | h2 | h2
    · simp [h2] at h
    · exact h2
    · simp [h2, Int.not_lt.2 (Int.le_of_lt h2)] at h
  · simp [h1, Int.not_lt.2 (Int.le_of_lt h1)] at h
theorem age_less (b o : Int) (p q : Nat) (h1 : b = p) (h2 : o < q) : age b o p q < 0 := by
  subst h1
  unfold age orI cmpI
  simp
  rw [if_pos h2]
  omega
/-- what an answered write leaves: its slot has it, and its answer -/
theorem rwr_done {sh : Sh} {X : RS} {x : Wr} (h : (rwr sh X x).2.2 = 0) : x.wrong sh = 0 ∧ x.b = ((rwr sh X x).1.P (x.i sh) : Nat) ∧ x.o = ((rwr sh X x).1.O (x.i sh) : Nat) ∧ (rwr sh X x).2.1 = ((rwr sh X x).1.K (x.i sh) : Nat) := by
  unfold rwr at h ⊢
  by_cases hw : x.wrong sh = 0
  · obtain ⟨_, _, _, hb, ho⟩ := x.fits sh hw
    simp only [if_pos hw] at h ⊢
    by_cases h1 : age x.b x.o (X.P (x.i sh)) (X.O (x.i sh)) < 0
    · simp only [if_pos h1] at h
      omega
    · simp only [if_neg h1] at h ⊢
      by_cases h2 : age x.b x.o (X.P (x.i sh)) (X.O (x.i sh)) = 0
      · simp only [if_pos h2] at h ⊢
        obtain ⟨e1, e2⟩ := age_zero h2
        exact ⟨hw, e1, e2, trivial⟩
      · simp only [if_neg h2] at h ⊢
        unfold RS.put
        by_cases hv : X.V x.k.toNat = 1000
        · simp only [if_pos hv, upd_self]
          exact ⟨hw, by omega, by omega, trivial⟩
        · simp only [if_neg hv, upd_self]
          exact ⟨hw, by omega, by omega, trivial⟩
  · simp only [if_neg hw] at h
    omega
theorem rwr_again {sh : Sh} {X : RS} {x : Wr} (h : (rwr sh X x).2.2 = 0) : rwr sh (rwr sh X x).1 x = ((rwr sh X x).1, (rwr sh X x).2.1, 0) := by
  obtain ⟨hw, h1, h2, h3⟩ := rwr_done h
  generalize (rwr sh X x).1 = Y at *
  generalize (rwr sh X x).2.1 = c at *
  subst h3
  unfold rwr
  rw [if_pos hw, age_self _ _ _ _ h1 h2, if_neg (by omega), if_pos rfl]
def Wr.old (x : Wr) : Wr := ⟨x.c, x.s, x.b, x.o - 1, x.k, x.A, x.cap, x.l⟩
theorem rwr_old {sh : Sh} {X : RS} {x : Wr} (h : (rwr sh X x).2.2 = 0) : (rwr sh (rwr sh X x).1 x.old).1 = (rwr sh X x).1 ∧ ((rwr sh (rwr sh X x).1 x.old).2.2 = 12 ∨ (rwr sh (rwr sh X x).1 x.old).2.2 = 6) := by
  obtain ⟨hw, h1, h2, -⟩ := rwr_done h
  obtain ⟨f1, f2, f3, f4, f5⟩ := x.fits sh hw
  generalize (rwr sh X x).1 = Y at *
  have hi : x.old.i sh = x.i sh := rfl
  have e : x.old.wrong sh = if 1 ≤ x.o - 1 then 0 else 6 := by
    unfold Wr.wrong Wr.old Wr.slot
    unfold Wr.slot at f3
    simp only
    rw [if_neg (fun h => h f1), if_neg (fun h => h f2)]
    by_cases ho : 1 ≤ x.o - 1
    · rw [if_neg (by omega), if_pos ho]
    · rw [if_pos (by omega), if_neg ho]
  unfold rwr
  by_cases ho : 1 ≤ x.o - 1
  · rw [e, if_pos ho, if_pos rfl, hi, if_pos (age_less x.old.b x.old.o _ _ h1 (by show x.o - 1 < _; omega))]
    exact ⟨rfl, .inl rfl⟩
  · rw [e, if_neg ho, if_neg (by omega)]
    exact ⟨rfl, .inr rfl⟩

theorem Wr.Good.only {w w' : World} {x : Wr} {k : Nat} {v : Value} (h : x.Good w) (ho : Only w w' k v) : x.Good w' := ⟨h.r.stay ho.stay ho.size, h.by_, h.le⟩
theorem range6 {a b c d e f g i : Value} : ∀ j v, [c, d, e, f, g, i][j]? = some v → (#[a, b, c, d, e, f, g, i] : Array Value)[2 + j]? = some v := by
  intro j v h
  match j, h with
  | 0, h | 1, h | 2, h | 3, h | 4, h | 5, h => exact h
  | n + 6, h => simp at h
set_option maxRecDepth 100000 in
set_option maxHeartbeats 1600000 in
theorem once_walk (B Z C S : Int) (A : Option Addr) (n cap : Nat) (f : Nat → Ac) (m : Nat) (hm : m ≤ 255) (w : World) (hn : n ≤ maxLen) (h : Acts w A n f) :
    Calls Try.prog 6 #[.agg #[.int .i64 B, .int .i64 Z, .int .i64 C, .int .i64 S], .slice A n cap, .int .u8 m] w fun e w' => e = .returned (.bool true) ∧ Below w.heap.size w w' := by
  obtain ⟨W0, hW0, BX0, HB0, -⟩ := below_new w 23 #[.int .i64 B, .int .i64 Z, .int .i64 C, .int .i64 S]
  have HW := hid hW0
  have HS0 := hid BX0
  have B0 := hid HB0
  have HA0 := hid (h.below HB0)
  have HNN := hid hn
  have HA := hid h
  clear hW0 BX0 HB0 h
  go_enter Try.func6, Try.ntmps6
  go_wp2_with fail
  rw [HW.out]
  refine (wakes_any _).mono ?_
  rintro e w1 ⟨rfl, hb⟩
  have B1 := hid (on B0.out hb)
  have HA1 := hid (HA0.out.below hb)
  have HS1 := hid (HS0.out.next hb)
  clear hb B0 HA0 HS0 HW
  go_wp2_with fail
  refine (long_any A n cap f _ HNN.out HA1.out).mono ?_
  rintro e w' ⟨b, rfl, rfl, hb⟩
  cases b
  case true =>
    clear hb
    go_wp2
    go_ret
    exact ⟨rfl, B1.out⟩
  obtain ⟨hn60, hl⟩ := hb rfl
  have HL := hid hl
  clear hb hl
  go_wp2_with (refine wpList_load_bxg (by rfl) 23 (.tmp 3) rfl _ _ _ _ rfl HS1.out Try.underlying23 rfl (by kernel_rfl) ?_)
  refine (lawright_any B Z C S _).mono ?_
  rintro e W ⟨rfl, hb⟩
  have HA2 := hid (HA1.out.below hb)
  have HS2 := hid (HS1.out.next hb)
  have B2 := hid (on B1.out hb)
  clear hb HA1 HS1 B1
  by_cases hr : RightI B Z C S
  case neg =>
    rw [dec_false hr]
    clear hr
    go_wp2
    go_ret
    exact ⟨rfl, B2.out⟩
  rw [dec_true hr]
  obtain ⟨⟨b1, b2⟩, ⟨z1, z2⟩, ⟨c1, c2⟩, s1, s2⟩ := hr
  obtain ⟨B, rfl⟩ := Int.eq_ofNat_of_zero_le (show 0 ≤ B by omega)
  obtain ⟨Z, rfl⟩ := Int.eq_ofNat_of_zero_le (show 0 ≤ Z by omega)
  obtain ⟨C, rfl⟩ := Int.eq_ofNat_of_zero_le (show 0 ≤ C by omega)
  obtain ⟨S, rfl⟩ := Int.eq_ofNat_of_zero_le (show 0 ≤ S by omega)
  have OK := hid (show (Sh.mk B Z C S).ok from ⟨⟨by show 1 ≤ B; omega, by show B ≤ 32; omega⟩, ⟨by show 1 ≤ Z; omega, by show Z ≤ 16; omega⟩, ⟨by show 1 ≤ C; omega, by show C ≤ 4; omega⟩, by show 1 ≤ S; omega, by show S ≤ 4; omega⟩)
  clear b1 b2 z1 z2 c1 c2 s1 s2
  go_upto_region 5 with fail
  have HSB := hid (fun y (hy : Below W.heap.size W y) => HS2.out.next hy)
  refine wp_region_noPanic ?_
  refine wp_region_held_drew (S := fun y => Below W.heap.size W y) (by kernel_rfl) ?_ (fun hHeld => ?_)
  · exact (Below.refl _ _).drew
  refine wpAnyH_take (i := 1) (oi := ⟨some 35, _, _, _, _, _⟩) (v := _) rfl (by kernel_rfl) (by kernel_rfl) (by kernel_rfl) (fun _ _ _ h => h) (yieldsIf_bx (by rfl) 23 (.tmp 3) rfl _ _ _ _ rfl HSB.out Try.underlying23 rfl (by kernel_rfl)) (by assumption) ?_
  (try simp only [Act.put, List.setIfInBounds_toArray, List.set_cons_zero, List.set_cons_succ])
  obtain ⟨y0, hy0⟩ : ∃ y, W.drew = y := ⟨_, rfl⟩
  rw [hy0] at hHeld ⊢
  have HY0 := hid hHeld
  clear hy0
  refine wpAnyH_ready (rs := [0]) (by kernel_rfl) (by simp) ?_
  refine AllReadyH.cons (o := ⟨some 34, _, _, _, _, _⟩) rfl (fun K hK => ?_) AllReadyH.nil
  rw [if_pos (by rfl)]
  go_simp
  go_at_call 12
  refine (new_any 64 y0).mono ?_
  rintro e y1 ⟨kd, vv, rfl, hk, hb1⟩
  have K1 := hid (show Dk y1 67 y0.heap.size kd vv ⟨List.replicate 64 [], -1, false⟩ from hk)
  have HY1 := hid (on HY0.out hb1)
  have HB1 := hid hb1
  clear hk hb1
  refine hK.out _ _ HY1.out (fun hHeld => ?_)
  clear hK K
  (try simp only [Act.put, List.setIfInBounds_toArray, List.set_cons_zero, List.set_cons_succ])
  refine wpAnyH_ready (rs := [2]) (by kernel_rfl) (by simp) ?_
  refine AllReadyH.cons (o := ⟨some 36, _, _, _, _, _⟩) rfl (fun K hK => ?_) AllReadyH.nil
  rw [if_pos (by rfl)]
  go_simp
  go_at_call 14
  refine (open_new B Z C S OK.out K1.out).mono ?_
  rintro e y2 ⟨ks, rfl, hx, ho, -⟩
  have X2 := hid hx
  have HY2 := hid (HY0.out.trans ((HB1.out.trans (K1.out.onlyBel ho HB1.out.size)).mono HY0.out.size))
  clear hx ho K1 HB1 HY1
  refine hK.out _ _ HY2.out (fun hHeld => ?_)
  clear hK K
  (try simp only [Act.put, List.setIfInBounds_toArray, List.set_cons_zero, List.set_cons_succ])
  refine wpAnyH_take (i := 3) (oi := ⟨some 33, _, _, _, _, _⟩) (v := ?_) rfl (by kernel_rfl) (by kernel_rfl) (by kernel_rfl) (fun _ _ _ h => h) (Or.inl ⟨by rfl, ?_⟩) (by assumption) ?_
  rotate_left 1
  · intro w0 hSw
    clear hSw
    go_simp
    try with_reducible rfl
  (try simp only [Act.put, List.setIfInBounds_toArray, List.set_cons_zero, List.set_cons_succ])
  refine wpAnyH_take (i := 4) (oi := ⟨some 37, _, _, _, _, _⟩) (v := ?_) rfl (by kernel_rfl) (by kernel_rfl) (by kernel_rfl) (fun _ _ _ h => h) (Or.inl ⟨by rfl, ?_⟩) (by assumption) ?_
  rotate_left 1
  · intro w0 hSw
    clear hSw
    go_simp
    try with_reducible rfl
  (try simp only [Act.put, List.setIfInBounds_toArray, List.set_cons_zero, List.set_cons_succ])
  refine wpAnyH_take (i := 5) (oi := ⟨some 38, _, _, _, _, _⟩) (v := ?_) rfl (by kernel_rfl) (by kernel_rfl) (by kernel_rfl) (fun _ _ _ h => h) (Or.inl ⟨by rfl, ?_⟩) (by assumption) ?_
  rotate_left 1
  · intro w0 hSw
    clear hSw
    go_simp
    try with_reducible rfl
  (try simp only [Act.put, List.setIfInBounds_toArray, List.set_cons_zero, List.set_cons_succ])
  refine wpAnyH_take (i := 6) (oi := ⟨some 7, _, _, _, _, _⟩) (v := ?_) rfl (by kernel_rfl) (by kernel_rfl) (by kernel_rfl) (fun _ _ _ h => h) (Or.inl ⟨by rfl, ?_⟩) (by assumption) ?_
  rotate_left 1
  · intro w0 hSw
    clear hSw
    go_simp
    try with_reducible rfl
  (try simp only [Act.put, List.setIfInBounds_toArray, List.set_cons_zero, List.set_cons_succ])
  refine wpAnyH_take (i := 7) (oi := ⟨some 8, _, _, _, _, _⟩) (v := ?_) rfl (by kernel_rfl) (by kernel_rfl) (by kernel_rfl) (fun _ _ _ h => h) (Or.inl ⟨by rfl, ?_⟩) (by assumption) ?_
  rotate_left 1
  · intro w0 hSw
    clear hSw
    go_simp
    try with_reducible rfl
  (try simp only [Act.put, List.setIfInBounds_toArray, List.set_cons_zero, List.set_cons_succ])
  refine wpAnyH_done (by kernel_rfl) ?_ _
  refine NoPanic.normal ?_
  have B3 := hid (B2.out.trans (HY2.out.mono B2.out.size))
  have F0 := hid (fine_new OK.out)
  have LOW := hid (show w.heap.size ≤ y0.heap.size from Nat.le_trans B2.out.size HY0.out.size)
  generalize hbb : y0.heap.size = bb at *
  have OKS := hid (show ∃ sh : Sh, sh = ⟨B, Z, C, S⟩ from ⟨_, rfl⟩)
  obtain ⟨sh, hsh⟩ := OKS.out
  rw [← hsh] at F0 X2
  obtain ⟨X0, hX0⟩ : ∃ X, RS.zero sh.Z = X := ⟨_, rfl⟩
  rw [hX0] at F0
  clear HY2 HY0 HA2 HS2 hHeld B2 OK hbb OKS hsh hX0 HSB
  go_wp2_with fail
  go_loopg [43] n (fun gk t wr => ∃ p : Nat, p + gk = n ∧ t = .int .i64 p ∧ ∃ L X, Hid (Sx wr bb kd ks vv ⟨L, -1, false⟩ sh) ∧ Hid (Fine sh L X) ∧ Hid (Below w.heap.size w wr))
  case atStart => exact ⟨0, by omega, rfl, _, _, X2, F0, B3⟩
  case round =>
    obtain ⟨p, hp, rfl, L, X, HX, HF, HB⟩ := hrel
    clear X2 F0 B3
    by_cases hlt : p < n
    · obtain ⟨ad, rfl, hat⟩ := (HA.out.below HB.out) p hlt
      have h100 := HL.out p hlt
      obtain ⟨⟨ki, ni, x⟩, hy⟩ : ∃ y, f p = y := ⟨_, rfl⟩
      rw [hy] at hat h100
      obtain ⟨-, hc, hg, -⟩ := hat
      dsimp only at hc hg h100
      have HAT := hid (show At wr (ad.add (p * 8)) [.int .i64 ki, .int .i64 ni, .int .i64 x.c, .int .i64 x.s, .int .i64 x.b, .int .i64 x.o, .int .i64 x.k, .slice x.A x.l.length x.cap] from hc)
      obtain ⟨W1, hW1, BX1, HB1, -⟩ := below_new wr 40 #[.int .i64 ki, .int .i64 ni, .int .i64 x.c, .int .i64 x.s, .int .i64 x.b, .int .i64 x.o, .int .i64 x.k, .slice x.A x.l.length x.cap]
      have HW1 := hid hW1
      have E1 := hid BX1
      have X1 := hid (HX.out.below HB1)
      have F1 := HF
      have G1 := hid (hg.below HB1)
      have B1 := hid (on HB.out HB1)
      clear hW1 BX1 HB1 hc hg hy HX HB HF
      go_upto_region 11 with (refine wpList_load_at rfl 40 (.tmp 45) rfl _ rfl [.int .i64 ki, .int .i64 ni, .int .i64 x.c, .int .i64 x.s, .int .i64 x.b, .int .i64 x.o, .int .i64 x.k, .slice x.A x.l.length x.cap] _ HAT.out Try.underlying40 rfl (by kernel_rfl) ?_)
      rw [HW1.out]
      clear HAT HW1
      go_wp2_with (refine wpList_load_mid rfl 38 (.tmp 49) rfl _ 2 rfl [.int .i64 x.c, .int .i64 x.s, .int .i64 x.b, .int .i64 x.o, .int .i64 x.k, .slice x.A x.l.length x.cap] _ (E1.out.range 2 _ range6) Try.underlying38 rfl (by kernel_rfl) ?_)
      refine (stw_free X1.out F1.out x G1.out.by_ G1.out.r).mono ?_
      rintro e w3 ⟨rfl, L3, hx, hf, ho⟩
      have X3 := hid hx
      have F3 := hid hf
      have B3 := hid (B1.out.trans ((X1.out.bel hx ho).mono LOW.out))
      have E3 := hid (E1.out.dsk X1.out.dk ho (by decide) (by decide))
      have G3 := hid (G1.out.only ho)
      have HAG := hid (fun h => rwr_again (sh := sh) (X := X) (x := x) h)
      have HOL := hid (fun h => rwr_old (sh := sh) (X := X) (x := x) h)
      have HFI := hid (fun h => x.fits sh (rwr_done (sh := sh) (X := X) (x := x) h).1)
      generalize hR : rwr sh X x = R at *
      obtain ⟨X', c1, e1⟩ := R
      dsimp only at HAG HOL HFI F3 ⊢
      clear hR hx hf ho X1 F1 B1 E1 G1
      by_cases he : e1 = 0
      · subst he
        obtain ⟨⟨k1, k2⟩, -, -, -, o1, o2⟩ := HFI.out rfl
        obtain ⟨kk, hkk⟩ := Int.eq_ofNat_of_zero_le k1
        have hkb : kk < sh.B := by omega
        have HKB := hid hkb
        have k6 : w3.cell? ⟨wr.heap.size, 6, none⟩ = some (.int .i64 (kk : Nat)) := by rw [← hkk]; exact E3.out.cell 6
        have HKK := hid hkk
        clear k1 k2 hkk hkb HFI
        go_wp2_with fail
        refine (str_any X3.out F3.out kk HKB.out).mono ?_
        rintro e w4 ⟨u, rfl, hu, hb⟩
        have HU := hid hu.bs
        obtain ⟨A1, cu, rfl, -⟩ := hu.bs
        have X4 := hid (X3.out.below hb)
        have B4 := hid (on B3.out hb)
        have E4 := hid (E3.out.next hb)
        have G4 := hid (G3.out.below hb)
        have HSZ := hid (show wr.heap.size < w4.heap.size from E4.out.lt)
        clear hu hb X3 B3 E3 G3 k6
        obtain ⟨T, hT⟩ : ∃ T, X'.T kk = T := ⟨_, rfl⟩
        rw [hT] at HU ⊢
        have HT := hid hT
        clear hT
        obtain ⟨tl, htl⟩ : ∃ q, T.length = q := ⟨_, rfl⟩
        have HTL := hid htl
        rw [htl] at ⊢
        clear htl
        obtain ⟨g, hg⟩ : ∃ g, wr.heap.size = g := ⟨_, rfl⟩
        rw [hg] at E4 HSZ ⊢
        clear hg
        have hcc : (c1 != c1) = false := by simp
        have hm4 : 0 ≤ (m : Int) % 4 ∧ (m : Int) % 4 < 4 := by omega
        go_wp2_with fail
        go_loopw [68] (fun t wt => ∃ q : Nat, q ≤ 4 ∧ t = .int .i64 q ∧ ∃ L2, Hid (Sx wt bb kd ks vv ⟨L2, -1, false⟩ sh) ∧ Hid (Fine sh L2 X') ∧ Hid (Bx wt g 40 #[.int .i64 ki, .int .i64 ni, .int .i64 x.c, .int .i64 x.s, .int .i64 x.b, .int .i64 x.o, .int .i64 x.k, .slice x.A x.l.length x.cap]) ∧ Hid (x.Good wt) ∧ Hid (Bs wt (.slice A1 T.length cu) T) ∧ Hid (Below w.heap.size w wt)) (fun t _ => 4 - (intOf t).toNat)
        case atStart => exact ⟨0, by omega, rfl, _, X4, F3, E4, G4, HU, B4⟩
        case round =>
          obtain ⟨q, hq, rfl, L2, X5, F5, E5, G5, U5, B5⟩ := hrel
          clear X4 F3 E4 G4 HU B4
          by_cases hql : (q : Int) < (m : Int) % 4
          · have hq3 : q < 4 := by omega
            go_wp2_with (refine wpList_load_mid rfl 38 (.tmp 72) rfl _ 2 rfl [.int .i64 x.c, .int .i64 x.s, .int .i64 x.b, .int .i64 x.o, .int .i64 x.k, .slice x.A x.l.length x.cap] _ (E5.out.range 2 _ range6) Try.underlying38 rfl (by kernel_rfl) ?_)
            refine (stw_free X5.out F5.out x G5.out.by_ G5.out.r).mono ?_
            rw [HAG.out (by first | exact rfl | trivial)]
            rintro e w6 ⟨rfl, L6, hx, hf, ho⟩
            have X6 := hid hx
            have F6 := hid hf
            have B6 := hid (B5.out.trans ((X5.out.bel hx ho).mono LOW.out))
            have E6 := hid (E5.out.dsk X5.out.dk ho (by decide) (by decide))
            have G6 := hid (G5.out.only ho)
            have U6 := hid (U5.out.stay ho.stay ho.size)
            clear hx hf ho X5 F5 B5 E5 G5 U5
            go_wp2
            go_roundw
            case rel => exact ⟨q + 1, by omega, by go_num, L6, X6, F6, E6, G6, U6, B6⟩
            case measure => simp [intOf]; omega
          · have hd : decide ((q : Int) < (m : Int) % 4) = false := by simpa using hql
            clear hql hq
            obtain ⟨W6, hW6, BX6, HB6, -⟩ := below_new wr 38 #[.int .i64 x.c, .int .i64 x.s, .int .i64 x.b, .int .i64 x.o, .int .i64 x.k, .slice x.A x.l.length x.cap]
            have HW6 := hid hW6
            have y3 : W6.cell? ⟨wr.heap.size, 3, none⟩ = some (.int .i64 x.o) := BX6.cell 3
            have y4 : W6.frozen? ⟨wr.heap.size, 3, none⟩ = false := BX6.free 3
            obtain ⟨W7, hW7⟩ : ∃ y, W6.setCell ⟨wr.heap.size, 3, none⟩ (.int .i64 (x.o - 1)) = y := ⟨_, rfl⟩
            have E7 := hid (show Bx W7 wr.heap.size 38 #[.int .i64 x.c, .int .i64 x.s, .int .i64 x.b, .int .i64 (x.o - 1), .int .i64 x.k, .slice x.A x.l.length x.cap] by rw [← hW7]; exact BX6.set 3 _)
            have HB7 : Below wr.heap.size wr W7 := by rw [← hW7]; exact below_set HB6 ⟨wr.heap.size, 3, none⟩ _ (Nat.le_refl _)
            have HW7 := hid hW7
            have B7 := hid (on B5.out HB7)
            have X7 := hid (X5.out.below HB7)
            have E7a := hid (E5.out.next HB7)
            have G7 := hid (G5.out.below HB7)
            have U7 := hid (U5.out.below HB7)
            have o1' : 0 ≤ x.o := by omega
            clear hW6 BX6 HB6 HB7 hW7 X5 B5 G5 U5
            go_upto_region 21 with (refine wpList_load_mid rfl 38 (.tmp 85) rfl _ 2 rfl [.int .i64 x.c, .int .i64 x.s, .int .i64 x.b, .int .i64 x.o, .int .i64 x.k, .slice x.A x.l.length x.cap] _ (E5.out.range 2 _ range6) Try.underlying38 rfl (by kernel_rfl) ?_)
            rw [HW6.out]
            go_upto_region 22 with fail
            rw [HW7.out]
            clear y3 y4 HW6 HW7 E5
            go_wp2_with (refine wpList_load_bx rfl 38 (.tmp 18) rfl _ _ _ _ rfl E7.out Try.underlying38 rfl (by kernel_rfl) ?_)
            refine (stw_free X7.out F5.out x.old G7.out.by_ G7.out.r).mono ?_
            rintro e w8 ⟨rfl, L8, hx, hf, ho⟩
            obtain ⟨q1, q2⟩ := HOL.out (by first | exact rfl | trivial)
            rw [q1] at hf
            have X8 := hid hx
            have F8 := hid hf
            have B8 := hid (B7.out.trans ((X7.out.bel hx ho).mono LOW.out))
            have E8 := hid (E7a.out.dsk X7.out.dk ho (by decide) (by decide))
            have U8 := hid (U7.out.stay ho.stay ho.size)
            have k6 : w8.cell? ⟨g, 6, none⟩ = some (.int .i64 (kk : Nat)) := by rw [← HKK.out]; exact E8.out.cell 6
            clear hx hf ho q1 X7 F5 B7 E7 E7a G7 U7
            generalize (rwr sh X' x.old).2.1 = c8 at *
            generalize (rwr sh X' x.old).2.2 = e8 at *
            clear HOL HAG
            rcases q2 with rfl | rfl
            all_goals
              go_wp2_with fail
              refine (str_any X8.out F8.out kk HKB.out).mono ?_
              rintro e w9 ⟨u9, rfl, hu9, hb9⟩
              rw [HT.out] at hu9
              obtain ⟨A9, c9, rfl, r9, l9, m9⟩ := hu9.bs
              have X9 := hid (X8.out.below hb9)
              have B9 := hid (on B8.out hb9)
              have U9 := hid (U8.out.below hb9)
              have R9 := hid r9
              have M9 := hid (Nat.le_trans l9 m9)
              have vv9 : ((X'.V kk : Nat) != (X'.V kk : Nat)) = false := by simp
              have vv8 : (((X'.V kk : Nat) : Int) != ((X'.V kk : Nat) : Int)) = false := by simp
              clear hu9 hb9 r9 l9 m9 X8 B8 U8 k6
              rw [HTL.out]
              go_wp2_with (go_at_call 18; refine (same_yes A1 A9 tl tl cu c9 T _ _ _ HTL.out HTL.out (by rw [← HTL.out]; exact M9.out) U9.out.rn R9.out).mono ?_; rintro e w8 ⟨rfl, d8, rfl⟩)
              go_roundg (gk - 1)
              case measure => omega
              case rel => exact ⟨p + 1, by omega, by go_num, _, _, hid (X9.out.below (below_draws (Below.refl _ _) _)), F8, hid (below_draws B9.out _)⟩
      · have h1 : (e1 == 0) = false := by simpa using he
        have h2 : (e1 != 0) = true := by simpa using he
        clear he
        go_wp2
        go_roundg (gk - 1)
        case measure => omega
        case rel => exact ⟨p + 1, by omega, by go_num, _, _, X3, F3, B3⟩
    · obtain rfl : p = n := by omega
      go_wp2
      go_ret
      exact ⟨rfl, HB.out⟩
end Go.Proofs.Ytincndblpbdnlaa
