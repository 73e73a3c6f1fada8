/-
  What is proved: the walk of msg's Get over a message's bytes, what is cut off of them, and a byte more. Conditions: the message is right; the table of the kinds' fields lies where the program lays it.
-/
import Derived.Test.YtihldenljddmoaaDoorGetM
namespace Go.Proofs.YtihldenljddmoaaDoor
open Go.RowKit

/-- a message is got -/
def GotM (c : Nat → Int) (gr : Bool) (ds : List Int) (e : Ending) (w' : World) : Prop := ∃ E cq, e = .returned (.tuple #[.agg (msgC c gr E ds.length cq), .int .i64 0]) ∧ Rn w' E ds
theorem fes_drop (c : Nat → Int) (gr : Bool) (ds : List Int) (T : List Nat) (q : Nat) (hq : q < T.length) : fes c gr ds T = fes c gr ds (T.take q) ++ (fe c gr ds (T[q]'hq) ++ fes c gr ds (T.drop (q + 1))) := by
  have e : T = T.take q ++ (T[q]'hq :: T.drop (q + 1)) := by
    rw [← List.drop_eq_getElem_cons hq, List.take_append_drop]
  have e2 := congrArg (fes c gr ds) e
  rw [fes_app, fes] at e2
  exact e2

set_option maxRecDepth 100000 in
set_option maxHeartbeats 600000 in
theorem getm_cut (A : Option Addr) (cb L C : Nat) (c : Nat → Int) (gr : Bool) (ds : List Int) (by_ : Int) (l : List Int) (w : World) (hN : Nm w) (hy : RightM c gr ds.length) (hL : l.length = L) (hl : l = (fullM c gr ds ++ [by_]).take L) (hLS : L ≤ (fullM c gr ds).length + 1) (hLc : L ≤ cb)
    (hb : ∀ x ∈ l, 0 ≤ x ∧ x ≤ 255) (ra : Rd w C A l) (hC : C ≤ w.heap.size) :
    Calls Tryd.prog 14 #[.slice A L cb] w fun e w' => Below w.heap.size w w' ∧
      ((L < (fullM c gr ds).length ∧ e = .returned (.tuple #[.agg (msgC zM false none 0 0), .int .i64 1])) ∨ (L = (fullM c gr ds).length + 1 ∧ e = .returned (.tuple #[.agg (msgC zM false none 0 0), .int .i64 2])) ∨ (L = (fullM c gr ds).length ∧ GotM c gr ds e w')) := by
  have hs := hy.small
  have hk0 := hs.1
  obtain ⟨k, hk⟩ : ∃ k : Nat, c 0 = k := ⟨(c 0).toNat, by omega⟩
  have hk1 : 1 ≤ k ∧ k ≤ 14 := by omega
  have hkn : kn (k : Int) = true := by unfold kn; exact decide_eq_true (by omega)
  obtain ⟨T, hT⟩ : ∃ T, fl (mk k) 1 = T := ⟨_, rfl⟩
  have hT10 : T.length ≤ 10 := by rw [← hT]; exact fl_len10 _
  have hfull : fullM c gr ds = [(k : Int)] ++ fes c gr ds T := by
    unfold fullM
    rw [kind_enc hk0, hk, Int.toNat_natCast, hT]
  have hfl : (fullM c gr ds).length = 1 + (fes c gr ds T).length := by rw [hfull, List.length_append]; rfl
  have hF := fes_all_len (gr := gr) hs (mk k)
  rw [hT] at hF
  have hL5 : L ≤ 1000 := by omega
  have HFL := hid hfl
  have HS := hid hs
  have HY := hid hy
  have HL := hid hL
  have HB := hid hb
  have HT := hid hT
  have HKK := hid hk
  have HKN := hid hkn
  have hl2 : l = ([(k : Int)] ++ (fes c gr ds T ++ [by_])).take L := by rw [hl, hfull, List.append_assoc]
  have HL2 := hid hl2
  have X2 := Bx.new w 25 (msgC zM false none 0 0)
  have K2 := below_alloc w (.cells (msgC zM false none 0 0) 25)
  have HRA := hid ra
  have A2 := ra.alloc hC (.cells (msgC zM false none 0 0) 25)
  have z2 : (w.alloc (.cells (msgC zM false none 0 0) 25)).heap.size = w.heap.size + 1 := World.size_alloc _ _
  have HX2 := hid X2
  have HK2 := hid K2
  have HA2 := hid A2
  have HZ2 := hid z2
  have HN2 := hid (hN.next K2)
  have HNW := hid hN
  have hkr := kind_enc hk0
  rw [hk, Int.toNat_natCast] at hkr
  have HKE := hid hkr
  clear hs hk0 hk hT hfull hfl hF hL hl hb ra hl2 X2 K2 A2 z2 hN hkn hkr hy
  by_cases hL0 : L = 0
  · have hdrop : Hid (l.drop ((0 : Nat) : Int).toNat = (enc k ++ (fes c gr ds T ++ [by_])).take L) := hid (by rw [HL2.out, HKE.out]; rfl)
    have G := get_cut_no A cb 0 k L L l _ _ C HL (by omega) (by omega) (by omega) HB HA2.out (by omega) hdrop (by rw [HKE.out, hL0]; simp)
    rw [show (((0 : Nat)) : Int) = 0 from rfl] at G
    have HG := hid G
    have HL0 := hid hL0
    clear G hL0
    go_enter Tryd.func14, Tryd.ntmps14
    go_wp2_with fail
    change Calls _ _ _ (w.alloc (.cells (msgC zM false none 0 0) 25)) _
    refine HG.out.mono ?_
    rintro e w3 ⟨rfl, d, rfl⟩
    have HX3 := hid (HX2.out.draws d)
    have HK3 := hid (below_draws HK2.out d)
    clear HX2 HK2 HA2 HN2 hdrop HG
    go_wp2_with (refine wpList_store_bx rfl 25 (.tmp 2) (.tmp 18) rfl rfl _ _ _ (msgC zM false none 0 0) rfl rfl HX3.out (by kernel_rfl) rfl (msgC_one _ _ _ _ _) ?_)
    refine bodyPost_ret (results_bx2 rfl _ rfl HX3.out.row Tryd.underlying25 rfl (by kernel_rfl)) rfl ?_
    exact ⟨below_setRow HK3.out (Nat.le_refl _) _, .inl ⟨by have := HFL.out; have := HL0.out; omega, rfl⟩⟩
  · have hdrop : Hid (l.drop ((0 : Nat) : Int).toNat = (enc k ++ (fes c gr ds T ++ [by_])).take L) := hid (by rw [HL2.out, HKE.out]; rfl)
    have G := get_cut_yes A cb 0 k L L l _ _ C HL (by omega) (by omega) (by omega) HB HA2.out (by omega) hdrop (by rw [HKE.out]; simp; omega)
    rw [show (((0 : Nat)) : Int) = 0 from rfl, show 0 + (enc k).length = 1 by rw [HKE.out]; rfl] at G
    have HG := hid G
    clear G
    go_enter Tryd.func14, Tryd.ntmps14
    go_wp2_with fail
    change Calls _ _ _ (w.alloc (.cells (msgC zM false none 0 0) 25)) _
    refine HG.out.mono ?_
    rintro e w3 ⟨rfl, d, rfl⟩
    have HX3 := hid (HX2.out.draws d)
    have HK3 := hid (below_draws HK2.out d)
    have HA3 := hid (HA2.out.drewN d)
    have HN3 := hid (show Nm ((w.alloc (.cells (msgC zM false none 0 0) 25)).drewN d) from ⟨HN2.out.lt, HN2.out.at_⟩)
    have HZ3 := hid (show ((w.alloc (.cells (msgC zM false none 0 0) 25)).drewN d).heap.size = w.heap.size + 1 from HZ2.out)
    clear HX2 HK2 HA2 HN2 HZ2 hdrop HG
    generalize (w.alloc (.cells (msgC zM false none 0 0) 25)).drewN d = w3 at *
    go_wp2_with fail
    refine (known_any (k : Int) _).mono ?_
    rintro e w4 ⟨rfl, rfl⟩
    rw [HKN.out]
    have K4 := below_alloc w3 (.cells (msgC (cs k c []) (gs gr []) none 0 0) 25)
    have HX4 := hid (HX3.out.alloc (.cells (msgC (cs k c []) (gs gr []) none 0 0) 25))
    have HY4 := hid (Bx.new w3 25 (msgC (cs k c []) (gs gr []) none 0 0))
    have HK4 := hid (on HK3.out K4)
    have HA4 := hid (HA3.out.alloc (by have := HZ3.out; omega) (.cells (msgC (cs k c []) (gs gr []) none 0 0) 25))
    have HN4 := hid (HN3.out.next K4)
    have n0 : (w3.alloc (.cells #[.int .i64 (k : Int), .int .i64 0, .int .i64 0, .int .i64 0, .int .i64 0, .int .i64 0, .int .i64 0, .int .i64 0, .int .i64 0, .bool false, .slice none 0 0] 25)).cell? ⟨0, k, none⟩ = some (.int .u64 (mk k)) := HN4.out.at_ k (by omega)
    have HG := hid (show w3.heap.size = w.heap.size + 1 from HZ3.out)
    clear HX3 HK3 HA3 HN3 K4
    go_wp2_with fail
    change Calls _ _ _ (w3.alloc (.cells (msgC (cs k c []) (gs gr []) none 0 0) 25)) _
    clear n0
    obtain ⟨g, hg⟩ : ∃ g, w3.heap.size = g := ⟨_, rfl⟩
    have hB0 : (w3.alloc (.cells (msgC (cs k c []) (gs gr []) none 0 0) 25)).heap.size = g + 1 := by rw [World.size_alloc, hg]
    rw [hg] at HY4 HG ⊢
    have HB0 := hid hB0
    clear hg HZ3 hB0
    generalize w3.alloc (.cells (msgC (cs k c []) (gs gr []) none 0 0) 25) = w4 at *
    refine (places_any g (mk k) (Nat.lt_of_le_of_lt (mk_le k) (by omega)) _).mono ?_
    rintro e w5 ⟨v5, rfl, hown5, hb5⟩
    have HO5 := hid hown5
    obtain ⟨P, cpl, rfl, -, -, -⟩ := OwnV.read hown5
    rw [HB0.out, HT.out] at HO5
    rw [HT.out]
    have HST := hid (show GSt w w5 w.heap.size g (g + 1) P cpl T k c gr ds [] from ⟨none, 0, 0, HY4.out.next hb5, HX4.out.next hb5, HO5.out, on HK4.out hb5, .inl ⟨by simp, rfl, rfl, rfl⟩⟩)
    have HA5 := hid (HA4.out.below hb5 (by have := HG.out; rw [HB0.out]; omega))
    clear hown5 hb5 HX4 HY4 HK4 HA4 HN4 HO5
    go_wp2_with fail
    go_loopw [5, 31] (fun s i wr => ∃ q : Nat, i = .int .i64 q ∧ q ≤ T.length ∧ s = .int .i64 (1 + (fes c gr ds (T.take q)).length : Nat) ∧ 1 + (fes c gr ds (T.take q)).length ≤ L ∧ GSt w wr w.heap.size g (g + 1) P cpl T k c gr ds (T.take q) ∧ Rd wr C A l) (fun _ i _ => T.length - (intOf i).toNat)
    case atStart => exact ⟨0, rfl, by omega, by simp [fes], by simp [fes]; omega, HST.out, HA5.out⟩
    case round =>
      obtain ⟨q, rfl, hq, rfl, hpl, hst, ha⟩ := hrel
      have HST := hid hst
      have HA := hid ha
      obtain ⟨p, hp⟩ : ∃ p, 1 + (fes c gr ds (T.take q)).length = p := ⟨_, rfl⟩
      rw [hp] at hpl ⊢
      have HP := hid hp
      clear hp ha
      by_cases hlt : q < T.length
      · have hlt' : (q : Int) < (T.length : Int) := by omega
        obtain ⟨D, n, cp, b1, b2, b3, b4, b5⟩ := hst
        obtain ⟨ad, cx, hv, hat⟩ := own_place b3 q hlt
        injection hv with e1 e2 e3
        subst e1 e3
        have hdrop : Hid (l.drop ((p : Int)).toNat = (fe c gr ds (T[q]'hlt) ++ (fes c gr ds (T.drop (q + 1)) ++ [by_])).take (L - p)) := hid (by
          have e : [(k : Int)] ++ (fes c gr ds T ++ [by_]) = ([(k : Int)] ++ fes c gr ds (T.take q)) ++ (fe c gr ds (T[q]'hlt) ++ (fes c gr ds (T.drop (q + 1)) ++ [by_])) := by
            rw [fes_drop c gr ds T q hlt]; simp only [List.append_assoc]
          have el : ([(k : Int)] ++ fes c gr ds (T.take q)).length = p := by rw [List.length_append, ← HP.out]; rfl
          rw [Int.toNat_natCast, HL2.out, List.drop_take, e, ← el, List.drop_left])
        have hsn := congrArg List.length (fes_snoc c gr ds T q hlt)
        rw [List.length_append] at hsn
        have hle := congrArg List.length (fes_drop c gr ds T q hlt)
        rw [List.length_append, List.length_append] at hle
        have R := fun (m : Int) W (h1 : GSt w W w.heap.size g (g + 1) (some ad) cpl T k c gr ds (T.take q)) (h2 : Rd W C A l) => round_get (by_ := by_) (mm := m) (by have := HG.out; omega) (by have := HG.out; omega) (Nat.lt_succ_self g) hk1.2 HT.out.symm HS.out hlt h1 HL (by omega) hLc hpl HB h2 (by have := HG.out; omega) hdrop
        obtain ⟨f, hf⟩ : ∃ f, T[q]'hlt = f := ⟨_, rfl⟩
        rw [hf] at hat R hsn hle
        obtain ⟨A1, A2, A3, A4, hA, hone⟩ := pcl_any g f
        obtain ⟨m, hm⟩ : ∃ m, mo f = m := ⟨_, rfl⟩
        rw [hA, hm] at hat
        replace R := R m
        rw [hA] at R
        obtain ⟨_, d0, d1, d2, d3, d4, d5⟩ := hat
        simp only [List.getElem?_toArray, List.getElem?_cons_zero, List.getElem?_cons_succ] at d0 d1 d2 d3 d4 d5
        obtain ⟨F, hF⟩ : ∃ F, (fe c gr ds f).length = F := ⟨_, rfl⟩
        rw [hF] at R hsn hle
        have RR := hid R
        have HSN := hid hsn
        have HLE := hid hle
        have HONE := hid hone
        clear R hA hm hf hF e2 hone b1 b2 b3 b4 b5 hdrop hsn hle
        go_wp2_with (refine wpList_store_new rfl _ _ _ rfl rfl _ #[.int .i64 f, A1, A2, A3, A4, .int .i64 m] rfl rfl (by kernel_rfl) rfl (HONE.out m) ?_)
        have HP6 := hid (Bx.new wr 55 #[.int .i64 f, A1, A2, A3, A4, .int .i64 m])
        have HST6 := hid (HST.out.alloc (.cells #[.int .i64 f, A1, A2, A3, A4, .int .i64 m] 55))
        have HA6 := hid (HA.out.below (below_alloc wr (.cells #[.int .i64 f, A1, A2, A3, A4, .int .i64 m] 55)) (by obtain ⟨_, _, _, x1, _, _, x4, _⟩ := HST.out; have := x4.size; omega))
        generalize wr.alloc (.cells #[.int .i64 f, A1, A2, A3, A4, .int .i64 m] 55) = w6 at *
        generalize wr.heap.size = h at *
        clear d0 d1 d2 d3 d4 d5
        have d0 := HP6.out.cell 0
        have d1 := HP6.out.cell 1
        have d2 := HP6.out.cell 2
        have d3 := HP6.out.cell 3
        have d4 := HP6.out.cell 4
        have d5 := HP6.out.cell 5
        simp only [List.getElem?_toArray, List.getElem?_cons_zero, List.getElem?_cons_succ] at d0 d1 d2 d3 d4 d5
        go_wp2_with fail
        refine (RR.out _ HST6.out HA6.out).mono ?_
        rintro e w7 ⟨hb7, ⟨hle, rfl, hst7⟩ | ⟨hle, rfl, hx7⟩⟩
        · have HB7 := hid hb7
          have HST7 := hid hst7
          clear hb7 hst7 d0 d1 d2 d3 d4 d5
          go_wp2_with fail
          go_roundw
          case rel => exact ⟨q + 1, by go_num, by omega, by congr 1; have h1 := HSN.out; have h2 := HP.out; omega, by have h1 := HSN.out; have h2 := HP.out; omega, HST7.out, HRA.out.below HB7.out hC⟩
          case measure => simp [intOf]; omega
        · have HB7 := hid hb7
          have HX7 := hid hx7
          clear hb7 hx7 d0 d1 d2 d3 d4 d5
          go_wp2_with (refine wpList_store_bx rfl 25 (.tmp 2) (.tmp 44) rfl rfl _ _ _ (msgC zM false none 0 0) rfl rfl HX7.out (by kernel_rfl) rfl (msgC_one _ _ _ _ _) ?_)
          refine bodyPost_ret (results_bx2 rfl _ rfl HX7.out.row Tryd.underlying25 rfl (by kernel_rfl)) rfl ?_
          exact ⟨below_setRow HB7.out (Nat.le_refl _) _, .inl ⟨by have h1 := HLE.out; have h2 := HP.out; have h3 := HFL.out; omega, rfl⟩⟩
      · have hlt' : ¬ (q : Int) < (T.length : Int) := by omega
        obtain rfl : q = T.length := by omega
        obtain ⟨D, n, cp, b1, b2, b3, b4, b5⟩ := hst
        rw [List.take_length] at b1 b5 HP
        have hpf : p = (fullM c gr ds).length := by rw [HFL.out, ← HP.out]
        have em := end_msg (gr := gr) HY.out HKK.out D n cp
        rw [HT.out] at em
        rw [em] at b1
        have HB1 := hid b1
        have HB2 := hid b2
        have HB4 := hid b4
        have HPF := hid hpf
        have hnd : n = ds.length ∧ (Rn wr D ds) ∧ (ds.length = 0 ∨ Own wr (g + 1) (.slice D n cp) ds) := by
          rcases b5 with ⟨x1, rfl, rfl, rfl⟩ | ⟨_, rfl, x3⟩
          · have := end_text HY.out HKK.out (by rw [HT.out]; exact x1)
            have e : ds = [] := List.eq_nil_of_length_eq_zero this
            subst e
            exact ⟨rfl, Rd.nil _ _ _, .inl rfl⟩
          · obtain ⟨_, _, e, hr⟩ := x3.read
            injection e with e1
            subst e1
            exact ⟨rfl, hr, .inr x3⟩
        obtain ⟨rfl, hrd, hod⟩ := hnd
        have HRD := hid hrd
        have HOD := hid hod
        clear b1 b2 b3 b4 b5 em hpf hrd hod HST HA
        by_cases hLp : L = p
        · have hd : decide ((p : Int) < (L : Int)) = false := decide_eq_false (by omega)
          have hd' : decide (p < L) = false := decide_eq_false (by omega)
          have HLP := hid hLp
          clear hLp hpl
          go_wp2_with (refine wpList_load_bx rfl 25 (.tmp 7) rfl _ _ _ _ rfl HB1.out Tryd.underlying25 rfl (by kernel_rfl) ?_)
          refine (right_any c gr D ds.length cp _ (HNW.out.next HB4.out)).mono ?_
          rintro e w8 ⟨rfl, hb8⟩
          rw [dec_true HY.out]
          have HX8 := hid (HB1.out.next hb8)
          have HZ8 := hid (HB2.out.next hb8)
          have HK8 := hid (on HB4.out hb8)
          have HO8 := hid (HOD.out.imp id fun x => OwnV.below x hb8)
          clear hb8
          go_wp2_with (first
            | (refine wpList_load_bx rfl 25 (.tmp 7) rfl _ _ _ _ rfl HX8.out Tryd.underlying25 rfl (by kernel_rfl) ?_)
            | (refine wpList_store_bx rfl 25 (.tmp 2) (.tmp 58) rfl rfl _ _ _ (msgC c gr D ds.length cp) rfl rfl HZ8.out (by kernel_rfl) rfl (msgC_one _ _ _ _ _) ?_))
          refine bodyPost_ret (results_bx2 rfl _ rfl HZ8.out.row Tryd.underlying25 rfl (by kernel_rfl)) rfl ?_
          refine ⟨below_setRow HK8.out (Nat.le_refl _) _, .inr (.inr ⟨by rw [HLP.out, HPF.out], D, cp, rfl, ?_⟩)⟩
          rcases HO8.out with x | x
          · have e : ds = [] := List.eq_nil_of_length_eq_zero x
            rw [e]
            exact Rd.nil _ _ _
          · have y := own_far x (grown_row w8 w.heap.size (msgC c gr D ds.length cp)) (by have := HG.out; omega)
            obtain ⟨_, _, e, hr⟩ := Own.read y
            injection e with e1
            subst e1
            exact hr
        · have hd : decide ((p : Int) < (L : Int)) = true := decide_eq_true (by omega)
          have hd' : decide (p < L) = true := decide_eq_true (by omega)
          have HLP := hid (show L = p + 1 by have := HPF.out; omega)
          clear hLp hpl
          go_wp2_with (refine wpList_store_bx rfl 25 (.tmp 2) (.tmp 52) rfl rfl _ _ _ (msgC zM false none 0 0) rfl rfl HB2.out (by kernel_rfl) rfl (msgC_one _ _ _ _ _) ?_)
          refine bodyPost_ret (results_bx2 rfl _ rfl HB2.out.row Tryd.underlying25 rfl (by kernel_rfl)) rfl ?_
          exact ⟨below_setRow HB4.out (Nat.le_refl _) _, .inr (.inl ⟨by rw [HLP.out, HPF.out], rfl⟩)⟩
end Go.Proofs.YtihldenljddmoaaDoor
