/-
  What is proved: msg's Put answers a message's bytes, or that it may not be; what it writes lies in new memory. Conditions: its text is read as such; the table of the kinds' fields lies where the program lays it.
-/
import Derived.Test.YtihldenljddmoaaDoorEnc4
import Derived.Test.YtihldenljddmoaaDoorText
namespace Go.Proofs.YtihldenljddmoaaDoor
open Go.RowKit

set_option maxRecDepth 100000 in
set_option maxHeartbeats 1000000 in
theorem pput_any (c : Nat → Int) (gr : Bool) (D : Option Addr) (cp g f : Nat) (m : Int) (ds xs : List Int) (A : Option Addr) (n ca : Nat) (w : World) (hf : 1 ≤ f ∧ f ≤ 10) (hX : Bx w g 25 (msgC c gr D ds.length cp)) (hs : SmallM c ds)
    (rd : Rn w D ds) (hn : xs.length = n) (hlen : n ≤ 1000000) (rx : Rn w A xs) :
    Calls Tryd.prog 21 #[.agg (pcl g f m), .slice A n ca] w fun e w' => ∃ v, e = .returned v ∧ Bs w' v (xs ++ fe c gr ds f) ∧ Below w.heap.size w w' := by
  have X := hX.alloc (.cells (pcl g f m) 55)
  have hc : (w.alloc (.cells (pcl g f m) 55)).cell? ⟨g, f, none⟩ = (msgC c gr D ds.length cp)[f]? := X.cell f
  have HX := hid X
  have HK := hid (below_alloc w (.cells (pcl g f m) 55))
  have HR := hid (rx.alloc (.cells (pcl g f m) 55))
  have HD := hid (rd.alloc (.cells (pcl g f m) 55))
  have HN := hid hn
  have hds : ds.length ≤ 64 := hs.2.2
  have HS := hid hs
  clear X hX rx rd hn hs
  obtain ⟨h1, h2⟩ := hf
  by_cases h8 : f ≤ 8
  · have hm := fun W hW => measure_any c gr D ds.length cp g f m W (by omega) hW
    rw [me8 c gr ds.length f h8] at hm
    have hfc := HS.out.2.1 f h1 h8
    have HFE := hid (fe_num c gr ds f h8)
    obtain ⟨x, hx⟩ : ∃ x, c f = x := ⟨_, rfl⟩
    rw [hx] at hm hfc
    have HXX := hid hx
    obtain ⟨A1, A2, A3, A4, hA, _⟩ := pcl_any g f
    rw [hA] at hm HX HK HR HD
    have HM := hid hm
    have h9 : ((f : Int) == 9) = false := by simp; omega
    have h10 : ((f : Int) == 10) = false := by simp; omega
    rw [hA]
    clear hm hx hA hc
    go_enter Tryd.func21, Tryd.ntmps21
    go_wp2_with fail
    refine (HM.out _ HX.out).mono ?_
    rintro e w1 ⟨rfl, hb1⟩
    have HK1 := hid (on HK.out hb1)
    have HR1 := hid (HR.out.now hb1)
    clear hb1
    go_wp2_with fail
    refine (put_any A n ca x xs _ _ HN.out (by omega) (by omega) HR1.out (Nat.le_refl _)).mono ?_
    rintro e w2 ⟨v2, rfl, hown2, hb2⟩
    go_wp2
    go_ret
    exact ⟨_, rfl, by rw [HFE.out, HXX.out]; exact hown2.bs, on HK1.out hb2⟩
  · obtain ⟨q1, q2, q3, q4, q5, q6, q7, q8, q9, q10⟩ := pcl_lit g m
    clear q1 q2 q3 q4 q5 q6 q7 q8
    by_cases h9 : f = 9
    · subst h9
      rw [q9] at HX HK HR HD hc ⊢
      rw [show (msgC c gr D ds.length cp)[9]? = some (.bool gr) from rfl] at hc
      clear q9 q10
      go_enter Tryd.func21, Tryd.ntmps21
      go_wp2_with fail
      refine (puttruth_any A n ca gr xs _ _ HN.out (by omega) HR.out (Nat.le_refl _)).mono ?_
      rintro e w2 ⟨v2, rfl, hown2, hb2⟩
      go_wp2
      go_ret
      exact ⟨_, rfl, hown2.bs, on HK.out hb2⟩
    · obtain rfl : f = 10 := by omega
      rw [q10] at HX HK HR HD hc ⊢
      rw [show (msgC c gr D ds.length cp)[10]? = some (.slice D ds.length cp) from rfl] at hc
      clear q9 q10
      obtain ⟨L, hL⟩ : ∃ L, ds.length = L := ⟨_, rfl⟩
      rw [hL] at hc hds
      have HL := hid hL
      clear hL
      go_enter Tryd.func21, Tryd.ntmps21
      go_wp2_with fail
      refine (puttext_any A D n ca L cp xs ds _ _ _ HN.out HL.out (by omega) (by omega) HR.out (Nat.le_refl _) HD.out (Nat.le_refl _)).mono ?_
      rintro e w2 ⟨v2, rfl, hown2, hb2⟩
      go_wp2
      go_ret
      exact ⟨_, rfl, by show Bs w2 v2 (xs ++ (enc ds.length ++ ds)); rw [HL.out, ← List.append_assoc]; exact hown2.bs, on HK.out hb2⟩

theorem putm_no (c : Nat → Int) (gr : Bool) (D : Option Addr) (n cp : Nat) (w : World) (hN : Nm w) (hno : ¬ RightM c gr n) :
    Calls Tryd.prog 8 #[.agg (msgC c gr D n cp)] w fun e w' => e = .returned (.tuple #[.slice none 0 0, .int .i64 6]) ∧ Below w.heap.size w w' := by
  have hX := Bx.new w 25 (msgC c gr D n cp)
  have hb0 := below_alloc w (.cells (msgC c gr D n cp) 25)
  go_enter Tryd.func8, Tryd.ntmps8
  go_wp2_with (refine wpList_load_bx rfl 25 (.tmp 1) rfl _ _ _ _ rfl hX Tryd.underlying25 rfl (by kernel_rfl) ?_)
  refine (right_any c gr D n cp _ (hN.next hb0)).mono ?_
  rintro e w1 ⟨rfl, hb1⟩
  rw [dec_false hno]
  go_wp2
  go_ret2
  exact ⟨rfl, on hb0 hb1⟩

set_option maxRecDepth 100000 in
set_option maxHeartbeats 1000000 in
theorem putm_yes (c : Nat → Int) (gr : Bool) (D : Option Addr) (cp : Nat) (ds : List Int) (w : World) (hN : Nm w) (rd : Rn w D ds) (hy : RightM c gr ds.length) :
    Calls Tryd.prog 8 #[.agg (msgC c gr D ds.length cp)] w fun e w' => ∃ v, e = .returned (.tuple #[v, .int .i64 0]) ∧ Bs w' v (fullM c gr ds) ∧ Below w.heap.size w w' := by
  have hX := Bx.new w 25 (msgC c gr D ds.length cp)
  have hb0 := below_alloc w (.cells (msgC c gr D ds.length cp) 25)
  have hs := hy.small
  have hk0 := hs.1
  have HS := hid hs
  have HRD := hid rd
  have HN := hid hN
  obtain ⟨n, hn⟩ : ∃ n, ds.length = n := ⟨_, rfl⟩
  have HNN := hid hn
  rw [hn] at hX hb0 hy ⊢
  clear hs rd hN hn
  go_enter Tryd.func8, Tryd.ntmps8
  go_wp2_with (refine wpList_load_bx rfl 25 (.tmp 1) rfl _ _ _ _ rfl hX Tryd.underlying25 rfl (by kernel_rfl) ?_)
  refine (right_any c gr D n cp _ (HN.out.next hb0)).mono ?_
  rintro e w1 ⟨rfl, hb1⟩
  rw [dec_true hy]
  have HX1 := hid (hX.next hb1)
  have HB1 := hid (on hb0 hb1)
  obtain ⟨k, hk⟩ : ∃ k : Nat, c 0 = k := ⟨(c 0).toNat, by omega⟩
  have hk1 : 1 ≤ k ∧ k ≤ 14 := by omega
  have c0 : w1.cell? ⟨w.heap.size, 0, none⟩ = some (.int .i64 (k : Int)) := by rw [HX1.out.cell, ← hk]; rfl
  have HKK := hid hk
  clear hX hb0 hb1 hk hy hk0
  go_wp2_with fail
  refine (put_any none 0 0 (k : Int) [] _ 0 rfl (by omega) (by omega) (Rd.nil _ _ _) (Nat.zero_le _)).mono ?_
  rintro e w2 ⟨v2, rfl, hown2, hb2⟩
  rw [List.nil_append, Int.toNat_natCast] at hown2
  have HS2 := hid hown2.bs
  have HX2 := hid (HX1.out.next hb2)
  have HB2 := hid (on HB1.out hb2)
  have HN2 := hid (HN.out.next (on HB1.out hb2))
  have c0 : w2.cell? ⟨w.heap.size, 0, none⟩ = some (.int .i64 (k : Int)) := by rw [HX2.out.cell, ← HKK.out]; rfl
  have n0 := HN2.out.at_ k (by omega)
  clear hown2 hb2 HX1 HB1
  go_wp2_with fail
  refine (places_any w.heap.size (mk k) (Nat.lt_of_le_of_lt (mk_le k) (by omega)) _).mono ?_
  rintro e w3 ⟨v3, rfl, hown3, hb3⟩
  have HX3 := hid (HX2.out.next hb3)
  have HB3 := hid (on HB2.out hb3)
  have HS3 := hid (HS2.out.next hb3)
  have HO3 := hid hown3
  obtain ⟨P, cpl, rfl, -, -, -⟩ := OwnV.read hown3
  generalize w2.heap.size = B0 at HO3
  clear hown3 hb3 HX2 HB2 HN2 HS2 c0 n0
  obtain ⟨T, hT⟩ : ∃ T, fl (mk k) 1 = T := ⟨_, rfl⟩
  rw [hT] at HO3 ⊢
  have hT10 : T.length ≤ 10 := by rw [← hT]; exact fl_len10 _
  have HT := hid hT
  clear hT
  go_wp2_with fail
  go_loopw [4, 19] (fun s i wr => ∃ q : Nat, i = .int .i64 q ∧ q ≤ T.length ∧ Bs wr s (enc k ++ fes c gr ds (T.take q)) ∧ Below w3.heap.size w3 wr) (fun _ i _ => T.length - (intOf i).toNat)
  case atStart => exact ⟨0, rfl, by omega, by rw [List.take_zero, fes, List.append_nil]; exact HS3.out, Below.refl _ _⟩
  case round =>
    obtain ⟨q, rfl, hq, hs, hb⟩ := hrel
    obtain ⟨S, cs, rfl, rs, hcs, _⟩ := hs
    have hL := fes_take_len (gr := gr) HS.out (mk k) q
    rw [HT.out] at hL
    have he := enc_len9 k (by omega)
    obtain ⟨L, hL2⟩ : ∃ L, (enc k ++ fes c gr ds (T.take q)).length = L := ⟨_, rfl⟩
    have hL3 : L ≤ 1000 := by rw [← hL2, List.length_append]; omega
    rw [hL2] at hcs ⊢
    have HL := hid hL2
    have HK := hid hb
    have HSS := hid rs
    clear hL2 hb rs hL he
    by_cases hlt : q < T.length
    · have hlt' : (q : Int) < (T.length : Int) := by omega
      obtain ⟨ad, cx, hv, hat⟩ := own_place (OwnV.below HO3.out HK.out) q hlt
      injection hv with e1 e2 e3
      subst e1 e3
      obtain ⟨f, hf⟩ : ∃ f, T[q]'hlt = f := ⟨_, rfl⟩
      have hfr := fl_range (mk k) f (by rw [HT.out, ← hf]; exact List.getElem_mem hlt)
      rw [hf] at hat
      have HF := hid hf
      obtain ⟨A1, A2, A3, A4, hA, hone⟩ := pcl_any w.heap.size f
      obtain ⟨m, hm⟩ : ∃ m, mo f = m := ⟨_, rfl⟩
      rw [hA, hm] at hat
      obtain ⟨_, d0, d1, d2, d3, d4, d5⟩ := hat
      simp only [List.getElem?_toArray, List.getElem?_cons_zero, List.getElem?_cons_succ] at d0 d1 d2 d3 d4 d5
      have M := fun W (hW : Bx W w.heap.size 25 (msgC c gr D ds.length cp)) (h2 : Rn W D ds) (h3 : Rn W S (enc k ++ fes c gr ds (T.take q))) => pput_any c gr D cp w.heap.size f m ds _ S L cs W hfr hW HS.out h2 HL.out (by omega) h3
      rw [hA] at M
      have MM := hid M
      have HONE := hid hone
      clear hA hm hf e2 M hone
      go_wp2_with (refine wpList_store_new rfl _ _ _ rfl rfl _ #[.int .i64 f, A1, A2, A3, A4, .int .i64 m] rfl rfl (by kernel_rfl) rfl (HONE.out m) ?_)
      have HP4 := hid (Bx.new wr 55 #[.int .i64 f, A1, A2, A3, A4, .int .i64 m])
      have HK4 := hid (on HK.out (below_alloc wr (.cells #[.int .i64 f, A1, A2, A3, A4, .int .i64 m] 55)))
      have HSS4 := hid (HSS.out.alloc (.cells #[.int .i64 f, A1, A2, A3, A4, .int .i64 m] 55))
      generalize wr.alloc (.cells #[.int .i64 f, A1, A2, A3, A4, .int .i64 m] 55) = w4 at *
      generalize wr.heap.size = h at *
      clear d0 d1 d2 d3 d4 d5
      have d0 := HP4.out.cell 0
      have d1 := HP4.out.cell 1
      have d2 := HP4.out.cell 2
      have d3 := HP4.out.cell 3
      have d4 := HP4.out.cell 4
      have d5 := HP4.out.cell 5
      simp only [List.getElem?_toArray, List.getElem?_cons_zero, List.getElem?_cons_succ] at d0 d1 d2 d3 d4 d5
      go_wp2_with fail
      refine (MM.out _ (by rw [HNN.out]; exact HX3.out.next HK4.out) (HRD.out.now (on HB3.out HK4.out)) HSS4.out).mono ?_
      rintro e w5 ⟨v5, rfl, h5, hb5⟩
      have HK5 := hid (on HK4.out hb5)
      rw [List.append_assoc, ← HF.out, ← fes_snoc] at h5
      have H5 := hid h5
      clear h5 hb5 d0 d1 d2 d3 d4 d5
      go_wp2_with fail
      go_roundw
      case rel => exact ⟨q + 1, by go_num, by omega, H5.out, HK5.out⟩
      case measure => simp [intOf]; omega
    · have hlt' : ¬ (q : Int) < (T.length : Int) := by omega
      obtain rfl : q = T.length := by omega
      go_wp2_with fail
      go_ret2
      refine ⟨_, rfl, ?_, on HB3.out HK.out⟩
      unfold fullM
      rw [HKK.out, Int.toNat_natCast, HT.out]
      rw [List.take_length] at HL HSS
      exact ⟨S, cs, by rw [HL.out]; rfl, HSS.out, by rw [HL.out]; exact hcs, by assumption⟩
end Go.Proofs.YtihldenljddmoaaDoor
