/-
  What is proved: the reference's Put answers a packet's bytes, or that it may not be; what it writes lies in new memory. Condition: its load is read as such.
-/
import Derived.Test.YtcamlbinakompaaRight7
import Derived.Test.YtcamlbinakompaaSum7
import Derived.Test.YtcamlbinakompaaPut7
import Derived.Test.YtcamlbinakompaaText7
import Derived.Deep.DeepCutAuto
import Derived.Deep.CutBlock
import Derived.Deep.DeepMust
namespace Go.Proofs.Ytcamlbinakompaa
open Go.RowKit

theorem rfput_no (m y s a : Int) (D : Option Addr) (n cp : Nat) (w : World) (hnm : n ≤ maxLen) (hno : ¬ RightP m y s a n) :
    Calls Try.prog 8 #[.agg (pk m y s a D n cp)] w fun e w' => e = .returned (.tuple #[.slice none 0 0, .int .i64 6]) ∧ Below w.heap.size w w' := by
  have hX := Bx.new w 24 (pk m y s a D n cp)
  have hb0 := below_alloc w (.cells (pk m y s a D n cp) 24)
  go_enter Try.func8, Try.ntmps8
  go_wp2_with (refine wpList_load_bx rfl 24 (.tmp 1) rfl _ _ _ _ rfl hX Try.underlying24 rfl (by kernel_rfl) ?_)
  refine (rright_any m y s a D n cp _ hnm).mono ?_
  rintro e w1 ⟨rfl, hb1⟩
  rw [dec_false hno]
  go_wp2
  go_ret2
  exact ⟨rfl, on hb0 hb1⟩

set_option maxRecDepth 100000 in
set_option maxHeartbeats 1000000 in
theorem summed_any (A : Option Addr) (n c : Nat) (l : List Int) (w : World) (hn : l.length = n) (hlen : n ≤ 1000) (hb : Hid (∀ x ∈ l, 0 ≤ x ∧ x ≤ 255)) (ra : Rn w A l) :
    Calls Try.prog 18 #[.slice A n c] w fun e w' => ∃ v, e = .returned v ∧ Own w' w.heap.size v (l ++ [sm l]) ∧ Below w.heap.size w w' := by
  have HN := hid hn
  have HR := hid ra
  clear hn ra
  go_enter Try.func18, Try.ntmps18
  go_wp2_with (at_builtin; refine wpList_app rfl _ _ rfl w.heap.size _ [] (own_nil _ _) rfl _ A n c l rfl HN.out HR.out (by simp; omega) (Nat.le_refl _) ?_; intro v2 w2 hown2 hg2; have HB2 := hid (hg2.below (own_nil w w.heap.size) (Nat.le_refl _)); have HO2 := hid hown2; clear hown2 hg2)
  refine (rsum_any A n c l _ _ HN.out hlen hb (HR.out.now HB2.out)).mono ?_
  rintro e w3 ⟨rfl, rfl⟩
  have HO3 := hid (show Own w2 w.heap.size v2 l from HO2.out)
  go_wp2_with (at_builtin; refine wpList_app rfl _ _ rfl w.heap.size _ l (HO3.out.alloc _) rfl _ _ 1 1 [sm l] rfl rfl (rd_one _ _) (by rw [HN.out]; omega) (by have := HB2.out.size; simp; omega) ?_; intro v' w4 hown4 hg4)
  go_ret
  exact ⟨v', rfl, hown4, (HB2.out.alloc HB2.out.size _).trans (hg4.below (HO3.out.alloc _) (by have := HB2.out.size; simp; omega))⟩

set_option maxRecDepth 100000 in
set_option maxHeartbeats 1000000 in
theorem plain_any (m y s a : Nat) (D : Option Addr) (n cp : Nat) (ds : List Int) (w : World) (hn : ds.length = n) (rd : Rn w D ds) (hm1 : m ≤ 1099511627776) (hy1 : y ≤ 1099511627776) (hs1 : s ≤ 1099511627776) (ha1 : a ≤ 1099511627776) (hn1 : n ≤ 128) :
    Calls Try.prog 19 #[.agg (pk m y s a D n cp)] w fun e w' => ∃ v, e = .returned v ∧ Own w' w.heap.size v (body m y s a ds) ∧ Below w.heap.size w w' := by
  have hX := Bx.new w 24 (pk m y s a D n cp)
  have hb0 := below_alloc w (.cells (pk m y s a D n cp) 24)
  have l1 := hid (enc_len6 m hm1)
  have l2 := hid (enc_len6 y hy1)
  have l3 := hid (enc_len6 s hs1)
  have l4 := hid (enc_len6 a ha1)
  have l5 := hid (enc_len9 n (by omega))
  have HN := hid hn
  have HD := hid rd
  obtain ⟨c0, c1, c2, c3, c4⟩ := hX.all5
  have HX := hid hX
  have HB := hid hb0
  clear hX hb0 hn rd
  go_enter Try.func19, Try.ntmps19
  go_wp2_with fail
  have OA := hid (own_nil (w.alloc (.cells (pk m y s a D n cp) 24)) (w.heap.size + 1))
  have HZ0 := hid (World.size_alloc w (.cells (pk m y s a D n cp) 24))
  obtain ⟨W0, hW0⟩ : ∃ W0, w.alloc (.cells (pk m y s a D n cp) 24) = W0 := ⟨_, rfl⟩
  rw [hW0] at HX HB OA c0 c1 c2 c3 c4 HZ0 ⊢
  have K0 := hid (Below.refl W0.heap.size W0)
  clear hW0
  refine (refput_any (m : Int) _ (by omega)).mono ?_
  rintro e w0 ⟨v0, rfl, hown, hb⟩
  rw [Int.toNat_natCast] at hown
  obtain ⟨A0, ca0, rfl, hr⟩ := Own.read hown
  have HP0 := hid (OA.out.below hb)
  have HQ0 := hid (on K0.out hb)
  have HX0 := hid (HX.out.next HQ0.out)
  have HS0 := hid hr
  obtain ⟨n0, hn0⟩ : ∃ x, (enc m).length = x := ⟨_, rfl⟩
  rw [hn0]
  have HN0 := hid hn0
  have hz0 : n0 ≤ 200 := by rw [← hn0]; have := l1.out; omega
  clear hown hb hr hn0 c0 c1 c2 c3 c4
  go_upto_region 3 with (at_builtin; go_must (refine wpList_app rfl _ _ rfl (w.heap.size + 1) _ ([]) HP0.out rfl _ A0 n0 ca0 (enc m) rfl HN0.out HS0.out (by simp; omega) (by have := HQ0.out.size; have := HZ0.out; omega) ?_); intro u0 x0 hown hg; have O1 := hid hown; have K1 := hid (HQ0.out.trans ((hg.below HP0.out (by have := HQ0.out.size; have := HZ0.out; omega)).mono (by have := HZ0.out; omega))); clear hown hg)
  have HT0 := hid (show ([] ++ (enc m)).length ≤ 200 by simp only [List.length_append, List.length_nil]; have := HN0.out; skip; omega)
  have HC := hid (HX.out.next K1.out)
  obtain ⟨c0, c1, c2, c3, c4⟩ := HC.out.all5
  go_wp2_with fail
  clear HC
  refine (refput_any (y : Int) _ (by omega)).mono ?_
  rintro e w1 ⟨v1, rfl, hown, hb⟩
  rw [Int.toNat_natCast] at hown
  obtain ⟨A1, ca1, rfl, hr⟩ := Own.read hown
  have HP1 := hid (O1.out.below hb)
  have HQ1 := hid (on K1.out hb)
  have HX1 := hid (HX.out.next HQ1.out)
  have HS1 := hid hr
  obtain ⟨n1, hn1⟩ : ∃ x, (enc y).length = x := ⟨_, rfl⟩
  rw [hn1]
  have HN1 := hid hn1
  have hz1 : n1 ≤ 200 := by rw [← hn1]; have := l2.out; omega
  clear hown hb hr hn1
  go_upto_region 4 with (at_builtin; go_must (refine wpList_app rfl _ _ rfl (w.heap.size + 1) _ ([] ++ (enc m)) HP1.out rfl _ A1 n1 ca1 (enc y) rfl HN1.out HS1.out (by have h := HT0.out; omega) (by have := HQ1.out.size; have := HZ0.out; omega) ?_); intro u1 x1 hown hg; have O2 := hid hown; have K2 := hid (HQ1.out.trans ((hg.below HP1.out (by have := HQ1.out.size; have := HZ0.out; omega)).mono (by have := HZ0.out; omega))); clear hown hg)
  have HT1 := hid (show ([] ++ (enc m) ++ (enc y)).length ≤ 400 by simp only [List.length_append, List.length_nil]; have := HN1.out; have := HT0.out; simp only [List.length_append, List.length_nil] at *; omega)
  have HC := hid (HX.out.next K2.out)
  obtain ⟨c0, c1, c2, c3, c4⟩ := HC.out.all5
  go_wp2_with fail
  clear HC
  refine (refput_any (s : Int) _ (by omega)).mono ?_
  rintro e w2 ⟨v2, rfl, hown, hb⟩
  rw [Int.toNat_natCast] at hown
  obtain ⟨A2, ca2, rfl, hr⟩ := Own.read hown
  have HP2 := hid (O2.out.below hb)
  have HQ2 := hid (on K2.out hb)
  have HX2 := hid (HX.out.next HQ2.out)
  have HS2 := hid hr
  obtain ⟨n2, hn2⟩ : ∃ x, (enc s).length = x := ⟨_, rfl⟩
  rw [hn2]
  have HN2 := hid hn2
  have hz2 : n2 ≤ 200 := by rw [← hn2]; have := l3.out; omega
  clear hown hb hr hn2
  go_upto_region 5 with (at_builtin; go_must (refine wpList_app rfl _ _ rfl (w.heap.size + 1) _ ([] ++ (enc m) ++ (enc y)) HP2.out rfl _ A2 n2 ca2 (enc s) rfl HN2.out HS2.out (by have h := HT1.out; omega) (by have := HQ2.out.size; have := HZ0.out; omega) ?_); intro u2 x2 hown hg; have O3 := hid hown; have K3 := hid (HQ2.out.trans ((hg.below HP2.out (by have := HQ2.out.size; have := HZ0.out; omega)).mono (by have := HZ0.out; omega))); clear hown hg)
  have HT2 := hid (show ([] ++ (enc m) ++ (enc y) ++ (enc s)).length ≤ 600 by simp only [List.length_append, List.length_nil]; have := HN2.out; have := HT1.out; simp only [List.length_append, List.length_nil] at *; omega)
  have HC := hid (HX.out.next K3.out)
  obtain ⟨c0, c1, c2, c3, c4⟩ := HC.out.all5
  go_wp2_with fail
  clear HC
  refine (refput_any (a : Int) _ (by omega)).mono ?_
  rintro e w3 ⟨v3, rfl, hown, hb⟩
  rw [Int.toNat_natCast] at hown
  obtain ⟨A3, ca3, rfl, hr⟩ := Own.read hown
  have HP3 := hid (O3.out.below hb)
  have HQ3 := hid (on K3.out hb)
  have HX3 := hid (HX.out.next HQ3.out)
  have HS3 := hid hr
  obtain ⟨n3, hn3⟩ : ∃ x, (enc a).length = x := ⟨_, rfl⟩
  rw [hn3]
  have HN3 := hid hn3
  have hz3 : n3 ≤ 200 := by rw [← hn3]; have := l4.out; omega
  clear hown hb hr hn3
  go_upto_region 6 with (at_builtin; go_must (refine wpList_app rfl _ _ rfl (w.heap.size + 1) _ ([] ++ (enc m) ++ (enc y) ++ (enc s)) HP3.out rfl _ A3 n3 ca3 (enc a) rfl HN3.out HS3.out (by have h := HT2.out; omega) (by have := HQ3.out.size; have := HZ0.out; omega) ?_); intro u3 x3 hown hg; have O4 := hid hown; have K4 := hid (HQ3.out.trans ((hg.below HP3.out (by have := HQ3.out.size; have := HZ0.out; omega)).mono (by have := HZ0.out; omega))); clear hown hg)
  have HT3 := hid (show ([] ++ (enc m) ++ (enc y) ++ (enc s) ++ (enc a)).length ≤ 800 by simp only [List.length_append, List.length_nil]; have := HN3.out; have := HT2.out; simp only [List.length_append, List.length_nil] at *; omega)
  have HC := hid (HX.out.next K4.out)
  obtain ⟨c0, c1, c2, c3, c4⟩ := HC.out.all5
  go_wp2_with fail
  clear HC
  refine (reftext_any D n cp ds _ _ HN.out (by omega) (HD.out.now (on HB.out K4.out)) (Nat.le_refl _)).mono ?_
  rintro e w4 ⟨v4, rfl, hown, hb⟩
  obtain ⟨A4, ca4, rfl, hr⟩ := Own.read hown
  have HP4 := hid (O4.out.below hb)
  have HQ4 := hid (on K4.out hb)
  have HX4 := hid (HX.out.next HQ4.out)
  have HS4 := hid hr
  obtain ⟨n4, hn4⟩ : ∃ x, (enc n ++ ds).length = x := ⟨_, rfl⟩
  rw [hn4]
  have HN4 := hid hn4
  have hz4 : n4 ≤ 200 := by rw [← hn4]; rw [List.length_append, HN.out]; have := l5.out; omega
  clear hown hb hr hn4
  go_upto_region 7 with (at_builtin; go_must (refine wpList_app rfl _ _ rfl (w.heap.size + 1) _ ([] ++ (enc m) ++ (enc y) ++ (enc s) ++ (enc a)) HP4.out rfl _ A4 n4 ca4 (enc n ++ ds) rfl HN4.out HS4.out (by have h := HT3.out; omega) (by have := HQ4.out.size; have := HZ0.out; omega) ?_); intro u4 x4 hown hg; have O5 := hid hown; have K5 := hid (HQ4.out.trans ((hg.below HP4.out (by have := HQ4.out.size; have := HZ0.out; omega)).mono (by have := HZ0.out; omega))); clear hown hg)
  have HT4 := hid (show ([] ++ (enc m) ++ (enc y) ++ (enc s) ++ (enc a) ++ (enc n ++ ds)).length ≤ 1000 by simp only [List.length_append, List.length_nil]; have := HN4.out; have := HT3.out; simp only [List.length_append, List.length_nil] at *; omega)
  go_wp2_with fail
  go_ret
  refine ⟨_, rfl, ?_, on HB.out K5.out⟩
  have e : body m y s a ds = [] ++ (enc m) ++ (enc y) ++ (enc s) ++ (enc a) ++ (enc n ++ ds) := by simp only [body, pre, List.nil_append, List.append_assoc, HN.out]
  rw [e]
  exact World.ownsRow.mono O5.out (Nat.le_succ _)

theorem rfput_yes (m y s a : Nat) (D : Option Addr) (n cp : Nat) (ds : List Int) (w : World) (hn : ds.length = n) (rd : Rn w D ds) (hd : ∀ x ∈ ds, 0 ≤ x ∧ x ≤ 255) (hy : RightP m y s a n) :
    Calls Try.prog 8 #[.agg (pk m y s a D n cp)] w fun e w' => ∃ v, e = .returned (.tuple #[v, .int .i64 0]) ∧ Own w' w.heap.size v (full m y s a ds) ∧ Below w.heap.size w w' := by
  have hX := Bx.new w 24 (pk m y s a D n cp)
  have hb0 := below_alloc w (.cells (pk m y s a D n cp) 24)
  have hm1 : m ≤ 1099511627776 := by have := hy.1; omega
  have hy1 : y ≤ 1099511627776 := by have := hy.2.1; omega
  have hs1 : s ≤ 1099511627776 := by have := hy.2.2.1; omega
  have ha1 : a ≤ 1099511627776 := by have := hy.2.2.2.1; omega
  have hn1 : n ≤ 128 := hy.2.2.2.2.1
  have HBL := hid (body_len hm1 hy1 hs1 ha1 (show ds.length ≤ 128 by omega))
  have HN := hid hn
  have HD := hid rd
  have HDB := hid (body_byte (m := m) (y := y) (s := s) (a := a) hd)
  have HE := hid (dec_true hy)
  clear hn rd hd hy
  go_enter Try.func8, Try.ntmps8
  go_wp2_with (refine wpList_load_bx rfl 24 (.tmp 1) rfl _ _ _ _ rfl hX Try.underlying24 rfl (by kernel_rfl) ?_)
  refine (rright_any m y s a D n cp _ (by unfold maxLen; omega)).mono ?_
  rintro e w1 ⟨rfl, hb1⟩
  rw [HE.out]
  have HX1 := hid (hX.next hb1)
  have HB1 := hid (on hb0 hb1)
  have HW1 := hid HX1.out.lt
  clear hX hb0 hb1
  go_wp2_with (refine wpList_load_bx rfl 24 (.tmp 1) rfl _ _ _ _ rfl HX1.out Try.underlying24 rfl (by kernel_rfl) ?_)
  refine (plain_any m y s a D n cp ds _ HN.out (HD.out.now HB1.out) hm1 hy1 hs1 ha1 hn1).mono ?_
  rintro e w2 ⟨v2, rfl, hown2, hb2⟩
  obtain ⟨S2, cs2, rfl, rs2⟩ := Own.read hown2
  obtain ⟨M, hM⟩ : ∃ M, (body m y s a ds).length = M := ⟨_, rfl⟩
  have hM1 : M ≤ 161 := by rw [← hM]; exact HBL.out
  have HM := hid hM
  have HS2 := hid rs2
  have HB2 := hid (on HB1.out hb2)
  rw [hM]
  clear hM rs2 hown2 hb2
  go_wp2_with fail
  refine (summed_any S2 M cs2 (body m y s a ds) _ HM.out (by omega) HDB HS2.out).mono ?_
  rintro e w3 ⟨v3, rfl, hown3, hb3⟩
  go_wp2_with fail
  go_ret2
  exact ⟨v3, rfl, World.ownsRow.mono hown3 HB2.out.size, on HB2.out hb3⟩
end Go.Proofs.Ytcamlbinakompaa
