/-
  What is proved: the reference's Put answers a message's bytes, or that it may not be; what it writes lies in new memory. Condition: its text is read as such.
-/
import Derived.Test.YtihldenljddmoaaDoorRRight4
import Derived.Test.YtihldenljddmoaaDoorText
import Derived.Test.YtihldenljddmoaaDoorFields4
import Derived.Deep.DeepMust
namespace Go.Proofs.YtihldenljddmoaaDoor
open Go.RowKit

/-- cells at A, in blocks from lo on, below hi -/
def RvIn (w : World) (lo hi : Nat) (A : Option Addr) (us : List Value) : Prop := ∀ j u, us[j]? = some u → ∃ ad, A = some ad ∧ lo ≤ ad.block ∧ ad.block < hi ∧ w.cell? (ad.add j) = some u
theorem RvIn.keep {w w' : World} {lo hi : Nat} {A : Option Addr} {us : List Value} (h : RvIn w lo hi A us) (hk : ∀ p : Addr, lo ≤ p.block → p.block < hi → w'.cell? p = w.cell? p) : RvIn w' lo hi A us := fun j u hu => by
  obtain ⟨ad, e, h1, h2, h3⟩ := h j u hu
  exact ⟨ad, e, h1, h2, by rw [hk _ (by rw [addBlk]; exact h1) (by rw [addBlk]; exact h2)]; exact h3⟩
theorem OwnI.rvIn {w : World} {b lo : Nat} {A : Option Addr} {n c : Nat} {l : List Int} (h : OwnI w b (.slice A n c) l) (hlo : lo ≤ b) : RvIn w lo w.heap.size A (ints l) := fun j u hu => by
  obtain ⟨_, _, e, hr⟩ := h.read
  injection e with e1
  subst e1
  obtain ⟨ad, rfl, hb, hc⟩ := hr j u hu
  have hob : (Value.slice (some ad) n c).ownBlock = some ad.block := rfl
  have := (World.ownsRow.lt h _ hob).1
  exact ⟨ad, rfl, by omega, hb, hc⟩
theorem Bx.nextB {w w' : World} {g B : Nat} {t : TypeId} {cs : Array Value} (h : Bx w g t cs) (hb : Below B w w') (hg : g < B) : Bx w' g t cs := (hb.block g hg).trans h
/-- the state of the loop -/
def PSt (w4 wr : World) (B0 z2 : Nat) (s : Value) (X : List Int) : Prop :=
  Own wr B0 s X ∧ Below B0 w4 wr ∧ (∀ p : Addr, z2 ≤ p.block → p.block < w4.heap.size → wr.cell? p = w4.cell? p) ∧ (∀ j, s.ownBlock = some j → j < z2 ∨ w4.heap.size ≤ j)
theorem PSt.app {w4 wr w5 w6 : World} {B0 z2 : Nat} {s s' : Value} {X Y : List Int} (h : PSt w4 wr B0 z2 s X) (hB : B0 ≤ wr.heap.size) (hb : Below wr.heap.size wr w5) (ho : Own w6 B0 s' (X ++ Y)) (hg : GrownAt w5 w6 s s') : PSt w4 w6 B0 z2 s' (X ++ Y) := by
  obtain ⟨h1, h2, h3, h4⟩ := h
  have hz : w4.heap.size ≤ w5.heap.size := Nat.le_trans h2.size hb.size
  refine ⟨ho, (h2.trans (hb.mono hB)).trans (hg.below (h1.below hb) (Nat.le_trans hB hb.size)), fun p a b => ?_, fun j hj => ?_⟩
  · rw [World.cell?_of_block (hg.1.block p.block (by omega) (fun e => by rcases h4 _ e.symm with x | x <;> omega)), hb.cell (p := p) (by have := h2.size; omega)]
    exact h3 p a b
  · rcases hg.2 with e | e
    · rw [e] at hj; exact h4 j hj
    · rw [e] at hj
      injection hj with hj
      right; omega

theorem rputm_no (c : Nat → Int) (gr : Bool) (D : Option Addr) (n cp : Nat) (w : World) (hn : n ≤ maxLen) (hno : ¬ RightM c gr n) :
    Calls Tryd.prog 9 #[.agg (msgC c gr D n cp)] w fun e w' => e = .returned (.tuple #[.slice none 0 0, .int .i64 6]) ∧ Below w.heap.size w w' := by
  have hX := Bx.new w 25 (msgC c gr D n cp)
  have hb0 := below_alloc w (.cells (msgC c gr D n cp) 25)
  go_enter Tryd.func9, Tryd.ntmps9
  go_wp2_with (refine wpList_load_bx rfl 25 (.tmp 1) rfl _ _ _ _ rfl hX Tryd.underlying25 rfl (by kernel_rfl) ?_)
  refine (rright_any c gr D n cp _ hn).mono ?_
  rintro e w1 ⟨rfl, hb1⟩
  rw [dec_false hno]
  go_wp2
  go_ret2
  exact ⟨rfl, on hb0 hb1⟩

set_option maxRecDepth 100000 in
set_option maxHeartbeats 1000000 in
theorem rputm_yes (c : Nat → Int) (gr : Bool) (D : Option Addr) (cp : Nat) (ds : List Int) (w : World) (rd : Rn w D ds) (hy : RightM c gr ds.length) :
    Calls Tryd.prog 9 #[.agg (msgC c gr D ds.length cp)] w fun e w' => ∃ v, e = .returned (.tuple #[v, .int .i64 0]) ∧ Bs w' v (fullM c gr ds) ∧ Below w.heap.size w w' := by
  have hX := Bx.new w 25 (msgC c gr D ds.length cp)
  have hb0 := below_alloc w (.cells (msgC c gr D ds.length cp) 25)
  have hs := hy.small
  have hk0 := hs.1
  have hn64 := hs.2.2
  have HS := hid hs
  have HRD := hid rd
  obtain ⟨n, hn⟩ : ∃ n, ds.length = n := ⟨_, rfl⟩
  have HNN := hid hn
  rw [hn] at hX hb0 hy hn64 ⊢
  obtain ⟨k, hk⟩ : ∃ k : Nat, c 0 = k := ⟨(c 0).toNat, by omega⟩
  have hk1 : 1 ≤ k ∧ k ≤ 14 := by omega
  have HKK := hid hk
  have hfi := fI_length (k := (k : Int)) (by omega)
  have hnu := nums4_fI (k := (k : Int)) (by omega)
  rw [Int.toNat_natCast] at hfi hnu
  obtain ⟨T, hT⟩ : ∃ T, fl (mk k) 1 = T := ⟨_, rfl⟩
  rw [hT] at hfi hnu
  have hT10 : T.length ≤ 10 := by rw [← hT]; exact fl_len10 _
  have HT := hid hT
  have HFI := hid hfi
  have HNU := hid hnu
  clear hs rd hn hk hfi hnu hT
  go_enter Tryd.func9, Tryd.ntmps9
  go_wp2_with (refine wpList_load_bx rfl 25 (.tmp 1) rfl _ _ _ _ rfl hX Tryd.underlying25 rfl (by kernel_rfl) ?_)
  refine (rright_any c gr D n cp _ (by unfold maxLen; omega)).mono ?_
  rintro e w1 ⟨rfl, hb1⟩
  rw [dec_true hy]
  have HX1 := hid (hX.next hb1)
  have HB1 := hid (on hb0 hb1)
  have HWL := hid HX1.out.lt
  have c0 : w1.cell? ⟨w.heap.size, 0, none⟩ = some (.int .i64 (k : Int)) := by rw [HX1.out.cell, ← HKK.out]; rfl
  clear hX hb0 hb1 hy hk0
  go_wp2_with fail
  refine (refput_any (k : Int) _ (by omega)).mono ?_
  rintro e w2 ⟨v2, rfl, hown2, hb2⟩
  rw [Int.toNat_natCast] at hown2
  have HX2 := hid (HX1.out.next hb2)
  have HB2 := hid (on HB1.out hb2)
  have HS2 := hid hown2
  have c0 : w2.cell? ⟨w.heap.size, 0, none⟩ = some (.int .i64 (k : Int)) := by rw [HX2.out.cell, ← HKK.out]; rfl
  have hbase : w1.heap.size ≤ w2.heap.size := hb2.size
  clear hown2 hb2 HX1 HB1
  have HWB := hid HWL.out
  generalize w1.heap.size = B0 at *
  go_wp2_with fail
  refine (rfields_any (k : Int) _).mono ?_
  rintro e w3 ⟨v3, rfl, hown3, hb3⟩
  obtain ⟨F, cf, rfl, hrf⟩ := OwnI.read hown3
  have hfin := OwnI.rvIn hown3 (Nat.le_refl _)
  rw [← HNU.out] at hfin
  clear hrf
  rw [HFI.out]
  have HX3 := hid (HX2.out.next hb3)
  have HB3 := hid (on HB2.out hb3)
  have HS3 := hid (HS2.out.below hb3)
  have HZ2 := hid (show w2.heap.size ≤ w3.heap.size from hb3.size)
  have HV2 := hid (show ∀ j, v2.ownBlock = some j → j < w2.heap.size from fun j hj => (World.ownsRow.lt HS2.out _ hj).2)
  have HF3 := hid hfin
  have hbase : B0 ≤ w3.heap.size := Nat.le_trans hbase hb3.size
  clear hb3
  generalize w2.heap.size = z2 at *
  clear hown3 hfin HX2 HB2 HS2 c0
  go_wp2_with (refine wpList_load_bx rfl 25 (.tmp 1) rfl _ _ _ _ rfl HX3.out Tryd.underlying25 rfl (by kernel_rfl) ?_)
  refine (numbers_any c gr D n cp _).mono ?_
  rintro e w4 ⟨v4, rfl, hown4, hb4⟩
  obtain ⟨N, cn, rfl, hrn⟩ := OwnI.read hown4
  rw [show (nm8 c).length = 8 from rfl]
  have HX4 := hid (HX3.out.next hb4)
  have HB4 := hid (on HB3.out hb4)
  have HS4 := hid (HS3.out.below hb4)
  have HF4 := hid (fun j u hu => show ∃ ad, F = some ad ∧ z2 ≤ ad.block ∧ ad.block < w4.heap.size ∧ w4.cell? (ad.add j) = some u by
    obtain ⟨ad, e, h1, h2, h3⟩ := HF3.out j u hu
    exact ⟨ad, e, h1, Nat.lt_of_lt_of_le h2 hb4.size, (hb4.cell (p := ad.add j) (by rw [addBlk]; exact h2)).trans h3⟩)
  have HN4 := hid (OwnI.rvIn hown4 HZ2.out)
  clear hrn
  have hbase : B0 ≤ w4.heap.size := by have h1 := hb4.size; have h2 := HZ2.out; omega
  clear hown4 hb4 HX3 HB3 HS3 HF3
  go_wp2_with fail
  go_loopw [4, 7] (fun s i wr => ∃ q : Nat, i = .int .i64 q ∧ q ≤ T.length ∧ PSt w4 wr B0 z2 s (enc k ++ fes c gr ds (T.take q))) (fun _ i _ => T.length - (intOf i).toNat)
  case atStart => exact ⟨0, rfl, by omega, by rw [List.take_zero, fes, List.append_nil]; exact ⟨HS4.out, Below.refl _ _, fun _ _ _ => rfl, fun j hj => .inl (HV2.out j hj)⟩⟩
  case round =>
    obtain ⟨q, rfl, hq, hs⟩ := hrel
    have hL := fes_take_len (gr := gr) HS.out (mk k) q
    rw [HT.out] at hL
    have he := enc_len9 k (by omega)
    have HO := hid hs.1
    have HK := hid hs.2.1
    have HKP := hid hs.2.2.1
    have HST := hid hs
    obtain ⟨X, hXX⟩ : ∃ X, enc k ++ fes c gr ds (T.take q) = X := ⟨_, rfl⟩
    have hX3 : X.length ≤ 1000 := by rw [← hXX, List.length_append]; omega
    have HXX := hid hXX
    rw [hXX] at HO HST
    have hB0 : B0 ≤ wr.heap.size := Nat.le_trans hbase HK.out.size
    have hwB : w.heap.size < B0 := HWB.out
    clear hs hL he hXX
    by_cases hlt : q < T.length
    · have hlt' : (q : Int) < (T.length : Int) := by omega
      obtain ⟨f, hf⟩ : ∃ f, T[q]'hlt = f := ⟨_, rfl⟩
      have hfr := fl_range (mk k) f (by rw [HT.out, ← hf]; exact List.getElem_mem hlt)
      have hfv : (nums4 T)[q]? = some (.int .i64 (f : Int)) := by
        unfold nums4
        rw [List.getElem?_map, List.getElem?_eq_getElem hlt, hf]
        rfl
      obtain ⟨ad, rfl, _, _, d0⟩ := RvIn.keep HF4.out HKP.out q _ hfv
      have hsn : enc k ++ fes c gr ds (T.take (q + 1)) = X ++ fe c gr ds f := by rw [fes_snoc c gr ds T q hlt, hf, ← List.append_assoc, HXX.out]
      have HSN := hid hsn
      clear hf hfv hsn
      by_cases f8 : f ≤ 8
      · obtain ⟨p, rfl⟩ : ∃ p, f = p + 1 := ⟨f - 1, by omega⟩
        have hcf := HS.out.2.1 (p + 1) hfr.1 f8
        obtain ⟨ae, rfl, _, _, e0⟩ := RvIn.keep HN4.out HKP.out p _ (nm8_at c p (by omega))
        have HFE := hid (fe_num c gr ds (p + 1) f8)
        obtain ⟨x, hx⟩ : ∃ x, c (p + 1) = x := ⟨_, rfl⟩
        rw [hx] at hcf e0
        have HXV := hid hx
        have n9 : (((p : Int) + 1) == 9) = false := by simp; omega
        have n10 : (((p : Int) + 1) == 10) = false := by simp; omega
        have hp8 : (p : Int) < 8 := by omega
        have h9 := enc_len9 x.toNat (by omega)
        clear hx
        rw [Int.natCast_add] at d0
        go_wp2_with fail
        refine (refput_any x _ (by omega)).mono ?_
        rintro e w5 ⟨v5, rfl, hown5, hb5⟩
        obtain ⟨A5, c5, rfl, r5⟩ := hown5.read
        have HO5 := hid (HO.out.below hb5)
        have hB5 : B0 ≤ w5.heap.size := Nat.le_trans hB0 hb5.size
        clear hown5
        go_wp2_with (at_builtin; go_must (refine wpList_app rfl (.tmp 47) (.tmp 56) rfl B0 _ X HO5.out rfl _ A5 _ c5 (enc x.toNat) rfl rfl r5 (by omega) hB5 ?_); intro v6 w6 hown6 hg6; have K6 := hid (HST.out.app hB0 hb5 hown6 hg6); clear hown6 hg6)
        go_roundw
        case rel =>
          refine ⟨q + 1, by go_num, by omega, ?_⟩
          rw [HSN.out, HFE.out, HXV.out]
          exact K6.out
        case measure => simp [intOf]; omega
      · by_cases f9 : f = 9
        · subst f9
          have c9 : wr.cell? ⟨w.heap.size, 9, none⟩ = some (.bool gr) := by rw [(HX4.out.nextB HK.out HWB.out).cell]; rfl
          cases gr
          · have O5 := hid (HO.out.alloc (.cells #[.int .u8 0] 5))
            have hB5 : B0 ≤ (wr.alloc (.cells #[.int .u8 0] 5)).heap.size := by rw [World.size_alloc]; omega
            go_wp2_with (at_builtin; go_must (refine wpList_app rfl (.tmp 33) (.tmp 35) rfl B0 _ X O5.out rfl _ _ 1 1 [0] rfl rfl (rd_one _ _) (by omega) hB5 ?_); intro v6 w6 hown6 hg6; have K6 := hid (HST.out.app hB0 (below_alloc wr _) hown6 hg6); clear hown6 hg6)
            go_roundw
            case rel =>
              refine ⟨q + 1, by go_num, by omega, ?_⟩
              rw [HSN.out]
              exact K6.out
            case measure => simp [intOf]; omega
          · have O5 := hid (HO.out.alloc (.cells #[.int .u8 1] 5))
            have hB5 : B0 ≤ (wr.alloc (.cells #[.int .u8 1] 5)).heap.size := by rw [World.size_alloc]; omega
            go_wp2_with (at_builtin; go_must (refine wpList_app rfl (.tmp 33) (.tmp 35) rfl B0 _ X O5.out rfl _ _ 1 1 [1] rfl rfl (rd_one _ _) (by omega) hB5 ?_); intro v6 w6 hown6 hg6; have K6 := hid (HST.out.app hB0 (below_alloc wr _) hown6 hg6); clear hown6 hg6)
            go_roundw
            case rel =>
              refine ⟨q + 1, by go_num, by omega, ?_⟩
              rw [HSN.out]
              exact K6.out
            case measure => simp [intOf]; omega
        · obtain rfl : f = 10 := by omega
          have c10 : wr.cell? ⟨w.heap.size, 10, none⟩ = some (.slice D n cp) := by rw [(HX4.out.nextB HK.out HWB.out).cell]; rfl
          have h9 := enc_len9 n (by omega)
          go_wp2_with fail
          refine (reftext_any D n cp ds _ _ HNN.out (by omega) (HRD.out.now (HB4.out.trans (HK.out.mono (Nat.le_of_lt hwB)))) (Nat.le_refl _)).mono ?_
          rintro e w5 ⟨v5, rfl, hown5, hb5⟩
          obtain ⟨A5, c5, rfl, r5⟩ := hown5.read
          have HO5 := hid (HO.out.below hb5)
          have hB5 : B0 ≤ w5.heap.size := Nat.le_trans hB0 hb5.size
          have hnn := HNN.out
          have hl5 : (enc n ++ ds).length ≤ 80 := by rw [List.length_append, HNN.out]; omega
          clear hown5
          go_wp2_with (at_builtin; go_must (refine wpList_app rfl (.tmp 42) (.tmp 45) rfl B0 _ X HO5.out rfl _ A5 _ c5 (enc n ++ ds) rfl (by rw [List.length_append, HNN.out]) r5 (by omega) hB5 ?_); intro v6 w6 hown6 hg6; have K6 := hid (HST.out.app hB0 hb5 hown6 hg6); clear hown6 hg6)
          go_roundw
          case rel =>
            refine ⟨q + 1, by go_num, by omega, ?_⟩
            rw [HSN.out]
            have := K6.out
            rw [← HNN.out] at this
            exact this
          case measure => simp [intOf]; omega
    · have hlt' : ¬ (q : Int) < (T.length : Int) := by omega
      obtain rfl : q = T.length := by omega
      rw [List.take_length] at HXX
      have HBS := hid HO.out.bs
      go_wp2_with fail
      go_ret2
      refine ⟨_, rfl, ?_, HB4.out.trans (HK.out.mono (Nat.le_of_lt HWB.out))⟩
      unfold fullM
      rw [HKK.out, Int.toNat_natCast, HT.out, HXX.out]
      exact HBS.out
end Go.Proofs.YtihldenljddmoaaDoor
