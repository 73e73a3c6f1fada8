/-
  What is proved: the reference's Put answers a configuration's bytes, or that it may not be; what it writes lies in new memory. Condition: its hints are read as such.
-/
import Derived.Test.YtehmcnghincakaaPutC
import Derived.Test.YtehmcnghincakaaRRight
import Derived.Test.YtehmcnghincakaaRef
import Derived.Deep.DeepMust
namespace Go.Proofs.Ytehmcnghincakaa
open Go.RowKit

theorem eIntC : Elt Try.prog 53 3 (.int .i64 0) 1 8 := ⟨Try.underlying53, by kernel_rfl, rfl, by decide⟩

theorem rputc_no (A : Option Addr) (n cp : Nat) (c : Nat → Int) (hh : Nat → Hn) (w : World) (hn : n ≤ maxLen) (hr : Rv w w.heap.size A (hvs hh n)) (hno : ¬ RightP c hh n) :
    Calls Try.prog 8 #[.agg (cfgC c A n cp)] w fun e w' => e = .returned (.tuple #[.slice none 0 0, .int .i64 6]) ∧ Below w.heap.size w w' := by
  have hX := Bx.new w 25 (cfgC c A n cp)
  have hb0 := below_alloc w (.cells (cfgC c A n cp) 25)
  go_enter Try.func8, Try.ntmps8
  go_wp2_with (refine wpList_load_bx rfl _ _ rfl _ _ _ _ rfl hX Try.underlying25 rfl (by kernel_rfl) ?_)
  refine (rright_any A n cp c hh _ hn (hr.now hb0)).mono ?_
  rintro e w1 ⟨rfl, hb1⟩
  rw [dec_false hno]
  go_wp2
  go_ret2
  exact ⟨rfl, on hb0 hb1⟩

theorem Own.ne {w : World} {b : Nat} {v : Value} {l : List Int} (h : Own w b v l) : v.ownBlock ≠ some w.heap.size := fun e => by
  have := (World.ownsRow.lt h _ e).2
  omega
theorem GrownAt.hat {w w' : World} {v v' : Value} {a : Addr} {h : Hn} (hh : HAt w a h) (hg : GrownAt w w' v v') (hne : v.ownBlock ≠ some a.block) : HAt w' a h := by
  have e : ∀ i s, w'.cell? ⟨a.block, i, s⟩ = w.cell? ⟨a.block, i, s⟩ := fun i s => World.cell?_of_block (hg.1.block a.block hh.lt (fun q => hne q.symm))
  exact ⟨Nat.lt_of_lt_of_le hh.lt hg.1.size, (e a.off a.spot).trans hh.f, (e _ _).trans hh.s, (e _ _).trans hh.o, (e _ _).trans hh.l⟩
theorem GrownAt.ne {w w' : World} {v v' : Value} {k : Nat} (hg : GrownAt w w' v v') (hk : k < w.heap.size) (hne : v.ownBlock ≠ some k) : v'.ownBlock ≠ some k := by
  rcases hg.2 with h | h
  · rw [h]; exact hne
  · rw [h]; intro e; injection e with e; omega
/-- the numbers that the list tells -/
def first9 (c : Nat → Int) : List Int := [c 0, c 1, c 2, c 3, c 4, c 5, c 6, c 7, c 8]
def last8 (c : Nat → Int) (n : Nat) : List Int := [c 9, c 10, c 11, c 12, c 13, c 14, c 15, n]
theorem list_at {c : Nat → Int} {n : Nat} (h : ∀ i, i < 16 → 0 ≤ c i) : ∀ i, i < 17 → (ints (first9 c) ++ ints (last8 c n))[i]? = some (.int .i64 (nums c n i : Nat)) := fun i hi => by
  have e : ∀ j, j < 16 → ((nums c n j : Nat) : Int) = c j := fun j hj => by unfold nums; rw [if_pos hj]; have := h j hj; omega
  match i, hi with
  | 0, _ => rw [e 0 (by omega)]; rfl
  | 1, _ => rw [e 1 (by omega)]; rfl
  | 2, _ => rw [e 2 (by omega)]; rfl
  | 3, _ => rw [e 3 (by omega)]; rfl
  | 4, _ => rw [e 4 (by omega)]; rfl
  | 5, _ => rw [e 5 (by omega)]; rfl
  | 6, _ => rw [e 6 (by omega)]; rfl
  | 7, _ => rw [e 7 (by omega)]; rfl
  | 8, _ => rw [e 8 (by omega)]; rfl
  | 9, _ => rw [e 9 (by omega)]; rfl
  | 10, _ => rw [e 10 (by omega)]; rfl
  | 11, _ => rw [e 11 (by omega)]; rfl
  | 12, _ => rw [e 12 (by omega)]; rfl
  | 13, _ => rw [e 13 (by omega)]; rfl
  | 14, _ => rw [e 14 (by omega)]; rfl
  | 15, _ => rw [e 15 (by omega)]; rfl
  | 16, _ => rfl
  | k + 17, h => omega

set_option maxRecDepth 100000 in
set_option maxHeartbeats 4000000 in
theorem rputc_yes (A : Option Addr) (n cp : Nat) (c : Nat → Int) (hh : Nat → Hn) (w : World) (hr : Rv w w.heap.size A (hvs hh n)) (hyes : RightP c hh n) :
    Calls Try.prog 8 #[.agg (cfgC c A n cp)] w fun e w' => ∃ v, e = .returned (.tuple #[v, .int .i64 0]) ∧ Bs w' v (full c hh n) ∧ Below w.heap.size w w' := by
  have hX := Bx.new w 25 (cfgC c A n cp)
  have hb0 := below_alloc w (.cells (cfgC c A n cp) 25)
  have hn8 : n ≤ 8 := hyes.2.2.2.1
  go_enter Try.func8, Try.ntmps8
  go_wp2_with (refine wpList_load_bx rfl _ _ rfl _ _ _ _ rfl hX Try.underlying25 rfl (by kernel_rfl) ?_)
  refine (rright_any A n cp c hh _ (by unfold maxLen; omega) (hr.now hb0)).mono ?_
  rintro e w1 ⟨rfl, hb1⟩
  rw [dec_true hyes]
  have HX1 := hid (hX.next hb1)
  have HB1 := hid (on hb0 hb1)
  have HY := hid hyes
  have HR := hid hr
  clear hX hb0 hb1 hyes hr
  have HC1 : ∀ i, i < 16 → w1.cell? ⟨w.heap.size, i, none⟩ = some (.int .i64 (c i)) := fun i hi => by rw [HX1.out.cell, cfgC_at _ _ _ _ _ hi]
  have c0 := HC1 0 (by omega)
  have c1 := HC1 1 (by omega)
  have c2 := HC1 2 (by omega)
  have c3 := HC1 3 (by omega)
  have c4 := HC1 4 (by omega)
  have c5 := HC1 5 (by omega)
  have c6 := HC1 6 (by omega)
  have c7 := HC1 7 (by omega)
  have c8 := HC1 8 (by omega)
  clear HC1
  go_wp2_with (first
    | (at_builtin; refine wpList_appV eIntC rfl (.tmp 12) (.tmp 34) rfl w1.heap.size _ 0 [] (ownV_nil _ _ _ _) rfl _ _ 9 9 (ints (first9 c)) rfl rfl (rv_new w1 _ _) (ints_one _) (by unfold maxLen; omega) (by omega) (by rw [World.size_alloc]; omega) ?_; intro v2 w2 hown2 hg2; have HK2 := hid (on (below_alloc w1 _) (hg2.below (ownV_nil _ _ 3 1) (Nat.le_refl _))); have HX2 := hid (HX1.out.next HK2.out); have HO2 := hid hown2; clear hg2 hown2 c0 c1 c2 c3 c4 c5 c6 c7 c8; have HC2 : ∀ i, i < 16 → w2.cell? ⟨w.heap.size, i, none⟩ = some (.int .i64 (c i)) := (fun i hi => by rw [HX2.out.cell, cfgC_at _ _ _ _ _ hi]); have c9 := HC2 9 (by omega); have c10 := HC2 10 (by omega); have c11 := HC2 11 (by omega); have c12 := HC2 12 (by omega); have c13 := HC2 13 (by omega); have c14 := HC2 14 (by omega); have c15 := HC2 15 (by omega); have c16 : w2.cell? ⟨w.heap.size, 16, none⟩ = some (.slice A n cp) := (by rw [HX2.out.cell]; rfl); clear HC2)
    | (at_builtin; refine wpList_appV eIntC rfl (.tmp 36) (.tmp 57) rfl w1.heap.size _ 9 (ints (first9 c)) (World.ownsRow.alloc HO2.out _) rfl _ _ 8 8 (ints (last8 c n)) rfl rfl (rv_new w2 _ _) (ints_one _) (by unfold maxLen; omega) (by omega) (by rw [World.size_alloc]; have := HK2.out.size; omega) ?_; intro v3 w3 hown3 hg3; have HK3 := hid ((HK2.out.trans ((below_alloc w2 _).mono HK2.out.size)).trans (hg3.below (World.ownsRow.alloc HO2.out _) (by rw [World.size_alloc]; have := HK2.out.size; omega))); obtain ⟨A3, c3, rfl, r3, _, _⟩ := OwnV.read hown3; have HL3 := hid r3; clear hg3 hown3 r3 c9 c10 c11 c12 c13 c14 c15 c16))
  have HB3 := hid (on HB1.out HK3.out)
  have HX3 := hid (HX1.out.next HK3.out)
  clear HK2 HK3 HX2 HX1 HO2
  go_loopw [5, 6] (fun s i wr => ∃ q : Nat, i = .int .i64 q ∧ q ≤ 17 ∧ Own wr w3.heap.size s (encN (nums c n) q) ∧ Below w3.heap.size w3 wr) (fun _ i _ => 17 - (intOf i).toNat)
  case atStart => exact ⟨0, rfl, by omega, own_nil _ _, Below.refl _ _⟩
  case round =>
    obtain ⟨q, rfl, hq, hs, hb⟩ := hrel
    have hL := encN_len (f := nums c n) q fun i _ => HY.out.nums_lt i
    have HK := hid hb
    have HS := hid hs
    clear hb hs
    by_cases hlt : q < 17
    · have hlt' : (q : Int) < 17 := by omega
      have hl := list_at (c := c) (n := n) (fun i hi => (HY.out.num i hi).1) q hlt
      obtain ⟨ad, rfl, _, d0⟩ := (HL3.out.now HK.out) q _ hl
      have hx := HY.out.nums_lt q
      obtain ⟨x, hxe⟩ : ∃ x, nums c n q = x := ⟨_, rfl⟩
      rw [hxe] at d0 hx
      have HQ := hid hxe
      clear hl hxe
      go_wp2_with fail
      refine (refput_any x _ (by omega)).mono ?_
      rintro e w5 ⟨v5, rfl, hown5, hb5⟩
      obtain ⟨A5, c5, rfl, r5⟩ := hown5.read
      rw [Int.toNat_natCast] at hown5 r5 ⊢
      have h9 := enc_len9 x hx
      clear hown5 d0
      go_wp2_with (at_builtin; go_must (refine wpList_app rfl (.tmp 65) (.tmp 70) rfl w3.heap.size _ (encN (nums c n) q) (HS.out.below hb5) rfl _ A5 _ c5 (enc x) rfl rfl r5 (by omega) (Nat.le_trans HK.out.size hb5.size) ?_); intro v6 w6 hown6 hg6)
      have HK6 := hid ((HK.out.trans (hb5.mono HK.out.size)).trans (hg6.below (HS.out.below hb5) (Nat.le_trans HK.out.size hb5.size)))
      rw [← HQ.out] at hown6
      have H6 := hid hown6
      clear hown6 hg6 hb5 r5
      go_roundw
      case rel => exact ⟨q + 1, by go_num, by omega, H6.out, HK6.out⟩
      case measure => simp [intOf]; omega
    · have hlt' : ¬ (q : Int) < 17 := by omega
      obtain rfl : q = 17 := by omega
      have c16 : wr.cell? ⟨w.heap.size, 16, none⟩ = some (.slice A n cp) := by rw [(HX3.out.next HK.out).cell]; rfl
      go_wp2_with fail
      clear c16
      go_loopw [5, 7] (fun s i wr => ∃ q : Nat, i = .int .i64 q ∧ q ≤ n ∧ Own wr w3.heap.size s (encN (nums c n) 17 ++ encHs hh q) ∧ Below w3.heap.size w3 wr) (fun _ i _ => n - (intOf i).toNat)
      case atStart => exact ⟨0, rfl, by omega, by rw [encHs, List.append_nil]; exact HS.out, HK.out⟩
      case round =>
        obtain ⟨q, rfl, hq, hs, hb⟩ := hrel
        have hL1 := encN_len (f := nums c n) 17 fun i _ => HY.out.nums_lt i
        have hL2 := encHs_len q fun i hi => HY.out.small i (by omega)
        obtain ⟨X, hX⟩ : ∃ X, encN (nums c n) 17 ++ encHs hh q = X := ⟨_, rfl⟩
        have hL3 : X.length ≤ 400 := by rw [← hX, List.length_append]; omega
        rw [hX] at hs
        have HXX := hid hX
        have HK0 := hid hb
        have HS0 := hid hs
        have c16 : wr.cell? ⟨w.heap.size, 16, none⟩ = some (.slice A n cp) := by rw [(HX3.out.next HK0.out).cell]; rfl
        clear hX hb hs hL1 hL2
        by_cases hlt : q < n
        · have hlt' : (q : Int) < (n : Int) := by omega
          obtain ⟨ad, rfl, hat⟩ := (HR.out.now (on HB3.out HK0.out)).hint hlt
          obtain ⟨⟨f, s, o, l⟩, hH⟩ : ∃ x, hh q = x := ⟨_, rfl⟩
          rw [hH] at hat
          obtain ⟨_, d0, d1, d2, d3⟩ := hat
          dsimp only at d0 d1 d2 d3
          have hsm := HY.out.small q hlt
          rw [hH] at hsm
          have HH := hid hH
          have hsm' : 0 ≤ f ∧ f ≤ 2147483647 ∧ 0 ≤ s ∧ s ≤ 2147483647 ∧ 0 ≤ o ∧ o ≤ 2147483647 := hsm
          have h9f := enc_len9 f.toNat (by omega)
          have h9s := enc_len9 s.toNat (by omega)
          have h9o := enc_len9 o.toNat (by omega)
          have KA := hid (on HK0.out (below_alloc wr (.cells #[.int .i64 f, .int .i64 s, .int .i64 o, .bool l] 41)))
          have SA := hid (HS0.out.alloc (.cells #[.int .i64 f, .int .i64 s, .int .i64 o, .bool l] 41))
          have XA := hid (hbox_new wr ⟨f, s, o, l⟩ 41)
          have NA := hid (Own.ne HS0.out)
          clear hsm hH HS0
          go_wp2_with fail
          clear c16 d0 d1 d2 d3
          refine (refput_any f _ (by omega)).mono ?_
          rintro e w5 ⟨v5, rfl, hown5, hb5⟩
          obtain ⟨A5, c5, rfl, r5⟩ := hown5.read
          have G0 := hid (KA.out.size)
          clear hown5
          go_wp2_with (at_builtin; go_must (refine wpList_app rfl (.tmp 84) (.tmp 87) rfl w3.heap.size _ (X) (SA.out.below hb5) rfl _ A5 _ c5 (enc f.toNat) rfl rfl r5 (by (try simp only [List.length_append]); omega) (Nat.le_trans G0.out hb5.size) ?_); intro v6 w6 hown6 hg6; have KN0 := hid ((KA.out.trans (hb5.mono G0.out)).trans (hg6.below (SA.out.below hb5) (Nat.le_trans G0.out hb5.size))); have SN0 := hid hown6; have XN0 := hid (GrownAt.hat (XA.out.next hb5) hg6 NA.out); have NN0 := hid (GrownAt.ne hg6 (XA.out.next hb5).lt NA.out); have y0 := XN0.out.s; dsimp only at y0; clear hown6 hg6 hb5 r5)
          refine (refput_any s _ (by omega)).mono ?_
          rintro e w5 ⟨v5, rfl, hown5, hb5⟩
          obtain ⟨A5, c5, rfl, r5⟩ := hown5.read
          have G1 := hid (KN0.out.size)
          clear hown5
          go_wp2_with (at_builtin; go_must (refine wpList_app rfl (.tmp 89) (.tmp 92) rfl w3.heap.size _ ((X ++ enc f.toNat)) (SN0.out.below hb5) rfl _ A5 _ c5 (enc s.toNat) rfl rfl r5 (by (try simp only [List.length_append]); omega) (Nat.le_trans G1.out hb5.size) ?_); intro v6 w6 hown6 hg6; have KN1 := hid ((KN0.out.trans (hb5.mono G1.out)).trans (hg6.below (SN0.out.below hb5) (Nat.le_trans G1.out hb5.size))); have SN1 := hid hown6; have XN1 := hid (GrownAt.hat (XN0.out.next hb5) hg6 NN0.out); have NN1 := hid (GrownAt.ne hg6 (XN0.out.next hb5).lt NN0.out); have y1 := XN1.out.o; dsimp only at y1; clear hown6 hg6 hb5 r5)
          refine (refput_any o _ (by omega)).mono ?_
          rintro e w5 ⟨v5, rfl, hown5, hb5⟩
          obtain ⟨A5, c5, rfl, r5⟩ := hown5.read
          have G2 := hid (KN1.out.size)
          clear hown5
          go_upto_region 18 with (at_builtin; (refine wpList_app rfl (.tmp 94) (.tmp 97) rfl w3.heap.size _ (((X ++ enc f.toNat) ++ enc s.toNat)) (SN1.out.below hb5) rfl _ A5 _ c5 (enc o.toNat) rfl rfl r5 (by (try simp only [List.length_append]); omega) (Nat.le_trans G2.out hb5.size) ?_); intro v6 w6 hown6 hg6; have KN2 := hid ((KN1.out.trans (hb5.mono G2.out)).trans (hg6.below (SN1.out.below hb5) (Nat.le_trans G2.out hb5.size))); have SN2 := hid hown6; have XN2 := hid (GrownAt.hat (XN1.out.next hb5) hg6 NN1.out); have NN2 := hid (GrownAt.ne hg6 (XN1.out.next hb5).lt NN1.out); have y2 := XN2.out.l; dsimp only at y2; have G3 := hid (KN2.out.size); clear hown6 hg6 hb5 r5)
          cases l
          · go_wp2_with (at_builtin; (refine wpList_app rfl (.tmp 104) (.tmp 105) rfl w3.heap.size _ (((X ++ enc f.toNat) ++ enc s.toNat) ++ enc o.toNat) (SN2.out.alloc _) rfl _ _ _ _ [0] rfl rfl (rd_one _ _) (by simp only [List.length_append]; omega) (by rw [World.size_alloc]; have := G3.out; omega) ?_); intro v7 w7 hown7 hg7; have KF := hid ((on KN2.out (below_alloc w6 (.cells #[.int .u8 0] 5))).trans (hg7.below (SN2.out.alloc _) (by rw [World.size_alloc]; have := G3.out; omega))); have SF := hid hown7; clear hown7 hg7)
            go_roundw
            case rel => exact ⟨q + 1, by go_num, by omega, by rw [encHs, HH.out, ← List.append_assoc, HXX.out]; have := SF.out; simp only [encH, bit, List.append_assoc] at this ⊢; exact this, KF.out⟩
            case measure => simp [intOf]; omega
          · go_wp2_with (at_builtin; (refine wpList_app rfl (.tmp 101) (.tmp 102) rfl w3.heap.size _ (((X ++ enc f.toNat) ++ enc s.toNat) ++ enc o.toNat) (SN2.out.alloc _) rfl _ _ _ _ [1] rfl rfl (rd_one _ _) (by simp only [List.length_append]; omega) (by rw [World.size_alloc]; have := G3.out; omega) ?_); intro v7 w7 hown7 hg7; have KF := hid ((on KN2.out (below_alloc w6 (.cells #[.int .u8 1] 5))).trans (hg7.below (SN2.out.alloc _) (by rw [World.size_alloc]; have := G3.out; omega))); have SF := hid hown7; clear hown7 hg7)
            go_roundw
            case rel => exact ⟨q + 1, by go_num, by omega, by rw [encHs, HH.out, ← List.append_assoc, HXX.out]; have := SF.out; simp only [encH, bit, List.append_assoc] at this ⊢; exact this, KF.out⟩
            case measure => simp [intOf]; omega
        · have hlt' : ¬ (q : Int) < (n : Int) := by omega
          obtain rfl : q = n := by omega
          have HF := hid HS0.out.bs
          go_wp2_with fail
          go_ret2
          exact ⟨_, rfl, by unfold full; rw [HXX.out]; exact HF.out, on HB3.out HK0.out⟩
end Go.Proofs.Ytehmcnghincakaa
