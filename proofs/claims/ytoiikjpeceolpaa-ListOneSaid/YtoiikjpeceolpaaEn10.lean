/-
  What is proved: the walk of ListEnds: what is put to the front is first, what is put to the back is last, and all others keep their order. Condition: the acts are read as such.
-/
import Derived.Test.YtoiikjpeceolpaaWk10
import Derived.Test.YtoiikjpeceolpaaAr10
namespace Go.Proofs.Ytoiikjpeceolpaa
open Go.RowKit

theorem len_do (κ x y : Int) (S : List (List Int)) : (doS κ x y S).length = S.length := by
  unfold doS frontS backS
  split
  · split <;> simp [woS_len]
  · split
    · split <;> simp [woS_len]
    · exact woS_len _ _
/-- a space of m lists alone -/
structure Al (w0 w : World) (k m : Nat) (S : List (List Int)) : Prop where
  a : Sq w k S
  len : S.length = m
  la : w0.heap.size ≤ k
  bel : Below w0.heap.size w0 w
section
variable {w0 w w' : World} {k m : Nat} {S S' : List (List Int)}
theorem Al.below (h : Al w0 w k m S) (hb : Below w.heap.size w w') : Al w0 w' k m S := ⟨h.a.below hb, h.len, h.la, on h.bel hb⟩
theorem Al.step (h : Al w0 w k m S) (h1 : Sq w' k S') (c1 : Chg w w' (· = k) (· = k)) (hl : S'.length = S.length) : Al w0 w' k m S' :=
  ⟨h1, hl.trans h.len, h.la, h.bel.trans (c1.bel h.bel.size fun j e => by rw [e]; exact h.la)⟩
/-- a row that is new is none of the space's -/
theorem OwnW.past {e : TypeId} {v : Value} {us : List Value} {w1 : World} (ho : OwnW w e v us) (hf : ∀ g, v.ownBlock = some g → g ≠ k) (hc : Chg w w1 (· = k) (· = k)) : OwnW w1 e v us := ho.kept fun g hg => hc.block g (ho.lt hg) (hf g hg)
theorem GrW.bel {B : Nat} {v v' : Value} (h : GrW w w' v v') (hB : B ≤ w.heap.size) (hv : ∀ g, v.ownBlock = some g → B ≤ g) : Below B w w' :=
  ⟨h.gr.os, h.gr.tape, h.gr.output, h.gr.size, fun j hj => h.gr.block j (by omega) fun e => by have := hv j e.symm; omega⟩
theorem GrW.new {v : Value} (h : GrW w w' nl v) {g : Nat} (hg : v.ownBlock = some g) : w.heap.size ≤ g := by
  rcases h.at_ with e | e
  · rw [e] at hg; simp [Value.ownBlock] at hg
  · exact (e g hg).1
end
theorem lastV_snoc (l : List Int) (x : Int) : lastV (l ++ [x]) = .tuple #[.int .i64 x, .bool true] := by
  unfold lastV
  rw [dif_neg (by simp)]
  simp
set_option maxRecDepth 100000 in
set_option maxHeartbeats 2000000 in
theorem ends_walk (A : Option Addr) (n c : Nat) (f : Nat → A3) (v : Int) (back : Bool) (w : World) (hn : n ≤ maxLen) (h : Acts w A n f) (hv : 0 ≤ v ∧ v ≤ 255) :
    Calls Try.prog 7 #[.slice A n c, .int .u8 v, .bool back] w fun e w' => e = .returned (.bool true) ∧ Below w.heap.size w w' := by
  have HA := hid h
  unfold maxLen at hn
  clear h
  go_enter Try.func7, Try.ntmps7
  go_upto_region 3 with (go_at_call 8; refine (wakes_any _).mono ?_; rintro e w1 ⟨rfl, hb⟩; have HB := hid hb; clear hb)
  by_cases h100 : 100 < n
  · have hd : decide ((100 : Int) < (n : Int)) = true := by simp; omega
    clear h100
    go_wp2
    go_ret
    exact ⟨rfl, HB.out⟩
  have hd : decide ((100 : Int) < (n : Int)) = false := by simp; omega
  have hw1 : w.heap.size ≤ w1.heap.size := HB.out.size
  go_upto_region 6 with (go_at_call 9; refine (lnew_any 3 _).mono ?_; rintro e w2 ⟨k, rfl, hs, hb, hk⟩; have HS0 := hid (show Al w w2 k 3 (empt (cl 3)) from ⟨hs, by decide, Nat.le_trans hw1 hk, on HB.out hb⟩); clear hs hb hk)
  clear hw1 HB
  go_wp2_with fail
  go_loopg [24] n (fun gk t wr => ∃ p : Nat, p + gk = n ∧ t = .int .i64 p ∧ ∃ S, Al w wr k 3 S)
  case atStart => exact ⟨0, by omega, rfl, _, HS0.out⟩
  case round =>
    obtain ⟨p, hp, rfl, S, hT⟩ := hrel
    have HT := hid hT
    clear hT HS0
    by_cases hlt : p < n
    · obtain ⟨ad, rfl, hat⟩ := (HA.out.below HT.out.bel) p hlt
      obtain ⟨⟨κ, z, b⟩, hH⟩ : ∃ y, f p = y := ⟨_, rfl⟩
      rw [hH] at hat
      obtain ⟨alt, c0, c1, c2⟩ := hat
      dsimp only at c0 c1 c2
      obtain ⟨g, hg⟩ : ∃ g, wr.heap.size = g := ⟨_, rfl⟩
      obtain ⟨W, hW⟩ : ∃ W, wr.alloc (.cells #[.int .i64 κ, .int .i64 z, .int .i64 b] 29) = W := ⟨_, rfl⟩
      have BW : Below wr.heap.size wr W := by rw [← hW]; exact below_alloc _ _
      have HXW := hid (show Bx W g 29 #[.int .i64 κ, .int .i64 z, .int .i64 b] from by rw [← hW, ← hg]; exact Bx.new _ _ _)
      have HTW := hid (HT.out.below BW)
      have HWW := hid hW
      have HGG := hid hg
      clear BW hH hW hg
      go_upto_region 9 with fail
      rw [HGG.out, HWW.out]
      clear c0 c1 c2 HGG HWW alt
      have y0 : W.cell? ⟨g, 0, none⟩ = some (.int .i64 κ) := HXW.out.cell 0
      by_cases hneg : κ < 0
      · have d1 : decide ((0 : Int) ≤ κ) = false := by simpa using hneg
        clear hneg
        go_wp2_with fail
        go_roundg (gk - 1)
        case measure => omega
        case rel => exact ⟨p + 1, by omega, by go_num, _, HTW.out⟩
      by_cases hbig : 2 < κ
      · have d1 : decide ((0 : Int) ≤ κ) = true := by simp; omega
        have d2 : decide (κ ≤ (2 : Int)) = false := by simpa using hbig
        clear hneg hbig
        go_wp2_with fail
        go_roundg (gk - 1)
        case measure => omega
        case rel => exact ⟨p + 1, by omega, by go_num, _, HTW.out⟩
      have d1 : decide ((0 : Int) ≤ κ) = true := by simp; omega
      have d2 : decide (κ ≤ (2 : Int)) = true := by simp; omega
      have HKK := hid (show 0 ≤ κ ∧ κ ≤ 2 from by omega)
      clear hneg hbig
      go_wp2_with (first
        | (with_reducible refine wpList_load_bx rfl 29 (.tmp 9) rfl g _ _ _ rfl HXW.out Try.underlying29 rfl (by kernel_rfl) ?_)
        | (go_at_call 11; refine (ndo_any HTW.out.a κ z b HKK.out).mono ?_; rintro e w4 ⟨rfl, hN, hC⟩; have HT5 := hid (HTW.out.step hN hC (len_do κ z b S)); clear hN hC))
      go_roundg (gk - 1)
      case measure => omega
      case rel => exact ⟨p + 1, by omega, by go_num, _, HT5.out⟩
    · obtain rfl : p = n := by omega
      obtain ⟨l1, hl1⟩ : ∃ l, S[1]? = some l := ⟨_, List.getElem?_eq_getElem (by rw [HT.out.len]; omega)⟩
      have h64 := HT.out.a.wf.1.len hl1
      have HALL := hid (all_in HT.out.a (i := 1) hl1)
      obtain ⟨v0, v1⟩ := hv
      clear hlt hp
      obtain ⟨b, hb⟩ : ∃ b : Int, v % 64 = b := ⟨_, rfl⟩
      have hvb : vb b := ⟨by omega, by omega⟩
      have hok : okp S 1 b := ⟨⟨by omega, by have := HT.out.len; omega⟩, hvb⟩
      have hw1 : (woS b S)[1]? = some (wo b l1) := by unfold woS; rw [List.getElem?_map, hl1]; rfl
      have hd1 : (woS b S).getD 1 [] = wo b l1 := by rw [List.getD, hw1]; rfl
      have hlen1 : 1 < (woS b S).length := (List.getElem?_eq_some_iff.1 hw1).1
      go_upto_region 13 with fail
      rw [hb]
      obtain ⟨rs, hrs⟩ : ∃ x, wo b l1 = x := ⟨_, rfl⟩
      have hrl : rs.length ≤ 64 := by rw [← hrs]; have := wo_le b l1; omega
      have e0 : putE S 1 b = 0 := if_pos hok
      have e1 : backS S 1 b = (woS b S).set 1 (rs ++ [b]) := by rw [← hrs, ← hd1]; exact if_pos hok
      have e2 : frontS S 1 b = (woS b S).set 1 (b :: rs) := by rw [← hrs, ← hd1]; exact if_pos hok
      have e3 : ∀ l, ((woS b S).set 1 l)[1]? = some l := fun l => List.getElem?_set_self hlen1
      have e4 : ∀ l, ((woS b S).set 1 l).length = S.length := fun l => by rw [List.length_set, woS_len]
      have HE := hid (And.intro e0 (And.intro e1 (And.intro e2 (And.intro e3 e4))))
      have HRS := hid hrs
      have HL1 := hid h64
      have HRL := hid hrl
      clear hb v0 v1 hl1 hvb hok hw1 hd1 hlen1 e0 e1 e2 e3 e4 hrs hrl h64
      go_upto_region 14 with (first
        | (go_at_call 14; refine HALL.out.mono ?_; rintro e w2 ⟨Aa, ca, rfl, ho, hg⟩; have HT2 := hid (HT.out.below hg.nilBelow); have HO2 := hid ho; clear ho hg)
        | (go_at_call 23; obtain ⟨A', c', e', hr, -⟩ := HO2.out.read; simp only [Value.slice.injEq] at e'; obtain ⟨rfl, -, rfl⟩ := e'; refine (without_any _ Aa _ _ l1 b rfl HL1.out hr).mono ?_; rintro e w3 ⟨A2, c2, rfl, ho, hg⟩; rw [HRS.out] at ho ⊢; have HT3 := hid (HT2.out.below hg.nilBelow); have HO3 := hid ho; have HF3 := hid (show ∀ g, (Value.slice A2 rs.length c2).ownBlock = some g → g ≠ k ∧ w.heap.size ≤ g ∧ g < w3.heap.size from fun g e => by have h1 := ho.lt e; rw [HRS.out] at hg; have h2 := hg.new e; have h3 := HT2.out.a.lt; have h4 := HT2.out.bel.size; omega); clear ho hg hr))
      cases back
      · have HFR := hid (front_any HT3.out.a 1 b)
        rw [HE.out.1, HE.out.2.2.1] at HFR
        go_wp2_with (first
          | (go_at_call 25; refine HFR.out.mono ?_; rintro e w4 ⟨rfl, hq, hc⟩; have HT4 := hid (HT3.out.step hq hc (HE.out.2.2.2.2 _)); have HO4 := hid (HO3.out.past (fun g e => (HF3.out g e).1) hc); have HZ4 := hid hc.size; clear hq hc)
          | (go_at_call 21; refine (first_in HT4.out.a (HE.out.2.2.2.1 _)).mono ?_; rintro e w5 ⟨rfl, d5, rfl⟩; rw [show firstV (b :: rs) = .tuple #[.int .i64 b, .bool true] from rfl]; have HT5 := hid (HT4.out.below (below_draws (Below.refl _ _) d5)); have HO5 := hid (show OwnW (w4.drewN d5) 3 (.slice A2 rs.length c2) (ints rs) from HO4.out))
          | (go_at_call 14; refine (all_in HT5.out.a (HE.out.2.2.2.1 _)).mono ?_; rintro e w6 ⟨A6, c6, rfl, ho, hg⟩; have HT6 := hid (HT5.out.below hg.nilBelow); have HO6 := hid (HO5.out.below hg.nilBelow); have HQ6 := hid ho; clear ho hg)
          | (go_at_call 26; obtain ⟨A', c', e', hr, -⟩ := HO6.out.read; simp only [Value.slice.injEq] at e'; obtain ⟨rfl, -, rfl⟩ := e'; refine (ahead_any _ A2 _ _ rs b rfl HRL.out hr).mono ?_; rintro e w7 ⟨A7, c7, rfl, ho, hg⟩; have HT7 := hid (HT6.out.below hg.nilBelow); have HQ7 := hid (HQ6.out.below hg.nilBelow); have HP7 := hid ho; clear ho hg hr)
          | (go_at_call 13; obtain ⟨A', c', e', hr, -⟩ := HQ7.out.read; simp only [Value.slice.injEq] at e'; obtain ⟨rfl, -, rfl⟩ := e'; obtain ⟨A', c', e', hr2, -⟩ := HP7.out.read; simp only [Value.slice.injEq] at e'; obtain ⟨rfl, -, rfl⟩ := e'; refine (sameints_yes A6 A7 _ _ _ _ (b :: rs) _ _ _ rfl rfl (by have := HRL.out; simp; unfold maxLen; omega) hr hr2).mono ?_; rintro e w8 ⟨rfl, d8, rfl⟩; have HT8 := hid (HT7.out.below (below_draws (Below.refl _ _) d8)); clear hr hr2))
        go_ret
        exact ⟨rfl, HT8.out.bel⟩
      · have HBK := hid (back_any HT3.out.a 1 b)
        rw [HE.out.1, HE.out.2.1] at HBK
        obtain ⟨L, hL⟩ : ∃ L, (rs ++ [b]).length = L := ⟨_, rfl⟩
        have hL65 : L ≤ 65 := by rw [← hL]; have := HRL.out; simp; omega
        have HLL := hid hL
        clear hL
        go_upto_region 18 with (first
          | (go_at_call 24; refine HBK.out.mono ?_; rintro e w4 ⟨rfl, hq, hc⟩; have HT4 := hid (HT3.out.step hq hc (HE.out.2.2.2.2 _)); have HO4 := hid (HO3.out.past (fun g e => (HF3.out g e).1) hc); have HZ4 := hid hc.size; clear hq hc)
          | (go_at_call 22; refine (last_in HT4.out.a (HE.out.2.2.2.1 _)).mono ?_; rintro e w5 ⟨rfl, d5, rfl⟩; rw [lastV_snoc]; have HT5 := hid (HT4.out.below (below_draws (Below.refl _ _) d5)); have HO5 := hid (show OwnW (w4.drewN d5) 3 (.slice A2 rs.length c2) (ints rs) from HO4.out)))
        go_wp2_with (first
          | (go_at_call 14; refine (all_in HT5.out.a (HE.out.2.2.2.1 _)).mono ?_; rintro e w6 ⟨A6, c6, rfl, ho, hg⟩; rw [HLL.out] at ho hg ⊢; have HT6 := hid (HT5.out.below hg.nilBelow); have HO6 := hid (HO5.out.below hg.nilBelow); have HQ6 := hid ho; have HN6 := hid (show ∀ g, (Value.slice A6 L c6).ownBlock = some g → w3.heap.size ≤ g from fun g e => Nat.le_trans HZ4.out (hg.new e)); have B7 := below_alloc w6 (.cells #[.int .i64 b] 3); have HT7 := hid (HT6.out.below B7); have HO7 := hid (HO6.out.below B7); have HQ7 := hid (HQ6.out.below B7); have HR7 := hid (rv_new w6 3 #[.int .i64 b]); clear ho hg B7)
          | (at_builtin; refine wpList_appG elt_int ?_ (.tmp 66) (.tmp 68) ?_ _ _ HO7.out ?_ _ _ 1 1 [.int .i64 b] ?_ rfl HR7.out ?_ ?_ ?_ ?_; (· rfl); (· rfl); (· rfl); (· rfl); (· intro u hu; simp at hu; subst hu; rfl); (· have := HRL.out; rw [ints_length]; unfold maxLen; omega); (· have := HRL.out; rw [ints_length]; omega); intro v9 w9 ho9 hg9; rw [show ints rs ++ [Value.int .i64 b] = ints (rs ++ [b]) from by simp [ints]] at ho9; have HQ9 := hid (HQ7.out.grown hg9 (fun g e1 e2 => by have h1 := HN6.out g e1; have h2 := (HF3.out g e2).2.2; omega)); have HB9 := hid (HT7.out.bel.trans (hg9.bel HT7.out.bel.size fun g e => (HF3.out g e).2.1)); obtain ⟨A9, c9, e9, hr9, -⟩ := ho9.read; rw [ints_length, HLL.out] at e9; subst e9; have HR9 := hid hr9; clear ho9 hg9 hr9)
          | (go_at_call 13; obtain ⟨A', c', e', hr, -⟩ := HQ9.out.read; simp only [Value.slice.injEq] at e'; obtain ⟨rfl, -, rfl⟩ := e'; refine (sameints_yes A6 A9 L L _ _ (rs ++ [b]) _ _ _ HLL.out HLL.out (by unfold maxLen; omega) hr HR9.out).mono ?_; rintro e w8 ⟨rfl, d8, rfl⟩; clear hr))
        go_ret
        exact ⟨rfl, below_draws HB9.out d8⟩
end Go.Proofs.Ytoiikjpeceolpaa
