/-
  What is proved: the walk of NetTurns: two frames that change places twice are where they were; a frame that is taken and sent again is the last one. Condition: the frames are read as such.
-/
import Derived.Test.YtcagochalnjagaaWk9
import Derived.Deep.DeepCutAuto
import Derived.Deep.CutBlock
namespace Go.Proofs.Ytcagochalnjagaa
open Go.RowKit

theorem s1_wy (fs : Wy) : wy [fs] 0 = fs := rfl
theorem s1_isw (fs : Wy) : isw [fs] 0 := ⟨Int.le_refl _, by show (0 : Int) < (1 : Int); omega⟩
theorem send1 (fs l : Wy) (h : fs.length + l.length ≤ 400) : sendS [fs] 0 l = [fs ++ l] ∧ sendN [fs] 0 l = l.length := by
  have e : room [fs] 0 = 400 - fs.length := by unfold room; rw [if_pos (s1_isw fs), s1_wy]
  unfold sendS sendN
  rw [if_pos (s1_isw fs), e, s1_wy, List.take_of_length_le (by omega), Nat.min_eq_left (by omega)]
  exact ⟨rfl, rfl⟩
theorem vld1 {fs : Wy} {a : Nat} (h : a < fs.length) : vld (wy [fs] 0) a := ⟨by omega, by rw [s1_wy]; omega⟩
theorem take1 (fs : Wy) (a : Nat) (h : a < fs.length) : takeS [fs] 0 a = [fs.eraseIdx a] ∧ takeB [fs] 0 a = fs.getD a [] ∧ errS [fs] 0 a = 0 := by
  unfold takeS takeB errS
  rw [if_pos (vld1 h), if_pos (vld1 h), if_pos (vld1 h), s1_wy, Int.toNat_natCast]
  exact ⟨rfl, rfl, rfl⟩
def swap (fs : Wy) (a b : Nat) : Wy := (fs.set a (fs.getD b [])).set b (fs.getD a [])
theorem turn1 (fs : Wy) (a b : Nat) (h : a < fs.length) (h2 : b < fs.length) : turnS [fs] 0 a b = [swap fs a b] ∧ turnE [fs] 0 a b = 0 := by
  unfold turnS turnE swap
  rw [if_pos ⟨vld1 h, vld1 h2⟩, if_pos ⟨vld1 h, vld1 h2⟩, s1_wy, Int.toNat_natCast, Int.toNat_natCast]
  exact ⟨rfl, rfl⟩
theorem swap_len (fs : Wy) (a b : Nat) : (swap fs a b).length = fs.length := by unfold swap; simp
theorem swap_swap (fs : Wy) (a b : Nat) (h : a < fs.length) (h2 : b < fs.length) : swap (swap fs a b) a b = fs := by
  unfold swap
  apply List.ext_getElem?
  intro j
  simp only [List.getD, List.getElem?_set, List.length_set]
  by_cases hb : b = j
  · subst hb
    by_cases ha : a = b
    · subst ha; simp [h]
    · simp [h, h2, Ne.symm ha]
  · by_cases ha : a = j
    · subst ha; simp [hb, h, h2]
    · simp [hb, ha]
/-- one frame, laid in a list of its own -/
theorem one_fin (w : World) {x : Value} {l : List Int} (hx : Eb w x l) (hr : rng l) {F : Nat → Prop} (hF : ∀ j, F j → j < w.heap.size) :
    Fin (w.alloc (.cells #[x] 32)) F (some ⟨w.heap.size, 0, none⟩) [x] [l] :=
  ⟨fun j u hu => by
    obtain ⟨ad, e, hb, hc⟩ := rv_new w 32 #[x] j u hu
    injection e with e
    subst e
    exact ⟨_, rfl, by rw [World.size_alloc]; exact Nat.lt_succ_self _, fun hf => by have h9 : w.heap.size < w.heap.size := hF _ hf; omega, hc⟩,
   Cs.one (Bs.below hx (below_alloc w _)), fun z hz => by simp at hz; subst hz; exact hr⟩
theorem last_getD (fs : Wy) (x : List Int) : (fs ++ [x]).getD fs.length [] = x := by simp [List.getD]
theorem last_erase (fs : Wy) (x : List Int) : (fs ++ [x]).eraseIdx fs.length = fs := by
  rw [List.eraseIdx_append_of_length_le (Nat.le_refl _)]; simp

set_option maxRecDepth 100000 in
set_option maxHeartbeats 1600000 in
theorem turns_walk (A : Option Addr) (n c : Nat) (bs : List Value) (l : Wy) (i0 k0 : Nat) (hi : i0 ≤ 255) (hk : k0 ≤ 255) (w : World) (hn : l.length = n) (hc : n ≤ c ∧ c ≤ maxLen) (h : Fr w A bs l) :
    Calls Try.prog 7 #[.slice A n c, .int .u8 i0, .int .u8 k0] w fun e w' => e = .returned (.bool true) ∧ Below w.heap.size w w' := by
  have HFR := hid h
  have HN := hid hn
  have HC := hid hc
  obtain ⟨hnc, hcm⟩ := hc
  unfold maxLen at hcm
  clear h hn
  go_enter Try.func7, Try.ntmps7
  go_upto_region 3 with (go_at_call 8; refine (wakes_any _).mono ?_; rintro e w1 ⟨rfl, hb⟩; have HB := hid hb; clear hb)
  by_cases h0 : n = 0
  · subst h0
    go_wp2
    go_ret
    exact ⟨rfl, HB.out⟩
  by_cases h100 : 100 < n
  · have h0' : ((n : Int) == 0) = false := by simp; omega
    go_wp2
    go_ret
    exact ⟨rfl, HB.out⟩
  have h0' : ((n : Int) == 0) = false := by simp; omega
  have h100' : n ≤ 100 := by omega
  clear h100
  go_wp2_with fail
  refine (nnew_any 1 _).mono ?_
  rintro e w2 ⟨k, v, us, rfl, hkk, hb, hF⟩
  have K1 := hid (show NI w2 k v us [[]] from hkk)
  have B1 := hid (on HB.out hb)
  have F1 := hid (show ∀ j, Ft k v us j → w.heap.size ≤ j from fun j hj => Nat.le_trans HB.out.size (hF j hj))
  clear hkk hb hF
  go_wp2_with fail
  refine (nsend_any K1.out 0 A n c bs l HN.out HC.out (HFR.out.fin B1.out F1.out)).mono ?_
  rintro e w3 ⟨rfl, us3, hN, hC⟩
  rw [(send1 [] l (by have := HN.out; simp; omega)).1, List.nil_append] at hN
  have K3 := hid hN
  have B3 := hid (B1.out.trans (hC.bel B1.out.size F1.out))
  have F3 := hid (show ∀ j, Ft k v us3 j → w.heap.size ≤ j from fun j hj => by
    rcases hC.foot j hj with h | h
    · exact F1.out j h
    · have := B1.out.size; omega)
  clear hN hC K1 B1 F1
  go_upto_region 7 with fail
  have hnn : (n : Int) ≠ 0 := by omega
  go_region
  obtain ⟨a, ha⟩ : ∃ a, i0 % n = a := ⟨_, rfl⟩
  obtain ⟨b, hb⟩ : ∃ b, k0 % n = b := ⟨_, rfl⟩
  rw [show ((i0 : Nat) : Int) % ((n : Nat) : Int) = (a : Nat) from by rw [← ha]; exact (Int.natCast_emod _ _).symm, show ((k0 : Nat) : Int) % ((n : Nat) : Int) = (b : Nat) from by rw [← hb]; exact (Int.natCast_emod _ _).symm]
  have han : a < n := by rw [← ha]; exact Nat.mod_lt _ (by omega)
  have hbn : b < n := by rw [← hb]; exact Nat.mod_lt _ (by omega)
  clear ha hb hi hk hnn
  have hal : a < l.length := by rw [HN.out]; exact han
  have hbl : b < l.length := by rw [HN.out]; exact hbn
  obtain ⟨la, hla⟩ : ∃ x, l[a]? = some x := ⟨_, List.getElem?_eq_getElem hal⟩
  obtain ⟨ba, hba, hbE⟩ := HFR.out.cs.get hla
  obtain ⟨ad, rfl, hadl, hadc⟩ := HFR.out.rv a ba hba
  obtain ⟨Ba, ca, rfl, hbr, hb1, hb2⟩ := hbE
  have HRW := hid hbr
  have HRG := hid (HFR.out.rng la (List.mem_of_getElem? hla))
  have HLA := hid (show l.getD a [] = la from by rw [List.getD, hla]; rfl)
  obtain ⟨lla, hll⟩ : ∃ x, la.length = x := ⟨_, rfl⟩
  rw [hll] at hadc hb1
  have HLL := hid hll
  have HGM := hid (Nat.le_trans hb1 hb2)
  have HAL := hid (And.intro hal hbl)
  have haa : (a : Int) < (n : Int) := by omega
  have K4 := hid (show NI w3.drew k v us3 [l] from Nt.draws K3.out stb_Es 1)
  have B4 := hid (show Below w.heap.size w w3.drew from below_draws B3.out 1)
  clear K3 B3 hll hbr hb1 hb2 hba hla
  obtain ⟨w4, hw4⟩ : ∃ x, w3.drew = x := ⟨_, rfl⟩
  rw [hw4] at K4 B4 ⊢
  clear hw4
  have HLN2 := hid (show (l.eraseIdx a).length = n - 1 from by rw [List.length_eraseIdx_of_lt HAL.out.1, HN.out])
  have HLE := hid (show l.length + 1 ≤ 400 from by rw [HN.out]; omega)
  have F4 := F3
  go_wp2_with fail
  refine (nturn_any K4.out 0 a b).mono ?_
  rintro e w5 ⟨rfl, us5, hN, hC⟩
  rw [(turn1 l a b HAL.out.1 HAL.out.2).1] at hN
  rw [(turn1 l a b HAL.out.1 HAL.out.2).2]
  have K5 := hid hN
  have B5 := hid (B4.out.trans (hC.bel B4.out.size F4.out))
  have F5 := hid (show ∀ j, Ft k v us5 j → w.heap.size ≤ j from fun j hj => by
    rcases hC.foot j hj with h | h
    · exact F4.out j h
    · have := B4.out.size; omega)
  clear hN hC K4 B4 F4 F3
  go_wp2_with fail
  refine (nturn_any K5.out 0 a b).mono ?_
  rintro e w6 ⟨rfl, us6, hN, hC⟩
  have h1 := HAL.out.1
  have h2 := HAL.out.2
  rw [(turn1 (swap l a b) a b (by rw [swap_len]; exact h1) (by rw [swap_len]; exact h2)).1, swap_swap l a b h1 h2] at hN
  rw [(turn1 (swap l a b) a b (by rw [swap_len]; exact h1) (by rw [swap_len]; exact h2)).2]
  have K6 := hid hN
  have B6 := hid (B5.out.trans (hC.bel B5.out.size F5.out))
  have F6 := hid (show ∀ j, Ft k v us6 j → w.heap.size ≤ j from fun j hj => by
    rcases hC.foot j hj with h | h
    · exact F5.out j h
    · have := B5.out.size; omega)
  clear hN hC K5 B5 F5 h1 h2
  go_wp2_with fail
  refine (ntake_any K6.out 0 a).mono ?_
  rintro e w7 ⟨u7, us7, rfl, hB, hN, hC⟩
  obtain ⟨t1, t2, t3⟩ := take1 l a HAL.out.1
  rw [t1] at hN
  rw [t2, HLA.out] at hB
  rw [t3]
  have K7 := hid hN
  have B7 := hid (B6.out.trans (hC.bel B6.out.size F6.out))
  have F7 := hid (show ∀ j, Ft k v us7 j → w.heap.size ≤ j from fun j hj => by
    rcases hC.foot j hj with h | h
    · exact F6.out j h
    · have := B6.out.size; omega)
  obtain ⟨A7, x7, rfl, hr7, h71, h72⟩ := hB
  rw [HLL.out] at h71 ⊢
  have HR7 := hid hr7
  have HX7 := hid (And.intro h71 h72)
  have y7 : w7.cell? (ad.add a) = some (.slice Ba lla ca) := (B7.out.cell (p := ad.add a) (by rw [addBlk]; exact hadl)).trans hadc
  clear hN hC K6 B6 F6 t1 t2 t3 hr7 h71 h72
  go_wp2_with fail
  refine (same_yes A7 Ba lla lla x7 ca la _ _ _ HLL.out HLL.out (Nat.le_trans HX7.out.1 HX7.out.2) HR7.out (show Rn w7 Ba la from (Rd.below HRW.out B7.out (Nat.le_refl _)).more B7.out.size)).mono ?_
  rintro e w8 ⟨rfl, d8, rfl⟩
  have K8 := hid (show NI ((w7.drewN d8).alloc (.cells #[.slice A7 lla x7] 32)) k v us7 [l.eraseIdx a] from Nt.below (Nt.draws K7.out stb_Es d8) stb_Es (below_alloc _ _))
  have B8 := hid (show Below w.heap.size w ((w7.drewN d8).alloc (.cells #[.slice A7 lla x7] 32)) from on (below_draws B7.out d8) (below_alloc _ _))
  have HO8 := hid (one_fin (w7.drewN d8) (x := .slice A7 lla x7) (l := la) (show Bs (w7.drewN d8) (.slice A7 lla x7) la from ⟨A7, x7, by rw [HLL.out], HR7.out, by rw [HLL.out]; exact HX7.out⟩) HRG.out (F := Ft k v us7) (fun j hj => Nt.lt K7.out hj))
  have F8 := F7
  clear K7 B7 y7
  go_wp2_with fail
  refine (nsend_any K8.out 0 _ 1 1 _ [la] rfl ⟨Nat.le_refl _, by unfold maxLen; omega⟩ HO8.out).mono ?_
  rintro e w9 ⟨rfl, us9, hN, hC⟩
  obtain ⟨t1, t2⟩ := send1 (l.eraseIdx a) [la] (by rw [HLN2.out]; simp; omega)
  rw [t1] at hN
  rw [t2]
  have K9 := hid hN
  have B9 := hid (B8.out.trans (hC.bel B8.out.size F8.out))
  have F9 := hid (show ∀ j, Ft k v us9 j → w.heap.size ≤ j from fun j hj => by
    rcases hC.foot j hj with h | h
    · exact F8.out j h
    · have := B8.out.size; omega)
  clear hN hC K8 B8 F8 F7 t1 t2 HR7 HX7 HO8
  go_wp2_with fail
  refine (ntake_any K9.out 0 ((n : Int) - 1)).mono ?_
  rintro e w10 ⟨u10, us10, rfl, hB, hN, hC⟩
  have e9 : ((n - 1 : Nat) : Int) = (n : Int) - 1 := by omega
  obtain ⟨t1, t2, t3⟩ := take1 (l.eraseIdx a ++ [la]) (n - 1) (by rw [List.length_append, HLN2.out]; simp)
  rw [e9] at t1 t2 t3
  rw [t1] at hN
  rw [t2] at hB
  rw [t3]
  rw [show (l.eraseIdx a ++ [la]).getD (n - 1) [] = la from by have := last_getD (l.eraseIdx a) la; rwa [HLN2.out] at this] at hB
  rw [show (l.eraseIdx a ++ [la]).eraseIdx (n - 1) = l.eraseIdx a from by have := last_erase (l.eraseIdx a) la; rwa [HLN2.out] at this] at hN
  have K10 := hid hN
  have B10 := hid (B9.out.trans (hC.bel B9.out.size F9.out))
  obtain ⟨A10, x10, rfl, hr10, h101, h102⟩ := hB
  rw [HLL.out] at h101 ⊢
  have HR10 := hid hr10
  have HX10 := hid (Nat.le_trans h101 h102)
  have y10 : w10.cell? (ad.add a) = some (.slice Ba lla ca) := (B10.out.cell (p := ad.add a) (by rw [addBlk]; exact hadl)).trans hadc
  have HNL := hid (fun d => show Calls Try.prog 15 #[.pointer (some ⟨k, 0, none⟩), .int .i64 0] (w10.drewN d) fun e w' => e = .returned (.int .i64 ((n - 1 : Nat) : Int)) ∧ w10.drewN d = w' from by
    have := nlen_any (Nt.draws K10.out stb_Es d) 0
    rw [s1_wy, HLN2.out] at this
    exact this)
  have hfin : (((n - 1 : Nat) : Int) == (n : Int) - 1) = true := by simp; omega
  clear e9 hN hC K9 B9 F9 t1 t2 t3 hr10 h101 h102 K10
  generalize ((n - 1 : Nat) : Int) = n1 at *
  go_wp2_with (first | (go_at_call 14; refine (same_yes A10 Ba lla lla x10 ca la _ _ _ HLL.out HLL.out HX10.out HR10.out (show Rn w10 Ba la from (Rd.below HRW.out B10.out (Nat.le_refl _)).more B10.out.size)).mono ?_; rintro e w11 ⟨rfl, d11, rfl⟩) | (go_at_call 15; refine (HNL.out _).mono ?_; rintro e w12 ⟨rfl, rfl⟩))
  go_ret
  exact ⟨rfl, below_draws B10.out d11⟩
end Go.Proofs.Ytcagochalnjagaa
