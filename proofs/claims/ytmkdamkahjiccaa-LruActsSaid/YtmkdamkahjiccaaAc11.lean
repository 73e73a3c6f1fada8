/-
  What is proved: the walk of LruActs: whatever is used, added and removed, one behind the other, what goes, and what is there, in order, is what the document says. Condition: the acts are read as such.
-/
import Derived.Test.YtmkdamkahjiccaaSt11
namespace Go.Proofs.Ytmkdamkahjiccaa
open Go.RowKit

/-- the LRU and the reference's list, side by side -/
structure Ta (w0 w : World) (g k C : Nat) (A : Option Addr) (c : Nat) (L : List Int) : Prop where
  a : Lw w0 w g k C L
  r : Rw w A L
  cap : L.length ≤ c ∧ c ≤ maxLen
  off : ∀ ad, A = some ad → ad.block ≠ k
section
variable {w0 w w' w2 : World} {g k C c c' : Nat} {A A' : Option Addr} {L L' : List Int}
theorem Ta.below (h : Ta w0 w g k C A c L) (hb : Below w.heap.size w w') : Ta w0 w' g k C A c L := ⟨h.a.below hb, h.r.below hb, h.cap, h.off⟩
theorem Ta.draws (h : Ta w0 w g k C A c L) (n : Nat) : Ta w0 (w.drewN n) g k C A c L := h.below (below_draws (Below.refl _ _) n)
end
/-- between the reference's act and the LRU's: the new list is there, the LRU is still at the old one -/
structure Tm (w0 w : World) (g k C : Nat) (L : List Int) (A : Option Addr) (c : Nat) (L' : List Int) : Prop where
  a : Lw w0 w g k C L
  r : Rw w A L'
  cap : L'.length ≤ c ∧ c ≤ maxLen
  off : ∀ ad, A = some ad → ad.block ≠ k
section
variable {w0 w w' w2 : World} {g k C c c' : Nat} {A A' : Option Addr} {L L' : List Int}
theorem Tm.below (h : Tm w0 w g k C L A c L') (hb : Below w.heap.size w w') : Tm w0 w' g k C L A c L' := ⟨h.a.below hb, h.r.below hb, h.cap, h.off⟩
theorem Tm.draws (h : Tm w0 w g k C L A c L') (n : Nat) : Tm w0 (w.drewN n) g k C L A c L' := h.below (below_draws (Below.refl _ _) n)
theorem Tm.step (h : Tm w0 w g k C L A c L') (hq : Lq w' g k C L') (hc : Chg w w' (· = k) (· = k)) (hl : L'.length ≤ C) : Ta w0 w' g k C A c L' :=
  ⟨h.a.step hq hc hl, h.r.chg hc h.off, h.cap, h.off⟩
theorem Tm.set (h : Tm w0 w g k C L A c L') {r : Nat} (i : Nat) (u : Value) (hn : r ≠ g ∧ r ≠ k ∧ (∀ ad, A = some ad → ad.block ≠ r) ∧ w0.heap.size ≤ r) : Tm w0 (w.setCell ⟨r, i, none⟩ u) g k C L A c L' :=
  ⟨h.a.chg (chg_set (Chg.refl w (· = r)) i u) hn.2.2.2 (fun e => hn.1 e.symm) (fun e => hn.2.1 e.symm), h.r.chg (chg_set (Chg.refl w (· = r)) i u) hn.2.2.1, h.cap, h.off⟩
theorem Tm.fresh (h : Tm w0 w g k C L A c L') : w.heap.size ≠ k := fun e => by have := h.a.q.sq.lt; omega
theorem Ta.mid (h : Ta w0 w g k C A c L) (hb : Below w.heap.size w w') (hr : Rw w' A' L') (hc : L'.length ≤ c' ∧ c' ≤ maxLen) (ho : A' = A ∨ ∀ ad, A' = some ad → w.heap.size ≤ ad.block) : Tm w0 w' g k C L A' c' L' :=
  ⟨h.a.below hb, hr, hc, fun ad e => by
    rcases ho with e2 | e2
    · exact h.off ad (by rw [← e2]; exact e)
    · have := e2 ad e; have := h.a.q.sq.lt; omega⟩
end
set_option maxRecDepth 100000 in
set_option maxHeartbeats 4000000 in
theorem acts_walk (m : Int) (A : Option Addr) (n c : Nat) (f : Nat → A2) (w : World) (hn : n ≤ maxLen) (h : Acts w A n f) :
    Calls Try.prog 3 #[.int .i64 m, .slice A n c] w fun e w' => e = .returned (.bool true) ∧ Below w.heap.size w w' := by
  have HA := hid h
  unfold maxLen at hn
  clear h
  go_enter Try.func3, Try.ntmps3
  go_upto_region 3 with (go_at_call 8; refine (wakes_any _).mono ?_; rintro e w1 ⟨rfl, hb⟩; have HB := hid hb; clear hb)
  by_cases h100 : 150 < n
  · have hd : decide ((150 : Int) < (n : Int)) = true := by simp; omega
    clear h100
    go_wp2
    go_ret
    exact ⟨rfl, HB.out⟩
  have hd : decide ((150 : Int) < (n : Int)) = false := by simp; omega
  have HC1 := hid (cp_le m)
  have HRC := hid (fun w => rcap_any m w)
  have HNEW := hid (lru_new m w1)
  generalize cp m = C at *
  go_wp2_with (go_at_call 9; refine HNEW.out.mono ?_; rintro e w2 ⟨g, k, rfl, hq, hb, hg, hk⟩; have HW0 := hid (show Ta w w2 g k C none 0 [] from ⟨⟨hq, Nat.zero_le _, Nat.le_trans HB.out.size hg, Nat.le_trans HB.out.size hk, on HB.out hb⟩, rw_nil _, ⟨Nat.le_refl _, by unfold maxLen; omega⟩, fun _ e => by cases e⟩); clear hq hb hg hk)
  go_loopg [22, 6] n (fun gk t x wr => ∃ p : Nat, p + gk = n ∧ t = .int .i64 p ∧ ∃ A0 c0 L, x = .slice A0 L.length c0 ∧ Ta w wr g k C A0 c0 L)
  case atStart => exact ⟨0, by omega, rfl, none, 0, [], rfl, HW0.out⟩
  case round =>
    obtain ⟨p, hp, rfl, A0, c0, L, rfl, hT⟩ := hrel
    have HT := hid hT
    clear hT HW0
    by_cases hlt : p < n
    · obtain ⟨ad, rfl, hat⟩ := (HA.out.below HT.out.a.bel) p hlt
      obtain ⟨⟨κ, b⟩, hH⟩ : ∃ y, f p = y := ⟨_, rfl⟩
      rw [hH] at hat
      obtain ⟨alt, c0, c1⟩ := hat
      dsimp only at c0 c1
      obtain ⟨q, hg⟩ : ∃ g, wr.heap.size = g := ⟨_, rfl⟩
      obtain ⟨W, hW⟩ : ∃ W, wr.alloc (.cells #[.int .i64 κ, .int .i64 b] 28) = W := ⟨_, rfl⟩
      have BW : Below wr.heap.size wr W := by rw [← hW]; exact below_alloc _ _
      have HXW := hid (show Bx W q 28 #[.int .i64 κ, .int .i64 b] from by rw [← hW, ← hg]; exact Bx.new _ _ _)
      have HTW := hid (HT.out.below BW)
      have HKQ := hid (show k < q from by rw [← hg]; exact HT.out.a.q.sq.lt)
      have HWW := hid hW
      have HGG := hid hg
      have hpn : (p : Int) < (n : Int) := by omega
      clear BW hH hW hg
      go_upto_region 10 with fail
      rw [HGG.out, HWW.out]
      clear c0 c1 HGG HWW alt
      have y0 : W.cell? ⟨q, 0, none⟩ = some (.int .i64 κ) := HXW.out.cell 0
      have y1 : W.cell? ⟨q, 1, none⟩ = some (.int .i64 b) := HXW.out.cell 1
      by_cases hneg : κ < 0
      · have d1 : decide (κ < (0 : Int)) = true := by simpa using hneg
        clear hneg
        go_wp2_with fail
        go_roundg (gk - 1)
        case measure => omega
        case rel => exact ⟨p + 1, by omega, by go_num, _, _, _, rfl, HTW.out⟩
      by_cases hbig : 2 < κ
      · have d1 : decide (κ < (0 : Int)) = false := by simpa using hneg
        have d2 : decide ((2 : Int) < κ) = true := by simpa using hbig
        clear hneg hbig
        go_wp2_with fail
        go_roundg (gk - 1)
        case measure => omega
        case rel => exact ⟨p + 1, by omega, by go_num, _, _, _, rfl, HTW.out⟩
      have d1 : decide (κ < (0 : Int)) = false := by simpa using hneg
      have d2 : decide ((2 : Int) < κ) = false := by simpa using hbig
      have HKK := hid (show 0 ≤ κ ∧ κ ≤ 2 from by omega)
      clear hneg hbig
      obtain ⟨L', hL'⟩ : ∃ x, dL C κ b L = x := ⟨_, rfl⟩
      obtain ⟨vi, hvi⟩ : ∃ x, dV C κ b L = x := ⟨_, rfl⟩
      obtain ⟨gn, hgn⟩ : ∃ x, dG C κ b L = x := ⟨_, rfl⟩
      obtain ⟨was, hwas⟩ : ∃ x, dec (b ∈ L) = x := ⟨_, rfl⟩
      obtain ⟨er, her⟩ : ∃ x, dE κ b = x := ⟨_, rfl⟩
      obtain ⟨ln, hln⟩ : ∃ x, L'.length = x := ⟨_, rfl⟩
      have HLE := hid (show L'.length ≤ C from by rw [← hL']; exact dL_len κ HTW.out.a.len HTW.out.a.q.nd)
      have HDO := hid (fun (y : World) (hb : Below W.heap.size W y) => ((rdo_any (b := b) (HTW.out.below hb).r rfl HTW.out.cap HC1.out.2 HTW.out.a.len HTW.out.a.q.nd (fun x hx => HTW.out.a.q.vb hx) κ HKK.out).mono (by
        rintro e w' ⟨A7, c7, rfl, h1, h2, h3, h4, h5⟩
        rw [hL'] at h1 h2
        rw [hL', hvi, hgn, hwas, her, hln]
        exact ⟨A7, c7, rfl, (HTW.out.below hb).mid h5 h1 ⟨h2, h3⟩ h4, (HXW.out.next hb).next h5, fun ad e => by
          rcases h4 with h6 | h6
          · exact .inl (HTW.out.r.lt ad (by rw [← h6]; exact e))
          · exact .inr (h6 ad e), h5⟩) :
        Calls Try.prog 10 #[.slice A0 L.length c0, .int .i64 C, .agg #[.int .i64 κ, .int .i64 b]] y (fun e w' => ∃ A7 c7, e = .returned (.agg #[.slice A7 ln c7, .int .i64 vi, .bool gn, .bool was, .int .i64 er]) ∧ Tm w w' g k C L A7 c7 L' ∧ Bx w' q 28 #[.int .i64 κ, .int .i64 b] ∧ (∀ ad, A7 = some ad → ad.block < W.heap.size ∨ y.heap.size ≤ ad.block) ∧ Below y.heap.size y w')))
      have HEQ := hid (And.intro hL' (And.intro hvi (And.intro hgn (And.intro hwas her))))
      have HLN := hid hln
      clear hL' hvi hgn hwas her hln
      go_upto_region 11 with fail
      go_cut [9] from 34 to 38 (fun s wx => ∃ r A7 c7, s = .pointer (some ⟨r, 0, none⟩) ∧ Bx wx r 30 #[.slice A7 ln c7, .int .i64 vi, .bool gn, .bool was, .int .i64 er] ∧ Tm w wx g k C L A7 c7 L' ∧ Bx wx q 28 #[.int .i64 κ, .int .i64 b] ∧ r ≠ k)
      case first =>
        have HNE0 := hid (fun (A7 : Option Addr) (h : ∀ ad, A7 = some ad → ad.block ≠ W.heap.size) => show W.heap.size ≠ g ∧ W.heap.size ≠ k ∧ (∀ ad, A7 = some ad → ad.block ≠ W.heap.size) ∧ w.heap.size ≤ W.heap.size from
          ⟨fun e => by have := HTW.out.a.q.box.lt; omega, fun e => by have := HTW.out.a.q.sq.lt; omega, h, HTW.out.a.bel.size⟩)
        have HQR := hid (show W.heap.size ≠ q from fun e => by have := HXW.out.lt; omega)
        have kal := hid (And.intro (((HXW.out.alloc (.cells wz 30)).draws 1).cell 0) (((HXW.out.alloc (.cells wz 30)).draws 1).cell 1))
        -- drawn
        refine wp_region_noPanic ?_
        refine wp_region_held_drew (S := fun w' => w'.cell? ⟨q, 0, none⟩ = some (.int .i64 κ) ∧ w'.cell? ⟨q, 1, none⟩ = some (.int .i64 b)) (by kernel_rfl) ?_ (fun hHeld => ?_)
        · exact ⟨y0, y1⟩
        refine wpAnyH_take (i := 0) (oi := ⟨some 34, _, _, _, _, _⟩) (v := ?_) rfl (by kernel_rfl) (by kernel_rfl) (by kernel_rfl) (fun _ _ _ h => h) (Or.inl ⟨by rfl, ?_⟩) (by assumption) ?_
        rotate_left 1
        · intro w0 hSw
          obtain ⟨s0, s1⟩ := hSw
          go_simp
          try with_reducible rfl
        (try simp only [Act.put, List.setIfInBounds_toArray, List.set_cons_zero, List.set_cons_succ])
        refine wpAnyH_take (i := 1) (oi := ⟨some 35, _, _, _, _, _⟩) (v := ?_) rfl (by kernel_rfl) (by kernel_rfl) (by kernel_rfl) (fun _ _ _ h => h) (Or.inl ⟨by rfl, ?_⟩) (by assumption) ?_
        rotate_left 1
        · intro w0 hSw
          obtain ⟨s0, s1⟩ := hSw
          go_simp
          try with_reducible rfl
        (try simp only [Act.put, List.setIfInBounds_toArray, List.set_cons_zero, List.set_cons_succ])
        refine wpAnyH_take (i := 3) (oi := ⟨some 37, _, _, _, _, _⟩) (v := ?_) rfl (by kernel_rfl) (by kernel_rfl) (by kernel_rfl) (fun _ _ _ h => h) (Or.inl ⟨by rfl, ?_⟩) (by assumption) ?_
        rotate_left 1
        · intro w0 hSw
          obtain ⟨s0, s1⟩ := hSw
          go_simp
          try with_reducible rfl
        (try simp only [Act.put, List.setIfInBounds_toArray, List.set_cons_zero, List.set_cons_succ])
        refine wpAnyH_ready (rs := [2, 5]) (by kernel_rfl) (by simp) ?_
        refine (AllReadyH.cons (o := ⟨some 36, _, _, _, _, _⟩) rfl (fun K hK => ?_) (AllReadyH.cons (o := ⟨some 9, _, _, _, _, _⟩) rfl (fun K hK => ?_) AllReadyH.nil))
        · rw [if_pos (by rfl)]
          go_simp
          refine (HRC.out _).mono ?_
          rintro e w6 ⟨rfl, rfl⟩
          go_simp
          refine hK.out _ _ hHeld (fun hHeld => ?_)
          clear hK K
          (try simp only [Act.put, List.setIfInBounds_toArray, List.set_cons_zero, List.set_cons_succ])
          refine wpAnyH_ready (rs := [4, 5]) (by kernel_rfl) (by simp) ?_
          refine (AllReadyH.cons (o := ⟨some 38, _, _, _, _, _⟩) rfl (fun K hK => ?_) (AllReadyH.cons (o := ⟨some 9, _, _, _, _, _⟩) rfl (fun K hK => ?_) AllReadyH.nil))
          · rw [if_pos (by rfl)]
            go_simp
            refine (HDO.out W.drew (below_draws (Below.refl _ _) 1)).mono ?_
            rintro e w7 ⟨A7, c7, rfl, hm, hx, ha, hb⟩
            have HM7 := hid hm
            have HX7 := hid hx
            have k7 := And.intro (HX7.out.cell 0) (HX7.out.cell 1)
            clear hm hx ha hb
            go_simp
            refine hK.out _ _ k7 (fun hHeld => ?_)
            clear hK K
            (try simp only [Act.put, List.setIfInBounds_toArray, List.set_cons_zero, List.set_cons_succ])
            refine wpAnyH_ready (rs := [5]) (by kernel_rfl) (by simp) ?_
            refine AllReadyH.cons (o := ⟨some 9, _, _, _, _, _⟩) rfl (fun K hK => ?_) AllReadyH.nil
            rw [if_pos (by rfl)]
            have k8 := HX7.out.alloc (.cells wz 30)
            have k9 := And.intro (k8.cell 0) (k8.cell 1)
            go_simp
            refine hK.out _ _ k9 (fun hHeld => ?_)
            clear hK K
            (try simp only [Act.put, List.setIfInBounds_toArray, List.set_cons_zero, List.set_cons_succ])
            refine wpAnyH_ready (rs := [6]) (by kernel_rfl) (by simp) ?_
            refine AllReadyH.cons (o := ⟨none, _, _, _, _, _⟩) rfl (fun K hK => ?_) AllReadyH.nil
            rw [if_pos (by rfl)]
            have HXQ := hid (HX7.out.alloc (.cells #[.slice A7 ln c7, .int .i64 vi, .bool gn, .bool was, .int .i64 er] 30))
            have kq := And.intro (HXQ.out.cell 0) (HXQ.out.cell 1)
            go_simp
            refine hK.out _ _ kq (fun hHeld => ?_)
            clear hK K
            (try simp only [Act.put, List.setIfInBounds_toArray, List.set_cons_zero, List.set_cons_succ])
            refine wpAnyH_done (by kernel_rfl) ?_ _
            refine NoPanic.normal ?_
            go_wp2_with fail
            go_meet
            exact ⟨w7.heap.size, A7, c7, rfl, Bx.new w7 _ _, HM7.out.below (below_alloc _ _), HXQ.out, HM7.out.fresh⟩
          · rw [if_pos (by rfl)]
            go_simp
            refine hK.out _ _ kal.out (fun hHeld => ?_)
            clear hK K
            (try simp only [Act.put, List.setIfInBounds_toArray, List.set_cons_zero, List.set_cons_succ])
            refine wpAnyH_ready (rs := [4]) (by kernel_rfl) (by simp) ?_
            refine AllReadyH.cons (o := ⟨some 38, _, _, _, _, _⟩) rfl (fun K hK => ?_) AllReadyH.nil
            rw [if_pos (by rfl)]
            go_simp
            refine (HDO.out (W.alloc (.cells wz 30)).drew (below_draws (below_alloc _ _) 1)).mono ?_
            rintro e w7 ⟨A7, c7, rfl, hm, hx, ha, hb⟩
            have HM7 := hid hm
            have HX7 := hid hx
            have HZ7 := hid (((Bx.new W 30 wz).draws 1).next hb)
            have HNE := hid (show W.heap.size ≠ g ∧ W.heap.size ≠ k ∧ (∀ ad, A7 = some ad → ad.block ≠ W.heap.size) ∧ w.heap.size ≤ W.heap.size from HNE0.out _ (fun ad e => by have := ha ad e; simp at this; omega))
            have z0 := HZ7.out.cell 0
            have z1 := HZ7.out.cell 1
            have z2 := HZ7.out.cell 2
            have z3 := HZ7.out.cell 3
            have z4 := HZ7.out.cell 4
            have zf := HZ7.out.free
            have k7 := And.intro (HX7.out.cell 0) (HX7.out.cell 1)
            clear hm hx ha hb
            go_simp
            refine hK.out _ _ k7 (fun hHeld => ?_)
            clear hK K
            (try simp only [Act.put, List.setIfInBounds_toArray, List.set_cons_zero, List.set_cons_succ])
            refine wpAnyH_ready (rs := [6]) (by kernel_rfl) (by simp) ?_
            refine AllReadyH.cons (o := ⟨none, _, _, _, _, _⟩) rfl (fun K hK => ?_) AllReadyH.nil
            rw [if_pos (by rfl)]
            have HXQ := hid (show Bx (((((w7.setCell ⟨W.heap.size, 0, none⟩ (.slice A7 ln c7)).setCell ⟨W.heap.size, 1, none⟩ (.int .i64 vi)).setCell ⟨W.heap.size, 2, none⟩ (.bool gn)).setCell ⟨W.heap.size, 3, none⟩ (.bool was)).setCell ⟨W.heap.size, 4, none⟩ (.int .i64 er)) q 28 #[.int .i64 κ, .int .i64 b] from (((((HX7.out.far ⟨W.heap.size, 0, none⟩ (.slice A7 ln c7) HQR.out).far ⟨W.heap.size, 1, none⟩ (.int .i64 vi) HQR.out).far ⟨W.heap.size, 2, none⟩ (.bool gn) HQR.out).far ⟨W.heap.size, 3, none⟩ (.bool was) HQR.out).far ⟨W.heap.size, 4, none⟩ (.int .i64 er) HQR.out))
            have kq := And.intro (HXQ.out.cell 0) (HXQ.out.cell 1)
            go_simp
            refine hK.out _ _ kq (fun hHeld => ?_)
            clear hK K
            (try simp only [Act.put, List.setIfInBounds_toArray, List.set_cons_zero, List.set_cons_succ])
            refine wpAnyH_done (by kernel_rfl) ?_ _
            refine NoPanic.normal ?_
            go_wp2_with fail
            go_meet
            exact ⟨W.heap.size, A7, c7, rfl, (((((HZ7.out.set 0 (.slice A7 ln c7)).set 1 (.int .i64 vi)).set 2 (.bool gn)).set 3 (.bool was)).set 4 (.int .i64 er)), (((((HM7.out.set 0 (.slice A7 ln c7) HNE.out).set 1 (.int .i64 vi) HNE.out).set 2 (.bool gn) HNE.out).set 3 (.bool was) HNE.out).set 4 (.int .i64 er) HNE.out), HXQ.out, HNE.out.2.1⟩
        · rw [if_pos (by rfl)]
          go_simp
          refine hK.out _ _ kal.out (fun hHeld => ?_)
          clear hK K
          (try simp only [Act.put, List.setIfInBounds_toArray, List.set_cons_zero, List.set_cons_succ])
          refine wpAnyH_ready (rs := [2]) (by kernel_rfl) (by simp) ?_
          refine AllReadyH.cons (o := ⟨some 36, _, _, _, _, _⟩) rfl (fun K hK => ?_) AllReadyH.nil
          rw [if_pos (by rfl)]
          go_simp
          refine (HRC.out _).mono ?_
          rintro e w6 ⟨rfl, rfl⟩
          go_simp
          refine hK.out _ _ hHeld (fun hHeld => ?_)
          clear hK K
          (try simp only [Act.put, List.setIfInBounds_toArray, List.set_cons_zero, List.set_cons_succ])
          refine wpAnyH_ready (rs := [4]) (by kernel_rfl) (by simp) ?_
          refine AllReadyH.cons (o := ⟨some 38, _, _, _, _, _⟩) rfl (fun K hK => ?_) AllReadyH.nil
          rw [if_pos (by rfl)]
          go_simp
          refine (HDO.out (W.alloc (.cells wz 30)).drew (below_draws (below_alloc _ _) 1)).mono ?_
          rintro e w7 ⟨A7, c7, rfl, hm, hx, ha, hb⟩
          have HM7 := hid hm
          have HX7 := hid hx
          have HZ7 := hid (((Bx.new W 30 wz).draws 1).next hb)
          have HNE := hid (show W.heap.size ≠ g ∧ W.heap.size ≠ k ∧ (∀ ad, A7 = some ad → ad.block ≠ W.heap.size) ∧ w.heap.size ≤ W.heap.size from HNE0.out _ (fun ad e => by have := ha ad e; simp at this; omega))
          have z0 := HZ7.out.cell 0
          have z1 := HZ7.out.cell 1
          have z2 := HZ7.out.cell 2
          have z3 := HZ7.out.cell 3
          have z4 := HZ7.out.cell 4
          have zf := HZ7.out.free
          have k7 := And.intro (HX7.out.cell 0) (HX7.out.cell 1)
          clear hm hx ha hb
          go_simp
          refine hK.out _ _ k7 (fun hHeld => ?_)
          clear hK K
          (try simp only [Act.put, List.setIfInBounds_toArray, List.set_cons_zero, List.set_cons_succ])
          refine wpAnyH_ready (rs := [6]) (by kernel_rfl) (by simp) ?_
          refine AllReadyH.cons (o := ⟨none, _, _, _, _, _⟩) rfl (fun K hK => ?_) AllReadyH.nil
          rw [if_pos (by rfl)]
          have HXQ := hid (show Bx (((((w7.setCell ⟨W.heap.size, 0, none⟩ (.slice A7 ln c7)).setCell ⟨W.heap.size, 1, none⟩ (.int .i64 vi)).setCell ⟨W.heap.size, 2, none⟩ (.bool gn)).setCell ⟨W.heap.size, 3, none⟩ (.bool was)).setCell ⟨W.heap.size, 4, none⟩ (.int .i64 er)) q 28 #[.int .i64 κ, .int .i64 b] from (((((HX7.out.far ⟨W.heap.size, 0, none⟩ (.slice A7 ln c7) HQR.out).far ⟨W.heap.size, 1, none⟩ (.int .i64 vi) HQR.out).far ⟨W.heap.size, 2, none⟩ (.bool gn) HQR.out).far ⟨W.heap.size, 3, none⟩ (.bool was) HQR.out).far ⟨W.heap.size, 4, none⟩ (.int .i64 er) HQR.out))
          have kq := And.intro (HXQ.out.cell 0) (HXQ.out.cell 1)
          go_simp
          refine hK.out _ _ kq (fun hHeld => ?_)
          clear hK K
          (try simp only [Act.put, List.setIfInBounds_toArray, List.set_cons_zero, List.set_cons_succ])
          refine wpAnyH_done (by kernel_rfl) ?_ _
          refine NoPanic.normal ?_
          go_wp2_with fail
          go_meet
          exact ⟨W.heap.size, A7, c7, rfl, (((((HZ7.out.set 0 (.slice A7 ln c7)).set 1 (.int .i64 vi)).set 2 (.bool gn)).set 3 (.bool was)).set 4 (.int .i64 er)), (((((HM7.out.set 0 (.slice A7 ln c7) HNE.out).set 1 (.int .i64 vi) HNE.out).set 2 (.bool gn) HNE.out).set 3 (.bool was) HNE.out).set 4 (.int .i64 er) HNE.out), HXQ.out, HNE.out.2.1⟩
        -- till here
      case rest =>
      -- kinds
      obtain ⟨r, A7, c7, rfl, hz, hm, hx, hrk⟩ := hcut
      have HZ := hid hz
      have HM := hid hm
      have HX := hid hx
      have HRK := hid hrk
      clear hz hm hx hrk y0 y1 HTW HXW HT
      have h3 : κ = 0 ∨ κ = 1 ∨ κ = 2 := by have := HKK.out; omega
      clear HKK HDO d1 d2
      rcases h3 with rfl | rfl | rfl
      · have e1 : dL C 0 b L = useL b L := by unfold dL; rw [if_neg (by omega), if_pos rfl]
        have HU := hid (fun (y : World) (h : Lq y g k C L) => lru_use h b)
        rw [← e1, HEQ.out.1, HEQ.out.2.2.2.1] at HU
        clear e1
        have z3 := HZ.out.cell 3
        have z0 := HZ.out.cell 0
        have y0 := HX.out.cell 0
        have y1 := HX.out.cell 1
        have HMD := hid (show Tm w wc.drew g k C L A7 c7 L' from HM.out.draws 1)
        have HXD0 := hid (show Bx wc.drew q 28 #[.int .i64 0, .int .i64 b] from HX.out)
        have HZD0 := hid (show Bx wc.drew r 30 #[.slice A7 ln c7, .int .i64 vi, .bool gn, .bool was, .int .i64 er] from HZ.out)
        go_upto_region 15 with fail
        go_region_held3 (fun w' => w'.cell? ⟨q, 1, none⟩ = some (.int .i64 b) ∧ w'.cell? ⟨r, 3, none⟩ = some (.bool was)) (first | exact kp | exact ⟨y1, z3⟩) (first
          | (go_at_call 12; (refine (HU.out _ HMD.out.a.q).mono ?_); rintro e w9 ⟨rfl, hq, hc⟩; have HTA := hid (HMD.out.step hq hc HLE.out); have HXA := hid (hc.bx HXD0.out (fun e => by have := HKQ.out; omega)); have HZA := hid (hc.bx HZD0.out HRK.out); have kp := And.intro (HXA.out.cell 1) (HZA.out.cell 3); clear hq hc))
        clear kp y0 y1 z0 z3
        have y1 : w9.cell? ⟨q, 1, none⟩ = some (.int .i64 b) := HXA.out.cell 1
        have HTD := hid (show Ta w w9.drew g k C A7 c7 L' from HTA.out.draws 1)
        have HXD := hid (show Bx w9.drew q 28 #[.int .i64 0, .int .i64 b] from HXA.out)
        have lnn : ((ln : Int) != (ln : Int)) = false := by simp
        have hl64 : ln ≤ 64 := by have := HLE.out; have := HC1.out; have := HLN.out; omega
        go_upto_region 24 with fail
        go_region_held3 (fun w' => w'.cell? ⟨q, 1, none⟩ = some (.int .i64 b)) (first | exact kp | exact y1) (first
          | (go_at_call 16; (refine (lru_all HTD.out.a.q).mono ?_); rintro e w10 ⟨A9, c9, rfl, ho, hg⟩; have HR9 := hid (rw_told ho hg); have HTE := hid (HTD.out.below hg.nilBelow); have HXE := hid (HXD.out.next hg.nilBelow); rw [HLN.out]; have kp := HXE.out.cell 1; clear ho hg)
          | (go_at_call 15; (refine (sameints_yes A9 A7 ln ln _ _ L' _ _ _ HLN.out HLN.out (by unfold maxLen; omega) HR9.out.1.rd HTE.out.r.rd).mono ?_); rintro e w11 ⟨rfl, d, rfl⟩; have HTF := hid (HTE.out.draws d); have HXF := hid (HXE.out.draws d); have kp := HXF.out.cell 1)
          | (go_at_call 17; (refine (lru_len HTF.out.a.q).mono ?_); rintro e w12 ⟨rfl, hb⟩; have HTG := hid (HTF.out.below hb); have HXG := hid (HXF.out.next hb); rw [HLN.out]; have kp := HXG.out.cell 1; clear hb)
          | (go_at_call 18; (refine (lru_has HTG.out.a.q b).mono ?_); rintro e w13 ⟨rfl, rfl⟩)
          | (go_at_call 19; (refine (rhas_any A7 ln _ L' b _ _ HLN.out (by unfold maxLen; omega) HTG.out.r.rd).mono ?_); rintro e w14 ⟨rfl, rfl⟩))
        all_goals
          go_wp2_with fail
          go_roundg (gk - 1)
          case measure => omega
          case rel => exact ⟨p + 1, by omega, by go_num, A7, c7, L', by rw [HLN.out], HTG.out⟩
      · have e1 : dL C 1 b L = addL C b L := by unfold dL; rw [if_neg (by omega), if_neg (by omega)]
        have e2 : dV C 1 b L = vict C b L := if_pos rfl
        have e3 : dG C 1 b L = decide (goes C b L) := decide_eq_decide.2 ⟨fun h => h.2, fun h => ⟨rfl, h⟩⟩
        have e4 : dE 1 b = addE b := if_pos rfl
        have HU := hid (lru_add HM.out.a.q b)
        rw [← e1, ← e2, ← e3, ← e4, HEQ.out.1, HEQ.out.2.1, HEQ.out.2.2.1, HEQ.out.2.2.2.2] at HU
        clear e1 e2 e3 e4
        have z0 := HZ.out.cell 0
        have y0 := HX.out.cell 0
        have y1 := HX.out.cell 1
        have vnn : (vi != vi) = false := by simp
        have enn : (er != er) = false := by simp
        have gnn : (gn != gn) = false := by simp
        go_upto_region 19 with (go_at_call 13; (refine HU.out.mono ?_); rintro e w9 ⟨rfl, hq, hc⟩; have HTA := hid (HM.out.step hq hc HLE.out); have HXA := hid (hc.bx HX.out (fun e => by have := HKQ.out; omega)); have HZA := hid (hc.bx HZ.out HRK.out); have z1 := HZA.out.cell 1; have z2 := HZA.out.cell 2; have z4 := HZA.out.cell 4; clear hq hc)
        clear y0 y1 z0
        go_upto_region 24 with fail
        clear z1 z2 z4
        have y1 : w9.cell? ⟨q, 1, none⟩ = some (.int .i64 b) := HXA.out.cell 1
        have HTD := hid (show Ta w w9.drew g k C A7 c7 L' from HTA.out.draws 1)
        have HXD := hid (show Bx w9.drew q 28 #[.int .i64 1, .int .i64 b] from HXA.out)
        have lnn : ((ln : Int) != (ln : Int)) = false := by simp
        have hl64 : ln ≤ 64 := by have := HLE.out; have := HC1.out; have := HLN.out; omega
        go_region_held3 (fun w' => w'.cell? ⟨q, 1, none⟩ = some (.int .i64 b)) (first | exact kp | exact y1) (first
          | (go_at_call 16; (refine (lru_all HTD.out.a.q).mono ?_); rintro e w10 ⟨A9, c9, rfl, ho, hg⟩; have HR9 := hid (rw_told ho hg); have HTE := hid (HTD.out.below hg.nilBelow); have HXE := hid (HXD.out.next hg.nilBelow); rw [HLN.out]; have kp := HXE.out.cell 1; clear ho hg)
          | (go_at_call 15; (refine (sameints_yes A9 A7 ln ln _ _ L' _ _ _ HLN.out HLN.out (by unfold maxLen; omega) HR9.out.1.rd HTE.out.r.rd).mono ?_); rintro e w11 ⟨rfl, d, rfl⟩; have HTF := hid (HTE.out.draws d); have HXF := hid (HXE.out.draws d); have kp := HXF.out.cell 1)
          | (go_at_call 17; (refine (lru_len HTF.out.a.q).mono ?_); rintro e w12 ⟨rfl, hb⟩; have HTG := hid (HTF.out.below hb); have HXG := hid (HXF.out.next hb); rw [HLN.out]; have kp := HXG.out.cell 1; clear hb)
          | (go_at_call 18; (refine (lru_has HTG.out.a.q b).mono ?_); rintro e w13 ⟨rfl, rfl⟩)
          | (go_at_call 19; (refine (rhas_any A7 ln _ L' b _ _ HLN.out (by unfold maxLen; omega) HTG.out.r.rd).mono ?_); rintro e w14 ⟨rfl, rfl⟩))
        all_goals
          go_wp2_with fail
          go_roundg (gk - 1)
          case measure => omega
          case rel => exact ⟨p + 1, by omega, by go_num, A7, c7, L', by rw [HLN.out], HTG.out⟩
      · have e1 : dL C 2 b L = wo b L := if_pos rfl
        have HU := hid (fun (y : World) (h : Lq y g k C L) => lru_remove h b)
        rw [← e1, HEQ.out.1, HEQ.out.2.2.2.1] at HU
        clear e1
        have z3 := HZ.out.cell 3
        have z0 := HZ.out.cell 0
        have y0 := HX.out.cell 0
        have y1 := HX.out.cell 1
        have HMD := hid (show Tm w wc.drew g k C L A7 c7 L' from HM.out.draws 1)
        have HXD0 := hid (show Bx wc.drew q 28 #[.int .i64 2, .int .i64 b] from HX.out)
        have HZD0 := hid (show Bx wc.drew r 30 #[.slice A7 ln c7, .int .i64 vi, .bool gn, .bool was, .int .i64 er] from HZ.out)
        go_upto_region 22 with fail
        go_region_held3 (fun w' => w'.cell? ⟨q, 1, none⟩ = some (.int .i64 b) ∧ w'.cell? ⟨r, 3, none⟩ = some (.bool was)) (first | exact kp | exact ⟨y1, z3⟩) (first
          | (go_at_call 14; (refine (HU.out _ HMD.out.a.q).mono ?_); rintro e w9 ⟨rfl, hq, hc⟩; have HTA := hid (HMD.out.step hq hc HLE.out); have HXA := hid (hc.bx HXD0.out (fun e => by have := HKQ.out; omega)); have HZA := hid (hc.bx HZD0.out HRK.out); have kp := And.intro (HXA.out.cell 1) (HZA.out.cell 3); clear hq hc))
        clear kp y0 y1 z0 z3
        have y1 : w9.cell? ⟨q, 1, none⟩ = some (.int .i64 b) := HXA.out.cell 1
        have HTD := hid (show Ta w w9.drew g k C A7 c7 L' from HTA.out.draws 1)
        have HXD := hid (show Bx w9.drew q 28 #[.int .i64 2, .int .i64 b] from HXA.out)
        have lnn : ((ln : Int) != (ln : Int)) = false := by simp
        have hl64 : ln ≤ 64 := by have := HLE.out; have := HC1.out; have := HLN.out; omega
        go_upto_region 24 with fail
        go_region_held3 (fun w' => w'.cell? ⟨q, 1, none⟩ = some (.int .i64 b)) (first | exact kp | exact y1) (first
          | (go_at_call 16; (refine (lru_all HTD.out.a.q).mono ?_); rintro e w10 ⟨A9, c9, rfl, ho, hg⟩; have HR9 := hid (rw_told ho hg); have HTE := hid (HTD.out.below hg.nilBelow); have HXE := hid (HXD.out.next hg.nilBelow); rw [HLN.out]; have kp := HXE.out.cell 1; clear ho hg)
          | (go_at_call 15; (refine (sameints_yes A9 A7 ln ln _ _ L' _ _ _ HLN.out HLN.out (by unfold maxLen; omega) HR9.out.1.rd HTE.out.r.rd).mono ?_); rintro e w11 ⟨rfl, d, rfl⟩; have HTF := hid (HTE.out.draws d); have HXF := hid (HXE.out.draws d); have kp := HXF.out.cell 1)
          | (go_at_call 17; (refine (lru_len HTF.out.a.q).mono ?_); rintro e w12 ⟨rfl, hb⟩; have HTG := hid (HTF.out.below hb); have HXG := hid (HXF.out.next hb); rw [HLN.out]; have kp := HXG.out.cell 1; clear hb)
          | (go_at_call 18; (refine (lru_has HTG.out.a.q b).mono ?_); rintro e w13 ⟨rfl, rfl⟩)
          | (go_at_call 19; (refine (rhas_any A7 ln _ L' b _ _ HLN.out (by unfold maxLen; omega) HTG.out.r.rd).mono ?_); rintro e w14 ⟨rfl, rfl⟩))
        all_goals
          go_wp2_with fail
          go_roundg (gk - 1)
          case measure => omega
          case rel => exact ⟨p + 1, by omega, by go_num, A7, c7, L', by rw [HLN.out], HTG.out⟩
      -- till there
    · obtain rfl : p = n := by omega
      clear hlt hp
      go_wp2
      go_ret
      exact ⟨rfl, HT.out.a.bel⟩
end Go.Proofs.Ytmkdamkahjiccaa
