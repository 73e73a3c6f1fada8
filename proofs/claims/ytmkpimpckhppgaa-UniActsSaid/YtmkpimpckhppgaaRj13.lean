/-
  What is proved: the reference's Drop, Right, New and SameMoves. Condition: the stack, the moves lie in memory as such.
-/
import Derived.Test.YtmkpimpckhppgaaRi13
namespace Go.Proofs.Ytmkpimpckhppgaa
open Go.RowKit

section
variable {w : World} {X : Nat → Prop} {h : Nat} {A E : Option Addr} {cp ce : Nat} {c : Nat → Nat} {s : Us}
theorem its_row {b : Nat} {v : Value} {L : List Int} {u : Int → Int} (hi : Its w b v L u) : ∃ A cp, v = .slice A L.length cp ∧ Rv w w.heap.size A (itc L u) ∧ (L.length ≤ cp ∧ cp ≤ maxLen) ∧ ∀ ad, A = some ad → b ≤ ad.block := by
  obtain ⟨A, cp, e, hr, h1, h2⟩ := OwnV.read hi
  exact ⟨A, cp, e, hr, ⟨h1, h2⟩, fun ad ea => (World.ownsRow.lt hi ad.block (by rw [e, ea]; rfl)).1⟩
set_option maxHeartbeats 1000000 in
theorem r_drop (u : Ur w X h A cp E ce c s) (ok : Oku s) (b : Int) : Calls Try.prog 13 #[.pointer (some ⟨h, 0, none⟩), .int .i64 b] w fun e w' =>
    e = .returned (.bool (decide (b ∈ s.L))) ∧ ∃ A' cp', Ur w' X h A' cp' E ce c (s.dr b) ∧ Chg w w' (· = h) (· = h) := by
  have HU := hid u
  have HPL := hid (r_place u ok b)
  have HW := hid (r_without u ok b)
  by_cases hb : b ∈ s.L
  · have HOK := hid (ok.fg b)
    rw [decide_eq_true hb, show s.dr b = (s.fg b).trm from by unfold Us.dr; rw [if_pos hb]]
    have e1 : plc s b = (px b s.L : Int) := by unfold plc; rw [if_pos hb]
    rw [e1] at HPL HW
    generalize px b s.L = p at *
    have hp0 : ¬ (p : Int) < 0 := by omega
    have c0 := u.c0
    have f0 := u.free
    have HIC := hid (show itc (wo b s.L) s.v = itc (s.fg b).L (s.fg b).v from (itc_congr fun x hx => upd_ne _ _ (mem_wo.1 hx).2).symm)
    clear u ok hb e1
    go_enter Try.func13, Try.ntmps13
    go_upto_region 5 with (first
      | (go_at_call 18; refine HPL.out.mono ?_; rintro e w' ⟨rfl, rfl⟩)
      | (go_at_call 26; refine HW.out.mono ?_; rintro e w1 ⟨v, rfl, hi, hb⟩; obtain ⟨A1, c1, rfl, hr, hc, hn⟩ := its_row hi; have HU1 := hid (HU.out.below hb); have HB1 := hid hb; have HR1 := hid hr; have HC1 := hid hc; have HN1 := hid hn; have x0 := HU1.out.c0; have xf := HU1.out.free; clear hi hb hr hc hn))
    have HU2 := hid (show Ur (w1.setCell ⟨h, 0, none⟩ (.slice A1 (wo b s.L).length c1)) X h A1 c1 E ce c (s.fg b) from HU1.out.put (s' := s.fg b) (by rw [← HIC.out]; exact HR1.out) HC1.out (fun ad e => by
      have h1 := HN1.out ad e
      exact ⟨by have := HU.out.box.lt; omega, fun hx => by have := HU.out.xlt _ hx; omega⟩))
    have HC2 := hid (show Chg w (w1.setCell ⟨h, 0, none⟩ (.slice A1 (wo b s.L).length c1)) (· = h) (· = h) from chg_set (Chg.of HB1.out _) 0 _)
    clear x0 xf c0 f0
    generalize w1.setCell ⟨h, 0, none⟩ (.slice A1 (wo b s.L).length c1) = w2 at *
    go_wp2_with (go_at_call 27; refine (r_prune HU2.out HOK.out).mono ?_; rintro e w3 ⟨rfl, hu, hc⟩; have HU3 := hid hu; have HC3 := hid (HC2.out.trans hc); clear hu hc)
    go_ret
    exact ⟨rfl, _, _, HU3.out, HC3.out⟩
  · rw [decide_eq_false hb, show s.dr b = s from by unfold Us.dr; rw [if_neg hb]]
    rw [show plc s b = -1 from by unfold plc; rw [if_neg hb]] at HPL
    clear u ok hb HW
    go_enter Try.func13, Try.ntmps13
    go_wp2_with (go_at_call 18; refine HPL.out.mono ?_; rintro e w' ⟨rfl, rfl⟩)
    go_ret
    exact ⟨rfl, _, _, HU.out, Chg.refl _ _⟩
end
set_option maxRecDepth 10000 in
set_option maxHeartbeats 1000000 in
theorem r_right (x y z : Int) (w : World) : Calls Try.prog 10 #[.agg #[.int .i64 x, .int .i64 y, .int .i64 z]] w fun e w' => e = .returned (.bool (decide (capR [x, y, z]))) ∧ Below w.heap.size w w' := by
  have HX := hid (Bx.new w 22 #[.int .i64 x, .int .i64 y, .int .i64 z])
  have HB := hid (below_alloc w (.cells #[.int .i64 x, .int .i64 y, .int .i64 z] 22))
  obtain ⟨q, hq⟩ : ∃ q, w.heap.size = q := ⟨_, rfl⟩
  rw [hq] at HX
  have HQ := hid hq
  clear hq
  obtain ⟨t, ht⟩ : ∃ t, decide (capR [x, y, z]) = t := ⟨_, rfl⟩
  rw [ht]
  have HT := hid ht
  clear ht
  go_enter Try.func10, Try.ntmps10
  go_upto_region 1 with fail
  rw [HQ.out]
  generalize w.alloc (.cells #[.int .i64 x, .int .i64 y, .int .i64 z] 22) = w1 at *
  go_wp2
  go_loopg [3] 3 (fun gk t7 wr => ∃ j : Nat, j + gk = 3 ∧ t7 = .int .i64 j ∧ (∀ q, q < j → 1 ≤ [x, y, z].getD q 0 ∧ [x, y, z].getD q 0 ≤ 16) ∧ wr = w1)
  case atStart => exact ⟨0, by omega, rfl, fun q hq => by omega, rfl⟩
  case round =>
    obtain ⟨j, hj, rfl, hall, rfl⟩ := hrel
    have HALL := hid hall
    clear hall
    by_cases hlt : j < 3
    · have hjl : (j : Int) < 3 := by omega
      have hcj : wr.cell? ⟨q, j, none⟩ = some (.int .i64 ([x, y, z].getD j 0)) := by
        have h3 : j = 0 ∨ j = 1 ∨ j = 2 := by omega
        rcases h3 with rfl | rfl | rfl
        · exact HX.out.cell 0
        · exact HX.out.cell 1
        · exact HX.out.cell 2
      have HMEM := hid (show [x, y, z].getD j 0 ∈ [x, y, z] from by
        rw [List.getD_eq_getElem?_getD, List.getElem?_eq_getElem (by simpa using hlt)]
        exact List.getElem_mem _)
      have HCR := hid (show (1 ≤ [x, y, z].getD j 0 ∧ [x, y, z].getD j 0 ≤ 16) → ∀ q, q < j + 1 → 1 ≤ [x, y, z].getD q 0 ∧ [x, y, z].getD q 0 ≤ 16 from fun h q hq => by
        by_cases e : q = j
        · rw [e]; exact h
        · exact HALL.out q (by omega))
      have HNO := hid (show ¬ (1 ≤ [x, y, z].getD j 0 ∧ [x, y, z].getD j 0 ≤ 16) → t = false from fun h => by rw [← HT.out]; exact decide_eq_false fun e => h (e _ HMEM.out))
      clear HMEM
      generalize [x, y, z].getD j 0 = u at *
      by_cases h1 : u < 1
      · have HN := hid (HNO.out (by omega))
        clear HCR HNO
        go_wp2
        go_ret
        exact ⟨by rw [HN.out]; rfl, HB.out⟩
      · by_cases h16 : 16 < u
        · have HN := hid (HNO.out (by omega))
          clear HCR HNO
          go_wp2
          go_ret
          exact ⟨by rw [HN.out]; rfl, HB.out⟩
        · have HN2 := hid (HCR.out ⟨by omega, by omega⟩)
          clear HCR HNO
          go_wp2
          go_roundg (gk - 1)
          case measure => omega
          case rel => exact ⟨j + 1, by omega, by go_num, HN2.out, rfl⟩
    · obtain rfl : j = 3 := by omega
      have h0 : 1 ≤ x ∧ x ≤ 16 := HALL.out 0 (by omega)
      have h1 : 1 ≤ y ∧ y ≤ 16 := HALL.out 1 (by omega)
      have h2 : 1 ≤ z ∧ z ≤ 16 := HALL.out 2 (by omega)
      have hR : t = true := by
        rw [← HT.out]
        refine decide_eq_true fun u hu => ?_
        simp only [List.mem_cons, List.not_mem_nil, or_false] at hu
        rcases hu with rfl | rfl | rfl
        · exact h0
        · exact h1
        · exact h2
      have HR := hid hR
      clear hR
      go_wp2
      go_ret
      exact ⟨by rw [HR.out]; rfl, HB.out⟩
/-- a stack that the reference's New has made -/
def RNew (w : World) (X : Nat → Prop) (c : Nat → Nat) (e : Ending) (w' : World) : Prop :=
  ∃ h E ce, e = .returned (.pointer (some ⟨h, 0, none⟩)) ∧ Ur w' X h none 0 E ce c ⟨[], fun _ => 0⟩ ∧ Below w.heap.size w w' ∧ w.heap.size ≤ h
set_option maxRecDepth 10000 in
set_option maxHeartbeats 2000000 in
theorem r_new (x y z : Int) (c : Nat → Nat) (X : Nat → Prop) (w : World) (hx : ∀ j, X j → j < w.heap.size) (hc : (c 1 : Int) = x ∧ (c 2 : Int) = y ∧ (c 3 : Int) = z) : Calls Try.prog 11 #[.agg #[.int .i64 x, .int .i64 y, .int .i64 z]] w (RNew w X c) := by
  have HX := hid (Bx.new w 22 #[.int .i64 x, .int .i64 y, .int .i64 z])
  have HB := hid (below_alloc w (.cells #[.int .i64 x, .int .i64 y, .int .i64 z] 22))
  obtain ⟨q, hq⟩ : ∃ q, w.heap.size = q := ⟨_, rfl⟩
  rw [hq] at HX
  have HQ := hid hq
  have HXL := hid hx
  have HCC := hid hc
  clear hq hx hc
  go_enter Try.func11, Try.ntmps11
  go_upto_region 1 with fail
  rw [HQ.out]
  have hsz : (w.alloc (.cells #[.int .i64 x, .int .i64 y, .int .i64 z] 22)).heap.size = w.heap.size + 1 := World.size_alloc _ _
  generalize w.alloc (.cells #[.int .i64 x, .int .i64 y, .int .i64 z] 22) = w1 at *
  have HSZ := hid hsz
  clear hsz
  go_upto_region 2 with fail
  obtain ⟨h, hh⟩ : ∃ h, w1.heap.size = h := ⟨_, rfl⟩
  have HH2 := hid (show Bx (w1.alloc (.cells #[.slice none 0 0, .slice none 0 0] 60)) h 60 #[.slice none 0 0, .slice none 0 0] from by rw [← hh]; exact Bx.new _ _ _)
  have HX2 := hid (HX.out.alloc (.cells #[.slice none 0 0, .slice none 0 0] 60))
  have HB2 := hid (on HB.out (below_alloc w1 (.cells #[.slice none 0 0, .slice none 0 0] 60)))
  have HQH := hid (show (⟨h, 1, none⟩ : Addr).block ≠ q from fun e => by have h1 := HX.out.lt; have h2 : h = q := e; omega)
  have HHB := hid (show w.heap.size ≤ (⟨h, 1, none⟩ : Addr).block from by show w.heap.size ≤ h; have := HSZ.out; omega)
  rw [hh]
  generalize w1.alloc (.cells #[.slice none 0 0, .slice none 0 0] 60) = w2 at *
  obtain ⟨c0, c1, c2⟩ := HX2.out.all3
  have h1 : w2.cell? ⟨h, 1, none⟩ = some (.slice none 0 0) := HH2.out.cell 1
  clear HX HB HSZ hh
  go_cut [] from 6 to 20 (fun wx => ∃ ge ce, Bx wx h 60 #[.slice none 0 0, .slice (some ⟨ge, 0, none⟩) 4 ce] ∧ OwnV wx w.heap.size 3 1 (.slice (some ⟨ge, 0, none⟩) 4 ce) 4 [.int .i64 0, .int .i64 x, .int .i64 y, .int .i64 z] ∧ Below w.heap.size w wx ∧ ge ≠ h)
  case first =>
    have HXD := hid (show Bx w2.drew q 22 #[.int .i64 x, .int .i64 y, .int .i64 z] from HX2.out)
    have HHD := hid (show Bx w2.drew h 60 #[.slice none 0 0, .slice none 0 0] from HH2.out)
    have HBD := hid (show Below w.heap.size w w2.drew from below_draws HB2.out 1)
    refine wp_region_noPanic ?_
    refine wp_region_held_drew (S := fun w' => w'.cell? ⟨q, 0, none⟩ = some (.int .i64 x) ∧ w'.cell? ⟨q, 1, none⟩ = some (.int .i64 y) ∧ w'.cell? ⟨q, 2, none⟩ = some (.int .i64 z)) (by kernel_rfl) ?_ (fun hHeld => ?_)
    · exact ⟨c0, c1, c2⟩
    refine wpAnyH_take (i := 0) (oi := ⟨some 6, _, _, _, _, _⟩) (v := ?_) rfl (by kernel_rfl) (by kernel_rfl) (by kernel_rfl) (fun _ _ _ h => h) (Or.inl ⟨by rfl, ?_⟩) (by assumption) ?_
    rotate_left 1
    · intro w0 hSw
      obtain ⟨s0, s1, s2⟩ := hSw
      go_simp
      try with_reducible rfl
    (try simp only [Act.put, List.setIfInBounds_toArray, List.set_cons_zero, List.set_cons_succ])
    refine wpAnyH_take (i := 1) (oi := ⟨some 7, _, _, _, _, _⟩) (v := ?_) rfl (by kernel_rfl) (by kernel_rfl) (by kernel_rfl) (fun _ _ _ h => h) (Or.inl ⟨by rfl, ?_⟩) (by assumption) ?_
    rotate_left 1
    · intro w0 hSw
      obtain ⟨s0, s1, s2⟩ := hSw
      go_simp
      try with_reducible rfl
    (try simp only [Act.put, List.setIfInBounds_toArray, List.set_cons_zero, List.set_cons_succ])
    refine wpAnyH_take (i := 2) (oi := ⟨some 8, _, _, _, _, _⟩) (v := ?_) rfl (by kernel_rfl) (by kernel_rfl) (by kernel_rfl) (fun _ _ _ h => h) (Or.inl ⟨by rfl, ?_⟩) (by assumption) ?_
    rotate_left 1
    · intro w0 hSw
      obtain ⟨s0, s1, s2⟩ := hSw
      go_simp
      try with_reducible rfl
    (try simp only [Act.put, List.setIfInBounds_toArray, List.set_cons_zero, List.set_cons_succ])
    refine wpAnyH_take (i := 3) (oi := ⟨some 9, _, _, _, _, _⟩) (v := ?_) rfl (by kernel_rfl) (by kernel_rfl) (by kernel_rfl) (fun _ _ _ h => h) (Or.inl ⟨by rfl, ?_⟩) (by assumption) ?_
    rotate_left 1
    · intro w0 hSw
      obtain ⟨s0, s1, s2⟩ := hSw
      go_simp
      try with_reducible rfl
    (try simp only [Act.put, List.setIfInBounds_toArray, List.set_cons_zero, List.set_cons_succ])
    refine wpAnyH_take (i := 5) (oi := ⟨some 11, _, _, _, _, _⟩) (v := ?_) rfl (by kernel_rfl) (by kernel_rfl) (by kernel_rfl) (fun _ _ _ h => h) (Or.inl ⟨by rfl, ?_⟩) (by assumption) ?_
    rotate_left 1
    · intro w0 hSw
      obtain ⟨s0, s1, s2⟩ := hSw
      go_simp
      try with_reducible rfl
    (try simp only [Act.put, List.setIfInBounds_toArray, List.set_cons_zero, List.set_cons_succ])
    refine wpAnyH_take (i := 6) (oi := ⟨some 12, _, _, _, _, _⟩) (v := ?_) rfl (by kernel_rfl) (by kernel_rfl) (by kernel_rfl) (fun _ _ _ h => h) (Or.inl ⟨by rfl, ?_⟩) (by assumption) ?_
    rotate_left 1
    · intro w0 hSw
      obtain ⟨s0, s1, s2⟩ := hSw
      go_simp
      try with_reducible rfl
    (try simp only [Act.put, List.setIfInBounds_toArray, List.set_cons_zero, List.set_cons_succ])
    refine wpAnyH_take (i := 7) (oi := ⟨some 13, _, _, _, _, _⟩) (v := ?_) rfl (by kernel_rfl) (by kernel_rfl) (by kernel_rfl) (fun _ _ _ h => h) (Or.inl ⟨by rfl, ?_⟩) (by assumption) ?_
    rotate_left 1
    · intro w0 hSw
      obtain ⟨s0, s1, s2⟩ := hSw
      go_simp
      try with_reducible rfl
    (try simp only [Act.put, List.setIfInBounds_toArray, List.set_cons_zero, List.set_cons_succ])
    refine wpAnyH_take (i := 8) (oi := ⟨some 14, _, _, _, _, _⟩) (v := ?_) rfl (by kernel_rfl) (by kernel_rfl) (by kernel_rfl) (fun _ _ _ h => h) (Or.inl ⟨by rfl, ?_⟩) (by assumption) ?_
    rotate_left 1
    · intro w0 hSw
      obtain ⟨s0, s1, s2⟩ := hSw
      go_simp
      try with_reducible rfl
    (try simp only [Act.put, List.setIfInBounds_toArray, List.set_cons_zero, List.set_cons_succ])
    refine wpAnyH_take (i := 9) (oi := ⟨some 15, _, _, _, _, _⟩) (v := ?_) rfl (by kernel_rfl) (by kernel_rfl) (by kernel_rfl) (fun _ _ _ h => h) (Or.inl ⟨by rfl, ?_⟩) (by assumption) ?_
    rotate_left 1
    · intro w0 hSw
      obtain ⟨s0, s1, s2⟩ := hSw
      go_simp
      try with_reducible rfl
    (try simp only [Act.put, List.setIfInBounds_toArray, List.set_cons_zero, List.set_cons_succ])
    refine wpAnyH_take (i := 10) (oi := ⟨some 16, _, _, _, _, _⟩) (v := ?_) rfl (by kernel_rfl) (by kernel_rfl) (by kernel_rfl) (fun _ _ _ h => h) (Or.inl ⟨by rfl, ?_⟩) (by assumption) ?_
    rotate_left 1
    · intro w0 hSw
      obtain ⟨s0, s1, s2⟩ := hSw
      go_simp
      try with_reducible rfl
    (try simp only [Act.put, List.setIfInBounds_toArray, List.set_cons_zero, List.set_cons_succ])
    refine wpAnyH_ready (rs := [4, 11]) (by kernel_rfl) (by simp) ?_
    refine (AllReadyH.cons (o := ⟨some 10, _, _, _, _, _⟩) rfl (fun K hK => ?_) (AllReadyH.cons (o := ⟨some 17, _, _, _, _, _⟩) rfl (fun K hK => ?_) AllReadyH.nil))
    · rw [if_pos (by rfl)]
      go_simp
      refine hK.out _ _ hHeld (fun hHeld => ?_)
      clear hK K
      (try simp only [Act.put, List.setIfInBounds_toArray, List.set_cons_zero, List.set_cons_succ])
      refine wpAnyH_ready (rs := [11]) (by kernel_rfl) (by simp) ?_
      refine AllReadyH.cons (o := ⟨some 17, _, _, _, _, _⟩) rfl (fun K hK => ?_) AllReadyH.nil
      rw [if_pos (by rfl)]
      have hmb : (w2.alloc (.cells #[.int .i64 0, .int .i64 x, .int .i64 y, .int .i64 z] 3)).cell? ⟨h, 1, none⟩ = some (.slice none 0 0) := (HH2.out.next (below_alloc _ _)).cell 1
      have HX3 := hid (HXD.out.next (below_alloc _ (.cells #[.int .i64 0, .int .i64 x, .int .i64 y, .int .i64 z] 3)))
      have HH3 := hid (HHD.out.next (below_alloc _ (.cells #[.int .i64 0, .int .i64 x, .int .i64 y, .int .i64 z] 3)))
      have HB3 := hid (on HBD.out (below_alloc _ (.cells #[.int .i64 0, .int .i64 x, .int .i64 y, .int .i64 z] 3)))
      have HR3 := hid (rv_new w2.drew 3 #[.int .i64 0, .int .i64 x, .int .i64 y, .int .i64 z])
      have kp := HX3.out.all3
      go_simp
      refine hK.out _ _ kp (fun hHeld => ?_)
      clear hK K
      (try simp only [Act.put, List.setIfInBounds_toArray, List.set_cons_zero, List.set_cons_succ])
      refine wpAnyH_ready (rs := [12]) (by kernel_rfl) (by simp) ?_
      refine AllReadyH.cons (o := ⟨some 18, _, _, _, _, _⟩) rfl (fun K hK => ?_) AllReadyH.nil
      rw [if_pos (by rfl)]
      refine wp_appV elt_int (.tmp 10) (.tmp 17) rfl w.heap.size _ 0 [] (ownV_nil _ _ _ _) rfl _ _ 4 4 [.int .i64 0, .int .i64 x, .int .i64 y, .int .i64 z] rfl rfl HR3.out (fun u hu => by simp at hu; rcases hu with rfl | rfl | rfl | rfl <;> rfl) (by unfold maxLen; omega) (by omega) HB3.out.size ?_
      intro v5 w5 ho5 hg5
      have hb5 := hg5.below (b := _) (ownV_nil _ _ 3 1) (Nat.le_refl _)
      have HX5 := hid (HX3.out.next hb5)
      have HH5 := hid (HH3.out.next hb5)
      have HB5 := hid (on HB3.out hb5)
      have HI5 := hid (show OwnV w5 w.heap.size 3 1 v5 4 [.int .i64 0, .int .i64 x, .int .i64 y, .int .i64 z] from ho5)
      obtain ⟨ge, ce, rfl, hge, hgl, -, -⟩ := ownV_place ho5 (by omega)
      have HNE := hid (show ge ≠ h from by rcases hg5.2 with e2 | e2 <;> simp [Value.ownBlock] at e2; have h1 := HH2.out.lt; omega)
      have HGE := hid hge
      have xh : w5.cell? ⟨h, 1, none⟩ = some (.slice none 0 0) := HH5.out.cell 1
      have xf := HH5.out.free 1
      have kq := HX5.out.all3
      clear ho5 hg5 hb5 hge hgl
      refine hK.out _ _ kq (fun hHeld => ?_)
      clear hK K
      (try simp only [Act.put, List.setIfInBounds_toArray, List.set_cons_zero, List.set_cons_succ])
      refine wpAnyH_take (i := 13) (oi := ⟨some 19, _, _, _, _, _⟩) (v := ?_) rfl (by kernel_rfl) (by kernel_rfl) (by kernel_rfl) (fun _ _ _ h => h) (Or.inl ⟨by rfl, ?_⟩) (by assumption) ?_
      rotate_left 1
      · intro w0 hSw
        obtain ⟨s0, s1, s2⟩ := hSw
        go_simp
        try with_reducible rfl
      (try simp only [Act.put, List.setIfInBounds_toArray, List.set_cons_zero, List.set_cons_succ])
      refine wpAnyH_take (i := 14) (oi := ⟨some 20, _, _, _, _, _⟩) (v := ?_) rfl (by kernel_rfl) (by kernel_rfl) (by kernel_rfl) (fun _ _ _ h => h) (Or.inl ⟨by rfl, ?_⟩) (by assumption) ?_
      rotate_left 1
      · intro w0 hSw
        obtain ⟨s0, s1, s2⟩ := hSw
        go_simp
        try with_reducible rfl
      (try simp only [Act.put, List.setIfInBounds_toArray, List.set_cons_zero, List.set_cons_succ])
      refine wpAnyH_ready (rs := [15]) (by kernel_rfl) (by simp) ?_
      refine AllReadyH.cons (o := ⟨none, _, _, _, _, _⟩) rfl (fun K hK => ?_) AllReadyH.nil
      rw [if_pos (by rfl)]
      have HX6 := hid (HX5.out.far ⟨h, 1, none⟩ (.slice (some ⟨ge, 0, none⟩) 4 ce) HQH.out)
      have HH6 := hid (HH5.out.set 1 (.slice (some ⟨ge, 0, none⟩) 4 ce))
      have HI6 := hid (own_heap HI5.out (fun j e _ => Below.heap_setCell w5 ⟨h, 1, none⟩ (.slice (some ⟨ge, 0, none⟩) 4 ce) j (fun e2 => by simp [Value.ownBlock] at e; subst e; exact HNE.out e2)))
      have HB6 := hid (HB5.out.setCell (p := ⟨h, 1, none⟩) HHB.out (.slice (some ⟨ge, 0, none⟩) 4 ce))
      have kr := HX6.out.all3
      go_simp
      refine hK.out _ _ kr (fun hHeld => ?_)
      clear hK K
      (try simp only [Act.put, List.setIfInBounds_toArray, List.set_cons_zero, List.set_cons_succ])
      refine wpAnyH_done (by kernel_rfl) ?_ _
      refine NoPanic.normal ?_
      go_wp2_with fail
      go_meet
      exact ⟨_, _, HH6.out, HI6.out, HB6.out, HNE.out⟩
    · rw [if_pos (by rfl)]
      have hmb : (w2.alloc (.cells #[.int .i64 0, .int .i64 x, .int .i64 y, .int .i64 z] 3)).cell? ⟨h, 1, none⟩ = some (.slice none 0 0) := (HH2.out.next (below_alloc _ _)).cell 1
      have HX3 := hid (HXD.out.next (below_alloc _ (.cells #[.int .i64 0, .int .i64 x, .int .i64 y, .int .i64 z] 3)))
      have HH3 := hid (HHD.out.next (below_alloc _ (.cells #[.int .i64 0, .int .i64 x, .int .i64 y, .int .i64 z] 3)))
      have HB3 := hid (on HBD.out (below_alloc _ (.cells #[.int .i64 0, .int .i64 x, .int .i64 y, .int .i64 z] 3)))
      have HR3 := hid (rv_new w2.drew 3 #[.int .i64 0, .int .i64 x, .int .i64 y, .int .i64 z])
      have kp := HX3.out.all3
      go_simp
      refine hK.out _ _ kp (fun hHeld => ?_)
      clear hK K
      (try simp only [Act.put, List.setIfInBounds_toArray, List.set_cons_zero, List.set_cons_succ])
      refine wpAnyH_ready (rs := [4]) (by kernel_rfl) (by simp) ?_
      refine AllReadyH.cons (o := ⟨some 10, _, _, _, _, _⟩) rfl (fun K hK => ?_) AllReadyH.nil
      rw [if_pos (by rfl)]
      go_simp
      refine hK.out _ _ hHeld (fun hHeld => ?_)
      clear hK K
      (try simp only [Act.put, List.setIfInBounds_toArray, List.set_cons_zero, List.set_cons_succ])
      refine wpAnyH_ready (rs := [12]) (by kernel_rfl) (by simp) ?_
      refine AllReadyH.cons (o := ⟨some 18, _, _, _, _, _⟩) rfl (fun K hK => ?_) AllReadyH.nil
      rw [if_pos (by rfl)]
      refine wp_appV elt_int (.tmp 10) (.tmp 17) rfl w.heap.size _ 0 [] (ownV_nil _ _ _ _) rfl _ _ 4 4 [.int .i64 0, .int .i64 x, .int .i64 y, .int .i64 z] rfl rfl HR3.out (fun u hu => by simp at hu; rcases hu with rfl | rfl | rfl | rfl <;> rfl) (by unfold maxLen; omega) (by omega) HB3.out.size ?_
      intro v5 w5 ho5 hg5
      have hb5 := hg5.below (b := _) (ownV_nil _ _ 3 1) (Nat.le_refl _)
      have HX5 := hid (HX3.out.next hb5)
      have HH5 := hid (HH3.out.next hb5)
      have HB5 := hid (on HB3.out hb5)
      have HI5 := hid (show OwnV w5 w.heap.size 3 1 v5 4 [.int .i64 0, .int .i64 x, .int .i64 y, .int .i64 z] from ho5)
      obtain ⟨ge, ce, rfl, hge, hgl, -, -⟩ := ownV_place ho5 (by omega)
      have HNE := hid (show ge ≠ h from by rcases hg5.2 with e2 | e2 <;> simp [Value.ownBlock] at e2; have h1 := HH2.out.lt; omega)
      have HGE := hid hge
      have xh : w5.cell? ⟨h, 1, none⟩ = some (.slice none 0 0) := HH5.out.cell 1
      have xf := HH5.out.free 1
      have kq := HX5.out.all3
      clear ho5 hg5 hb5 hge hgl
      refine hK.out _ _ kq (fun hHeld => ?_)
      clear hK K
      (try simp only [Act.put, List.setIfInBounds_toArray, List.set_cons_zero, List.set_cons_succ])
      refine wpAnyH_take (i := 13) (oi := ⟨some 19, _, _, _, _, _⟩) (v := ?_) rfl (by kernel_rfl) (by kernel_rfl) (by kernel_rfl) (fun _ _ _ h => h) (Or.inl ⟨by rfl, ?_⟩) (by assumption) ?_
      rotate_left 1
      · intro w0 hSw
        obtain ⟨s0, s1, s2⟩ := hSw
        go_simp
        try with_reducible rfl
      (try simp only [Act.put, List.setIfInBounds_toArray, List.set_cons_zero, List.set_cons_succ])
      refine wpAnyH_take (i := 14) (oi := ⟨some 20, _, _, _, _, _⟩) (v := ?_) rfl (by kernel_rfl) (by kernel_rfl) (by kernel_rfl) (fun _ _ _ h => h) (Or.inl ⟨by rfl, ?_⟩) (by assumption) ?_
      rotate_left 1
      · intro w0 hSw
        obtain ⟨s0, s1, s2⟩ := hSw
        go_simp
        try with_reducible rfl
      (try simp only [Act.put, List.setIfInBounds_toArray, List.set_cons_zero, List.set_cons_succ])
      refine wpAnyH_ready (rs := [15]) (by kernel_rfl) (by simp) ?_
      refine AllReadyH.cons (o := ⟨none, _, _, _, _, _⟩) rfl (fun K hK => ?_) AllReadyH.nil
      rw [if_pos (by rfl)]
      have HX6 := hid (HX5.out.far ⟨h, 1, none⟩ (.slice (some ⟨ge, 0, none⟩) 4 ce) HQH.out)
      have HH6 := hid (HH5.out.set 1 (.slice (some ⟨ge, 0, none⟩) 4 ce))
      have HI6 := hid (own_heap HI5.out (fun j e _ => Below.heap_setCell w5 ⟨h, 1, none⟩ (.slice (some ⟨ge, 0, none⟩) 4 ce) j (fun e2 => by simp [Value.ownBlock] at e; subst e; exact HNE.out e2)))
      have HB6 := hid (HB5.out.setCell (p := ⟨h, 1, none⟩) HHB.out (.slice (some ⟨ge, 0, none⟩) 4 ce))
      have kr := HX6.out.all3
      go_simp
      refine hK.out _ _ kr (fun hHeld => ?_)
      clear hK K
      (try simp only [Act.put, List.setIfInBounds_toArray, List.set_cons_zero, List.set_cons_succ])
      refine wpAnyH_done (by kernel_rfl) ?_ _
      refine NoPanic.normal ?_
      go_wp2_with fail
      go_meet
      exact ⟨_, _, HH6.out, HI6.out, HB6.out, HNE.out⟩
  case rest =>
  obtain ⟨ge, ce, g1, g2, g3, g4⟩ := hcut
  have G1 := hid g1
  have G2 := hid g2
  have G3 := hid g3
  have G4 := hid g4
  clear g1 g2 g3 g4 c0 c1 c2 h1 HH2 HX2 HB2
  generalize wc = w8 at *
  go_wp2
  go_ret
  have hlt := World.ownsRow.lt G2.out ge rfl
  obtain ⟨A, cp', e, hr, hc1, hc2⟩ := OwnV.read G2.out
  simp only [Value.slice.injEq] at e
  obtain ⟨rfl, -, rfl⟩ := e
  have hb : w.heap.size ≤ h := HHB.out
  refine ⟨h, some ⟨ge, 0, none⟩, ce, rfl, ⟨G1.out, Rv.nil _ _ _, ?_, ⟨Nat.le_refl _, by unfold maxLen; omega⟩, (fun ad e => by cases e), (fun ad e => ?_), (fun hx => by have := HXL.out h hx; omega), fun j e => Nat.lt_of_lt_of_le (HXL.out j e) G3.out.size⟩, G3.out, hb⟩
  · have e2 : ints (rcl c) = [.int .i64 0, .int .i64 x, .int .i64 y, .int .i64 z] := by
      unfold rcl ints
      simp only [List.map_cons, List.map_nil]
      rw [HCC.out.1, HCC.out.2.1, HCC.out.2.2]
    rw [e2]
    exact hr
  · injection e with e
    subst e
    exact ⟨G4.out, fun hx => by have h2 : ge < w.heap.size := HXL.out ge hx; have h3 : w.heap.size ≤ ge := hlt.1; omega⟩
/-- a move at an address -/
structure MvCells (w : World) (p : Addr) (m : Int × Nat) : Prop where
  lt : p.block < w.heap.size
  c0 : w.cell? p = some (.int .i64 m.1)
  c1 : w.cell? ⟨p.block, p.off + 1, none⟩ = some (.int .i64 (m.2 : Nat))
  c2 : w.cell? ⟨p.block, p.off + 2, none⟩ = some (.int .i64 (m.2 + 1 : Nat))
theorem mvc_cell {M : List (Int × Nat)} {j : Nat} {m : Int × Nat} (h : M[j]? = some m) (r : Nat) (hr : r < 3) : (mvc M)[j * 3 + r]? = (mvc [m])[r]? := by
  obtain ⟨hj, e⟩ := List.getElem?_eq_some_iff.1 h
  have e2 : M = M.take j ++ ([m] ++ M.drop (j + 1)) := by
    rw [← e]
    simp
  have hl : (mvc (M.take j)).length = j * 3 := by rw [mvc_len, List.length_take]; rw [Nat.min_eq_left (by omega)]
  conv => lhs; rw [e2]
  rw [mvc_app, mvc_app, List.getElem?_append_right (by rw [hl]; omega), hl, show j * 3 + r - j * 3 = r from by omega, List.getElem?_append_left (by rw [mvc_len]; show r < 1 * 3; omega)]
theorem mv_at {w : World} {B : Nat} {A : Option Addr} {M : List (Int × Nat)} (hB : B ≤ w.heap.size) (h : Rv w B A (mvc M)) {j : Nat} {m : Int × Nat} (hm : M[j]? = some m) : ∃ ad, A = some ad ∧ MvCells w (ad.add (j * 3)) m := by
  obtain ⟨ad, e, h1, h2⟩ := h (j * 3 + 0) _ (mvc_cell hm 0 (by omega))
  obtain ⟨ad1, e1, h3, h4⟩ := h (j * 3 + 1) _ (mvc_cell hm 1 (by omega))
  obtain ⟨ad2, e2, h5, h6⟩ := h (j * 3 + 2) _ (mvc_cell hm 2 (by omega))
  rw [e] at e1 e2
  injection e1 with e1
  injection e2 with e2
  subst e1 e2
  refine ⟨ad, e, by rw [addBlk]; omega, h2, ?_, ?_⟩
  · rw [addSucc ad (j * 3) 1 (by omega)] at h4; exact h4
  · rw [addSucc ad (j * 3) 2 (by omega)] at h6; exact h6
set_option maxRecDepth 10000 in
set_option maxHeartbeats 1000000 in
theorem same_moves (A B : Option Addr) (n ca cb C D : Nat) (M : List (Int × Nat)) (w : World) (hn : M.length = n) (hm : n ≤ 4) (ha : Rv w C A (mvc M)) (hb : Rv w D B (mvc M)) (hC : C ≤ w.heap.size) (hD : D ≤ w.heap.size) :
    Calls Try.prog 16 #[.slice A n ca, .slice B n cb] w fun e w' => e = .returned (.bool true) ∧ Below w.heap.size w w' := by
  have HA := hid ha
  have HB := hid hb
  have HC := hid hC
  have HD := hid hD
  have HN := hid hn
  clear ha hb hC hD hn
  go_enter Try.func16, Try.ntmps16
  go_wp2
  go_loopg [5] n (fun gk t wr => ∃ j : Nat, j + gk = n ∧ t = .int .i64 j ∧ Below w.heap.size w wr)
  case atStart => exact ⟨0, by omega, rfl, Below.refl _ _⟩
  case round =>
    obtain ⟨j, hj, rfl, hbw⟩ := hrel
    have HBW := hid hbw
    clear hbw
    by_cases hlt : j < n
    · obtain ⟨⟨my, ml⟩, hmj⟩ : ∃ m, M[j]? = some m := ⟨_, List.getElem?_eq_getElem (by rw [HN.out]; exact hlt)⟩
      obtain ⟨ad, rfl, alt, d0, d1, d2⟩ := mv_at (Nat.le_trans HC.out HBW.out.size) (HA.out.below HBW.out HC.out) hmj
      obtain ⟨bd, rfl, blt, b0, b1, b2⟩ := mv_at (Nat.le_trans HD.out HBW.out.size) (HB.out.below HBW.out HD.out) hmj
      have hjn : (j : Int) < (n : Int) := by omega
      dsimp only at d0 d1 d2 b0 b1 b2
      clear hmj
      go_upto_region 6 with fail
      go_quiet (fail)
      go_wp2
      go_roundg (gk - 1)
      case measure => omega
      case rel => exact ⟨j + 1, by omega, by go_num, below_draws HBW.out _⟩
    · obtain rfl : j = n := by omega
      go_wp2
      go_ret
      exact ⟨rfl, HBW.out⟩
end Go.Proofs.Ytmkpimpckhppgaa
