/-
  What is proved: net's Take, Lose. Condition: the net lies in memory as one.
-/
import Derived.Test.YtcagochalnjagaaMet9
import Derived.Deep.RegionHeld3
namespace Go.Proofs.Ytcagochalnjagaa
open Go.RowKit

/-- behind Take, Lose -/
def takeS (S : List Wy) (way i : Int) : List Wy := if vld (wy S way) i then S.set way.toNat ((wy S way).eraseIdx i.toNat) else S
def errS (S : List Wy) (way i : Int) : Int := if vld (wy S way) i then 0 else 5
/-- what Take tells -/
def takeB (S : List Wy) (way i : Int) : List Int := if vld (wy S way) i then (wy S way).getD i.toNat [] else []
section
variable {w : World} {k : Nat} {v : Value} {us : List Value} {S : List Wy}
theorem Cs.erase {E : Tell} {w : World} {cs : List Value} {fs : Wy} (h : Cs E w cs fs) (i : Nat) : Cs E w (cs.eraseIdx i) (fs.eraseIdx i) := by
  rw [List.eraseIdx_eq_take_drop_succ, List.eraseIdx_eq_take_drop_succ]
  exact (h.take i).append (h.drop (i + 1))
set_option maxRecDepth 10000 in
set_option maxHeartbeats 400000 in
theorem nlose_any (h : NI w k v us S) (way i : Int) :
    Calls Try.prog 21 #[.pointer (some ⟨k, 0, none⟩), .int .i64 way, .int .i64 i] w fun e w' => e = .returned (.int .i64 (errS S way i)) ∧ ∃ us', NI w' k v us' (takeS S way i) ∧ Chg w w' (Ft k v us) (Ft k v us') := by
  by_cases hi : vld (wy S way) i
  · have HF := hid (nfind_yes h hi)
    have e1 : takeS S way i = S.set way.toNat ((wy S way).eraseIdx i.toNat) := if_pos hi
    have e2 : errS S way i = 0 := if_pos hi
    rw [e1, e2]
    obtain ⟨p, fs, rfl, hp, hw⟩ := isw_at (vld_isw hi)
    rw [hw] at hi ⊢
    obtain ⟨q, l, rfl, hq, hql⟩ := vld_at hi
    obtain ⟨g, c, u, A, d, cs, rfl, hu, hu2, q1, q2, ho, hcs, h400⟩ := Nt.at_ h hp
    have c0 : w.cell? ⟨k, 0, none⟩ = some (.slice (some ⟨g, 0, none⟩) S.length c) := h.box.cell 0
    have hpp : (p : Int) < (S.length : Int) := by have := (List.getElem?_eq_some_iff.1 hp).1; omega
    have HW := hid (nwithout_any (w := w.drew) (u := u) (cs := cs) ho q (by rw [hcs.1]; exact hql) (by rw [hcs.1]; exact h400) (hcs.each fun x l => stb_Es.one _ x l) (hcs.each fun x l => stb_Es.nb _ x l))
    have H := hid (show NI w.drew k (.slice (some ⟨g, 0, none⟩) S.length c) us S from Nt.draws h stb_Es 1)
    have HC := hid (show Cs Es w.drew cs fs from hcs)
    have HU := hid hu
    rw [hu2] at q1 HW HU
    rw [Int.toNat_natCast, Int.toNat_natCast]
    clear h hi hp hw e1 e2 hu ho hcs hql hq
    have hgk : (⟨g, p, none⟩ : Addr) ≠ ⟨k, 0, none⟩ := by
      intro e
      injection e with e
      exact H.out.vk (congrArg some e)
    have h4 : (fs.eraseIdx q).length ≤ 400 := by have := List.length_eraseIdx_le fs q; omega
    have H4 := hid h4
    clear h4
    generalize hn : S.length = n at *
    generalize fs.length = m at *
    go_enter Try.func21, Try.ntmps21
    go_upto_region 4 with (go_at_call 26; refine HF.out.mono ?_; rintro e w' ⟨rfl, rfl⟩)
    clear HF
    refine wp_region_noPanic ?_
    refine wp_region_held_drew (S := fun w' => w'.cell? ⟨k, 0, none⟩ = some (.slice (some ⟨g, 0, none⟩) n c)) (by kernel_rfl) ?_ (fun hHeld => ?_)
    · go_simp
    refine wpAnyH_take (i := 0) (oi := ⟨some 15, _, _, _, _, _⟩) (v := ?_) rfl (by kernel_rfl) (by kernel_rfl) (by kernel_rfl) (fun _ _ _ h => h) (Or.inl ⟨by rfl, ?_⟩) (by assumption) ?_
    rotate_left 1
    · intro w0 hSw
      try dsimp only at hSw
      go_simp
      try with_reducible rfl
    (try simp only [Act.put, List.setIfInBounds_toArray, List.set_cons_zero, List.set_cons_succ])
    refine wpAnyH_take (i := 1) (oi := ⟨some 16, _, _, _, _, _⟩) (v := ?_) rfl (by kernel_rfl) (by kernel_rfl) (by kernel_rfl) (fun _ _ _ h => h) (Or.inl ⟨by rfl, ?_⟩) (by assumption) ?_
    rotate_left 1
    · intro w0 hSw
      try dsimp only at hSw
      go_simp
      try with_reducible rfl
    (try simp only [Act.put, List.setIfInBounds_toArray, List.set_cons_zero, List.set_cons_succ])
    refine wpAnyH_take (i := 2) (oi := ⟨some 17, _, _, _, _, _⟩) (v := ?_) rfl (by kernel_rfl) (by kernel_rfl) (by kernel_rfl) (fun _ _ _ h => h) (Or.inl ⟨by rfl, ?_⟩) (by assumption) ?_
    rotate_left 1
    · intro w0 hSw
      try dsimp only at hSw
      go_simp
      try with_reducible rfl
    (try simp only [Act.put, List.setIfInBounds_toArray, List.set_cons_zero, List.set_cons_succ])
    refine wpAnyH_take (i := 3) (oi := ⟨some 18, _, _, _, _, _⟩) (v := ?_) rfl (by kernel_rfl) (by kernel_rfl) (by kernel_rfl) (fun _ _ _ h => h) (Or.inl ⟨by rfl, ?_⟩) (by assumption) ?_
    rotate_left 1
    · intro w0 hSw
      try dsimp only at hSw
      go_simp
      try with_reducible rfl
    (try simp only [Act.put, List.setIfInBounds_toArray, List.set_cons_zero, List.set_cons_succ])
    refine wpAnyH_take (i := 4) (oi := ⟨some 19, _, _, _, _, _⟩) (v := ?_) rfl (by kernel_rfl) (by kernel_rfl) (by kernel_rfl) (fun _ _ _ h => h) (Or.inl ⟨by rfl, ?_⟩) (by assumption) ?_
    rotate_left 1
    · intro w0 hSw
      try dsimp only at hSw
      go_simp
      try with_reducible rfl
    (try simp only [Act.put, List.setIfInBounds_toArray, List.set_cons_zero, List.set_cons_succ])
    refine wpAnyH_take (i := 5) (oi := ⟨some 20, _, _, _, _, _⟩) (v := ?_) rfl (by kernel_rfl) (by kernel_rfl) (by kernel_rfl) (fun _ _ _ h => h) (Or.inl ⟨by rfl, ?_⟩) (by assumption) ?_
    rotate_left 1
    · intro w0 hSw
      try dsimp only at hSw
      go_simp
      try with_reducible rfl
    (try simp only [Act.put, List.setIfInBounds_toArray, List.set_cons_zero, List.set_cons_succ])
    refine wpAnyH_take (i := 6) (oi := ⟨some 21, _, _, _, _, _⟩) (v := ?_) rfl (by kernel_rfl) (by kernel_rfl) (by kernel_rfl) (fun _ _ _ h => h) (Or.inl ⟨by rfl, ?_⟩) (by assumption) ?_
    rotate_left 1
    · intro w0 hSw
      try dsimp only at hSw
      go_simp
      try with_reducible rfl
    (try simp only [Act.put, List.setIfInBounds_toArray, List.set_cons_zero, List.set_cons_succ])
    refine wpAnyH_take (i := 7) (oi := ⟨some 22, _, _, _, _, _⟩) (v := ?_) rfl (by kernel_rfl) (by kernel_rfl) (by kernel_rfl) (fun _ _ _ h => h) (Or.inl ⟨by rfl, ?_⟩) (by assumption) ?_
    rotate_left 1
    · intro w0 hSw
      try dsimp only at hSw
      go_simp
      try with_reducible rfl
    (try simp only [Act.put, List.setIfInBounds_toArray, List.set_cons_zero, List.set_cons_succ])
    refine wpAnyH_take (i := 8) (oi := ⟨some 23, _, _, _, _, _⟩) (v := ?_) rfl (by kernel_rfl) (by kernel_rfl) (by kernel_rfl) (fun _ _ _ h => h) (Or.inl ⟨by rfl, ?_⟩) (by assumption) ?_
    rotate_left 1
    · intro w0 hSw
      try dsimp only at hSw
      go_simp
      try with_reducible rfl
    (try simp only [Act.put, List.setIfInBounds_toArray, List.set_cons_zero, List.set_cons_succ])
    refine wpAnyH_take (i := 9) (oi := ⟨some 24, _, _, _, _, _⟩) (v := ?_) rfl (by kernel_rfl) (by kernel_rfl) (by kernel_rfl) (fun _ _ _ h => h) (Or.inl ⟨by rfl, ?_⟩) (by assumption) ?_
    rotate_left 1
    · intro w0 hSw
      try dsimp only at hSw
      go_simp
      try with_reducible rfl
    (try simp only [Act.put, List.setIfInBounds_toArray, List.set_cons_zero, List.set_cons_succ])
    refine wpAnyH_take (i := 10) (oi := ⟨some 25, _, _, _, _, _⟩) (v := ?_) rfl (by kernel_rfl) (by kernel_rfl) (by kernel_rfl) (fun _ _ _ h => h) (Or.inl ⟨by rfl, ?_⟩) (by assumption) ?_
    rotate_left 1
    · intro w0 hSw
      try dsimp only at hSw
      go_simp
      try with_reducible rfl
    (try simp only [Act.put, List.setIfInBounds_toArray, List.set_cons_zero, List.set_cons_succ])
    refine wpAnyH_take (i := 12) (oi := ⟨some 27, _, _, _, _, _⟩) (v := ?_) rfl (by kernel_rfl) (by kernel_rfl) (by kernel_rfl) (fun _ _ _ h => h) (Or.inl ⟨by rfl, ?_⟩) (by assumption) ?_
    rotate_left 1
    · intro w0 hSw
      try dsimp only at hSw
      go_simp
      try with_reducible rfl
    (try simp only [Act.put, List.setIfInBounds_toArray, List.set_cons_zero, List.set_cons_succ])
    refine wpAnyH_ready (rs := [11]) (by kernel_rfl) (by simp) ?_
    refine AllReadyH.cons (o := ⟨some 26, _, _, _, _, _⟩) rfl (fun K hK => ?_) AllReadyH.nil
    rw [if_pos (by rfl)]
    go_simp
    refine hK.out _ _ hHeld (fun hHeld => ?_)
    clear hK K
    (try simp only [Act.put, List.setIfInBounds_toArray, List.set_cons_zero, List.set_cons_succ])
    refine wpAnyH_ready (rs := [13]) (by kernel_rfl) (by simp) ?_
    refine AllReadyH.cons (o := ⟨some 28, _, _, _, _, _⟩) rfl (fun K hK => ?_) AllReadyH.nil
    rw [if_pos (by rfl)]
    go_simp
    refine HW.out.mono ?_
    rintro e w2 ⟨A9, n9, c9, rfl, ho2, hg2⟩
    obtain ⟨kp, xc, xf, XN, XC⟩ := H.out.put stb_Es (by rfl) HU.out hg2 ho2 (Cs.keep (Cs.erase HC.out q) stb_Es hg2.stay hg2.gr.size) H4.out (nb_slice _ _ _)
    have HX := hid (And.intro XN XC)
    have kq : (w2.setCell ⟨g, p, none⟩ (.slice A9 n9 c9)).cell? ⟨k, 0, none⟩ = some (.slice (some ⟨g, 0, none⟩) n c) := by rw [World.cell?_setCell_other _ _ _ _ hgk]; exact kp
    clear XN XC ho2 hg2
    go_simp
    refine hK.out _ _ kp (fun hHeld => ?_)
    clear hK K
    (try simp only [Act.put, List.setIfInBounds_toArray, List.set_cons_zero, List.set_cons_succ])
    refine wpAnyH_take (i := 14) (oi := ⟨some 29, _, _, _, _, _⟩) (v := ?_) rfl (by kernel_rfl) (by kernel_rfl) (by kernel_rfl) (fun _ _ _ h => h) (Or.inl ⟨by rfl, ?_⟩) (by assumption) ?_
    rotate_left 1
    · intro w0 hSw
      try dsimp only at hSw
      go_simp
      try with_reducible rfl
    (try simp only [Act.put, List.setIfInBounds_toArray, List.set_cons_zero, List.set_cons_succ])
    refine wpAnyH_ready (rs := [15]) (by kernel_rfl) (by simp) ?_
    refine AllReadyH.cons (o := ⟨none, _, _, _, _, _⟩) rfl (fun K hK => ?_) AllReadyH.nil
    rw [if_pos (by rfl)]
    go_simp
    refine hK.out _ _ kq (fun hHeld => ?_)
    clear hK K
    (try simp only [Act.put, List.setIfInBounds_toArray, List.set_cons_zero, List.set_cons_succ])
    refine wpAnyH_done (by kernel_rfl) ?_ _
    refine NoPanic.normal ?_
    go_wp2
    go_ret
    exact ⟨rfl, _, HX.out.1, HX.out.2.ofDrew⟩
  · have HF := hid (nfind_no h hi)
    have e1 : takeS S way i = S := if_neg hi
    have e2 : errS S way i = 5 := if_neg hi
    rw [e1, e2]
    have HK := hid h
    clear h hi e1 e2
    go_enter Try.func21, Try.ntmps21
    go_wp2_with (go_at_call 26; refine HF.out.mono ?_; rintro e w' ⟨rfl, rfl⟩)
    go_ret
    exact ⟨rfl, _, HK.out, Chg.refl _ _⟩
/-- a string's bytes in new memory -/
theorem conv_bytes (w : World) {l : List Int} (hl : ∀ y ∈ l, 0 ≤ y ∧ y ≤ 255) (hm : l.length ≤ 140737488355328) :
    ∃ w1 c, (convert 9 32 (.string (strOfNums l))).run Try.prog w = .ok (.slice (some ⟨w.heap.size, 0, none⟩) l.length c) w1 ∧ Below w.heap.size w w1 ∧ Bs w1 (.slice (some ⟨w.heap.size, 0, none⟩) l.length c) l := by
  have hrun := run_bytes_of_string (P := Try.prog) w 9 32 5 (strOfNums l) Try.underlying9 Try.underlying32 Try.underlying5
  rw [strOfNums_size] at hrun
  have hb := below_alloc w.drew (.cells (bytesRow (strOfNums l) (grownCap w l.length 0 5)) 5 ((bytesRow (strOfNums l) (grownCap w l.length 0 5)).size, (bytesRow (strOfNums l) (grownCap w l.length 0 5)).size + 1))
  refine ⟨_, _, hrun, ⟨hb.os, hb.tape, hb.output, hb.size, hb.block⟩, some ⟨w.heap.size, 0, none⟩, _, rfl, fun j x hx => ⟨_, rfl, ?_, ?_⟩, grownCap_ge _ _ _ _, grownCap_le_maxLen _ _ _ _ (by unfold maxLen; omega)⟩
  · rw [World.size_alloc]
    exact Nat.lt_succ_self _
  · rw [addG]
    have hj := (List.getElem?_eq_some_iff.1 hx).1
    have hs : j < (strOfNums l).data.size := by
      have := strOfNums_size l
      show j < (strOfNums l).size
      omega
    have := World.cell?_alloc_mark w.drew (bytesRow (strOfNums l) (grownCap w l.length 0 5)) 5 ((bytesRow (strOfNums l) (grownCap w l.length 0 5)).size, (bytesRow (strOfNums l) (grownCap w l.length 0 5)).size + 1) j
    refine this.trans ?_
    rw [bytesRow_at _ _ _ hs]
    have e := (List.getElem?_eq_some_iff.1 hx).2
    have hr := hl x (List.mem_of_getElem? hx)
    have : (strOfNums l).data[j] = UInt8.ofNat x.toNat := by
      simp [strOfNums, e]
    rw [this]
    congr 2
    simp
    omega
set_option maxRecDepth 10000 in
set_option maxHeartbeats 400000 in
theorem ntake_any (h : NI w k v us S) (way i : Int) :
    Calls Try.prog 18 #[.pointer (some ⟨k, 0, none⟩), .int .i64 way, .int .i64 i] w fun e w' => ∃ u us', e = .returned (.tuple #[u, .int .i64 (errS S way i)]) ∧ Bs w' u (takeB S way i) ∧ NI w' k v us' (takeS S way i) ∧ Chg w w' (Ft k v us) (Ft k v us') := by
  by_cases hi : vld (wy S way) i
  · have HF := hid (nfind_yes h hi)
    have e1 : takeS S way i = S.set way.toNat ((wy S way).eraseIdx i.toNat) := if_pos hi
    have e2 : errS S way i = 0 := if_pos hi
    have e3 : takeB S way i = (wy S way).getD i.toNat [] := if_pos hi
    rw [e1, e2, e3]
    obtain ⟨p, fs, rfl, hp, hw⟩ := isw_at (vld_isw hi)
    rw [hw] at hi ⊢
    obtain ⟨q, l, rfl, hq, hql⟩ := vld_at hi
    obtain ⟨g, c, u, A, d, cs, rfl, hu, hu2, q1, q2, ho, hcs, h400⟩ := Nt.at_ h hp
    have c0 : w.cell? ⟨k, 0, none⟩ = some (.slice (some ⟨g, 0, none⟩) S.length c) := h.box.cell 0
    have hpp : (p : Int) < (S.length : Int) := by have := (List.getElem?_eq_some_iff.1 hp).1; omega
    rw [hu2] at ho
    obtain ⟨x, hx, hxl, hx1, hx2⟩ := hcs.get hq
    have hqc : q < cs.length := by rw [hcs.1]; exact hql
    obtain ⟨gA, dA, e4⟩ := ho.place (by omega)
    simp only [Value.slice.injEq] at e4
    obtain ⟨rfl, e4, rfl⟩ := e4
    have f0 := (ho.cellAt hqc).1.trans hx
    subst hxl
    obtain ⟨w1, c1, K, B1, HB1⟩ := conv_bytes w hx1 hx2
    have ho1 := ho.below B1
    have hcs1 := hcs.below stb_Es B1
    have HW := hid (nwithout_any (w := w1.drew) (u := _) (cs := cs) ho1 q hqc (by rw [hcs.1]; exact h400) (hcs1.each fun x l => stb_Es.one _ x l) (hcs1.each fun x l => stb_Es.nb _ x l))
    have H := hid (show NI w1.drew k (.slice (some ⟨g, 0, none⟩) S.length c) us S from Nt.draws (Nt.below h stb_Es B1) stb_Es 1)
    have HC := hid (show Cs Es w1.drew cs fs from hcs1)
    have HU := hid hu
    have HBS := hid HB1
    have HBB := hid B1
    have HQL := hid (show fs.getD q [] = l from by rw [List.getD, hq]; rfl)
    rw [hu2] at q1 HU
    rw [Int.toNat_natCast, Int.toNat_natCast]
    have hqq : (q : Int) < (fs.length : Int) := by omega
    have k0 : w1.cell? ⟨k, 0, none⟩ = some (.slice (some ⟨g, 0, none⟩) S.length c) := H.out.box.cell 0
    have k1 : w1.cell? ⟨g, p, none⟩ = some (.slice (some ⟨gA, 0, none⟩) fs.length d) := (B1.cell (World.block_lt_of_cell? w _ q1)).trans q1
    clear h hi hp hw e1 e2 e3 e4 hu hu2 ho hcs hql hq ho1 hcs1 hqc B1 HB1 hx hx1 hx2 q2
    have hgk : (⟨g, p, none⟩ : Addr) ≠ ⟨k, 0, none⟩ := by
      intro e
      injection e with e
      exact H.out.vk (congrArg some e)
    have h4 : (fs.eraseIdx q).length ≤ 400 := by have := List.length_eraseIdx_le fs q; omega
    have H4 := hid h4
    clear h4
    generalize hn : S.length = n at *
    generalize fs.length = m at *
    generalize l.length = ln at *
    go_enter Try.func18, Try.ntmps18
    go_upto_region 5 with (go_at_call 26; refine HF.out.mono ?_; rintro e w' ⟨rfl, rfl⟩)
    clear HF K c0 q1 f0
    refine wp_region_noPanic ?_
    refine wp_region_held_drew (S := fun w' => w'.cell? ⟨k, 0, none⟩ = some (.slice (some ⟨g, 0, none⟩) n c)) (by kernel_rfl) ?_ (fun hHeld => ?_)
    · go_simp
    refine wpAnyH_take (i := 0) (oi := ⟨some 28, _, _, _, _, _⟩) (v := ?_) rfl (by kernel_rfl) (by kernel_rfl) (by kernel_rfl) (fun _ _ _ h => h) (Or.inl ⟨by rfl, ?_⟩) (by assumption) ?_
    rotate_left 1
    · intro w0 hSw
      try dsimp only at hSw
      go_simp
      try with_reducible rfl
    (try simp only [Act.put, List.setIfInBounds_toArray, List.set_cons_zero, List.set_cons_succ])
    refine wpAnyH_take (i := 1) (oi := ⟨some 29, _, _, _, _, _⟩) (v := ?_) rfl (by kernel_rfl) (by kernel_rfl) (by kernel_rfl) (fun _ _ _ h => h) (Or.inl ⟨by rfl, ?_⟩) (by assumption) ?_
    rotate_left 1
    · intro w0 hSw
      try dsimp only at hSw
      go_simp
      try with_reducible rfl
    (try simp only [Act.put, List.setIfInBounds_toArray, List.set_cons_zero, List.set_cons_succ])
    refine wpAnyH_take (i := 2) (oi := ⟨some 30, _, _, _, _, _⟩) (v := ?_) rfl (by kernel_rfl) (by kernel_rfl) (by kernel_rfl) (fun _ _ _ h => h) (Or.inl ⟨by rfl, ?_⟩) (by assumption) ?_
    rotate_left 1
    · intro w0 hSw
      try dsimp only at hSw
      go_simp
      try with_reducible rfl
    (try simp only [Act.put, List.setIfInBounds_toArray, List.set_cons_zero, List.set_cons_succ])
    refine wpAnyH_take (i := 3) (oi := ⟨some 31, _, _, _, _, _⟩) (v := ?_) rfl (by kernel_rfl) (by kernel_rfl) (by kernel_rfl) (fun _ _ _ h => h) (Or.inl ⟨by rfl, ?_⟩) (by assumption) ?_
    rotate_left 1
    · intro w0 hSw
      try dsimp only at hSw
      go_simp
      try with_reducible rfl
    (try simp only [Act.put, List.setIfInBounds_toArray, List.set_cons_zero, List.set_cons_succ])
    refine wpAnyH_take (i := 4) (oi := ⟨some 32, _, _, _, _, _⟩) (v := ?_) rfl (by kernel_rfl) (by kernel_rfl) (by kernel_rfl) (fun _ _ _ h => h) (Or.inl ⟨by rfl, ?_⟩) (by assumption) ?_
    rotate_left 1
    · intro w0 hSw
      try dsimp only at hSw
      go_simp
      try with_reducible rfl
    (try simp only [Act.put, List.setIfInBounds_toArray, List.set_cons_zero, List.set_cons_succ])
    refine wpAnyH_take (i := 5) (oi := ⟨some 33, _, _, _, _, _⟩) (v := ?_) rfl (by kernel_rfl) (by kernel_rfl) (by kernel_rfl) (fun _ _ _ h => h) (Or.inl ⟨by rfl, ?_⟩) (by assumption) ?_
    rotate_left 1
    · intro w0 hSw
      try dsimp only at hSw
      go_simp
      try with_reducible rfl
    (try simp only [Act.put, List.setIfInBounds_toArray, List.set_cons_zero, List.set_cons_succ])
    refine wpAnyH_take (i := 6) (oi := ⟨some 34, _, _, _, _, _⟩) (v := ?_) rfl (by kernel_rfl) (by kernel_rfl) (by kernel_rfl) (fun _ _ _ h => h) (Or.inl ⟨by rfl, ?_⟩) (by assumption) ?_
    rotate_left 1
    · intro w0 hSw
      try dsimp only at hSw
      go_simp
      try with_reducible rfl
    (try simp only [Act.put, List.setIfInBounds_toArray, List.set_cons_zero, List.set_cons_succ])
    refine wpAnyH_take (i := 7) (oi := ⟨some 35, _, _, _, _, _⟩) (v := ?_) rfl (by kernel_rfl) (by kernel_rfl) (by kernel_rfl) (fun _ _ _ h => h) (Or.inl ⟨by rfl, ?_⟩) (by assumption) ?_
    rotate_left 1
    · intro w0 hSw
      try dsimp only at hSw
      go_simp
      try with_reducible rfl
    (try simp only [Act.put, List.setIfInBounds_toArray, List.set_cons_zero, List.set_cons_succ])
    refine wpAnyH_take (i := 8) (oi := ⟨some 36, _, _, _, _, _⟩) (v := ?_) rfl (by kernel_rfl) (by kernel_rfl) (by kernel_rfl) (fun _ _ _ h => h) (Or.inl ⟨by rfl, ?_⟩) (by assumption) ?_
    rotate_left 1
    · intro w0 hSw
      try dsimp only at hSw
      go_simp
      try with_reducible rfl
    (try simp only [Act.put, List.setIfInBounds_toArray, List.set_cons_zero, List.set_cons_succ])
    refine wpAnyH_take (i := 9) (oi := ⟨some 37, _, _, _, _, _⟩) (v := ?_) rfl (by kernel_rfl) (by kernel_rfl) (by kernel_rfl) (fun _ _ _ h => h) (Or.inl ⟨by rfl, ?_⟩) (by assumption) ?_
    rotate_left 1
    · intro w0 hSw
      try dsimp only at hSw
      go_simp
      try with_reducible rfl
    (try simp only [Act.put, List.setIfInBounds_toArray, List.set_cons_zero, List.set_cons_succ])
    refine wpAnyH_take (i := 10) (oi := ⟨some 38, _, _, _, _, _⟩) (v := ?_) rfl (by kernel_rfl) (by kernel_rfl) (by kernel_rfl) (fun _ _ _ h => h) (Or.inl ⟨by rfl, ?_⟩) (by assumption) ?_
    rotate_left 1
    · intro w0 hSw
      try dsimp only at hSw
      go_simp
      try with_reducible rfl
    (try simp only [Act.put, List.setIfInBounds_toArray, List.set_cons_zero, List.set_cons_succ])
    refine wpAnyH_take (i := 12) (oi := ⟨some 40, _, _, _, _, _⟩) (v := ?_) rfl (by kernel_rfl) (by kernel_rfl) (by kernel_rfl) (fun _ _ _ h => h) (Or.inl ⟨by rfl, ?_⟩) (by assumption) ?_
    rotate_left 1
    · intro w0 hSw
      try dsimp only at hSw
      go_simp
      try with_reducible rfl
    (try simp only [Act.put, List.setIfInBounds_toArray, List.set_cons_zero, List.set_cons_succ])
    refine wpAnyH_ready (rs := [11]) (by kernel_rfl) (by simp) ?_
    refine AllReadyH.cons (o := ⟨some 39, _, _, _, _, _⟩) rfl (fun K hK => ?_) AllReadyH.nil
    rw [if_pos (by rfl)]
    go_simp
    refine hK.out _ _ hHeld (fun hHeld => ?_)
    clear hK K
    (try simp only [Act.put, List.setIfInBounds_toArray, List.set_cons_zero, List.set_cons_succ])
    refine wpAnyH_ready (rs := [13]) (by kernel_rfl) (by simp) ?_
    refine AllReadyH.cons (o := ⟨some 41, _, _, _, _, _⟩) rfl (fun K hK => ?_) AllReadyH.nil
    rw [if_pos (by rfl)]
    go_simp
    refine HW.out.mono ?_
    rintro e w2 ⟨A9, n9, c9, rfl, ho2, hg2⟩
    obtain ⟨kp, xc, xf, XN, XC⟩ := H.out.put stb_Es (by rfl) HU.out hg2 ho2 (Cs.keep (Cs.erase HC.out q) stb_Es hg2.stay hg2.gr.size) H4.out (nb_slice _ _ _)
    have HX := hid (And.intro XN XC)
    have kq : (w2.setCell ⟨g, p, none⟩ (.slice A9 n9 c9)).cell? ⟨k, 0, none⟩ = some (.slice (some ⟨g, 0, none⟩) n c) := by rw [World.cell?_setCell_other _ _ _ _ hgk]; exact kp
    clear XN XC ho2 hg2
    go_simp
    refine hK.out _ _ kp (fun hHeld => ?_)
    clear hK K
    (try simp only [Act.put, List.setIfInBounds_toArray, List.set_cons_zero, List.set_cons_succ])
    refine wpAnyH_take (i := 14) (oi := ⟨some 42, _, _, _, _, _⟩) (v := ?_) rfl (by kernel_rfl) (by kernel_rfl) (by kernel_rfl) (fun _ _ _ h => h) (Or.inl ⟨by rfl, ?_⟩) (by assumption) ?_
    rotate_left 1
    · intro w0 hSw
      try dsimp only at hSw
      go_simp
      try with_reducible rfl
    (try simp only [Act.put, List.setIfInBounds_toArray, List.set_cons_zero, List.set_cons_succ])
    refine wpAnyH_ready (rs := [15]) (by kernel_rfl) (by simp) ?_
    refine AllReadyH.cons (o := ⟨none, _, _, _, _, _⟩) rfl (fun K hK => ?_) AllReadyH.nil
    rw [if_pos (by rfl)]
    go_simp
    refine hK.out _ _ kq (fun hHeld => ?_)
    clear hK K
    (try simp only [Act.put, List.setIfInBounds_toArray, List.set_cons_zero, List.set_cons_succ])
    refine wpAnyH_done (by kernel_rfl) ?_ _
    refine NoPanic.normal ?_
    go_wp2
    go_ret2
    refine ⟨_, _, rfl, ?_, HX.out.1, (Chg.of HBB.out _).trans HX.out.2.ofDrew⟩
    rw [HQL.out]
    exact Bs.stay (show Bs w1.drew _ l from HBS.out) HX.out.2.stay HX.out.2.size
  · have HF := hid (nfind_no h hi)
    have e1 : takeS S way i = S := if_neg hi
    have e2 : errS S way i = 5 := if_neg hi
    have e3 : takeB S way i = [] := if_neg hi
    rw [e1, e2, e3]
    have HK := hid h
    clear h hi e1 e2 e3
    go_enter Try.func18, Try.ntmps18
    go_wp2_with (go_at_call 26; refine HF.out.mono ?_; rintro e w' ⟨rfl, rfl⟩)
    go_ret2
    exact ⟨_, _, rfl, bs_nil _, HK.out, Chg.refl _ _⟩
end
end Go.Proofs.Ytcagochalnjagaa
