/-
  What is proved: the reference's Do of Send. Condition: the net lies in memory as one; what is sent is read as its frames, in memory that isn't the net's.
-/
import Derived.Test.YtcagochalnjagaaRd9
import Derived.Deep.QuietTactic
import Derived.BigQuiet
namespace Go.Proofs.Ytcagochalnjagaa
open Go.RowKit

theorem wp_world {P : Program} {c : Code} {K : Exit → Act → World → Prop} {a : Act} {w : World} (h : ∀ y, y = w → c.wp P K a y) : c.wp P K a w := h w rfl
theorem infoByte : (Try.prog.info? 5).map (fun i => (i.zero, i.size, i.bytes)) = some (some (.int .u8 0), 1, 1) := by kernel_rfl
theorem elt_byte : Elt Try.prog 32 5 (.int .u8 0) 1 1 := ⟨Try.underlying32, infoByte, rfl, by decide⟩
theorem rv_of_rd {w : World} {B : Nat} {A : Option Addr} {l : List Int} (h : Rd w B A l) : Rv w B A (bytes l) := fun j u hu => by
  simp only [bytes, List.getElem?_map, Option.map_eq_some_iff] at hu
  obtain ⟨x, hx, rfl⟩ := hu
  exact h j x hx
theorem ownV_bs {w : World} {b n : Nat} {v : Value} {l : List Int} (h : OwnV w b 5 1 v n (bytes l)) (hn : l.length = n) : Bs w v l := by
  subst hn
  obtain ⟨A, c, e, r, h1, h2⟩ := h.read
  refine ⟨A, c, e, fun j x hx => ?_, h1, h2⟩
  exact r j _ (by simp [bytes, hx])
section
variable {w : World} {k : Nat} {v : Value} {us : List Value} {S : List Wy} {l : Wy}
set_option maxRecDepth 100000 in
set_option maxHeartbeats 1600000 in
theorem rdo0_out (h : NR w k v us S) (way i r : Int) (A : Option Addr) (n c : Nat) (_ : List Value) (_ : l.length = n) (_ : n ≤ c ∧ c ≤ maxLen) (hi : ¬ isw S way) :
    Calls Try.prog 13 #[.pointer (some ⟨k, 0, none⟩), .agg #[.int .i64 (0), .int .i64 way, .int .i64 i, .int .i64 r, .slice A n c]] w (RoP k v us S 0 way i r l w) := by
  unfold RoP
  have e2 : doE 0 way i r S = 0 := rfl
  have e3 : doB 0 way i S = [] := rfl
  rw [e2, e3]
  clear e2 e3
  have e1 : doS 0 way i r l S = S := by
    show sendS S way l = S
    exact if_neg hi
  have e4 : doN 0 way l S = 0 := by
    show ((sendN S way l : Nat) : Int) = 0
    unfold sendN room
    rw [if_neg hi]
    simp
  rw [e1, e4]
  clear e1 e4
  obtain ⟨g, hg⟩ : ∃ g, w.heap.size = g := ⟨_, rfl⟩
  obtain ⟨W, hW⟩ : ∃ W, w.alloc (.cells #[.int .i64 0, .int .i64 way, .int .i64 i, .int .i64 r, .slice A n c] 31) = W := ⟨_, rfl⟩
  have BW : Below w.heap.size w W := by rw [← hW]; exact below_alloc _ _
  have XW : Bx W g 31 #[.int .i64 0, .int .i64 way, .int .i64 i, .int .i64 r, .slice A n c] := by rw [← hW, ← hg]; exact Bx.new _ _ _
  have NW := hid (show NR W k v us S from Nt.below h stb_Eb BW)
  have CW := hid (Chg.of BW (Ft k v us))
  have LW := hid (show ∀ j, Ft k v us j → j ≠ g from fun j hj => by have := Nt.lt h hj; omega)
  have HX := hid XW
  have HG := hid hg
  have HW := hid hW
  have y1 : W.cell? ⟨g, 1, none⟩ = some (.int .i64 way) := XW.cell 1
  obtain ⟨A0, c0, e0, k0, -⟩ := Nt.cells h
  have k0 : W.cell? ⟨k, 0, none⟩ = some (.slice A0 S.length c0) := (BW.cell (World.block_lt_of_cell? w _ k0)).trans k0
  clear BW XW hg hW h e0
  go_enter Try.func13, Try.ntmps13
  go_upto_region 1 with fail
  rw [HG.out, HW.out]
  go_cut [7] from 14 to 26 (fun s7 wx => s7 = .bool (decide (isw S way)) ∧ wx = W.drew)
  case first =>
    obtain ⟨nn, hnn⟩ : ∃ nn, S.length = nn := ⟨_, rfl⟩
    rw [hnn] at k0
    by_cases h0 : way < 0
    · have hd : decide ((0 : Int) ≤ way) = false := by simpa using h0
      have HD := hid (show decide (isw S way) = false from decide_eq_false (by unfold isw; omega))
      clear hnn
      go_region
      go_wp2
      go_meet
      exact ⟨by rw [HD.out], rfl⟩
    · have h1 : 0 ≤ way := by omega
      by_cases h2 : way < (nn : Int)
      · have HD := hid (show decide (isw S way) = true from decide_eq_true (by unfold isw; omega))
        clear hnn h0
        go_region
        go_wp2
        go_meet
        exact ⟨by rw [HD.out], rfl⟩
      · have hd : decide (way < (nn : Int)) = false := by simpa using h2
        have HD := hid (show decide (isw S way) = false from decide_eq_false (by unfold isw; omega))
        clear hnn h0 h2
        go_region
        go_wp2
        go_meet
        exact ⟨by rw [HD.out], rfl⟩
  case rest =>
  obtain ⟨rfl, rfl⟩ := hcut
  clear y1 k0
  have N1 := hid (show NR W.drew k v us S from Nt.draws NW.out stb_Eb 1)
  have X1 := hid (show Bx W.drew g 31 #[.int .i64 0, .int .i64 way, .int .i64 i, .int .i64 r, .slice A n c] from HX.out)
  have C1 := hid (show Chg w W.drew (Ft k v us) (Ft k v us) from CW.out.draws 1)
  clear NW HX CW HG HW
  generalize W.drew = W at *
  have y0 : W.cell? ⟨g, 0, none⟩ = some (.int .i64 0) := X1.out.cell 0
  rw [show decide (isw S way) = false from by simpa using hi]
  clear hi
  go_wp2
  go_loopg [8, 9] 0 (fun gk s t wr => s = .int .i64 0 ∧ t = .int .i64 0 ∧ wr = W)
  case atStart => exact ⟨rfl, rfl, rfl⟩
  case round =>
    obtain ⟨rfl, rfl, rfl⟩ := hrel
    go_upto_region 5 with fail
    go_region
    go_wp2
    go_ret3
    exact ⟨_, _, rfl, bs_nil _, Nt.draws N1.out stb_Eb 1, C1.out.draws 1⟩
set_option maxRecDepth 100000 in
set_option maxHeartbeats 1600000 in
theorem rdo0_in (h : NR w k v us S) (way i r : Int) (A : Option Addr) (n c : Nat) (bs : List Value) (hn : l.length = n) (hc : n ≤ c ∧ c ≤ maxLen) (hf : Fin w (Ft k v us) A bs l) (hi : isw S way) :
    Calls Try.prog 13 #[.pointer (some ⟨k, 0, none⟩), .agg #[.int .i64 (0), .int .i64 way, .int .i64 i, .int .i64 r, .slice A n c]] w (RoP k v us S 0 way i r l w) := by
  unfold RoP
  have e2 : doE 0 way i r S = 0 := rfl
  have e3 : doB 0 way i S = [] := rfl
  rw [e2, e3]
  clear e2 e3
  have e1 : doS 0 way i r l S = S.set way.toNat (wy S way ++ l.take (room S way)) := by
    show sendS S way l = _
    exact if_pos hi
  have e4 : doN 0 way l S = (min l.length (room S way) : Nat) := rfl
  have e5 : room S way = 400 - (wy S way).length := if_pos hi
  rw [e1, e4, e5]
  clear e1 e4 e5
  obtain ⟨hnc, hcm⟩ := hc
  unfold maxLen at hcm
  have HF0 := hid hf
  clear hf
  obtain ⟨g, hg⟩ : ∃ g, w.heap.size = g := ⟨_, rfl⟩
  obtain ⟨W, hW⟩ : ∃ W, w.alloc (.cells #[.int .i64 0, .int .i64 way, .int .i64 i, .int .i64 r, .slice A n c] 31) = W := ⟨_, rfl⟩
  have BW : Below w.heap.size w W := by rw [← hW]; exact below_alloc _ _
  have XW : Bx W g 31 #[.int .i64 0, .int .i64 way, .int .i64 i, .int .i64 r, .slice A n c] := by rw [← hW, ← hg]; exact Bx.new _ _ _
  have NW := hid (show NR W k v us S from Nt.below h stb_Eb BW)
  have CW := hid (Chg.of BW (Ft k v us))
  have LW := hid (show ∀ j, Ft k v us j → j ≠ g from fun j hj => by have := Nt.lt h hj; omega)
  have HX := hid XW
  have HG := hid hg
  have HW := hid hW
  have y1 : W.cell? ⟨g, 1, none⟩ = some (.int .i64 way) := XW.cell 1
  obtain ⟨A0, c0, e0, k0, -⟩ := Nt.cells h
  have k0 : W.cell? ⟨k, 0, none⟩ = some (.slice A0 S.length c0) := (BW.cell (World.block_lt_of_cell? w _ k0)).trans k0
  clear BW XW hg hW h e0
  go_enter Try.func13, Try.ntmps13
  go_upto_region 1 with fail
  rw [HG.out, HW.out]
  go_cut [7] from 14 to 26 (fun s7 wx => s7 = .bool (decide (isw S way)) ∧ wx = W.drew)
  case first =>
    obtain ⟨nn, hnn⟩ : ∃ nn, S.length = nn := ⟨_, rfl⟩
    rw [hnn] at k0
    by_cases h0 : way < 0
    · have hd : decide ((0 : Int) ≤ way) = false := by simpa using h0
      have HD := hid (show decide (isw S way) = false from decide_eq_false (by unfold isw; omega))
      clear hnn
      go_region
      go_wp2
      go_meet
      exact ⟨by rw [HD.out], rfl⟩
    · have h1 : 0 ≤ way := by omega
      by_cases h2 : way < (nn : Int)
      · have HD := hid (show decide (isw S way) = true from decide_eq_true (by unfold isw; omega))
        clear hnn h0
        go_region
        go_wp2
        go_meet
        exact ⟨by rw [HD.out], rfl⟩
      · have hd : decide (way < (nn : Int)) = false := by simpa using h2
        have HD := hid (show decide (isw S way) = false from decide_eq_false (by unfold isw; omega))
        clear hnn h0 h2
        go_region
        go_wp2
        go_meet
        exact ⟨by rw [HD.out], rfl⟩
  case rest =>
  obtain ⟨rfl, rfl⟩ := hcut
  clear y1 k0
  have N1 := hid (show NR W.drew k v us S from Nt.draws NW.out stb_Eb 1)
  have X1 := hid (show Bx W.drew g 31 #[.int .i64 0, .int .i64 way, .int .i64 i, .int .i64 r, .slice A n c] from HX.out)
  have C1 := hid (show Chg w W.drew (Ft k v us) (Ft k v us) from CW.out.draws 1)
  clear NW HX CW HG HW
  generalize W.drew = W at *
  have y0 : W.cell? ⟨g, 0, none⟩ = some (.int .i64 0) := X1.out.cell 0
  rw [show decide (isw S way) = true from by simpa using hi]
  obtain ⟨p, fs, rfl, hp, hw⟩ := isw_at hi
  have hpp : (p : Int) < (S.length : Int) := hi.2
  have HLT := hid (List.getElem?_eq_some_iff.1 hp).1
  have h400 : fs.length ≤ 400 := N1.out.cap fs (List.mem_of_getElem? hp)
  have HP := hid hp
  have HFF := hid (HF0.out.chg C1.out)
  have HLN := hid hn
  obtain ⟨m, hm⟩ : ∃ m, fs.length = m := ⟨_, rfl⟩
  rw [hm] at h400
  have HM := hid hm
  obtain ⟨T, hT⟩ : ∃ T, min n (400 - m) = T := ⟨_, rfl⟩
  have hTn : T ≤ n := by omega
  have HTT := hid (show l.take (400 - m) = l.take T from by
    by_cases h1 : 400 - m ≤ n
    · rw [show T = 400 - m from by omega]
    · rw [List.take_of_length_le (by omega), List.take_of_length_le (by omega)])
  have HT4 := hid (show m + T ≤ 400 ∧ (T < n → m + T = 400) from by omega)
  have HTM := hid hT
  clear hi hm hn hT hp HF0
  go_wp2
  clear y0
  go_loopg [8, 9] T (fun gk s t wr => ∃ j : Nat, j + gk = T ∧ s = .int .i64 j ∧ t = .int .i64 j ∧ ∃ us', NR wr k v us' (S.set p (fs ++ l.take j)) ∧ Chg W wr (Ft k v us) (Ft k v us'))
  case atStart => exact ⟨0, by omega, rfl, rfl, us, by rw [List.take_zero, take_set_self HP.out]; exact N1.out, Chg.refl _ _⟩
  case round =>
    obtain ⟨j, hj, rfl, rfl, us1, hN, hC⟩ := hrel
    have hXr := hC.bx X1.out (fun e => LW.out g e rfl)
    have hSp : (S.set p (fs ++ l.take j))[p]? = some (fs ++ l.take j) := List.getElem?_set_self HLT.out
    obtain ⟨gr, cg, u, B, d, cs, hv, hu, hu2, q1, q2, ho, hcs, h4⟩ := Nt.at_ hN hSp
    rw [List.length_set] at hv
    subst hv
    have c0 : wr.cell? ⟨k, 0, none⟩ = some (.slice (some ⟨gr, 0, none⟩) S.length cg) := hN.box.cell 0
    have y1 : wr.cell? ⟨g, 1, none⟩ = some (.int .i64 (p : Nat)) := hXr.cell 1
    have y4 : wr.cell? ⟨g, 4, none⟩ = some (.slice A n c) := hXr.cell 4
    have hm2 : (fs ++ l.take j).length = m + j := by rw [List.length_append, List.length_take, HM.out, HLN.out]; omega
    rw [hu2] at q1 ho hu
    rw [hm2] at q1 ho hu h4
    by_cases hlt : j < T
    · have hjl : j < l.length := by have := HLN.out; omega
      obtain ⟨lj, hlj⟩ : ∃ x, l[j]? = some x := ⟨_, List.getElem?_eq_getElem hjl⟩
      have hd1 : j < n := by omega
      have hd2 : m + j < 400 := by have := HT4.out.1; omega
      have HC0 := hid hC
      have HN0 := hid hN
      have HU := hid hu
      have HSP := hid hSp
      have HML := hid hm2
      have HCSL := hid hcs.1
      have HGA := hid (show (Value.slice B (m + j) d).ownBlock ≠ some g from fun e => by
        rcases hC.foot g (.inr (.inr ⟨_, List.mem_of_getElem? hu, e⟩)) with h | h
        · exact LW.out g h rfl
        · have := X1.out.lt; omega)
      have hgk : k ≠ gr := fun e => hN.vk (congrArg some e.symm)
      have hgg : g ≠ gr := fun e => LW.out gr (.inr (.inl rfl)) e.symm
      clear hN hC hXr hSp hu hu2 q2 ho hcs h4
      generalize hmj : m + j = mj at *
      go_upto_region 5 with fail
      refine wp_region_noPanic ?_
      refine wp_region_held_drew (S := fun w' => w'.cell? ⟨k, 0, none⟩ = some (.slice (some ⟨gr, 0, none⟩) S.length cg) ∧ w'.cell? ⟨g, 1, none⟩ = some (.int .i64 (p : Nat)) ∧ w'.cell? ⟨g, 4, none⟩ = some (.slice A n c) ∧ w'.cell? ⟨gr, p, none⟩ = some (.slice B mj d)) (by kernel_rfl) ?_ (fun hHeld => ?_)
      · exact ⟨c0, y1, y4, q1⟩
      refine wpAnyH_take (i := 0) (oi := ⟨some 30, _, _, _, _, _⟩) (v := ?_) rfl (by kernel_rfl) (by kernel_rfl) (by kernel_rfl) (fun _ _ _ h => h) (Or.inl ⟨by rfl, ?_⟩) (by assumption) ?_
      rotate_left 1
      · intro w0 hSw
        (try dsimp only at hSw); obtain ⟨s1, s2, s3, s4⟩ := hSw
        go_simp
        try with_reducible rfl
      (try simp only [Act.put, List.setIfInBounds_toArray, List.set_cons_zero, List.set_cons_succ])
      refine wpAnyH_take (i := 1) (oi := ⟨some 31, _, _, _, _, _⟩) (v := ?_) rfl (by kernel_rfl) (by kernel_rfl) (by kernel_rfl) (fun _ _ _ h => h) (Or.inl ⟨by rfl, ?_⟩) (by assumption) ?_
      rotate_left 1
      · intro w0 hSw
        (try dsimp only at hSw); obtain ⟨s1, s2, s3, s4⟩ := hSw
        go_simp
        try with_reducible rfl
      (try simp only [Act.put, List.setIfInBounds_toArray, List.set_cons_zero, List.set_cons_succ])
      refine wpAnyH_take (i := 2) (oi := ⟨some 32, _, _, _, _, _⟩) (v := ?_) rfl (by kernel_rfl) (by kernel_rfl) (by kernel_rfl) (fun _ _ _ h => h) (Or.inl ⟨by rfl, ?_⟩) (by assumption) ?_
      rotate_left 1
      · intro w0 hSw
        (try dsimp only at hSw); obtain ⟨s1, s2, s3, s4⟩ := hSw
        go_simp
        try with_reducible rfl
      (try simp only [Act.put, List.setIfInBounds_toArray, List.set_cons_zero, List.set_cons_succ])
      refine wpAnyH_take (i := 3) (oi := ⟨some 33, _, _, _, _, _⟩) (v := ?_) rfl (by kernel_rfl) (by kernel_rfl) (by kernel_rfl) (fun _ _ _ h => h) (Or.inl ⟨by rfl, ?_⟩) (by assumption) ?_
      rotate_left 1
      · intro w0 hSw
        (try dsimp only at hSw); obtain ⟨s1, s2, s3, s4⟩ := hSw
        go_simp
        try with_reducible rfl
      (try simp only [Act.put, List.setIfInBounds_toArray, List.set_cons_zero, List.set_cons_succ])
      refine wpAnyH_take (i := 4) (oi := ⟨some 34, _, _, _, _, _⟩) (v := ?_) rfl (by kernel_rfl) (by kernel_rfl) (by kernel_rfl) (fun _ _ _ h => h) (Or.inl ⟨by rfl, ?_⟩) (by assumption) ?_
      rotate_left 1
      · intro w0 hSw
        (try dsimp only at hSw); obtain ⟨s1, s2, s3, s4⟩ := hSw
        go_simp
        try with_reducible rfl
      (try simp only [Act.put, List.setIfInBounds_toArray, List.set_cons_zero, List.set_cons_succ])
      refine wpAnyH_take (i := 5) (oi := ⟨some 35, _, _, _, _, _⟩) (v := ?_) rfl (by kernel_rfl) (by kernel_rfl) (by kernel_rfl) (fun _ _ _ h => h) (Or.inl ⟨by rfl, ?_⟩) (by assumption) ?_
      rotate_left 1
      · intro w0 hSw
        (try dsimp only at hSw); obtain ⟨s1, s2, s3, s4⟩ := hSw
        go_simp
        try with_reducible rfl
      (try simp only [Act.put, List.setIfInBounds_toArray, List.set_cons_zero, List.set_cons_succ])
      refine wpAnyH_take (i := 6) (oi := ⟨some 36, _, _, _, _, _⟩) (v := ?_) rfl (by kernel_rfl) (by kernel_rfl) (by kernel_rfl) (fun _ _ _ h => h) (Or.inl ⟨by rfl, ?_⟩) (by assumption) ?_
      rotate_left 1
      · intro w0 hSw
        (try dsimp only at hSw); obtain ⟨s1, s2, s3, s4⟩ := hSw
        go_simp
        try with_reducible rfl
      (try simp only [Act.put, List.setIfInBounds_toArray, List.set_cons_zero, List.set_cons_succ])
      refine wpAnyH_take (i := 7) (oi := ⟨some 37, _, _, _, _, _⟩) (v := ?_) rfl (by kernel_rfl) (by kernel_rfl) (by kernel_rfl) (fun _ _ _ h => h) (Or.inl ⟨by rfl, ?_⟩) (by assumption) ?_
      rotate_left 1
      · intro w0 hSw
        (try dsimp only at hSw); obtain ⟨s1, s2, s3, s4⟩ := hSw
        go_simp
        try with_reducible rfl
      (try simp only [Act.put, List.setIfInBounds_toArray, List.set_cons_zero, List.set_cons_succ])
      refine wpAnyH_take (i := 8) (oi := ⟨some 38, _, _, _, _, _⟩) (v := ?_) rfl (by kernel_rfl) (by kernel_rfl) (by kernel_rfl) (fun _ _ _ h => h) (Or.inl ⟨by rfl, ?_⟩) (by assumption) ?_
      rotate_left 1
      · intro w0 hSw
        (try dsimp only at hSw); obtain ⟨s1, s2, s3, s4⟩ := hSw
        go_simp
        try with_reducible rfl
      (try simp only [Act.put, List.setIfInBounds_toArray, List.set_cons_zero, List.set_cons_succ])
      refine wpAnyH_take (i := 9) (oi := ⟨some 39, _, _, _, _, _⟩) (v := ?_) rfl (by kernel_rfl) (by kernel_rfl) (by kernel_rfl) (fun _ _ _ h => h) (Or.inl ⟨by rfl, ?_⟩) (by assumption) ?_
      rotate_left 1
      · intro w0 hSw
        (try dsimp only at hSw); obtain ⟨s1, s2, s3, s4⟩ := hSw
        go_simp
        try with_reducible rfl
      (try simp only [Act.put, List.setIfInBounds_toArray, List.set_cons_zero, List.set_cons_succ])
      refine wpAnyH_take (i := 10) (oi := ⟨some 40, _, _, _, _, _⟩) (v := ?_) rfl (by kernel_rfl) (by kernel_rfl) (by kernel_rfl) (fun _ _ _ h => h) (Or.inl ⟨by rfl, ?_⟩) (by assumption) ?_
      rotate_left 1
      · intro w0 hSw
        (try dsimp only at hSw); obtain ⟨s1, s2, s3, s4⟩ := hSw
        go_simp
        try with_reducible rfl
      (try simp only [Act.put, List.setIfInBounds_toArray, List.set_cons_zero, List.set_cons_succ])
      refine wpAnyH_take (i := 11) (oi := ⟨some 41, _, _, _, _, _⟩) (v := ?_) rfl (by kernel_rfl) (by kernel_rfl) (by kernel_rfl) (fun _ _ _ h => h) (Or.inl ⟨by rfl, ?_⟩) (by assumption) ?_
      rotate_left 1
      · intro w0 hSw
        (try dsimp only at hSw); obtain ⟨s1, s2, s3, s4⟩ := hSw
        go_simp
        try with_reducible rfl
      (try simp only [Act.put, List.setIfInBounds_toArray, List.set_cons_zero, List.set_cons_succ])
      refine wpAnyH_take (i := 12) (oi := ⟨some 42, _, _, _, _, _⟩) (v := ?_) rfl (by kernel_rfl) (by kernel_rfl) (by kernel_rfl) (fun _ _ _ h => h) (Or.inl ⟨by rfl, ?_⟩) (by assumption) ?_
      rotate_left 1
      · intro w0 hSw
        (try dsimp only at hSw); obtain ⟨s1, s2, s3, s4⟩ := hSw
        go_simp
        try with_reducible rfl
      (try simp only [Act.put, List.setIfInBounds_toArray, List.set_cons_zero, List.set_cons_succ])
      refine wpAnyH_take (i := 13) (oi := ⟨some 43, _, _, _, _, _⟩) (v := ?_) rfl (by kernel_rfl) (by kernel_rfl) (by kernel_rfl) (fun _ _ _ h => h) (Or.inl ⟨by rfl, ?_⟩) (by assumption) ?_
      rotate_left 1
      · intro w0 hSw
        (try dsimp only at hSw); obtain ⟨s1, s2, s3, s4⟩ := hSw
        go_simp
        try with_reducible rfl
      (try simp only [Act.put, List.setIfInBounds_toArray, List.set_cons_zero, List.set_cons_succ])
      refine wpAnyH_take (i := 14) (oi := ⟨some 44, _, _, _, _, _⟩) (v := ?_) rfl (by kernel_rfl) (by kernel_rfl) (by kernel_rfl) (fun _ _ _ h => h) (Or.inl ⟨by rfl, ?_⟩) (by assumption) ?_
      rotate_left 1
      · intro w0 hSw
        (try dsimp only at hSw); obtain ⟨s1, s2, s3, s4⟩ := hSw
        go_simp
        try with_reducible rfl
      (try simp only [Act.put, List.setIfInBounds_toArray, List.set_cons_zero, List.set_cons_succ])
      refine wpAnyH_take (i := 15) (oi := ⟨some 45, _, _, _, _, _⟩) (v := ?_) rfl (by kernel_rfl) (by kernel_rfl) (by kernel_rfl) (fun _ _ _ h => h) (Or.inl ⟨by rfl, ?_⟩) (by assumption) ?_
      rotate_left 1
      · intro w0 hSw
        (try dsimp only at hSw); obtain ⟨s1, s2, s3, s4⟩ := hSw
        go_simp
        try with_reducible rfl
      (try simp only [Act.put, List.setIfInBounds_toArray, List.set_cons_zero, List.set_cons_succ])
      refine wpAnyH_take (i := 16) (oi := ⟨some 46, _, _, _, _, _⟩) (v := ?_) rfl (by kernel_rfl) (by kernel_rfl) (by kernel_rfl) (fun _ _ _ h => h) (Or.inl ⟨by rfl, ?_⟩) (by assumption) ?_
      rotate_left 1
      · intro w0 hSw
        (try dsimp only at hSw); obtain ⟨s1, s2, s3, s4⟩ := hSw
        go_simp
        try with_reducible rfl
      (try simp only [Act.put, List.setIfInBounds_toArray, List.set_cons_zero, List.set_cons_succ])
      refine wpAnyH_take (i := 17) (oi := ⟨some 47, _, _, _, _, _⟩) (v := ?_) rfl (by kernel_rfl) (by kernel_rfl) (by kernel_rfl) (fun _ _ _ h => h) (Or.inl ⟨by rfl, ?_⟩) (by assumption) ?_
      rotate_left 1
      · intro w0 hSw
        (try dsimp only at hSw); obtain ⟨s1, s2, s3, s4⟩ := hSw
        go_simp
        try with_reducible rfl
      (try simp only [Act.put, List.setIfInBounds_toArray, List.set_cons_zero, List.set_cons_succ])
      refine wpAnyH_take (i := 18) (oi := ⟨some 48, _, _, _, _, _⟩) (v := ?_) rfl (by kernel_rfl) (by kernel_rfl) (by kernel_rfl) (fun _ _ _ h => h) (Or.inl ⟨by rfl, ?_⟩) (by assumption) ?_
      rotate_left 1
      · intro w0 hSw
        (try dsimp only at hSw); obtain ⟨s1, s2, s3, s4⟩ := hSw
        go_simp
        try with_reducible rfl
      (try simp only [Act.put, List.setIfInBounds_toArray, List.set_cons_zero, List.set_cons_succ])
      refine wpAnyH_take (i := 19) (oi := ⟨some 49, _, _, _, _, _⟩) (v := ?_) rfl (by kernel_rfl) (by kernel_rfl) (by kernel_rfl) (fun _ _ _ h => h) (Or.inl ⟨by rfl, ?_⟩) (by assumption) ?_
      rotate_left 1
      · intro w0 hSw
        (try dsimp only at hSw); obtain ⟨s1, s2, s3, s4⟩ := hSw
        go_simp
        try with_reducible rfl
      (try simp only [Act.put, List.setIfInBounds_toArray, List.set_cons_zero, List.set_cons_succ])
      refine wpAnyH_done (by kernel_rfl) ?_ _
      refine NoPanic.normal ?_
      clear c0 y1 y4 q1
      go_upto_region 8 with fail
      refine wp_world fun w2 hw2 => ?_
      have D2 : Below wr.heap.size wr w2 := by rw [hw2]; exact below_draws (Below.refl _ _) _
      clear hw2
      have hN2 : NR w2 k (.slice (some ⟨gr, 0, none⟩) S.length cg) us1 (S.set p (fs ++ l.take j)) := Nt.below HN0.out stb_Eb D2
      have hC2 := HC0.out.trans (Chg.of D2 _)
      have HN2 := hid hN2
      have HC2 := hid hC2
      have HX2 := hid (hC2.bx X1.out (fun e => LW.out g e rfl))
      have HF2 := hid (HFF.out.chg hC2)
      clear hN2 hC2 HN0 HC0 D2
      obtain ⟨b, hb, hbs⟩ := HF2.out.cs.get hlj
      obtain ⟨ad, rfl, hal, -, hac⟩ := HF2.out.rv j b hb
      obtain ⟨Bj, cb, rfl, hbr, hb1, hb2⟩ := hbs
      have y4 : w2.cell? ⟨g, 4, none⟩ = some (.slice (some ad) n c) := HX2.out.cell 4
      obtain ⟨-, hr2⟩ := HF2.out.rng lj (List.mem_of_getElem? hlj)
      have HTK := hid (show fs ++ l.take j ++ [lj] = fs ++ l.take (j + 1) from by rw [List.append_assoc, List.take_succ_eq_append_getElem hjl, (List.getElem?_eq_some_iff.1 hlj).2])
      have HBR := hid hbr
      obtain ⟨llj, hll⟩ : ∃ x, lj.length = x := ⟨_, rfl⟩
      rw [hll] at hac hr2 hb1
      have HLL := hid hll
      have hjj : (j : Int) < (n : Int) := by omega
      clear hb hal hbr hlj hjl hll
      go_upto_region 9 with (at_builtin; (refine wpList_appV elt_byte rfl (.tmp 52) (.tmp 57) rfl w2.heap.size _ 0 [] (ownV_nil _ _ _ _) rfl _ Bj llj cb (bytes lj) rfl (by rw [bytes_length, HLL.out, Nat.mul_one]) (rv_of_rd HBR.out) (bytes_one lj) (by unfold maxLen; omega) (by omega) (Nat.le_refl _) ?_); intro v3 w3 hown3 hg3; rw [Nat.zero_add, List.nil_append] at hown3; have B3 := hid (hg3.below (ownV_nil w2 w2.heap.size 5 1) (Nat.le_refl _)); have HE3 := hid (ownV_bs hown3 HLL.out); obtain ⟨Ax, cx, rfl, -⟩ := hown3.read; clear hown3 hg3)
      clear hac y4
      refine wp_world fun w4 hw4 => ?_
      have HN4 := hid (show NR w4 k (.slice (some ⟨gr, 0, none⟩) S.length cg) us1 (S.set p (fs ++ l.take j)) by rw [hw4]; exact Nt.below HN2.out stb_Eb B3.out)
      have HC4 := hid (show Chg W w4 (Ft k (.slice (some ⟨gr, 0, none⟩) S.length cg) us) (Ft k (.slice (some ⟨gr, 0, none⟩) S.length cg) us1) by rw [hw4]; exact HC2.out.trans (Chg.of B3.out _))
      have HX4 := hid (show Bx w4 g 31 #[.int .i64 0, .int .i64 (p : Nat), .int .i64 i, .int .i64 r, .slice (some ad) n c] by rw [hw4]; exact HX2.out.next B3.out)
      have HE4 := hid (show Eb w4 (.slice Ax llj cx) lj by rw [hw4]; exact HE3.out)
      clear hw4 HN2 HC2 HX2 HE3 B3
      obtain ⟨gr', cg', u', B', d', cs, hv', hu', hu2, q1, -, ho, hcs, -⟩ := Nt.at_ HN4.out HSP.out
      rw [HU.out] at hu'
      injection hu' with hu'
      subst hu'
      simp only [Value.slice.injEq, Option.some.injEq, Addr.mk.injEq, and_true, true_and, List.length_set] at hv'
      obtain ⟨rfl, rfl⟩ := hv'
      have c0 : w4.cell? ⟨k, 0, none⟩ = some (.slice (some ⟨gr, 0, none⟩) S.length cg) := HN4.out.box.cell 0
      have y1 : w4.cell? ⟨g, 1, none⟩ = some (.int .i64 (p : Nat)) := HX4.out.cell 1
      have B5 : Below w4.heap.size w4 (w4.alloc (.cells #[.slice Ax llj cx] 32)).drew := below_draws (below_alloc w4 _) 1
      have H2 := hid (show NR (w4.alloc (.cells #[.slice Ax llj cx] 32)).drew k (.slice (some ⟨gr, 0, none⟩) S.length cg) us1 (S.set p (fs ++ l.take j)) from Nt.below HN4.out stb_Eb B5)
      have HO2 := hid (ho.below B5)
      have HCC := hid (hcs.below stb_Eb B5)
      have HE := hid (show Eb (w4.alloc (.cells #[.slice Ax llj cx] 32)).drew (.slice Ax llj cx) lj from Bs.below HE4.out B5)
      have HR2 := hid (show Rv (w4.alloc (.cells #[.slice Ax llj cx] 32)).drew (w4.heap.size + 1) (some ⟨w4.heap.size, 0, none⟩) [.slice Ax llj cx] from rv_new w4 32 #[.slice Ax llj cx])
      have HL := hid (And.intro (show cs.length = mj by rw [hcs.1, HML.out]) (show mj < 400 from by have := HT4.out.1; omega))
      have hmj4 := HL.out.2
      have H4 := hid (show (fs ++ l.take j ++ [lj]).length ≤ 400 by rw [List.length_append, HML.out]; simp; omega)
      have HB5 := hid B5
      have z0 : (w4.alloc (.cells #[.slice Ax llj cx] 32)).cell? ⟨k, 0, none⟩ = some (.slice (some ⟨gr, 0, none⟩) S.length cg) := H2.out.box.cell 0
      have z1 : (w4.alloc (.cells #[.slice Ax llj cx] 32)).cell? ⟨g, 1, none⟩ = some (.int .i64 (p : Nat)) := (B5.cell (World.block_lt_of_cell? w4 _ y1)).trans y1
      have z3 : (w4.alloc (.cells #[.slice Ax llj cx] 32)).cell? ⟨gr, p, none⟩ = some (.slice B mj d) := (B5.cell (World.block_lt_of_cell? w4 _ q1)).trans q1
      clear ho hcs hu2 B5 hjj
      refine wp_region_noPanic ?_
      refine wp_region_held_drew (S := fun w' => w'.cell? ⟨k, 0, none⟩ = some (.slice (some ⟨gr, 0, none⟩) S.length cg) ∧ w'.cell? ⟨g, 1, none⟩ = some (.int .i64 (p : Nat))) (by kernel_rfl) ?_ (fun hHeld => ?_)
      · exact ⟨c0, y1⟩
      refine wpAnyH_take (i := 0) (oi := ⟨some 59, _, _, _, _, _⟩) (v := ?_) rfl (by kernel_rfl) (by kernel_rfl) (by kernel_rfl) (fun _ _ _ h => h) (Or.inl ⟨by rfl, ?_⟩) (by assumption) ?_
      rotate_left 1
      · intro w0 hSw
        (try dsimp only at hSw); obtain ⟨s1, s2⟩ := hSw
        go_simp
        try with_reducible rfl
      (try simp only [Act.put, List.setIfInBounds_toArray, List.set_cons_zero, List.set_cons_succ])
      refine wpAnyH_take (i := 1) (oi := ⟨some 60, _, _, _, _, _⟩) (v := ?_) rfl (by kernel_rfl) (by kernel_rfl) (by kernel_rfl) (fun _ _ _ h => h) (Or.inl ⟨by rfl, ?_⟩) (by assumption) ?_
      rotate_left 1
      · intro w0 hSw
        (try dsimp only at hSw); obtain ⟨s1, s2⟩ := hSw
        go_simp
        try with_reducible rfl
      (try simp only [Act.put, List.setIfInBounds_toArray, List.set_cons_zero, List.set_cons_succ])
      refine wpAnyH_take (i := 2) (oi := ⟨some 61, _, _, _, _, _⟩) (v := ?_) rfl (by kernel_rfl) (by kernel_rfl) (by kernel_rfl) (fun _ _ _ h => h) (Or.inl ⟨by rfl, ?_⟩) (by assumption) ?_
      rotate_left 1
      · intro w0 hSw
        (try dsimp only at hSw); obtain ⟨s1, s2⟩ := hSw
        go_simp
        try with_reducible rfl
      (try simp only [Act.put, List.setIfInBounds_toArray, List.set_cons_zero, List.set_cons_succ])
      refine wpAnyH_take (i := 3) (oi := ⟨some 62, _, _, _, _, _⟩) (v := ?_) rfl (by kernel_rfl) (by kernel_rfl) (by kernel_rfl) (fun _ _ _ h => h) (Or.inl ⟨by rfl, ?_⟩) (by assumption) ?_
      rotate_left 1
      · intro w0 hSw
        (try dsimp only at hSw); obtain ⟨s1, s2⟩ := hSw
        go_simp
        try with_reducible rfl
      (try simp only [Act.put, List.setIfInBounds_toArray, List.set_cons_zero, List.set_cons_succ])
      refine wpAnyH_take (i := 4) (oi := ⟨some 63, _, _, _, _, _⟩) (v := ?_) rfl (by kernel_rfl) (by kernel_rfl) (by kernel_rfl) (fun _ _ _ h => h) (Or.inl ⟨by rfl, ?_⟩) (by assumption) ?_
      rotate_left 1
      · intro w0 hSw
        (try dsimp only at hSw); obtain ⟨s1, s2⟩ := hSw
        go_simp
        try with_reducible rfl
      (try simp only [Act.put, List.setIfInBounds_toArray, List.set_cons_zero, List.set_cons_succ])
      refine wpAnyH_take (i := 5) (oi := ⟨some 64, _, _, _, _, _⟩) (v := ?_) rfl (by kernel_rfl) (by kernel_rfl) (by kernel_rfl) (fun _ _ _ h => h) (Or.inl ⟨by rfl, ?_⟩) (by assumption) ?_
      rotate_left 1
      · intro w0 hSw
        (try dsimp only at hSw); obtain ⟨s1, s2⟩ := hSw
        go_simp
        try with_reducible rfl
      (try simp only [Act.put, List.setIfInBounds_toArray, List.set_cons_zero, List.set_cons_succ])
      refine wpAnyH_take (i := 6) (oi := ⟨some 65, _, _, _, _, _⟩) (v := ?_) rfl (by kernel_rfl) (by kernel_rfl) (by kernel_rfl) (fun _ _ _ h => h) (Or.inl ⟨by rfl, ?_⟩) (by assumption) ?_
      rotate_left 1
      · intro w0 hSw
        (try dsimp only at hSw); obtain ⟨s1, s2⟩ := hSw
        go_simp
        try with_reducible rfl
      (try simp only [Act.put, List.setIfInBounds_toArray, List.set_cons_zero, List.set_cons_succ])
      refine wpAnyH_take (i := 7) (oi := ⟨some 66, _, _, _, _, _⟩) (v := ?_) rfl (by kernel_rfl) (by kernel_rfl) (by kernel_rfl) (fun _ _ _ h => h) (Or.inl ⟨by rfl, ?_⟩) (by assumption) ?_
      rotate_left 1
      · intro w0 hSw
        (try dsimp only at hSw); obtain ⟨s1, s2⟩ := hSw
        go_simp
        try with_reducible rfl
      (try simp only [Act.put, List.setIfInBounds_toArray, List.set_cons_zero, List.set_cons_succ])
      refine wpAnyH_take (i := 8) (oi := ⟨some 67, _, _, _, _, _⟩) (v := ?_) rfl (by kernel_rfl) (by kernel_rfl) (by kernel_rfl) (fun _ _ _ h => h) (Or.inl ⟨by rfl, ?_⟩) (by assumption) ?_
      rotate_left 1
      · intro w0 hSw
        (try dsimp only at hSw); obtain ⟨s1, s2⟩ := hSw
        go_simp
        try with_reducible rfl
      (try simp only [Act.put, List.setIfInBounds_toArray, List.set_cons_zero, List.set_cons_succ])
      refine wpAnyH_take (i := 9) (oi := ⟨some 68, _, _, _, _, _⟩) (v := ?_) rfl (by kernel_rfl) (by kernel_rfl) (by kernel_rfl) (fun _ _ _ h => h) (Or.inl ⟨by rfl, ?_⟩) (by assumption) ?_
      rotate_left 1
      · intro w0 hSw
        (try dsimp only at hSw); obtain ⟨s1, s2⟩ := hSw
        go_simp
        try with_reducible rfl
      (try simp only [Act.put, List.setIfInBounds_toArray, List.set_cons_zero, List.set_cons_succ])
      refine wpAnyH_take (i := 10) (oi := ⟨some 69, _, _, _, _, _⟩) (v := ?_) rfl (by kernel_rfl) (by kernel_rfl) (by kernel_rfl) (fun _ _ _ h => h) (Or.inl ⟨by rfl, ?_⟩) (by assumption) ?_
      rotate_left 1
      · intro w0 hSw
        (try dsimp only at hSw); obtain ⟨s1, s2⟩ := hSw
        go_simp
        try with_reducible rfl
      (try simp only [Act.put, List.setIfInBounds_toArray, List.set_cons_zero, List.set_cons_succ])
      refine wpAnyH_take (i := 11) (oi := ⟨some 70, _, _, _, _, _⟩) (v := ?_) rfl (by kernel_rfl) (by kernel_rfl) (by kernel_rfl) (fun _ _ _ h => h) (Or.inl ⟨by rfl, ?_⟩) (by assumption) ?_
      rotate_left 1
      · intro w0 hSw
        (try dsimp only at hSw); obtain ⟨s1, s2⟩ := hSw
        go_simp
        try with_reducible rfl
      (try simp only [Act.put, List.setIfInBounds_toArray, List.set_cons_zero, List.set_cons_succ])
      refine wpAnyH_take (i := 12) (oi := ⟨some 71, _, _, _, _, _⟩) (v := ?_) rfl (by kernel_rfl) (by kernel_rfl) (by kernel_rfl) (fun _ _ _ h => h) (Or.inl ⟨by rfl, ?_⟩) (by assumption) ?_
      rotate_left 1
      · intro w0 hSw
        (try dsimp only at hSw); obtain ⟨s1, s2⟩ := hSw
        go_simp
        try with_reducible rfl
      (try simp only [Act.put, List.setIfInBounds_toArray, List.set_cons_zero, List.set_cons_succ])
      refine wpAnyH_take (i := 14) (oi := ⟨some 73, _, _, _, _, _⟩) (v := ?_) rfl (by kernel_rfl) (by kernel_rfl) (by kernel_rfl) (fun _ _ _ h => h) (Or.inl ⟨by rfl, ?_⟩) (by assumption) ?_
      rotate_left 1
      · intro w0 hSw
        (try dsimp only at hSw); obtain ⟨s1, s2⟩ := hSw
        go_simp
        try with_reducible rfl
      (try simp only [Act.put, List.setIfInBounds_toArray, List.set_cons_zero, List.set_cons_succ])
      refine wpAnyH_ready (rs := [13, 15]) (by kernel_rfl) (by simp) ?_
      refine (AllReadyH.cons (o := ⟨some 72, _, _, _, _, _⟩) rfl (fun K hK => ?_) (AllReadyH.cons (o := ⟨some 74, _, _, _, _, _⟩) rfl (fun K hK => ?_) AllReadyH.nil))
      · rw [if_pos (by rfl)]
        go_simp
        refine hK.out _ _ hHeld (fun hHeld => ?_)
        clear hK K
        (try simp only [Act.put, List.setIfInBounds_toArray, List.set_cons_zero, List.set_cons_succ])
        refine wpAnyH_ready (rs := [15]) (by kernel_rfl) (by simp) ?_
        refine AllReadyH.cons (o := ⟨some 74, _, _, _, _, _⟩) rfl (fun K hK => ?_) AllReadyH.nil
        rw [if_pos (by rfl)]
        go_simp
        refine hK.out _ _ ⟨z0, z1⟩ (fun hHeld => ?_)
        clear hK K
        (try simp only [Act.put, List.setIfInBounds_toArray, List.set_cons_zero, List.set_cons_succ])
        refine wpAnyH_ready (rs := [16]) (by kernel_rfl) (by simp) ?_
        refine AllReadyH.cons (o := ⟨some 75, _, _, _, _, _⟩) rfl (fun K hK => ?_) AllReadyH.nil
        rw [if_pos (by rfl)]
        refine wp_appW elt_txt rfl (nb_slice _ _ _) (.tmp 72) (.tmp 74) rfl _ _ HO2.out rfl _ _ 1 1 [.slice Ax llj cx] rfl rfl HR2.out (fun u hu => by simp at hu; subst hu; rfl) (fun u hu => by simp at hu; subst hu; exact nb_slice _ _ _) (by rw [HL.out.1]; unfold maxLen; omega) (by rw [HL.out.1]; omega) ?_
        intro v9 w9 ho9 hg9
        obtain ⟨A9, n9, c9, rfl⟩ : ∃ A n c, v9 = .slice A n c := by obtain ⟨A, c, e, -⟩ := ho9.read; exact ⟨A, _, c, e⟩
        obtain ⟨kp, xc, xf, XN, XC⟩ := H2.out.put stb_Eb (by rfl) HU.out hg9 ho9 ((Cs.keep HCC.out stb_Eb hg9.stay hg9.gr.size).append (Cs.one (stb_Eb.stay _ _ _ _ hg9.stay hg9.gr.size HE.out))) H4.out (nb_slice _ _ _)
        have HX9 := hid (And.intro XN XC)
        have kg : w9.cell? ⟨g, 1, none⟩ = some (.int .i64 (p : Nat)) := (World.cell?_of_block (hg9.other (World.block_lt_of_cell? _ _ z1) (fun e => HGA.out e))).trans z1
        have kq : ∀ b : Nat, b ≠ gr → ∀ o x, w9.cell? ⟨b, o, none⟩ = some x → (w9.setCell ⟨gr, p, none⟩ (.slice A9 n9 c9)).cell? ⟨b, o, none⟩ = some x := fun b hb o x e => by rw [World.cell?_setCell_other _ _ _ _ (fun e => hb (by injection e with e; exact e.symm))]; exact e
        clear XN XC ho9 hg9
        refine hK.out _ _ ⟨kp, kg⟩ (fun hHeld => ?_)
        clear hK K
        (try simp only [Act.put, List.setIfInBounds_toArray, List.set_cons_zero, List.set_cons_succ])
        refine wpAnyH_take (i := 17) (oi := ⟨some 76, _, _, _, _, _⟩) (v := ?_) rfl (by kernel_rfl) (by kernel_rfl) (by kernel_rfl) (fun _ _ _ h => h) (Or.inl ⟨by rfl, ?_⟩) (by assumption) ?_
        rotate_left 1
        · intro w0 hSw
          (try dsimp only at hSw); obtain ⟨s1, s2⟩ := hSw
          go_simp
          try with_reducible rfl
        (try simp only [Act.put, List.setIfInBounds_toArray, List.set_cons_zero, List.set_cons_succ])
        refine wpAnyH_ready (rs := [18]) (by kernel_rfl) (by simp) ?_
        refine AllReadyH.cons (o := ⟨none, _, _, _, _, _⟩) rfl (fun K hK => ?_) AllReadyH.nil
        rw [if_pos (by rfl)]
        go_simp
        refine hK.out _ _ ⟨kq _ hgk _ _ kp, kq _ hgg _ _ kg⟩ (fun hHeld => ?_)
        clear hK K
        (try simp only [Act.put, List.setIfInBounds_toArray, List.set_cons_zero, List.set_cons_succ])
        refine wpAnyH_done (by kernel_rfl) ?_ _
        refine NoPanic.normal ?_
        go_wp2
        go_roundg (gk - 1)
        case measure => omega
        case rel =>
          refine ⟨j + 1, by omega, by go_num, by go_num, _, ?_, HC4.out.trans ((Chg.of HB5.out _).trans HX9.out.2)⟩
          have := HX9.out.1
          rw [List.set_set, HTK.out] at this
          exact this
      · rw [if_pos (by rfl)]
        go_simp
        refine hK.out _ _ ⟨z0, z1⟩ (fun hHeld => ?_)
        clear hK K
        (try simp only [Act.put, List.setIfInBounds_toArray, List.set_cons_zero, List.set_cons_succ])
        refine wpAnyH_ready (rs := [13]) (by kernel_rfl) (by simp) ?_
        refine AllReadyH.cons (o := ⟨some 72, _, _, _, _, _⟩) rfl (fun K hK => ?_) AllReadyH.nil
        rw [if_pos (by rfl)]
        go_simp
        refine hK.out _ _ hHeld (fun hHeld => ?_)
        clear hK K
        (try simp only [Act.put, List.setIfInBounds_toArray, List.set_cons_zero, List.set_cons_succ])
        refine wpAnyH_ready (rs := [16]) (by kernel_rfl) (by simp) ?_
        refine AllReadyH.cons (o := ⟨some 75, _, _, _, _, _⟩) rfl (fun K hK => ?_) AllReadyH.nil
        rw [if_pos (by rfl)]
        refine wp_appW elt_txt rfl (nb_slice _ _ _) (.tmp 72) (.tmp 74) rfl _ _ HO2.out rfl _ _ 1 1 [.slice Ax llj cx] rfl rfl HR2.out (fun u hu => by simp at hu; subst hu; rfl) (fun u hu => by simp at hu; subst hu; exact nb_slice _ _ _) (by rw [HL.out.1]; unfold maxLen; omega) (by rw [HL.out.1]; omega) ?_
        intro v9 w9 ho9 hg9
        obtain ⟨A9, n9, c9, rfl⟩ : ∃ A n c, v9 = .slice A n c := by obtain ⟨A, c, e, -⟩ := ho9.read; exact ⟨A, _, c, e⟩
        obtain ⟨kp, xc, xf, XN, XC⟩ := H2.out.put stb_Eb (by rfl) HU.out hg9 ho9 ((Cs.keep HCC.out stb_Eb hg9.stay hg9.gr.size).append (Cs.one (stb_Eb.stay _ _ _ _ hg9.stay hg9.gr.size HE.out))) H4.out (nb_slice _ _ _)
        have HX9 := hid (And.intro XN XC)
        have kg : w9.cell? ⟨g, 1, none⟩ = some (.int .i64 (p : Nat)) := (World.cell?_of_block (hg9.other (World.block_lt_of_cell? _ _ z1) (fun e => HGA.out e))).trans z1
        have kq : ∀ b : Nat, b ≠ gr → ∀ o x, w9.cell? ⟨b, o, none⟩ = some x → (w9.setCell ⟨gr, p, none⟩ (.slice A9 n9 c9)).cell? ⟨b, o, none⟩ = some x := fun b hb o x e => by rw [World.cell?_setCell_other _ _ _ _ (fun e => hb (by injection e with e; exact e.symm))]; exact e
        clear XN XC ho9 hg9
        refine hK.out _ _ ⟨kp, kg⟩ (fun hHeld => ?_)
        clear hK K
        (try simp only [Act.put, List.setIfInBounds_toArray, List.set_cons_zero, List.set_cons_succ])
        refine wpAnyH_take (i := 17) (oi := ⟨some 76, _, _, _, _, _⟩) (v := ?_) rfl (by kernel_rfl) (by kernel_rfl) (by kernel_rfl) (fun _ _ _ h => h) (Or.inl ⟨by rfl, ?_⟩) (by assumption) ?_
        rotate_left 1
        · intro w0 hSw
          (try dsimp only at hSw); obtain ⟨s1, s2⟩ := hSw
          go_simp
          try with_reducible rfl
        (try simp only [Act.put, List.setIfInBounds_toArray, List.set_cons_zero, List.set_cons_succ])
        refine wpAnyH_ready (rs := [18]) (by kernel_rfl) (by simp) ?_
        refine AllReadyH.cons (o := ⟨none, _, _, _, _, _⟩) rfl (fun K hK => ?_) AllReadyH.nil
        rw [if_pos (by rfl)]
        go_simp
        refine hK.out _ _ ⟨kq _ hgk _ _ kp, kq _ hgg _ _ kg⟩ (fun hHeld => ?_)
        clear hK K
        (try simp only [Act.put, List.setIfInBounds_toArray, List.set_cons_zero, List.set_cons_succ])
        refine wpAnyH_done (by kernel_rfl) ?_ _
        refine NoPanic.normal ?_
        go_wp2
        go_roundg (gk - 1)
        case measure => omega
        case rel =>
          refine ⟨j + 1, by omega, by go_num, by go_num, _, ?_, HC4.out.trans ((Chg.of HB5.out _).trans HX9.out.2)⟩
          have := HX9.out.1
          rw [List.set_set, HTK.out] at this
          exact this
    · obtain rfl : j = T := by omega
      have HK := hid (And.intro hN hC)
      have HH4 := hid HT4.out.2
      clear hN hC hXr hSp hu hu2 q2 ho hcs h4
      by_cases hTn2 : j < n
      · have hd1 : j < n := hTn2
        have hd2 : ¬ m + j < 400 := by have := HH4.out hTn2; omega
        clear hlt
        generalize m + j = mj at *
        go_upto_region 5 with fail
        refine wp_region_noPanic ?_
        refine wp_region_held_drew (S := fun w' => w'.cell? ⟨k, 0, none⟩ = some (.slice (some ⟨gr, 0, none⟩) S.length cg) ∧ w'.cell? ⟨g, 1, none⟩ = some (.int .i64 (p : Nat)) ∧ w'.cell? ⟨g, 4, none⟩ = some (.slice A n c) ∧ w'.cell? ⟨gr, p, none⟩ = some (.slice B mj d)) (by kernel_rfl) ?_ (fun hHeld => ?_)
        · exact ⟨c0, y1, y4, q1⟩
        refine wpAnyH_take (i := 0) (oi := ⟨some 30, _, _, _, _, _⟩) (v := ?_) rfl (by kernel_rfl) (by kernel_rfl) (by kernel_rfl) (fun _ _ _ h => h) (Or.inl ⟨by rfl, ?_⟩) (by assumption) ?_
        rotate_left 1
        · intro w0 hSw
          (try dsimp only at hSw); obtain ⟨s1, s2, s3, s4⟩ := hSw
          go_simp
          try with_reducible rfl
        (try simp only [Act.put, List.setIfInBounds_toArray, List.set_cons_zero, List.set_cons_succ])
        refine wpAnyH_take (i := 1) (oi := ⟨some 31, _, _, _, _, _⟩) (v := ?_) rfl (by kernel_rfl) (by kernel_rfl) (by kernel_rfl) (fun _ _ _ h => h) (Or.inl ⟨by rfl, ?_⟩) (by assumption) ?_
        rotate_left 1
        · intro w0 hSw
          (try dsimp only at hSw); obtain ⟨s1, s2, s3, s4⟩ := hSw
          go_simp
          try with_reducible rfl
        (try simp only [Act.put, List.setIfInBounds_toArray, List.set_cons_zero, List.set_cons_succ])
        refine wpAnyH_take (i := 2) (oi := ⟨some 32, _, _, _, _, _⟩) (v := ?_) rfl (by kernel_rfl) (by kernel_rfl) (by kernel_rfl) (fun _ _ _ h => h) (Or.inl ⟨by rfl, ?_⟩) (by assumption) ?_
        rotate_left 1
        · intro w0 hSw
          (try dsimp only at hSw); obtain ⟨s1, s2, s3, s4⟩ := hSw
          go_simp
          try with_reducible rfl
        (try simp only [Act.put, List.setIfInBounds_toArray, List.set_cons_zero, List.set_cons_succ])
        refine wpAnyH_take (i := 3) (oi := ⟨some 33, _, _, _, _, _⟩) (v := ?_) rfl (by kernel_rfl) (by kernel_rfl) (by kernel_rfl) (fun _ _ _ h => h) (Or.inl ⟨by rfl, ?_⟩) (by assumption) ?_
        rotate_left 1
        · intro w0 hSw
          (try dsimp only at hSw); obtain ⟨s1, s2, s3, s4⟩ := hSw
          go_simp
          try with_reducible rfl
        (try simp only [Act.put, List.setIfInBounds_toArray, List.set_cons_zero, List.set_cons_succ])
        refine wpAnyH_take (i := 4) (oi := ⟨some 34, _, _, _, _, _⟩) (v := ?_) rfl (by kernel_rfl) (by kernel_rfl) (by kernel_rfl) (fun _ _ _ h => h) (Or.inl ⟨by rfl, ?_⟩) (by assumption) ?_
        rotate_left 1
        · intro w0 hSw
          (try dsimp only at hSw); obtain ⟨s1, s2, s3, s4⟩ := hSw
          go_simp
          try with_reducible rfl
        (try simp only [Act.put, List.setIfInBounds_toArray, List.set_cons_zero, List.set_cons_succ])
        refine wpAnyH_take (i := 5) (oi := ⟨some 35, _, _, _, _, _⟩) (v := ?_) rfl (by kernel_rfl) (by kernel_rfl) (by kernel_rfl) (fun _ _ _ h => h) (Or.inl ⟨by rfl, ?_⟩) (by assumption) ?_
        rotate_left 1
        · intro w0 hSw
          (try dsimp only at hSw); obtain ⟨s1, s2, s3, s4⟩ := hSw
          go_simp
          try with_reducible rfl
        (try simp only [Act.put, List.setIfInBounds_toArray, List.set_cons_zero, List.set_cons_succ])
        refine wpAnyH_take (i := 6) (oi := ⟨some 36, _, _, _, _, _⟩) (v := ?_) rfl (by kernel_rfl) (by kernel_rfl) (by kernel_rfl) (fun _ _ _ h => h) (Or.inl ⟨by rfl, ?_⟩) (by assumption) ?_
        rotate_left 1
        · intro w0 hSw
          (try dsimp only at hSw); obtain ⟨s1, s2, s3, s4⟩ := hSw
          go_simp
          try with_reducible rfl
        (try simp only [Act.put, List.setIfInBounds_toArray, List.set_cons_zero, List.set_cons_succ])
        refine wpAnyH_take (i := 7) (oi := ⟨some 37, _, _, _, _, _⟩) (v := ?_) rfl (by kernel_rfl) (by kernel_rfl) (by kernel_rfl) (fun _ _ _ h => h) (Or.inl ⟨by rfl, ?_⟩) (by assumption) ?_
        rotate_left 1
        · intro w0 hSw
          (try dsimp only at hSw); obtain ⟨s1, s2, s3, s4⟩ := hSw
          go_simp
          try with_reducible rfl
        (try simp only [Act.put, List.setIfInBounds_toArray, List.set_cons_zero, List.set_cons_succ])
        refine wpAnyH_take (i := 8) (oi := ⟨some 38, _, _, _, _, _⟩) (v := ?_) rfl (by kernel_rfl) (by kernel_rfl) (by kernel_rfl) (fun _ _ _ h => h) (Or.inl ⟨by rfl, ?_⟩) (by assumption) ?_
        rotate_left 1
        · intro w0 hSw
          (try dsimp only at hSw); obtain ⟨s1, s2, s3, s4⟩ := hSw
          go_simp
          try with_reducible rfl
        (try simp only [Act.put, List.setIfInBounds_toArray, List.set_cons_zero, List.set_cons_succ])
        refine wpAnyH_take (i := 9) (oi := ⟨some 39, _, _, _, _, _⟩) (v := ?_) rfl (by kernel_rfl) (by kernel_rfl) (by kernel_rfl) (fun _ _ _ h => h) (Or.inl ⟨by rfl, ?_⟩) (by assumption) ?_
        rotate_left 1
        · intro w0 hSw
          (try dsimp only at hSw); obtain ⟨s1, s2, s3, s4⟩ := hSw
          go_simp
          try with_reducible rfl
        (try simp only [Act.put, List.setIfInBounds_toArray, List.set_cons_zero, List.set_cons_succ])
        refine wpAnyH_take (i := 10) (oi := ⟨some 40, _, _, _, _, _⟩) (v := ?_) rfl (by kernel_rfl) (by kernel_rfl) (by kernel_rfl) (fun _ _ _ h => h) (Or.inl ⟨by rfl, ?_⟩) (by assumption) ?_
        rotate_left 1
        · intro w0 hSw
          (try dsimp only at hSw); obtain ⟨s1, s2, s3, s4⟩ := hSw
          go_simp
          try with_reducible rfl
        (try simp only [Act.put, List.setIfInBounds_toArray, List.set_cons_zero, List.set_cons_succ])
        refine wpAnyH_take (i := 11) (oi := ⟨some 41, _, _, _, _, _⟩) (v := ?_) rfl (by kernel_rfl) (by kernel_rfl) (by kernel_rfl) (fun _ _ _ h => h) (Or.inl ⟨by rfl, ?_⟩) (by assumption) ?_
        rotate_left 1
        · intro w0 hSw
          (try dsimp only at hSw); obtain ⟨s1, s2, s3, s4⟩ := hSw
          go_simp
          try with_reducible rfl
        (try simp only [Act.put, List.setIfInBounds_toArray, List.set_cons_zero, List.set_cons_succ])
        refine wpAnyH_take (i := 12) (oi := ⟨some 42, _, _, _, _, _⟩) (v := ?_) rfl (by kernel_rfl) (by kernel_rfl) (by kernel_rfl) (fun _ _ _ h => h) (Or.inl ⟨by rfl, ?_⟩) (by assumption) ?_
        rotate_left 1
        · intro w0 hSw
          (try dsimp only at hSw); obtain ⟨s1, s2, s3, s4⟩ := hSw
          go_simp
          try with_reducible rfl
        (try simp only [Act.put, List.setIfInBounds_toArray, List.set_cons_zero, List.set_cons_succ])
        refine wpAnyH_take (i := 13) (oi := ⟨some 43, _, _, _, _, _⟩) (v := ?_) rfl (by kernel_rfl) (by kernel_rfl) (by kernel_rfl) (fun _ _ _ h => h) (Or.inl ⟨by rfl, ?_⟩) (by assumption) ?_
        rotate_left 1
        · intro w0 hSw
          (try dsimp only at hSw); obtain ⟨s1, s2, s3, s4⟩ := hSw
          go_simp
          try with_reducible rfl
        (try simp only [Act.put, List.setIfInBounds_toArray, List.set_cons_zero, List.set_cons_succ])
        refine wpAnyH_take (i := 14) (oi := ⟨some 44, _, _, _, _, _⟩) (v := ?_) rfl (by kernel_rfl) (by kernel_rfl) (by kernel_rfl) (fun _ _ _ h => h) (Or.inl ⟨by rfl, ?_⟩) (by assumption) ?_
        rotate_left 1
        · intro w0 hSw
          (try dsimp only at hSw); obtain ⟨s1, s2, s3, s4⟩ := hSw
          go_simp
          try with_reducible rfl
        (try simp only [Act.put, List.setIfInBounds_toArray, List.set_cons_zero, List.set_cons_succ])
        refine wpAnyH_take (i := 15) (oi := ⟨some 45, _, _, _, _, _⟩) (v := ?_) rfl (by kernel_rfl) (by kernel_rfl) (by kernel_rfl) (fun _ _ _ h => h) (Or.inl ⟨by rfl, ?_⟩) (by assumption) ?_
        rotate_left 1
        · intro w0 hSw
          (try dsimp only at hSw); obtain ⟨s1, s2, s3, s4⟩ := hSw
          go_simp
          try with_reducible rfl
        (try simp only [Act.put, List.setIfInBounds_toArray, List.set_cons_zero, List.set_cons_succ])
        refine wpAnyH_take (i := 16) (oi := ⟨some 46, _, _, _, _, _⟩) (v := ?_) rfl (by kernel_rfl) (by kernel_rfl) (by kernel_rfl) (fun _ _ _ h => h) (Or.inl ⟨by rfl, ?_⟩) (by assumption) ?_
        rotate_left 1
        · intro w0 hSw
          (try dsimp only at hSw); obtain ⟨s1, s2, s3, s4⟩ := hSw
          go_simp
          try with_reducible rfl
        (try simp only [Act.put, List.setIfInBounds_toArray, List.set_cons_zero, List.set_cons_succ])
        refine wpAnyH_take (i := 17) (oi := ⟨some 47, _, _, _, _, _⟩) (v := ?_) rfl (by kernel_rfl) (by kernel_rfl) (by kernel_rfl) (fun _ _ _ h => h) (Or.inl ⟨by rfl, ?_⟩) (by assumption) ?_
        rotate_left 1
        · intro w0 hSw
          (try dsimp only at hSw); obtain ⟨s1, s2, s3, s4⟩ := hSw
          go_simp
          try with_reducible rfl
        (try simp only [Act.put, List.setIfInBounds_toArray, List.set_cons_zero, List.set_cons_succ])
        refine wpAnyH_take (i := 18) (oi := ⟨some 48, _, _, _, _, _⟩) (v := ?_) rfl (by kernel_rfl) (by kernel_rfl) (by kernel_rfl) (fun _ _ _ h => h) (Or.inl ⟨by rfl, ?_⟩) (by assumption) ?_
        rotate_left 1
        · intro w0 hSw
          (try dsimp only at hSw); obtain ⟨s1, s2, s3, s4⟩ := hSw
          go_simp
          try with_reducible rfl
        (try simp only [Act.put, List.setIfInBounds_toArray, List.set_cons_zero, List.set_cons_succ])
        refine wpAnyH_take (i := 19) (oi := ⟨some 49, _, _, _, _, _⟩) (v := ?_) rfl (by kernel_rfl) (by kernel_rfl) (by kernel_rfl) (fun _ _ _ h => h) (Or.inl ⟨by rfl, ?_⟩) (by assumption) ?_
        rotate_left 1
        · intro w0 hSw
          (try dsimp only at hSw); obtain ⟨s1, s2, s3, s4⟩ := hSw
          go_simp
          try with_reducible rfl
        (try simp only [Act.put, List.setIfInBounds_toArray, List.set_cons_zero, List.set_cons_succ])
        refine wpAnyH_done (by kernel_rfl) ?_ _
        refine NoPanic.normal ?_
        clear c0 y1 y4 q1
        go_wp2
        go_ret3
        refine ⟨_, us1, ?_, bs_nil _, ?_, C1.out.trans (HK.out.2.draws 1)⟩
        · rw [hw, HM.out, HLN.out, HTM.out]; rfl
        · rw [hw, HM.out, HTT.out, Int.toNat_natCast]; exact Nt.draws HK.out.1 stb_Eb 1
      · have hd1 : ¬ j < n := hTn2
        clear hlt
        generalize m + j = mj at *
        go_upto_region 5 with fail
        refine wp_region_noPanic ?_
        refine wp_region_held_drew (S := fun w' => w'.cell? ⟨k, 0, none⟩ = some (.slice (some ⟨gr, 0, none⟩) S.length cg) ∧ w'.cell? ⟨g, 1, none⟩ = some (.int .i64 (p : Nat)) ∧ w'.cell? ⟨g, 4, none⟩ = some (.slice A n c) ∧ w'.cell? ⟨gr, p, none⟩ = some (.slice B mj d)) (by kernel_rfl) ?_ (fun hHeld => ?_)
        · exact ⟨c0, y1, y4, q1⟩
        refine wpAnyH_take (i := 0) (oi := ⟨some 30, _, _, _, _, _⟩) (v := ?_) rfl (by kernel_rfl) (by kernel_rfl) (by kernel_rfl) (fun _ _ _ h => h) (Or.inl ⟨by rfl, ?_⟩) (by assumption) ?_
        rotate_left 1
        · intro w0 hSw
          (try dsimp only at hSw); obtain ⟨s1, s2, s3, s4⟩ := hSw
          go_simp
          try with_reducible rfl
        (try simp only [Act.put, List.setIfInBounds_toArray, List.set_cons_zero, List.set_cons_succ])
        refine wpAnyH_take (i := 1) (oi := ⟨some 31, _, _, _, _, _⟩) (v := ?_) rfl (by kernel_rfl) (by kernel_rfl) (by kernel_rfl) (fun _ _ _ h => h) (Or.inl ⟨by rfl, ?_⟩) (by assumption) ?_
        rotate_left 1
        · intro w0 hSw
          (try dsimp only at hSw); obtain ⟨s1, s2, s3, s4⟩ := hSw
          go_simp
          try with_reducible rfl
        (try simp only [Act.put, List.setIfInBounds_toArray, List.set_cons_zero, List.set_cons_succ])
        refine wpAnyH_take (i := 2) (oi := ⟨some 32, _, _, _, _, _⟩) (v := ?_) rfl (by kernel_rfl) (by kernel_rfl) (by kernel_rfl) (fun _ _ _ h => h) (Or.inl ⟨by rfl, ?_⟩) (by assumption) ?_
        rotate_left 1
        · intro w0 hSw
          (try dsimp only at hSw); obtain ⟨s1, s2, s3, s4⟩ := hSw
          go_simp
          try with_reducible rfl
        (try simp only [Act.put, List.setIfInBounds_toArray, List.set_cons_zero, List.set_cons_succ])
        refine wpAnyH_take (i := 3) (oi := ⟨some 33, _, _, _, _, _⟩) (v := ?_) rfl (by kernel_rfl) (by kernel_rfl) (by kernel_rfl) (fun _ _ _ h => h) (Or.inl ⟨by rfl, ?_⟩) (by assumption) ?_
        rotate_left 1
        · intro w0 hSw
          (try dsimp only at hSw); obtain ⟨s1, s2, s3, s4⟩ := hSw
          go_simp
          try with_reducible rfl
        (try simp only [Act.put, List.setIfInBounds_toArray, List.set_cons_zero, List.set_cons_succ])
        refine wpAnyH_take (i := 4) (oi := ⟨some 34, _, _, _, _, _⟩) (v := ?_) rfl (by kernel_rfl) (by kernel_rfl) (by kernel_rfl) (fun _ _ _ h => h) (Or.inl ⟨by rfl, ?_⟩) (by assumption) ?_
        rotate_left 1
        · intro w0 hSw
          (try dsimp only at hSw); obtain ⟨s1, s2, s3, s4⟩ := hSw
          go_simp
          try with_reducible rfl
        (try simp only [Act.put, List.setIfInBounds_toArray, List.set_cons_zero, List.set_cons_succ])
        refine wpAnyH_take (i := 5) (oi := ⟨some 35, _, _, _, _, _⟩) (v := ?_) rfl (by kernel_rfl) (by kernel_rfl) (by kernel_rfl) (fun _ _ _ h => h) (Or.inl ⟨by rfl, ?_⟩) (by assumption) ?_
        rotate_left 1
        · intro w0 hSw
          (try dsimp only at hSw); obtain ⟨s1, s2, s3, s4⟩ := hSw
          go_simp
          try with_reducible rfl
        (try simp only [Act.put, List.setIfInBounds_toArray, List.set_cons_zero, List.set_cons_succ])
        refine wpAnyH_take (i := 6) (oi := ⟨some 36, _, _, _, _, _⟩) (v := ?_) rfl (by kernel_rfl) (by kernel_rfl) (by kernel_rfl) (fun _ _ _ h => h) (Or.inl ⟨by rfl, ?_⟩) (by assumption) ?_
        rotate_left 1
        · intro w0 hSw
          (try dsimp only at hSw); obtain ⟨s1, s2, s3, s4⟩ := hSw
          go_simp
          try with_reducible rfl
        (try simp only [Act.put, List.setIfInBounds_toArray, List.set_cons_zero, List.set_cons_succ])
        refine wpAnyH_take (i := 7) (oi := ⟨some 37, _, _, _, _, _⟩) (v := ?_) rfl (by kernel_rfl) (by kernel_rfl) (by kernel_rfl) (fun _ _ _ h => h) (Or.inl ⟨by rfl, ?_⟩) (by assumption) ?_
        rotate_left 1
        · intro w0 hSw
          (try dsimp only at hSw); obtain ⟨s1, s2, s3, s4⟩ := hSw
          go_simp
          try with_reducible rfl
        (try simp only [Act.put, List.setIfInBounds_toArray, List.set_cons_zero, List.set_cons_succ])
        refine wpAnyH_take (i := 8) (oi := ⟨some 38, _, _, _, _, _⟩) (v := ?_) rfl (by kernel_rfl) (by kernel_rfl) (by kernel_rfl) (fun _ _ _ h => h) (Or.inl ⟨by rfl, ?_⟩) (by assumption) ?_
        rotate_left 1
        · intro w0 hSw
          (try dsimp only at hSw); obtain ⟨s1, s2, s3, s4⟩ := hSw
          go_simp
          try with_reducible rfl
        (try simp only [Act.put, List.setIfInBounds_toArray, List.set_cons_zero, List.set_cons_succ])
        refine wpAnyH_take (i := 9) (oi := ⟨some 39, _, _, _, _, _⟩) (v := undef) rfl (by kernel_rfl) (by kernel_rfl) (by kernel_rfl) (fun _ _ _ h => h) (Or.inr ⟨by rfl, rfl⟩) (by assumption) ?_
        (try simp only [Act.put, List.setIfInBounds_toArray, List.set_cons_zero, List.set_cons_succ])
        refine wpAnyH_take (i := 10) (oi := ⟨some 40, _, _, _, _, _⟩) (v := undef) rfl (by kernel_rfl) (by kernel_rfl) (by kernel_rfl) (fun _ _ _ h => h) (Or.inr ⟨by rfl, rfl⟩) (by assumption) ?_
        (try simp only [Act.put, List.setIfInBounds_toArray, List.set_cons_zero, List.set_cons_succ])
        refine wpAnyH_take (i := 11) (oi := ⟨some 41, _, _, _, _, _⟩) (v := undef) rfl (by kernel_rfl) (by kernel_rfl) (by kernel_rfl) (fun _ _ _ h => h) (Or.inr ⟨by rfl, rfl⟩) (by assumption) ?_
        (try simp only [Act.put, List.setIfInBounds_toArray, List.set_cons_zero, List.set_cons_succ])
        refine wpAnyH_take (i := 12) (oi := ⟨some 42, _, _, _, _, _⟩) (v := undef) rfl (by kernel_rfl) (by kernel_rfl) (by kernel_rfl) (fun _ _ _ h => h) (Or.inr ⟨by rfl, rfl⟩) (by assumption) ?_
        (try simp only [Act.put, List.setIfInBounds_toArray, List.set_cons_zero, List.set_cons_succ])
        refine wpAnyH_take (i := 13) (oi := ⟨some 43, _, _, _, _, _⟩) (v := undef) rfl (by kernel_rfl) (by kernel_rfl) (by kernel_rfl) (fun _ _ _ h => h) (Or.inr ⟨by rfl, rfl⟩) (by assumption) ?_
        (try simp only [Act.put, List.setIfInBounds_toArray, List.set_cons_zero, List.set_cons_succ])
        refine wpAnyH_take (i := 14) (oi := ⟨some 44, _, _, _, _, _⟩) (v := undef) rfl (by kernel_rfl) (by kernel_rfl) (by kernel_rfl) (fun _ _ _ h => h) (Or.inr ⟨by rfl, rfl⟩) (by assumption) ?_
        (try simp only [Act.put, List.setIfInBounds_toArray, List.set_cons_zero, List.set_cons_succ])
        refine wpAnyH_take (i := 15) (oi := ⟨some 45, _, _, _, _, _⟩) (v := undef) rfl (by kernel_rfl) (by kernel_rfl) (by kernel_rfl) (fun _ _ _ h => h) (Or.inr ⟨by rfl, rfl⟩) (by assumption) ?_
        (try simp only [Act.put, List.setIfInBounds_toArray, List.set_cons_zero, List.set_cons_succ])
        refine wpAnyH_take (i := 16) (oi := ⟨some 46, _, _, _, _, _⟩) (v := undef) rfl (by kernel_rfl) (by kernel_rfl) (by kernel_rfl) (fun _ _ _ h => h) (Or.inr ⟨by rfl, rfl⟩) (by assumption) ?_
        (try simp only [Act.put, List.setIfInBounds_toArray, List.set_cons_zero, List.set_cons_succ])
        refine wpAnyH_take (i := 17) (oi := ⟨some 47, _, _, _, _, _⟩) (v := undef) rfl (by kernel_rfl) (by kernel_rfl) (by kernel_rfl) (fun _ _ _ h => h) (Or.inr ⟨by rfl, rfl⟩) (by assumption) ?_
        (try simp only [Act.put, List.setIfInBounds_toArray, List.set_cons_zero, List.set_cons_succ])
        refine wpAnyH_take (i := 18) (oi := ⟨some 48, _, _, _, _, _⟩) (v := undef) rfl (by kernel_rfl) (by kernel_rfl) (by kernel_rfl) (fun _ _ _ h => h) (Or.inr ⟨by rfl, rfl⟩) (by assumption) ?_
        (try simp only [Act.put, List.setIfInBounds_toArray, List.set_cons_zero, List.set_cons_succ])
        refine wpAnyH_take (i := 19) (oi := ⟨some 49, _, _, _, _, _⟩) (v := ?_) rfl (by kernel_rfl) (by kernel_rfl) (by kernel_rfl) (fun _ _ _ h => h) (Or.inl ⟨by rfl, ?_⟩) (by assumption) ?_
        rotate_left 1
        · intro w0 hSw
          (try dsimp only at hSw); obtain ⟨s1, s2, s3, s4⟩ := hSw
          go_simp
          try with_reducible rfl
        (try simp only [Act.put, List.setIfInBounds_toArray, List.set_cons_zero, List.set_cons_succ])
        refine wpAnyH_done (by kernel_rfl) ?_ _
        refine NoPanic.normal ?_
        clear c0 y1 y4 q1
        go_wp2
        go_ret3
        refine ⟨_, us1, ?_, bs_nil _, ?_, C1.out.trans (HK.out.2.draws 1)⟩
        · rw [hw, HM.out, HLN.out, HTM.out]; rfl
        · rw [hw, HM.out, HTT.out, Int.toNat_natCast]; exact Nt.draws HK.out.1 stb_Eb 1
end
end Go.Proofs.Ytcagochalnjagaa
