/-
  What is proved: the reference's Do of all acts but Send. Condition: the net lies in memory as one.
-/
import Derived.Test.YtcagochalnjagaaRf9
import Derived.StillTailTactics
namespace Go.Proofs.Ytcagochalnjagaa
open Go.RowKit

section
variable {w : World} {k : Nat} {v : Value} {us : List Value} {S : List Wy} {l : Wy}
def RoP (k : Nat) (v : Value) (us : List Value) (S : List Wy) (κ way i r : Int) (l : Wy) (w : World) (e : Ending) (w' : World) : Prop :=
  ∃ u us', e = .returned (.tuple #[.int .i64 (doN κ way l S), u, .int .i64 (doE κ way i r S)]) ∧ Bs w' u (doB κ way i S) ∧ NR w' k v us' (doS κ way i r l S) ∧ Chg w w' (Ft k v us) (Ft k v us')
set_option maxRecDepth 100000 in
set_option maxHeartbeats 1600000 in
theorem rdo5 (h : NR w k v us S) (way i r : Int) (A : Option Addr) (n c : Nat) :
    Calls Try.prog 13 #[.pointer (some ⟨k, 0, none⟩), .agg #[.int .i64 (5), .int .i64 way, .int .i64 i, .int .i64 r, .slice A n c]] w (RoP k v us S 5 way i r l w) := by
  unfold RoP
  have e1 : doS 5 way i r l S = clearS S way := rfl
  have e2 : doN 5 way l S = 0 := rfl
  have e3 : doB 5 way i S = [] := rfl
  have e4 : doE 5 way i r S = 0 := rfl
  rw [e1, e2, e3, e4]
  clear e1 e2 e3 e4
  have y9 : (if isw S way then S.set way.toNat [] else S) = clearS S way := rfl
  rw [← y9]
  clear y9
  have HI : decide (isw S way) = true ∨ decide (isw S way) = false := by cases decide (isw S way) <;> simp
  rcases HI with HI | HI
  · have hi : isw S way := by simpa using HI
    rw [if_pos hi]
    clear HI
    obtain ⟨g, hg⟩ : ∃ g, w.heap.size = g := ⟨_, rfl⟩
    obtain ⟨W, hW⟩ : ∃ W, w.alloc (.cells #[.int .i64 5, .int .i64 way, .int .i64 i, .int .i64 r, .slice A n c] 31) = W := ⟨_, rfl⟩
    have BW : Below w.heap.size w W := by rw [← hW]; exact below_alloc _ _
    have XW : Bx W g 31 #[.int .i64 5, .int .i64 way, .int .i64 i, .int .i64 r, .slice A n c] := by rw [← hW, ← hg]; exact Bx.new _ _ _
    have NW := hid (show NR W k v us S from Nt.below h stb_Eb BW)
    have CW := hid (Chg.of BW (Ft k v us))
    have LW := hid (show ∀ j, Ft k v us j → j ≠ g from fun j hj => by have := Nt.lt h hj; omega)
    have HX := hid XW
    have HG := hid hg
    have HW := hid hW
    have y1 : W.cell? ⟨g, 1, none⟩ = some (.int .i64 way) := XW.cell 1
    obtain ⟨A0, c0, e0, k0, -⟩ := Nt.cells h
    have k0 : W.cell? ⟨k, 0, none⟩ = some (.slice A0 S.length c0) := (BW.cell (World.block_lt_of_cell? w _ k0)).trans k0
    clear BW XW hg hW h e0
    go_enter Try.func13, Try.ntmps13
    go_upto_region 1 with fail
    rw [HG.out, HW.out]
    go_cut [7] from 14 to 26 (fun s7 wx => s7 = .bool (decide (isw S way)) ∧ wx = W.drew)
    case first =>
      obtain ⟨nn, hnn⟩ : ∃ nn, S.length = nn := ⟨_, rfl⟩
      rw [hnn] at k0
      by_cases h0 : way < 0
      · have hd : decide ((0 : Int) ≤ way) = false := by simpa using h0
        have HD := hid (show decide (isw S way) = false from decide_eq_false (by unfold isw; omega))
        clear hnn
        go_region
        go_wp2
        go_meet
        exact ⟨by rw [HD.out], rfl⟩
      · have h1 : 0 ≤ way := by omega
        by_cases h2 : way < (nn : Int)
        · have HD := hid (show decide (isw S way) = true from decide_eq_true (by unfold isw; omega))
          clear hnn h0
          go_region
          go_wp2
          go_meet
          exact ⟨by rw [HD.out], rfl⟩
        · have hd : decide (way < (nn : Int)) = false := by simpa using h2
          have HD := hid (show decide (isw S way) = false from decide_eq_false (by unfold isw; omega))
          clear hnn h0 h2
          go_region
          go_wp2
          go_meet
          exact ⟨by rw [HD.out], rfl⟩
    case rest =>
    obtain ⟨rfl, rfl⟩ := hcut
    clear y1 k0
    have N1 := hid (show NR W.drew k v us S from Nt.draws NW.out stb_Eb 1)
    have X1 := hid (show Bx W.drew g 31 #[.int .i64 5, .int .i64 way, .int .i64 i, .int .i64 r, .slice A n c] from HX.out)
    have C1 := hid (show Chg w W.drew (Ft k v us) (Ft k v us) from CW.out.draws 1)
    clear NW HX CW HG HW
    generalize W.drew = W at *
    have y0 : W.cell? ⟨g, 0, none⟩ = some (.int .i64 5) := X1.out.cell 0
    have y1 : W.cell? ⟨g, 1, none⟩ = some (.int .i64 way) := X1.out.cell 1
    rw [show decide (isw S way) = true from by simpa using hi]
    obtain ⟨p, fs, rfl, hp, hw⟩ := isw_at hi
    obtain ⟨gr, cg, u, B, d, cs, rfl, hu, rfl, q1, q2, _, _, _⟩ := Nt.at_ N1.out hp
    have c0 : W.cell? ⟨k, 0, none⟩ = some (.slice (some ⟨gr, 0, none⟩) S.length cg) := N1.out.box.cell 0
    have hpp : (p : Int) < (S.length : Int) := hi.2
    have HP := hid (Nt.put N1.out stb_Eb rfl hu (u1 := .slice none 0 0) ⟨World.grownBy.refl W _, .inr fun g hg => by simp [Value.ownBlock] at hg, fun _ _ e => e⟩ (ownW_nil W _) (Cs.nil _ _) (Nat.zero_le _) (nb_slice _ _ _)).2.2.2
    clear hi hp hw
    generalize fs.length = m at *
    go_upto_region 14 with fail
    go_region
    all_goals
      go_wp2
      go_ret3
      exact ⟨_, _, rfl, bs_nil _, by rw [Int.toNat_natCast]; exact Nt.draws HP.out.1 stb_Eb 1, C1.out.trans (HP.out.2.draws 1)⟩
  · have hi : ¬ isw S way := by simpa using HI
    rw [if_neg hi]
    clear HI
    obtain ⟨g, hg⟩ : ∃ g, w.heap.size = g := ⟨_, rfl⟩
    obtain ⟨W, hW⟩ : ∃ W, w.alloc (.cells #[.int .i64 5, .int .i64 way, .int .i64 i, .int .i64 r, .slice A n c] 31) = W := ⟨_, rfl⟩
    have BW : Below w.heap.size w W := by rw [← hW]; exact below_alloc _ _
    have XW : Bx W g 31 #[.int .i64 5, .int .i64 way, .int .i64 i, .int .i64 r, .slice A n c] := by rw [← hW, ← hg]; exact Bx.new _ _ _
    have NW := hid (show NR W k v us S from Nt.below h stb_Eb BW)
    have CW := hid (Chg.of BW (Ft k v us))
    have LW := hid (show ∀ j, Ft k v us j → j ≠ g from fun j hj => by have := Nt.lt h hj; omega)
    have HX := hid XW
    have HG := hid hg
    have HW := hid hW
    have y1 : W.cell? ⟨g, 1, none⟩ = some (.int .i64 way) := XW.cell 1
    obtain ⟨A0, c0, e0, k0, -⟩ := Nt.cells h
    have k0 : W.cell? ⟨k, 0, none⟩ = some (.slice A0 S.length c0) := (BW.cell (World.block_lt_of_cell? w _ k0)).trans k0
    clear BW XW hg hW h e0
    go_enter Try.func13, Try.ntmps13
    go_upto_region 1 with fail
    rw [HG.out, HW.out]
    go_cut [7] from 14 to 26 (fun s7 wx => s7 = .bool (decide (isw S way)) ∧ wx = W.drew)
    case first =>
      obtain ⟨nn, hnn⟩ : ∃ nn, S.length = nn := ⟨_, rfl⟩
      rw [hnn] at k0
      by_cases h0 : way < 0
      · have hd : decide ((0 : Int) ≤ way) = false := by simpa using h0
        have HD := hid (show decide (isw S way) = false from decide_eq_false (by unfold isw; omega))
        clear hnn
        go_region
        go_wp2
        go_meet
        exact ⟨by rw [HD.out], rfl⟩
      · have h1 : 0 ≤ way := by omega
        by_cases h2 : way < (nn : Int)
        · have HD := hid (show decide (isw S way) = true from decide_eq_true (by unfold isw; omega))
          clear hnn h0
          go_region
          go_wp2
          go_meet
          exact ⟨by rw [HD.out], rfl⟩
        · have hd : decide (way < (nn : Int)) = false := by simpa using h2
          have HD := hid (show decide (isw S way) = false from decide_eq_false (by unfold isw; omega))
          clear hnn h0 h2
          go_region
          go_wp2
          go_meet
          exact ⟨by rw [HD.out], rfl⟩
    case rest =>
    obtain ⟨rfl, rfl⟩ := hcut
    clear y1 k0
    have N1 := hid (show NR W.drew k v us S from Nt.draws NW.out stb_Eb 1)
    have X1 := hid (show Bx W.drew g 31 #[.int .i64 5, .int .i64 way, .int .i64 i, .int .i64 r, .slice A n c] from HX.out)
    have C1 := hid (show Chg w W.drew (Ft k v us) (Ft k v us) from CW.out.draws 1)
    clear NW HX CW HG HW
    generalize W.drew = W at *
    have y0 : W.cell? ⟨g, 0, none⟩ = some (.int .i64 5) := X1.out.cell 0
    rw [show decide (isw S way) = false from by simpa using hi]
    clear hi
    go_wp2
    go_ret3
    exact ⟨_, _, rfl, bs_nil _, N1.out, C1.out⟩
set_option maxRecDepth 100000 in
set_option maxHeartbeats 1600000 in
theorem rdo_out (h : NR w k v us S) (κ way i r : Int) (A : Option Addr) (n c : Nat) (hκ : 1 ≤ κ ∧ κ ≤ 4) (hi : ¬ vld (wy S way) i ∨ κ = 4 ∧ ¬ vld (wy S way) r) :
    Calls Try.prog 13 #[.pointer (some ⟨k, 0, none⟩), .agg #[.int .i64 κ, .int .i64 way, .int .i64 i, .int .i64 r, .slice A n c]] w (RoP k v us S κ way i r l w) := by
  unfold RoP
  have e1 : doS κ way i r l S = S ∧ doN κ way l S = 0 ∧ doB κ way i S = [] ∧ doE κ way i r S = 5 := by
    have h5 : κ = 1 ∨ κ = 2 ∨ κ = 3 ∨ κ = 4 := by omega
    rcases hi with hi | ⟨rfl, hi⟩
    · have a1 : takeS S way i = S := if_neg hi
      have a2 : takeB S way i = [] := if_neg hi
      have a3 : errS S way i = 5 := if_neg hi
      have a4 : twiceS S way i = S := if_neg hi
      have a5 : twiceE S way i = 5 := if_neg hi
      have a6 : turnS S way i r = S := if_neg (fun e => hi e.1)
      have a7 : turnE S way i r = 5 := if_neg (fun e => hi e.1)
      rcases h5 with rfl | rfl | rfl | rfl
      · exact ⟨a1, rfl, a2, a3⟩
      · exact ⟨a4, rfl, rfl, a5⟩
      · exact ⟨a1, rfl, rfl, a3⟩
      · exact ⟨a6, rfl, rfl, a7⟩
    · have a6 : turnS S way i r = S := if_neg (fun e => hi e.2)
      have a7 : turnE S way i r = 5 := if_neg (fun e => hi e.2)
      exact ⟨a6, rfl, rfl, a7⟩
  rw [e1.1, e1.2.1, e1.2.2.1, e1.2.2.2]
  clear e1
  obtain ⟨g, hg⟩ : ∃ g, w.heap.size = g := ⟨_, rfl⟩
  obtain ⟨W, hW⟩ : ∃ W, w.alloc (.cells #[.int .i64 κ, .int .i64 way, .int .i64 i, .int .i64 r, .slice A n c] 31) = W := ⟨_, rfl⟩
  have BW : Below w.heap.size w W := by rw [← hW]; exact below_alloc _ _
  have XW : Bx W g 31 #[.int .i64 κ, .int .i64 way, .int .i64 i, .int .i64 r, .slice A n c] := by rw [← hW, ← hg]; exact Bx.new _ _ _
  have NW := hid (show NR W k v us S from Nt.below h stb_Eb BW)
  have CW := hid (Chg.of BW (Ft k v us))
  have LW := hid (show ∀ j, Ft k v us j → j ≠ g from fun j hj => by have := Nt.lt h hj; omega)
  have HX := hid XW
  have HG := hid hg
  have HW := hid hW
  have y1 : W.cell? ⟨g, 1, none⟩ = some (.int .i64 way) := XW.cell 1
  obtain ⟨A0, c0, e0, k0, -⟩ := Nt.cells h
  have k0 : W.cell? ⟨k, 0, none⟩ = some (.slice A0 S.length c0) := (BW.cell (World.block_lt_of_cell? w _ k0)).trans k0
  clear BW XW hg hW h e0
  go_enter Try.func13, Try.ntmps13
  go_upto_region 1 with fail
  rw [HG.out, HW.out]
  go_cut [7] from 14 to 26 (fun s7 wx => s7 = .bool (decide (isw S way)) ∧ wx = W.drew)
  case first =>
    obtain ⟨nn, hnn⟩ : ∃ nn, S.length = nn := ⟨_, rfl⟩
    rw [hnn] at k0
    by_cases h0 : way < 0
    · have hd : decide ((0 : Int) ≤ way) = false := by simpa using h0
      have HD := hid (show decide (isw S way) = false from decide_eq_false (by unfold isw; omega))
      clear hnn
      go_region
      go_wp2
      go_meet
      exact ⟨by rw [HD.out], rfl⟩
    · have h1 : 0 ≤ way := by omega
      by_cases h2 : way < (nn : Int)
      · have HD := hid (show decide (isw S way) = true from decide_eq_true (by unfold isw; omega))
        clear hnn h0
        go_region
        go_wp2
        go_meet
        exact ⟨by rw [HD.out], rfl⟩
      · have hd : decide (way < (nn : Int)) = false := by simpa using h2
        have HD := hid (show decide (isw S way) = false from decide_eq_false (by unfold isw; omega))
        clear hnn h0 h2
        go_region
        go_wp2
        go_meet
        exact ⟨by rw [HD.out], rfl⟩
  case rest =>
  obtain ⟨rfl, rfl⟩ := hcut
  clear y1 k0
  have N1 := hid (show NR W.drew k v us S from Nt.draws NW.out stb_Eb 1)
  have X1 := hid (show Bx W.drew g 31 #[.int .i64 κ, .int .i64 way, .int .i64 i, .int .i64 r, .slice A n c] from HX.out)
  have C1 := hid (show Chg w W.drew (Ft k v us) (Ft k v us) from CW.out.draws 1)
  clear NW HX CW HG HW
  generalize W.drew = W at *
  have y0 : W.cell? ⟨g, 0, none⟩ = some (.int .i64 κ) := X1.out.cell 0
  have y1 : W.cell? ⟨g, 1, none⟩ = some (.int .i64 way) := X1.out.cell 1
  have y2 : W.cell? ⟨g, 2, none⟩ = some (.int .i64 i) := X1.out.cell 2
  have y3 : W.cell? ⟨g, 3, none⟩ = some (.int .i64 r) := X1.out.cell 3
  have d0 : ((κ : Int) == 0) = false := by simp; omega
  have d5 : ((κ : Int) == 5) = false := by simp; omega
  by_cases h1 : vld (wy S way) i
  · obtain ⟨rfl, h2⟩ : κ = 4 ∧ ¬ vld (wy S way) r := by rcases hi with hi | hi; exact absurd h1 hi; exact hi
    have HY := hid (rhas_yes N1.out h1)
    have HN := hid (rhas_no N1.out h2)
    clear hi h1 h2
    go_wp2_with (go_at_call 23; (first | ((with_reducible refine HY.out.mono ?_); rintro e w' ⟨rfl, rfl⟩) | ((with_reducible refine HN.out.mono ?_); rintro e w' ⟨rfl, rfl⟩)))
    go_ret3
    exact ⟨_, _, rfl, bs_nil _, N1.out, C1.out⟩
  · have HN := hid (rhas_no N1.out h1)
    clear hi h1
    go_wp2_with (go_at_call 23; (with_reducible refine HN.out.mono ?_); rintro e w' ⟨rfl, rfl⟩)
    go_ret3
    exact ⟨_, _, rfl, bs_nil _, N1.out, C1.out⟩
set_option maxRecDepth 100000 in
set_option maxHeartbeats 1600000 in
theorem rdo1 (h : NR w k v us S) (way i r : Int) (A : Option Addr) (n c : Nat) (hi : vld (wy S way) i) :
    Calls Try.prog 13 #[.pointer (some ⟨k, 0, none⟩), .agg #[.int .i64 (1), .int .i64 way, .int .i64 i, .int .i64 r, .slice A n c]] w (RoP k v us S 1 way i r l w) := by
  unfold RoP
  have e1 : doS 1 way i r l S = S.set way.toNat ((wy S way).eraseIdx i.toNat) := if_pos hi
  have e2 : doN 1 way l S = 0 := rfl
  have e3 : doB 1 way i S = (wy S way).getD i.toNat [] := if_pos hi
  have e4 : doE 1 way i r S = 0 := if_pos hi
  rw [e1, e2, e3, e4]
  clear e1 e2 e3 e4
  obtain ⟨g, hg⟩ : ∃ g, w.heap.size = g := ⟨_, rfl⟩
  obtain ⟨W, hW⟩ : ∃ W, w.alloc (.cells #[.int .i64 1, .int .i64 way, .int .i64 i, .int .i64 r, .slice A n c] 31) = W := ⟨_, rfl⟩
  have BW : Below w.heap.size w W := by rw [← hW]; exact below_alloc _ _
  have XW : Bx W g 31 #[.int .i64 1, .int .i64 way, .int .i64 i, .int .i64 r, .slice A n c] := by rw [← hW, ← hg]; exact Bx.new _ _ _
  have NW := hid (show NR W k v us S from Nt.below h stb_Eb BW)
  have CW := hid (Chg.of BW (Ft k v us))
  have LW := hid (show ∀ j, Ft k v us j → j ≠ g from fun j hj => by have := Nt.lt h hj; omega)
  have HX := hid XW
  have HG := hid hg
  have HW := hid hW
  have y1 : W.cell? ⟨g, 1, none⟩ = some (.int .i64 way) := XW.cell 1
  obtain ⟨A0, c0, e0, k0, -⟩ := Nt.cells h
  have k0 : W.cell? ⟨k, 0, none⟩ = some (.slice A0 S.length c0) := (BW.cell (World.block_lt_of_cell? w _ k0)).trans k0
  clear BW XW hg hW h e0
  go_enter Try.func13, Try.ntmps13
  go_upto_region 1 with fail
  rw [HG.out, HW.out]
  go_cut [7] from 14 to 26 (fun s7 wx => s7 = .bool (decide (isw S way)) ∧ wx = W.drew)
  case first =>
    obtain ⟨nn, hnn⟩ : ∃ nn, S.length = nn := ⟨_, rfl⟩
    rw [hnn] at k0
    by_cases h0 : way < 0
    · have hd : decide ((0 : Int) ≤ way) = false := by simpa using h0
      have HD := hid (show decide (isw S way) = false from decide_eq_false (by unfold isw; omega))
      clear hnn
      go_region
      go_wp2
      go_meet
      exact ⟨by rw [HD.out], rfl⟩
    · have h1 : 0 ≤ way := by omega
      by_cases h2 : way < (nn : Int)
      · have HD := hid (show decide (isw S way) = true from decide_eq_true (by unfold isw; omega))
        clear hnn h0
        go_region
        go_wp2
        go_meet
        exact ⟨by rw [HD.out], rfl⟩
      · have hd : decide (way < (nn : Int)) = false := by simpa using h2
        have HD := hid (show decide (isw S way) = false from decide_eq_false (by unfold isw; omega))
        clear hnn h0 h2
        go_region
        go_wp2
        go_meet
        exact ⟨by rw [HD.out], rfl⟩
  case rest =>
  obtain ⟨rfl, rfl⟩ := hcut
  clear y1 k0
  have N1 := hid (show NR W.drew k v us S from Nt.draws NW.out stb_Eb 1)
  have X1 := hid (show Bx W.drew g 31 #[.int .i64 1, .int .i64 way, .int .i64 i, .int .i64 r, .slice A n c] from HX.out)
  have C1 := hid (show Chg w W.drew (Ft k v us) (Ft k v us) from CW.out.draws 1)
  clear NW HX CW HG HW
  generalize W.drew = W at *
  have HY := hid (rhas_yes N1.out hi)
  obtain ⟨p, fs, rfl, hp, hw⟩ := isw_at (vld_isw hi)
  rw [show decide (isw S p) = true from by simpa using vld_isw hi]
  rw [hw] at hi
  obtain ⟨q, lq, rfl, hq, hql⟩ := vld_at hi
  obtain ⟨gr, cg, u, B, d, cs, rfl, hu, hu2, q1, q2, ho, hcs, h400⟩ := Nt.at_ N1.out hp
  have c0 : W.cell? ⟨k, 0, none⟩ = some (.slice (some ⟨gr, 0, none⟩) S.length cg) := N1.out.box.cell 0
  have hpp : (p : Int) < (S.length : Int) := by have := (List.getElem?_eq_some_iff.1 hp).1; omega
  have y0 : W.cell? ⟨g, 0, none⟩ = some (.int .i64 1) := X1.out.cell 0
  have y1 : W.cell? ⟨g, 1, none⟩ = some (.int .i64 (p : Nat)) := X1.out.cell 1
  have y2 : W.cell? ⟨g, 2, none⟩ = some (.int .i64 (q : Nat)) := X1.out.cell 2
  obtain ⟨x, hx, hxl⟩ := hcs.get hq
  rw [hu2] at q1 ho hu
  have HQX : fs.getD q [] = lq := by rw [List.getD, hq]; rfl
  have hqc : q < cs.length := by rw [hcs.1]; exact hql
  obtain ⟨B2, d2, e2, hrv, hd1, hd2⟩ := ho.read
  rw [hcs.1] at e2 hd1
  simp only [Value.slice.injEq, true_and] at e2
  obtain ⟨rfl, rfl⟩ := e2
  obtain ⟨gA, dA, e4⟩ := ho.place (by omega)
  simp only [Value.slice.injEq] at e4
  obtain ⟨rfl, -, -⟩ := e4
  have f0 := (ho.cellAt hqc).1.trans hx
  have hqq : (q : Int) < (fs.length : Int) := by omega
  have hgk : k ≠ gr := fun e => N1.out.vk (congrArg some e.symm)
  have hgg : g ≠ gr := fun e => LW.out gr (.inr (.inl rfl)) e.symm

  have ND := hid (show NR W.drew.drew k (.slice (some ⟨gr, 0, none⟩) S.length cg) us S from Nt.draws N1.out stb_Eb 2)
  have HU := hid hu
  have HCC := hid hcs
  have HXL := hid hxl
  have H4 := hid (show (fs.eraseIdx q).length ≤ 400 by have := List.length_eraseIdx_le fs q; omega)
  obtain ⟨Ax, cx, rfl, -⟩ := hxl
  generalize hm : fs.length = m at *
  have HRW := hid (rwithout_any (w := W.drew.drew) (A := some ⟨gA, 0, none⟩) (n := m) (c := d) (cs := cs) hrv (hcs.1.trans hm) ⟨hd1, hd2⟩ q hql h400 (hcs.each fun x l => stb_Eb.one _ x l) (hcs.each fun x l => stb_Eb.nb _ x l))
  have HQL := hid hql
  generalize hlx : List.length lq = lx at *
  clear hi hp hu hu2 q2 ho hcs hql hq hqc hx hrv hd1 hd2 hm
  go_upto_region 18 with (go_at_call 23; (with_reducible refine HY.out.mono ?_); rintro e w' ⟨rfl, rfl⟩)
  clear HY
  go_region
  all_goals
   go_upto_region 22 with fail
   clear f0 q1 y0
   refine wp_region_noPanic ?_
   refine wp_region_held_drew (S := fun w' => w'.cell? ⟨k, 0, none⟩ = some (.slice (some ⟨gr, 0, none⟩) S.length cg) ∧ w'.cell? ⟨g, 1, none⟩ = some (.int .i64 (p : Nat)) ∧ w'.cell? ⟨g, 2, none⟩ = some (.int .i64 (q : Nat))) (by kernel_rfl) ?_ (fun hHeld => ?_)
   · exact ⟨c0, y1, y2⟩
   refine wpAnyH_take (i := 0) (oi := ⟨some 129, _, _, _, _, _⟩) (v := ?_) rfl (by kernel_rfl) (by kernel_rfl) (by kernel_rfl) (fun _ _ _ h => h) (Or.inl ⟨by rfl, ?_⟩) (by assumption) ?_
   rotate_left 1
   · intro w0 hSw
     (try dsimp only at hSw); obtain ⟨s1, s2, s3⟩ := hSw
     go_simp
     try with_reducible rfl
   (try simp only [Act.put, List.setIfInBounds_toArray, List.set_cons_zero, List.set_cons_succ])
   refine wpAnyH_take (i := 1) (oi := ⟨some 130, _, _, _, _, _⟩) (v := ?_) rfl (by kernel_rfl) (by kernel_rfl) (by kernel_rfl) (fun _ _ _ h => h) (Or.inl ⟨by rfl, ?_⟩) (by assumption) ?_
   rotate_left 1
   · intro w0 hSw
     (try dsimp only at hSw); obtain ⟨s1, s2, s3⟩ := hSw
     go_simp
     try with_reducible rfl
   (try simp only [Act.put, List.setIfInBounds_toArray, List.set_cons_zero, List.set_cons_succ])
   refine wpAnyH_take (i := 2) (oi := ⟨some 131, _, _, _, _, _⟩) (v := ?_) rfl (by kernel_rfl) (by kernel_rfl) (by kernel_rfl) (fun _ _ _ h => h) (Or.inl ⟨by rfl, ?_⟩) (by assumption) ?_
   rotate_left 1
   · intro w0 hSw
     (try dsimp only at hSw); obtain ⟨s1, s2, s3⟩ := hSw
     go_simp
     try with_reducible rfl
   (try simp only [Act.put, List.setIfInBounds_toArray, List.set_cons_zero, List.set_cons_succ])
   refine wpAnyH_take (i := 3) (oi := ⟨some 132, _, _, _, _, _⟩) (v := ?_) rfl (by kernel_rfl) (by kernel_rfl) (by kernel_rfl) (fun _ _ _ h => h) (Or.inl ⟨by rfl, ?_⟩) (by assumption) ?_
   rotate_left 1
   · intro w0 hSw
     (try dsimp only at hSw); obtain ⟨s1, s2, s3⟩ := hSw
     go_simp
     try with_reducible rfl
   (try simp only [Act.put, List.setIfInBounds_toArray, List.set_cons_zero, List.set_cons_succ])
   refine wpAnyH_take (i := 4) (oi := ⟨some 133, _, _, _, _, _⟩) (v := ?_) rfl (by kernel_rfl) (by kernel_rfl) (by kernel_rfl) (fun _ _ _ h => h) (Or.inl ⟨by rfl, ?_⟩) (by assumption) ?_
   rotate_left 1
   · intro w0 hSw
     (try dsimp only at hSw); obtain ⟨s1, s2, s3⟩ := hSw
     go_simp
     try with_reducible rfl
   (try simp only [Act.put, List.setIfInBounds_toArray, List.set_cons_zero, List.set_cons_succ])
   refine wpAnyH_take (i := 5) (oi := ⟨some 134, _, _, _, _, _⟩) (v := ?_) rfl (by kernel_rfl) (by kernel_rfl) (by kernel_rfl) (fun _ _ _ h => h) (Or.inl ⟨by rfl, ?_⟩) (by assumption) ?_
   rotate_left 1
   · intro w0 hSw
     (try dsimp only at hSw); obtain ⟨s1, s2, s3⟩ := hSw
     go_simp
     try with_reducible rfl
   (try simp only [Act.put, List.setIfInBounds_toArray, List.set_cons_zero, List.set_cons_succ])
   refine wpAnyH_take (i := 6) (oi := ⟨some 135, _, _, _, _, _⟩) (v := ?_) rfl (by kernel_rfl) (by kernel_rfl) (by kernel_rfl) (fun _ _ _ h => h) (Or.inl ⟨by rfl, ?_⟩) (by assumption) ?_
   rotate_left 1
   · intro w0 hSw
     (try dsimp only at hSw); obtain ⟨s1, s2, s3⟩ := hSw
     go_simp
     try with_reducible rfl
   (try simp only [Act.put, List.setIfInBounds_toArray, List.set_cons_zero, List.set_cons_succ])
   refine wpAnyH_take (i := 7) (oi := ⟨some 136, _, _, _, _, _⟩) (v := ?_) rfl (by kernel_rfl) (by kernel_rfl) (by kernel_rfl) (fun _ _ _ h => h) (Or.inl ⟨by rfl, ?_⟩) (by assumption) ?_
   rotate_left 1
   · intro w0 hSw
     (try dsimp only at hSw); obtain ⟨s1, s2, s3⟩ := hSw
     go_simp
     try with_reducible rfl
   (try simp only [Act.put, List.setIfInBounds_toArray, List.set_cons_zero, List.set_cons_succ])
   refine wpAnyH_take (i := 8) (oi := ⟨some 137, _, _, _, _, _⟩) (v := ?_) rfl (by kernel_rfl) (by kernel_rfl) (by kernel_rfl) (fun _ _ _ h => h) (Or.inl ⟨by rfl, ?_⟩) (by assumption) ?_
   rotate_left 1
   · intro w0 hSw
     (try dsimp only at hSw); obtain ⟨s1, s2, s3⟩ := hSw
     go_simp
     try with_reducible rfl
   (try simp only [Act.put, List.setIfInBounds_toArray, List.set_cons_zero, List.set_cons_succ])
   refine wpAnyH_ready (rs := [9]) (by kernel_rfl) (by simp) ?_
   refine AllReadyH.cons (o := ⟨some 138, _, _, _, _, _⟩) rfl (fun K hK => ?_) AllReadyH.nil
   rw [if_pos (by rfl)]
   go_simp
   refine HRW.out.mono ?_
   rintro e w2 ⟨A9, n9, c9, rfl, ho2, hg2, hB2⟩
   obtain ⟨kp, xc, xf, XN, XC⟩ := ND.out.put stb_Eb (by rfl) HU.out hg2 ho2 (Cs.keep (Cs.erase HCC.out q) stb_Eb hg2.stay hg2.gr.size) H4.out (nb_slice _ _ _)
   have HX9 := hid (And.intro XN XC)
   have kp1 : w2.cell? ⟨g, 1, none⟩ = some (.int .i64 (p : Nat)) := (hB2.cell (World.block_lt_of_cell? _ _ y1)).trans y1
   have kp2 : w2.cell? ⟨g, 2, none⟩ = some (.int .i64 (q : Nat)) := (hB2.cell (World.block_lt_of_cell? _ _ y2)).trans y2
   have kq : ∀ b : Nat, b ≠ gr → ∀ o x, w2.cell? ⟨b, o, none⟩ = some x → (w2.setCell ⟨gr, p, none⟩ (.slice A9 n9 c9)).cell? ⟨b, o, none⟩ = some x := fun b hb o x e => by rw [World.cell?_setCell_other _ _ _ _ (fun e => hb (by injection e with e; exact e.symm))]; exact e
   clear XN XC ho2 hg2 hB2
   go_simp
   refine hK.out _ _ ⟨kp, kp1, kp2⟩ (fun hHeld => ?_)
   clear hK K
   (try simp only [Act.put, List.setIfInBounds_toArray, List.set_cons_zero, List.set_cons_succ])
   refine wpAnyH_take (i := 10) (oi := ⟨some 139, _, _, _, _, _⟩) (v := ?_) rfl (by kernel_rfl) (by kernel_rfl) (by kernel_rfl) (fun _ _ _ h => h) (Or.inl ⟨by rfl, ?_⟩) (by assumption) ?_
   rotate_left 1
   · intro w0 hSw
     (try dsimp only at hSw); obtain ⟨s1, s2, s3⟩ := hSw
     go_simp
     try with_reducible rfl
   (try simp only [Act.put, List.setIfInBounds_toArray, List.set_cons_zero, List.set_cons_succ])
   refine wpAnyH_ready (rs := [11]) (by kernel_rfl) (by simp) ?_
   refine AllReadyH.cons (o := ⟨none, _, _, _, _, _⟩) rfl (fun K hK => ?_) AllReadyH.nil
   rw [if_pos (by rfl)]
   go_simp
   refine hK.out _ _ ⟨kq _ hgk _ _ kp, kq _ hgg _ _ kp1, kq _ hgg _ _ kp2⟩ (fun hHeld => ?_)
   clear hK K
   (try simp only [Act.put, List.setIfInBounds_toArray, List.set_cons_zero, List.set_cons_succ])
   refine wpAnyH_done (by kernel_rfl) ?_ _
   refine NoPanic.normal ?_
   go_wp2
   go_ret3
   refine ⟨_, _, rfl, ?_, by rw [hw, Int.toNat_natCast, Int.toNat_natCast]; exact HX9.out.1, C1.out.trans ((Chg.of (below_draws (Below.refl _ W) 2) _).trans HX9.out.2)⟩
   rw [hw, Int.toNat_natCast, HQX]; exact stb_Eb.stay _ _ _ _ HX9.out.2.stay HX9.out.2.size HXL.out
end
end Go.Proofs.Ytcagochalnjagaa
