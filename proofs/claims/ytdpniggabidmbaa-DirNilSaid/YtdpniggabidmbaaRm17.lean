/-
  What is proved: what the reference's directory in memory is (a struct of two numbers and a row of truths, the row in a block of its own); its held, There, Has, Set, Sharers, Of, Len, New. Condition: the directory lies in memory as one.
-/
import Derived.Test.YtdpniggabidmbaaDn17
namespace Go.Proofs.Ytdpniggabidmbaa
open Go.RowKit

/-- the reference's directory: the struct at h, the row of truths at k -/
structure Rm (w : World) (h k C B : Nat) (s : DrS) : Prop where
  box : Bx w h 45 #[.int .i64 C, .int .i64 B, .slice (some ⟨k, 0, none⟩) (C * B) (C * B)]
  row : Bx w k 4 (drRow C B s)
  ne : h ≠ k
section
variable {w w' : World} {h k C B : Nat} {s : DrS}
theorem Rm.below (r : Rm w h k C B s) (hb : Below w.heap.size w w') : Rm w' h k C B s := ⟨r.box.next hb, r.row.next hb, r.ne⟩
theorem Rm.draws (r : Rm w h k C B s) (n : Nat) : Rm (w.drewN n) h k C B s := ⟨r.box.draws n, r.row.draws n, r.ne⟩
theorem Rm.chg {F G : Nat → Prop} (r : Rm w h k C B s) (hc : Chg w w' F G) (h1 : ¬ F h) (h2 : ¬ F k) : Rm w' h k C B s := ⟨hc.bx r.box h1, hc.bx r.row h2, r.ne⟩
theorem Rm.c0 (r : Rm w h k C B s) : w.cell? ⟨h, 0, none⟩ = some (.int .i64 C) := r.box.cell 0
theorem Rm.c1 (r : Rm w h k C B s) : w.cell? ⟨h, 1, none⟩ = some (.int .i64 B) := r.box.cell 1
theorem Rm.c2 (r : Rm w h k C B s) : w.cell? ⟨h, 2, none⟩ = some (.slice (some ⟨k, 0, none⟩) (C * B) (C * B)) := r.box.cell 2
theorem Rm.cX (r : Rm w h k C B s) {x y : Nat} (hx : x < C) (hy : y < B) : w.cell? ⟨k, x * B + y, none⟩ = some (.bool (s x y)) := (r.row.cell _).trans (drRow_at _ _ _ hx hy)
theorem Rm.cI (r : Rm w h k C B s) {i : Nat} (hi : i < C * B) : w.cell? ⟨k, i, none⟩ = some (.bool (s ((i / B : Nat) : Int) ((i % B : Nat) : Int))) := (r.row.cell _).trans (drRow_i _ _ _ hi)
theorem Rm.free (r : Rm w h k C B s) (i : Nat) : w.frozen? ⟨k, i, none⟩ = false := r.row.free i
theorem Rm.set (r : Rm w h k C B s) {x y : Nat} (hx : x < C) (hy : y < B) (t : Bool) : Rm (w.setCell ⟨k, x * B + y, none⟩ (.bool t)) h k C B (drSet s x y t) := by
  have := r.row.set (x * B + y) (.bool t)
  rw [drRow_set C B s hx hy t] at this
  exact ⟨r.box.far _ _ (fun e => r.ne e.symm), this, r.ne⟩
set_option maxHeartbeats 400000 in
theorem rheld_any (w : World) (x : Int) (m : Nat) (hm : 1 ≤ m) : Calls Try.prog 23 #[.int .i64 x, .int .i64 m] w fun e w' => e = .returned (.int .i64 (drHeld x m)) ∧ w = w' := by
  have hh : (x < 1 ∧ drHeld x m = 1) ∨ (¬ x < 1 ∧ (m : Int) < x ∧ drHeld x m = m) ∨ (¬ x < 1 ∧ ¬ (m : Int) < x ∧ x = drHeld x m) := by unfold drHeld; omega
  rcases hh with ⟨h1, h2⟩ | ⟨h1, h3, h2⟩ | ⟨h1, h3, h2⟩
  · rw [h2]
    clear h2 hm
    go_enter Try.func23, Try.ntmps23
    go_wp2
    go_ret
    exact ⟨rfl, rfl⟩
  · rw [h2]
    clear h2 hm
    go_enter Try.func23, Try.ntmps23
    go_wp2
    go_ret
    exact ⟨rfl, rfl⟩
  · rw [← h2]
    clear h2 hm
    go_enter Try.func23, Try.ntmps23
    go_wp2
    go_ret
    exact ⟨rfl, rfl⟩
set_option maxHeartbeats 1000000 in
theorem rthere_any (r : Rm w h k C B s) (x y : Int) : Calls Try.prog 24 #[.pointer (some ⟨h, 0, none⟩), .int .i64 x, .int .i64 y] w fun e w' => e = .returned (.bool (decide (drIn C B x y))) ∧ w = w' := by
  have c0 := r.c0
  have c1 := r.c1
  clear r
  by_cases h0 : x < 0
  · have hd : decide ((0 : Int) ≤ x) = false := by simpa using h0
    have e : decide (drIn C B x y) = false := decide_eq_false fun h => by have := h.1; omega
    rw [e]
    clear e h0
    go_enter Try.func24, Try.ntmps24
    go_wp2
    go_ret
    exact ⟨rfl, rfl⟩
  by_cases h1 : (C : Int) ≤ x
  · have hd : decide ((0 : Int) ≤ x) = true := by simpa using h0
    have hd1 : decide (x < (C : Int)) = false := by simpa using h1
    have e : decide (drIn C B x y) = false := decide_eq_false fun h => by have := h.2.1; omega
    rw [e]
    clear e h0 h1
    go_enter Try.func24, Try.ntmps24
    go_wp2
    go_ret
    exact ⟨rfl, rfl⟩
  by_cases h2 : y < 0
  · have hd : decide ((0 : Int) ≤ x) = true := by simpa using h0
    have hd1 : decide (x < (C : Int)) = true := by simpa using h1
    have hd2 : decide ((0 : Int) ≤ y) = false := by simpa using h2
    have e : decide (drIn C B x y) = false := decide_eq_false fun h => by have := h.2.2.1; omega
    rw [e]
    clear e h0 h1 h2
    go_enter Try.func24, Try.ntmps24
    go_wp2
    go_ret
    exact ⟨rfl, rfl⟩
  have hd : decide ((0 : Int) ≤ x) = true := by simpa using h0
  have hd1 : decide (x < (C : Int)) = true := by simpa using h1
  have hd2 : decide ((0 : Int) ≤ y) = true := by simpa using h2
  have e : decide (drIn C B x y) = decide (y < (B : Int)) := decide_eq_decide.2 ⟨fun h => h.2.2.2, fun h => ⟨by omega, by omega, by omega, h⟩⟩
  rw [e]
  clear e h0 h1 h2
  go_enter Try.func24, Try.ntmps24
  go_wp2
  go_ret
  exact ⟨rfl, rfl⟩
set_option maxHeartbeats 4000000 in
theorem rhas_any (r : Rm w h k C B s) (ok : Dok C B s) (x y : Int) : Calls Try.prog 17 #[.pointer (some ⟨h, 0, none⟩), .int .i64 x, .int .i64 y] w fun e w' => e = .returned (.bool (s x y)) ∧ ∃ d, w' = w.drewN d := by
  have HAB := hid (fun d => rthere_any (r.draws d) x y)
  by_cases hin : drIn C B x y
  · rw [decide_eq_true hin] at HAB
    obtain ⟨q, rfl⟩ : ∃ q : Nat, x = q := ⟨x.toNat, by have := hin.1; omega⟩
    obtain ⟨p, rfl⟩ : ∃ p : Nat, y = p := ⟨y.toNat, by have := hin.2.2.1; omega⟩
    have hq : q < C := by have := hin.2.1; omega
    have hp : p < B := by have := hin.2.2.2; omega
    have cY := r.cX hq hp
    have c1 := r.c1
    have c2 := r.c2
    have hN := (dr_place C B hq hp).1
    have hN2 : C * B ≤ 128 := Nat.le_trans (Nat.mul_le_mul ok.c.2 ok.b.2) (by omega)
    have hmul : (q : Int) * (B : Int) = ((q * B : Nat) : Int) := by rw [Int.natCast_mul]
    generalize q * B = m at *
    obtain ⟨i, hi⟩ : ∃ i, m + p = i := ⟨_, rfl⟩
    have hadd : (m : Int) + (p : Int) = (i : Int) := by omega
    rw [hi] at cY hN
    have hm2 : (m : Int) < 128 := by omega
    generalize C * B = N at *
    have hiN : (i : Int) < (N : Int) := by omega
    have hNN : (N : Int) ≤ 128 := by omega
    generalize s q p = t at *
    clear r ok hin hq hp hN hN2 hi
    go_enter Try.func17, Try.ntmps17
    go_wp2
    go_quiet ((go_at_call 24; exact quietL (HAB.out _)))
    go_wp2
    go_ret
    exact ⟨rfl, _, rfl⟩
  · rw [decide_eq_false hin] at HAB
    rw [dr_out ok hin]
    clear r ok hin
    go_enter Try.func17, Try.ntmps17
    go_wp2
    go_big_quiet ((go_at_call 24; exact quietL (HAB.out _)))
    go_wp2
    go_ret
    exact ⟨rfl, _, rfl⟩
set_option maxHeartbeats 4000000 in
theorem rset_any (r : Rm w h k C B s) (ok : Dok C B s) {x y : Int} (hin : drIn C B x y) (t : Bool) : Calls Try.prog 25 #[.pointer (some ⟨h, 0, none⟩), .int .i64 x, .int .i64 y, .bool t] w fun e w' => e = .returned (.tuple #[]) ∧ Rm w' h k C B (drSet s x y t) ∧ Chg w w' (· = k) (· = k) := by
  obtain ⟨q, rfl⟩ : ∃ q : Nat, x = q := ⟨x.toNat, by have := hin.1; omega⟩
  obtain ⟨p, rfl⟩ : ∃ p : Nat, y = p := ⟨y.toNat, by have := hin.2.2.1; omega⟩
  have hq : q < C := by have := hin.2.1; omega
  have hp : p < B := by have := hin.2.2.2; omega
  have cY := r.cX hq hp
  have c1 := r.c1
  have c2 := r.c2
  have fY := r.free (q * B + p)
  have hN := (dr_place C B hq hp).1
  have hN2 : C * B ≤ 128 := Nat.le_trans (Nat.mul_le_mul ok.c.2 ok.b.2) (by omega)
  have HSET := hid ((r.draws 1).set hq hp t)
  have HCH := hid (chg_cell ((Chg.refl w (· = k)).draws 1) k (q * B + p) rfl (.bool t))
  have hmul : (q : Int) * (B : Int) = ((q * B : Nat) : Int) := by rw [Int.natCast_mul]
  generalize q * B = m at *
  obtain ⟨i, hi⟩ : ∃ i, m + p = i := ⟨_, rfl⟩
  have hadd : (m : Int) + (p : Int) = (i : Int) := by omega
  rw [hi] at cY hN fY HSET HCH
  have hm2 : (m : Int) < 128 := by omega
  have hiN : (i : Int) < ((C * B : Nat) : Int) := by omega
  have hNN : ((C * B : Nat) : Int) ≤ 128 := by omega
  generalize C * B = N at c2 hiN hNN
  generalize s q p = u at cY
  clear r ok hin hq hp hN hN2 hi
  go_enter Try.func25, Try.ntmps25
  go_wp2
  go_region
  all_goals
    go_wp2
    exact bodyPost_end (results_none rfl _ _ _) rfl ⟨rfl, HSET.out, HCH.out⟩
set_option maxRecDepth 10000 in
set_option maxHeartbeats 1000000 in
theorem rsh_any (r : Rm w h k C B s) (ok : Dok C B s) (z : Int) : Calls Try.prog 13 #[.pointer (some ⟨h, 0, none⟩), .int .i64 z] w (Told w (drSh s z)) := by
  have HD := hid r
  have HK := hid ok
  have hK32 : C ≤ 32 := by have := ok.c; have := ok.b; omega
  clear r ok
  go_enter Try.func13, Try.ntmps13
  go_wp2
  go_loopg [5, 6] C (fun gk x t wr => ∃ (j : Nat) (v : Value), j + gk = C ∧ v = x ∧ t = .int .i64 j ∧ OwnW wr 3 v (ints (drIdx (fun x => s x z) j)) ∧ GrW w wr nl v)
  case atStart => exact ⟨0, _, by omega, rfl, rfl, ownW_nil _ _, GrW.refl _ _⟩
  case round =>
    obtain ⟨j, v, hj, rfl, rfl, ho, hg⟩ := hrel
    have cc := (HD.out.below hg.nilBelow).c0
    by_cases hlt : j < C
    · have hjn : (j : Int) < (C : Int) := by omega
      have HH := hid (rhas_any (HD.out.below hg.nilBelow) HK.out j z)
      have HO := hid ho
      have HG := hid hg
      have hle : (drIdx (fun x => s x z) j).length ≤ j := drIdx_le j
      have HCC := hid (fun (d : Nat) => (HD.out.below (hg.nilBelow)).draws d |>.c0)
      cases ht : s (j : Int) z with
      | false =>
        rw [ht] at HH
        have HN := hid (drIdx_no (p := (fun x => s x z)) (n := j) ht)
        clear ht ho hg
        go_wp2_with (go_at_call 17; refine HH.out.mono ?_; rintro e w' ⟨rfl, d, rfl⟩)
        go_roundg (gk - 1)
        case measure => omega
        case rel => exact ⟨j + 1, v, by omega, rfl, by go_num, by rw [HN.out]; exact HO.out.below (below_draws (Below.refl _ _) _), HG.out.trans (GrW.of (below_draws (Below.refl _ _) _) _)⟩
      | true =>
        rw [ht] at HH
        have HN := hid (drIdx_yes (p := (fun x => s x z)) (n := j) ht)
        obtain ⟨A, c0, e0, -⟩ := ho.read
        rw [ints_length] at e0
        subst e0
        obtain ⟨n, hn⟩ : ∃ n, (drIdx (fun x => s x z) j).length = n := ⟨_, rfl⟩
        rw [hn] at hle HO HG ⊢
        have HL1 := hid (show (ints (drIdx (fun x => s x z) j)).length = n from by rw [ints_length, hn])
        have hn64 : n ≤ 64 := by omega
        clear ht ho hg hn
        go_upto_region 6 with (go_at_call 17; refine HH.out.mono ?_; rintro e w' ⟨rfl, d, rfl⟩)
        have HO1 := hid (HO.out.below (on (below_draws (Below.refl wr.heap.size wr) d) (below_alloc (wr.drewN d) (.cells #[.int .i64 j] 3))))
        have HG1 := hid (HG.out.trans (GrW.of (on (below_draws (Below.refl wr.heap.size wr) d) (below_alloc (wr.drewN d) (.cells #[.int .i64 j] 3))) _))
        have HR1 := hid (rv_new (wr.drewN d) 3 #[.int .i64 j])
        go_wp2_with (at_builtin; go_loud (refine wpList_appW elt_int rfl (.tmp 19) (.tmp 21) rfl _ _ HO1.out rfl _ _ 1 1 [.int .i64 j] rfl rfl HR1.out (fun u hu => by simp at hu; subst hu; rfl) (by rw [HL1.out]; unfold maxLen; omega) (by rw [HL1.out]; omega) ?_); go_loud (intro v2 w2 hown2 hg2; have HG2 := hid (HG1.out.trans hg2); have HO2 := hid hown2; clear hown2 hg2))
        go_roundg (gk - 1)
        case measure => omega
        case rel => exact ⟨j + 1, v2, by omega, rfl, by go_num, by rw [HN.out]; unfold ints; rw [List.map_append]; exact HO2.out, HG2.out⟩
    · obtain rfl : j = C := by omega
      rw [drSh_ref HK.out z] at ho
      have HO := hid ho
      have HG := hid hg
      obtain ⟨A, c0, e0, -⟩ := ho.read
      rw [ints_length] at e0
      subst e0
      clear ho hg
      go_wp2
      go_ret
      exact ⟨_, _, rfl, HO.out, HG.out⟩
set_option maxRecDepth 10000 in
set_option maxHeartbeats 1000000 in
theorem rof_any (r : Rm w h k C B s) (ok : Dok C B s) (z : Int) : Calls Try.prog 15 #[.pointer (some ⟨h, 0, none⟩), .int .i64 z] w (Told w (drOf s z)) := by
  have HD := hid r
  have HK := hid ok
  have hK32 : B ≤ 32 := by have := ok.c; have := ok.b; omega
  clear r ok
  go_enter Try.func15, Try.ntmps15
  go_wp2
  go_loopg [5, 6] B (fun gk x t wr => ∃ (j : Nat) (v : Value), j + gk = B ∧ v = x ∧ t = .int .i64 j ∧ OwnW wr 3 v (ints (drIdx (s z) j)) ∧ GrW w wr nl v)
  case atStart => exact ⟨0, _, by omega, rfl, rfl, ownW_nil _ _, GrW.refl _ _⟩
  case round =>
    obtain ⟨j, v, hj, rfl, rfl, ho, hg⟩ := hrel
    have cc := (HD.out.below hg.nilBelow).c1
    by_cases hlt : j < B
    · have hjn : (j : Int) < (B : Int) := by omega
      have HH := hid (rhas_any (HD.out.below hg.nilBelow) HK.out z j)
      have HO := hid ho
      have HG := hid hg
      have hle : (drIdx (s z) j).length ≤ j := drIdx_le j
      have HCC := hid (fun (d : Nat) => (HD.out.below (hg.nilBelow)).draws d |>.c1)
      cases ht : s z (j : Int) with
      | false =>
        rw [ht] at HH
        have HN := hid (drIdx_no (p := (s z)) (n := j) ht)
        clear ht ho hg
        go_wp2_with (go_at_call 17; refine HH.out.mono ?_; rintro e w' ⟨rfl, d, rfl⟩)
        go_roundg (gk - 1)
        case measure => omega
        case rel => exact ⟨j + 1, v, by omega, rfl, by go_num, by rw [HN.out]; exact HO.out.below (below_draws (Below.refl _ _) _), HG.out.trans (GrW.of (below_draws (Below.refl _ _) _) _)⟩
      | true =>
        rw [ht] at HH
        have HN := hid (drIdx_yes (p := (s z)) (n := j) ht)
        obtain ⟨A, c0, e0, -⟩ := ho.read
        rw [ints_length] at e0
        subst e0
        obtain ⟨n, hn⟩ : ∃ n, (drIdx (s z) j).length = n := ⟨_, rfl⟩
        rw [hn] at hle HO HG ⊢
        have HL1 := hid (show (ints (drIdx (s z) j)).length = n from by rw [ints_length, hn])
        have hn64 : n ≤ 64 := by omega
        clear ht ho hg hn
        go_upto_region 6 with (go_at_call 17; refine HH.out.mono ?_; rintro e w' ⟨rfl, d, rfl⟩)
        have HO1 := hid (HO.out.below (on (below_draws (Below.refl wr.heap.size wr) d) (below_alloc (wr.drewN d) (.cells #[.int .i64 j] 3))))
        have HG1 := hid (HG.out.trans (GrW.of (on (below_draws (Below.refl wr.heap.size wr) d) (below_alloc (wr.drewN d) (.cells #[.int .i64 j] 3))) _))
        have HR1 := hid (rv_new (wr.drewN d) 3 #[.int .i64 j])
        go_wp2_with (at_builtin; go_loud (refine wpList_appW elt_int rfl (.tmp 19) (.tmp 21) rfl _ _ HO1.out rfl _ _ 1 1 [.int .i64 j] rfl rfl HR1.out (fun u hu => by simp at hu; subst hu; rfl) (by rw [HL1.out]; unfold maxLen; omega) (by rw [HL1.out]; omega) ?_); go_loud (intro v2 w2 hown2 hg2; have HG2 := hid (HG1.out.trans hg2); have HO2 := hid hown2; clear hown2 hg2))
        go_roundg (gk - 1)
        case measure => omega
        case rel => exact ⟨j + 1, v2, by omega, rfl, by go_num, by rw [HN.out]; unfold ints; rw [List.map_append]; exact HO2.out, HG2.out⟩
    · obtain rfl : j = B := by omega
      rw [drOf_ref HK.out z] at ho
      have HO := hid ho
      have HG := hid hg
      obtain ⟨A, c0, e0, -⟩ := ho.read
      rw [ints_length] at e0
      subst e0
      clear ho hg
      go_wp2
      go_ret
      exact ⟨_, _, rfl, HO.out, HG.out⟩
set_option maxRecDepth 10000 in
set_option maxHeartbeats 1000000 in
theorem rlen_any (r : Rm w h k C B s) (ok : Dok C B s) : Calls Try.prog 19 #[.pointer (some ⟨h, 0, none⟩)] w fun e w' => e = .returned (.int .i64 (drLen s)) ∧ w = w' := by
  have c2 := r.c2
  have HI := hid (fun (i : Nat) (hi : i < C * B) => r.cI hi)
  have hN2 : C * B ≤ 128 := Nat.le_trans (Nat.mul_le_mul ok.c.2 ok.b.2) (by omega)
  have HE := hid (drLen_ref ok)
  have HST := hid (fun (j : Nat) => show drSum (fun i => (s ((i / B : Nat) : Int) ((i % B : Nat) : Int)).toNat) (j + 1) = drSum (fun i => (s ((i / B : Nat) : Int) ((i % B : Nat) : Int)).toNat) j + (s ((j / B : Nat) : Int) ((j % B : Nat) : Int)).toNat from rfl)
  have HLE := hid (fun (j : Nat) => drSum_le (f := fun i => (s ((i / B : Nat) : Int) ((i % B : Nat) : Int)).toNat) (k := 1) (fun _ => toNat_le _) j)
  generalize C * B = N at *
  have hNN : (N : Int) ≤ 128 := by omega
  clear r ok
  go_enter Try.func19, Try.ntmps19
  go_wp2
  go_loopg [3, 4] N (fun gk x t wr => ∃ (j : Nat), j + gk = N ∧ x = .int .i64 (drSum (fun i => (s ((i / B : Nat) : Int) ((i % B : Nat) : Int)).toNat) j) ∧ t = .int .i64 j ∧ wr = w)
  case atStart => exact ⟨0, by omega, rfl, rfl, rfl⟩
  case round =>
    obtain ⟨j, hj, rfl, rfl, rfl⟩ := hrel
    by_cases hlt : j < N
    · have hjn : (j : Int) < (N : Int) := by omega
      have ci := HI.out j hlt
      have HS := hid (HST.out j)
      have hle := HLE.out j
      generalize drSum (fun i => (s ((i / B : Nat) : Int) ((i % B : Nat) : Int)).toNat) j = n at *
      generalize s ((j / B : Nat) : Int) ((j % B : Nat) : Int) = b at *
      cases b with
      | false =>
        go_wp2
        go_roundg (gk - 1)
        case measure => omega
        case rel => exact ⟨j + 1, by omega, by rw [HS.out]; rfl, by go_num, rfl⟩
      | true =>
        go_wp2
        go_roundg (gk - 1)
        case measure => omega
        case rel => exact ⟨j + 1, by omega, by rw [HS.out]; go_num, by go_num, rfl⟩
    · obtain rfl : j = N := by omega
      rw [HE.out]
      go_wp2
      go_ret
      exact ⟨rfl, rfl⟩
end
theorem infoBool : (Try.prog.info? 4).map (fun i => (i.zero, i.size, i.bytes)) = some (some (.bool false), 1, 1) := by kernel_rfl
theorem elt_bool : Elt Try.prog 43 4 (.bool false) 1 1 := ⟨Try.underlying43, infoBool, rfl, by decide⟩
theorem run_truths (w : World) (n : Nat) (hn : n ≤ 128) : (Instr.makeSlice 43 (.int .i64 n) (.int .i64 n)).run Try.prog w = .ok (.slice (some ⟨w.heap.size, 0, none⟩) n n) (w.alloc (.cells (List.replicate n (Value.bool false)).toArray 4)) := by
  obtain ⟨i, hi, hz, hs, hb⟩ := info_parts elt_bool.info
  have hb' : (i.bytes : Int) * (n : Int) ≤ 281474976710656 := by rw [hb]; omega
  have hrun := run_make (P := Try.prog) w 43 4 i (.bool false) elt_bool.und hi hz .i64 .i64 n n (by omega) (Int.le_refl _) hb' (by omega)
  have hc : madeCells (Value.bool false).cells ((n : Int).toNat * i.size) = (List.replicate n (Value.bool false)).toArray := by
    rw [show (Value.bool false).cells = #[.bool false] from rfl, hs, Nat.mul_one, Int.toNat_natCast]
    apply Array.toList_inj.1
    rw [toList_madeCells_one]
  rw [hc, Int.toNat_natCast] at hrun
  exact hrun
/-- a directory that the reference's New has made -/
def RefNew (w : World) (x y : Int) (e : Ending) (w' : World) : Prop := ∃ h k, e = .returned (.pointer (some ⟨h, 0, none⟩)) ∧ Rm w' h k (drHeld x 4) (drHeld y 32) dr0 ∧ Below w.heap.size w w' ∧ w.heap.size ≤ h ∧ w.heap.size ≤ k
set_option maxRecDepth 100000 in
set_option maxHeartbeats 4000000 in
theorem rnew_any (x y : Int) (w : World) : Calls Try.prog 9 #[.int .i64 x, .int .i64 y] w (RefNew w x y) := by
  unfold RefNew
  have l1 := drHeld_le x (m := 4) (by omega)
  have l2 := drHeld_le y (m := 32) (by omega)
  have H1 := hid (fun w => show Calls Try.prog 23 #[.int .i64 x, .int .i64 4] w fun e w' => e = .returned (.int .i64 (drHeld x 4)) ∧ w = w' from rheld_any w x 4 (by omega))
  have H2 := hid (fun w => show Calls Try.prog 23 #[.int .i64 y, .int .i64 32] w fun e w' => e = .returned (.int .i64 (drHeld y 32)) ∧ w = w' from rheld_any w y 32 (by omega))
  generalize drHeld x 4 = C at *
  generalize drHeld y 32 = B at *
  have hN2 : C * B ≤ 128 := Nat.le_trans (Nat.mul_le_mul l1.2 l2.2) (by omega)
  have hmul : (C : Int) * (B : Int) = ((C * B : Nat) : Int) := by rw [Int.natCast_mul]
  have HM := hid (fun w' => run_truths w' (C * B) hN2)
  obtain ⟨MK, hMK⟩ : ∃ m, Instr.makeSlice 43 (.int .i64 (C * B : Nat)) (.int .i64 (C * B : Nat)) = m := ⟨_, rfl⟩
  have hrun : ∀ w', MK.run Try.prog w' = .ok (.slice (some ⟨w'.heap.size, 0, none⟩) (C * B) (C * B)) (w'.alloc (.cells (List.replicate (C * B) (Value.bool false)).toArray 4)) := fun w' => by rw [← hMK]; exact HM.out w'
  have HR := hid (drRow_new C B)
  generalize (List.replicate (C * B) (Value.bool false)).toArray = cs at *
  have HRM := hid (fun (v : World) => show Rm (((v.alloc (.cells #[.int .i64 C, .int .i64 B, .slice (some ⟨v.heap.size + 1, 0, none⟩) (C * B) (C * B)] 45)).alloc (.cells cs 4)).drew) v.heap.size (v.heap.size + 1) C B dr0 ∧ Below v.heap.size v (((v.alloc (.cells #[.int .i64 C, .int .i64 B, .slice (some ⟨v.heap.size + 1, 0, none⟩) (C * B) (C * B)] 45)).alloc (.cells cs 4)).drew) from by
    have b1 := Bx.new v 45 #[.int .i64 C, .int .i64 B, .slice (some ⟨v.heap.size + 1, 0, none⟩) (C * B) (C * B)]
    have b3 := Bx.new (v.alloc (.cells #[.int .i64 C, .int .i64 B, .slice (some ⟨v.heap.size + 1, 0, none⟩) (C * B) (C * B)] 45)) 4 cs
    rw [World.size_alloc] at b3
    refine ⟨⟨b1.alloc _, ?_, by omega⟩, below_draws (on (below_alloc v _) (below_alloc _ _)) 1⟩
    rw [HR.out]
    exact b3)
  have hNN : ((C * B : Nat) : Int) ≤ 128 := by omega
  generalize C * B = N at *
  have hC4 : (C : Int) ≤ 4 := by omega
  have hB4 : (B : Int) ≤ 32 := by omega
  clear l1 l2 hN2 HM HR
  go_enter Try.func9, Try.ntmps9
  go_upto_region 2 with (first
    | (go_at_call 23; (with_reducible refine (H1.out _).mono ?_); rintro e w' ⟨rfl, rfl⟩)
    | (go_at_call 23; (with_reducible refine (H2.out _).mono ?_); rintro e w' ⟨rfl, rfl⟩))
  go_region
  all_goals
    go_wp2
    go_ret
    exact ⟨w.heap.size, w.heap.size + 1, rfl, (HRM.out w).1, (HRM.out w).2, Nat.le_refl _, by omega⟩
end Go.Proofs.Ytdpniggabidmbaa
