/-
  What is proved: the example of layer 16 holds; a cache that is not there tells so (CacheNil). No condition.
-/
import Derived.Test.YtmfdlkkligjcbaaGreatK36
import Derived.Test.YtmfdlkkligjcbaaGreatK37
namespace Go.Proofs.YtmfdlkkligjcbaaGreat
open Go.RowKit

section
variable {w w' : World} {X F Q : Nat → Prop} {G M n cp T B k1 c1 : Nat} {c : Nat → Int} {A A1 : Option Addr} {hh : Nat → Hn} {v : Value} {o : Ob} {D : Int → List Int} {b : Int}
/-- what comes of Put, refused or not -/
def PutA (w : World) (X F : Nat → Prop) (G M n cp T B : Nat) (c : Nat → Int) (A : Option Addr) (hh : Nat → Hn) (v : Value) (o : Ob) (D : Int → List Int) (b lv : Int) (k1 : Nat) (l : List Int) (e : Ending) (w' : World) : Prop :=
  (putR c T o b lv k1 ≠ 0 ∧ e = .returned (.tuple #[.agg #[.int .i64 0, .slice none 0 0], .bool false, .int .i64 (putR c T o b lv k1)]) ∧ Below w.heap.size w w') ∨
  (putR c T o b lv k1 = 0 ∧ (0 ≤ b ∧ b < c 2) ∧ o.tk b ∧ PutQ w X F G M n cp T B c A hh v o D b l e w')
theorem cm_put (h : Cm w X G M F c A n cp hh T v o D B) (hB : B ≤ 10000000) {l : List Int} (hd : By w X (.slice A1 k1 c1) l) (lv : Int) :
    Calls Tryz.prog 23 #[.pointer (some ⟨G, 0, none⟩), .agg #[.int .i64 b, .slice A1 k1 c1], .int .i64 lv] w (PutA w X F G M n cp T B c A hh v o D b lv k1 l) := by
  by_cases hb : 0 ≤ b ∧ b < c 2
  · by_cases hk : (k1 : Int) = c 3
    · cases ht : o.takes (c 5) T b lv with
      | false =>
        have e5 : putR c T o b lv k1 = 5 := by unfold putR; rw [if_neg (fun h => h hb), if_neg (fun h => h hk), if_pos ht]
        exact (cp_no5 h A1 k1 c1 lv hb hk ht).mono fun e w' ⟨h1, h2⟩ => .inl ⟨by rw [e5]; decide, by rw [e5]; exact h1, h2⟩
      | true =>
        have e0 : putR c T o b lv k1 = 0 := by unfold putR; rw [if_neg (fun h => h hb), if_neg (fun h => h hk), if_neg (by rw [ht]; decide)]
        have key : Calls Tryz.prog 23 #[.pointer (some ⟨G, 0, none⟩), .agg #[.int .i64 b, .slice A1 k1 c1], .int .i64 lv] w (PutQ w X F G M n cp T B c A hh v o D b l) := by
          cases o with
          | lru C Ls =>
            cases hg : (Ob.lru C Ls).gn b with
            | true => exact cp_true_oml h hB hd lv hb hk ht hg
            | false => exact cp_false_oml h hB hd lv hb hk ht hg
          | mq C N L H m =>
            cases hg : (Ob.mq C N L H m).gn b with
            | true => exact cp_true_omm h hB hd lv hb hk ht hg
            | false => exact cp_false_omm h hB hd lv hb hk ht hg
          | prt rg pt lp n2 S =>
            cases hg : (Ob.prt rg pt lp n2 S).gn b with
            | true => exact cp_true_omp h hB hd lv hb hk ht hg
            | false => exact cp_false_omp h hB hd lv hb hk ht hg
        exact key.mono fun e w' h1 => .inr ⟨e0, hb, Ob.tk_of h hb ht, h1⟩
    · have e10 : putR c T o b lv k1 = 10 := by unfold putR; rw [if_neg (fun h => h hb), if_pos hk]
      exact (cp_no10 h A1 k1 c1 lv hb hk).mono fun e w' ⟨h1, h2⟩ => .inl ⟨by rw [e10]; decide, by rw [e10]; exact h1, h2⟩
  · have e9 : putR c T o b lv k1 = 9 := by unfold putR; rw [if_pos hb]
    exact (cp_no9 h A1 k1 c1 lv hb).mono fun e w' ⟨h1, h2⟩ => .inl ⟨by rw [e9]; decide, by rw [e9]; exact h1, h2⟩
end
-- a cache that is not there
section
variable (w : World)
set_option maxRecDepth 20000 in
theorem has16_nil (b : Int) : Calls Tryz.prog 19 #[.pointer none, .int .i64 b] w fun e w' => e = .returned (.bool false) ∧ w = w' := by
  go_enter Tryz.func19, Tryz.ntmps19
  go_wp2
  go_ret
  exact ⟨rfl, rfl⟩
set_option maxRecDepth 20000 in
theorem takes16_nil (b lv : Int) : Calls Tryz.prog 21 #[.pointer none, .int .i64 b, .int .i64 lv] w fun e w' => e = .returned (.bool false) ∧ w = w' := by
  go_enter Tryz.func21, Tryz.ntmps21
  go_wp2
  go_ret
  exact ⟨rfl, rfl⟩
set_option maxRecDepth 20000 in
theorem use16_nil (b : Int) : Calls Tryz.prog 24 #[.pointer none, .int .i64 b] w fun e w' => e = .returned (.tuple #[.slice none 0 0, .bool false]) ∧ w = w' := by
  go_enter Tryz.func24, Tryz.ntmps24
  go_wp2
  go_ret2
  exact ⟨rfl, rfl⟩
set_option maxRecDepth 20000 in
theorem all16_nil : Calls Tryz.prog 16 #[.pointer none] w fun e w' => e = .returned (.slice none 0 0) ∧ w = w' := by
  go_enter Tryz.func16, Tryz.ntmps16
  go_wp2
  go_ret
  exact ⟨rfl, rfl⟩
set_option maxRecDepth 20000 in
theorem len16_nil : Calls Tryz.prog 18 #[.pointer none] w fun e w' => e = .returned (.int .i64 0) ∧ w = w' := by
  go_enter Tryz.func18, Tryz.ntmps18
  go_wp2
  go_ret
  exact ⟨rfl, rfl⟩
set_option maxRecDepth 20000 in
theorem clear16_nil : Calls Tryz.prog 13 #[.pointer none] w fun e w' => e = .returned (.tuple #[]) ∧ w = w' := by
  go_enter Tryz.func13, Tryz.ntmps13
  go_wp2
  refine bodyPost_ret (results_none rfl _ _ _) rfl ?_
  exact ⟨rfl, rfl⟩
set_option maxRecDepth 20000 in
set_option maxHeartbeats 1000000 in
theorem set16_nil (b : Int) (A1 : Option Addr) (k1 c1 : Nat) : Calls Tryz.prog 27 #[.pointer none, .agg #[.int .i64 b, .slice A1 k1 c1]] w fun e w' => e = .returned (.bool false) ∧ Below w.heap.size w w' := by
  have hb0 := below_alloc w (.cells #[.int .i64 b, .slice A1 k1 c1] 38)
  have hx0 := Bx.new w 38 #[.int .i64 b, .slice A1 k1 c1]
  have HB0 := hid hb0
  have x0 : (w.alloc (.cells #[.int .i64 b, .slice A1 k1 c1] 38)).cell? ⟨w.heap.size, 0, none⟩ = some (.int .i64 b) := hx0.cell 0
  have HH := hid (fun w => has16_nil w b)
  clear hx0 hb0
  go_enter Tryz.func27, Tryz.ntmps27
  go_upto_region 1 with fail
  obtain ⟨W0, hW0⟩ : ∃ x, w.alloc (.cells #[.int .i64 b, .slice A1 k1 c1] 38) = x := ⟨_, rfl⟩
  obtain ⟨p, hp⟩ : ∃ x, w.heap.size = x := ⟨_, rfl⟩
  rw [hW0] at HB0 x0 ⊢
  rw [hp] at x0 ⊢
  clear hW0 hp
  go_quiet (first | (go_at_call 19; exact quietL (HH.out _)))
  go_wp2
  go_ret
  exact ⟨rfl, below_draws HB0.out _⟩
set_option maxRecDepth 20000 in
set_option maxHeartbeats 1000000 in
theorem drop16_nil (b : Int) : Calls Tryz.prog 26 #[.pointer none, .int .i64 b] w fun e w' => e = .returned (.tuple #[.agg #[.int .i64 0, .slice none 0 0], .bool false]) ∧ Below w.heap.size w w' := by
  have HB0 := hid (Bx.new w 38 #[.int .i64 0, .slice none 0 0])
  have HW0 := hid (below_alloc w (.cells #[.int .i64 0, .slice none 0 0] 38))
  go_enter Tryz.func26, Tryz.ntmps26
  go_upto_region 1 with fail
  obtain ⟨W0, hW0⟩ : ∃ x, w.alloc (.cells #[.int .i64 0, .slice none 0 0] 38) = x := ⟨_, rfl⟩
  obtain ⟨r0, hr0⟩ : ∃ x, w.heap.size = x := ⟨_, rfl⟩
  rw [hW0] at HB0 HW0 ⊢
  rw [hr0] at HB0 ⊢
  have HRS := hid hr0
  clear hW0 hr0
  go_wp2_with (refine wpList_store_bx rfl 38 (.tmp 4) (.tmp 17) rfl rfl r0 _ _ #[.int .i64 0, .slice none 0 0] rfl rfl HB0.out (by kernel_rfl) rfl (by simp [Value.oneCell']) ?_)
  refine bodyPost_ret (results_bx2 rfl _ rfl (HB0.out.row (cs' := #[.int .i64 0, .slice none 0 0])) Tryz.underlying38 rfl (by kernel_rfl)) rfl ?_
  exact ⟨rfl, below_setRow HW0.out (Nat.le_of_eq HRS.out) _⟩
set_option maxRecDepth 20000 in
set_option maxHeartbeats 1000000 in
theorem put16_nil (b lv : Int) (A1 : Option Addr) (k1 c1 : Nat) : Calls Tryz.prog 23 #[.pointer none, .agg #[.int .i64 b, .slice A1 k1 c1], .int .i64 lv] w fun e w' => e = .returned (.tuple #[.agg #[.int .i64 0, .slice none 0 0], .bool false, .int .i64 7]) ∧ Below w.heap.size w w' := by
  have HP0 := hid (pq_made w b A1 k1 c1)
  have HB0 := hid (on (below_alloc w (.cells #[.int .i64 b, .slice A1 k1 c1] 38)) (below_alloc _ (.cells #[.int .i64 0, .slice none 0 0] 38)))
  go_enter Tryz.func23, Tryz.ntmps23
  go_upto_region 2 with fail
  obtain ⟨W0, hW0⟩ : ∃ x, (w.alloc (.cells #[.int .i64 b, .slice A1 k1 c1] 38)).alloc (.cells #[.int .i64 0, .slice none 0 0] 38) = x := ⟨_, rfl⟩
  obtain ⟨q, hq⟩ : ∃ x, w.heap.size + 1 = x := ⟨_, rfl⟩
  obtain ⟨p, hp⟩ : ∃ x, w.heap.size = x := ⟨_, rfl⟩
  rw [hW0, hq, hp] at HP0
  rw [hW0] at HB0 ⊢
  rw [hq, hp]
  have HZ := hid (And.intro hp hq)
  clear hW0 hp hq
  go_wp2_with (refine wpList_store_bx rfl 38 (.tmp 6) (.tmp 14) rfl rfl q _ _ #[.int .i64 0, .slice none 0 0] rfl rfl HP0.out.bq (by kernel_rfl) rfl (by simp [Value.oneCell']) ?_)
  refine bodyPost_ret (results_bx3 rfl _ rfl (HP0.out.bq.row (cs' := #[.int .i64 0, .slice none 0 0])) Tryz.underlying38 rfl (by kernel_rfl)) rfl ?_
  exact ⟨rfl, below_setRow HB0.out (by have := HZ.out; omega) _⟩
end
/-- frames that are alike -/
theorem same_frame {w : World} {X Y : Nat → Prop} {u v : Value} {l : List Int} (x : Int) (hu : By w X u l) (hv : By w Y v l) :
    Calls Tryz.prog 31 #[.agg #[.int .i64 x, u], .agg #[.int .i64 x, v]] w fun e w' => e = .returned (.bool true) ∧ Below w.heap.size w w' := by
  obtain ⟨A1, c1, rfl, -⟩ := id hu
  obtain ⟨A2, c2, rfl, -⟩ := id hv
  have hb1 := below_alloc w (.cells #[.int .i64 x, .slice A1 l.length c1] 38)
  have hb2 := below_alloc (w.alloc (.cells #[.int .i64 x, .slice A1 l.length c1] 38)) (.cells #[.int .i64 x, .slice A2 l.length c2] 38)
  have HB := hid (on hb1 hb2)
  have HS := hid (same_by ((hu.below hb1).below hb2) ((hv.below hb1).below hb2))
  clear hb1 hb2 hu hv
  go_enter Tryz.func31, Tryz.ntmps31
  go_wp2_with (go_at_call 25; refine HS.out.mono ?_; rintro e w2 ⟨rfl, k, rfl⟩)
  go_ret
  exact ⟨rfl, below_draws HB.out _⟩
end Go.Proofs.YtmfdlkkligjcbaaGreat
/-
  What is proved: the example of layer 16 holds, and CacheNil's walk. No condition.
-/
namespace Go.Proofs.YtmfdlkkligjcbaaGreat
open Go.RowKit

/-- the example's configuration -/
def exC (i : Nat) : Int := [1, 1, 4, 1, 2, 0, 1, 1, 1, 1, 1, 1, 1, 1, 0, 1].getD i 0
abbrev noH (_ : Nat) : Hn := ⟨0, 0, 0, false⟩
theorem exC_right : RightP exC noH 0 := by
  refine ⟨fun i h => ?_, .inl rfl, .inr rfl, by omega, fun i h => absurd h (Nat.not_lt_zero i), fun i h => absurd h (Nat.not_lt_zero i)⟩
  match i, h with
  | 0, _ | 1, _ | 2, _ | 3, _ | 4, _ | 5, _ | 6, _ | 7, _ | 8, _ | 9, _ | 10, _ | 11, _ | 12, _ | 13, _ | 14, _ | 15, _ => simp [lo, hi, exC]
  | n + 16, h => omega
theorem exC_cells : cfgC exC none 0 0 = #[.int .i64 1, .int .i64 1, .int .i64 4, .int .i64 1, .int .i64 2, .int .i64 0, .int .i64 1, .int .i64 1, .int .i64 1, .int .i64 1, .int .i64 1, .int .i64 1, .int .i64 1, .int .i64 1, .int .i64 0, .int .i64 1, .slice none 0 0] := rfl
set_option maxRecDepth 20000 in
theorem least16 (w : World) : Calls Tryz.prog 30 #[] w fun e w' => e = .returned (.agg (cfgC exC none 0 0)) ∧ Below w.heap.size w w' := by
  go_enter Tryz.func30, Tryz.ntmps30
  go_wp2_with (refine wpList_store_new rfl _ _ _ rfl rfl _ (cfgC exC none 0 0) rfl rfl (by kernel_rfl) rfl (by simp [cfgC, Value.oneCell']) ?_)
  refine bodyPost_ret (results_new' rfl _ _ rfl _ _ Tryz.underlying25 rfl (by kernel_rfl)) rfl ?_
  exact ⟨rfl, below_alloc w _⟩
theorem ex_new : Ob.new exC noH 0 1 = .lru 1 [] := Ob.new_lru (T := 1) (by decide) (by decide)
theorem ex_put0 : putR exC (1 : Nat) (.lru 1 []) 0 0 1 = 0 := by decide
theorem ex_put1 : putR exC (1 : Nat) (.lru 1 [0]) 1 0 1 = 0 := by decide
theorem ex_add0 : (Ob.lru 1 []).add 0 = .lru 1 [0] := congrArg (Ob.lru 1) (by decide)
theorem ex_gn1 : (Ob.lru 1 [0]).gn 1 = true := by decide
theorem ex_vi1 : (Ob.lru 1 [0]).vi 1 = 0 := by decide
theorem by_one (w : World) (X : Nat → Prop) (hX : ∀ j, X j → j < w.heap.size) (x : Int) : By (w.alloc (.cells #[.int .u8 x] 5)) X (.slice (some ⟨w.heap.size, 0, none⟩) 1 1) [x] := by
  have hr := rv_new w 5 #[.int .u8 x]
  have hs : (w.alloc (.cells #[.int .u8 x] 5)).heap.size = w.heap.size + 1 := World.size_alloc w _
  refine ⟨_, 1, rfl, by rw [hs]; exact hr, Nat.le_refl _, by unfold maxLen; omega, fun ad e _ => ?_⟩
  injection e with e
  subst e
  exact ⟨by rw [hs]; exact Nat.lt_succ_self _, fun h => Nat.lt_irrefl _ (hX _ h)⟩
set_option maxRecDepth 20000 in
set_option maxHeartbeats 2000000 in
theorem wakes16 (w : World) : Calls Tryz.prog 8 #[] w fun e w' => e = .returned (.bool true) ∧ Below w.heap.size w w' := by
  have HN := hid (fun w => cm_new_yes (c := exC) (A := none) (n := 0) (cp := 0) (hh := noH) (w := w) exC_right (Rv.nil _ _ _) (fun _ => rfl) (T := 1) (by omega) (by omega))
  go_enter Tryz.func8, Tryz.ntmps8
  go_upto_region 4 with (first
    | (go_at_call 30; refine (least16 _).mono ?_; rintro e w1 ⟨rfl, hb⟩; have HB1 := hid hb; clear hb)
    | (go_at_call 10; refine (HN.out _).mono ?_; rintro e w2 ⟨G, M, A, cp, v, F, rfl, hb, ho, hc⟩; have HB2 := hid (on HB1.out hb); have HC := hid (hc (fun _ => False) (fun _ => []) (fun _ h => h.elim)); have HO := hid (fun j h => Nat.le_trans HB1.out.size (ho j h).1); clear hb ho hc))
  rw [ex_new] at HC
  generalize (fun j => False ∨ Own16 F G M j) = X at HC
  have HY1 := hid (by_one w2 X HC.out.lt 7)
  have HPU := hid (cm_put (b := 0) (HC.out.below (below_alloc w2 (.cells #[.int .u8 7] 5))) (by omega) HY1.out 0)
  have HBa := hid (on HB2.out (below_alloc w2 (.cells #[.int .u8 7] 5)))
  go_upto_region 5 with (go_at_call 23; refine HPU.out.mono ?_; rintro e w3 (⟨h1, -⟩ | ⟨-, -, -, x, u, rfl, hc, hch, -, -⟩); exact absurd ex_put0 h1; have HC3 := hid hc; have HCH := hid hch; clear hc hch)
  have HB3 := hid (show Below w.heap.size w w3 from HBa.out.trans (HCH.out.bel HBa.out.size fun j hj => hj.elim (fun h => HO.out j (.inl h)) fun h => HO.out j (.inr (.inr h))))
  rw [ex_add0] at HC3
  have HY2 := hid (by_one w3 X HC3.out.lt 8)
  have HPV := hid ((cm_put (b := 1) (HC3.out.below (below_alloc w3 (.cells #[.int .u8 8] 5))) (by omega) HY2.out 0).mono (R' := fun e w' => ∃ A5 k5 c5, e = .returned (.tuple #[.agg #[.int .i64 0, .slice A5 k5 c5], .bool true, .int .i64 0]) ∧ By w' X (.slice A5 k5 c5) [7] ∧ (∀ j, X j → j < w'.heap.size) ∧ Chg _ w' (fun j => F j ∨ j = M) (fun j => F j ∨ j = M)) fun e w' h => by
    rcases h with ⟨h1, -⟩ | ⟨-, -, -, x2, u2, he, hc, hch, hg, -⟩
    · exact absurd ex_put1 h1
    · obtain ⟨h1, h2⟩ := hg ex_gn1
      rw [ex_vi1] at h1 h2
      subst h1
      obtain ⟨A5, c5, rfl, h3⟩ := id h2
      exact ⟨A5, _, c5, by rw [he, ex_gn1], h2, hc.lt, hch⟩)
  have HBb := hid (on HB3.out (below_alloc w3 (.cells #[.int .u8 8] 5)))
  go_upto_region 6 with (go_at_call 23; refine HPV.out.mono ?_; rintro e w4 ⟨A5, k5, c5, rfl, hby, hlt, hch⟩; have HY4 := hid hby; have HL4 := hid hlt; have HCH4 := hid hch; clear hby hlt hch)
  have HB4 := hid (show Below w.heap.size w w4 from HBb.out.trans (HCH4.out.bel HBb.out.size fun j hj => hj.elim (fun h => HO.out j (.inl h)) fun h => HO.out j (.inr (.inr h))))
  have hb5 := below_alloc w4 (.cells #[.int .i64 0, .slice A5 k5 c5] 38)
  have hb6 := below_alloc (w4.alloc (.cells #[.int .i64 0, .slice A5 k5 c5] 38)) (.cells #[.int .u8 7] 5)
  have HB6 := hid (on (on HB4.out hb5) hb6)
  have HSF := hid (same_frame 0 ((HY4.out.below hb5).below hb6) (by_one (w4.alloc (.cells #[.int .i64 0, .slice A5 k5 c5] 38)) X (fun j hj => Nat.lt_of_lt_of_le (HL4.out j hj) hb5.size) 7))
  rw [show (w4.alloc (.cells #[.int .i64 0, .slice A5 k5 c5] 38)).heap.size = w4.heap.size + 1 from World.size_alloc _ _] at HSF
  clear hb5 hb6
  go_wp2_with (go_at_call 31; with_reducible refine HSF.out.mono ?_; rintro e w7 ⟨rfl, hb⟩; have HB7 := hid (on HB6.out hb); clear hb)
  go_ret
  exact ⟨rfl, HB7.out⟩
set_option maxRecDepth 20000 in
set_option maxHeartbeats 2000000 in
theorem nil16 (b : Int) (A1 : Option Addr) (k1 c1 : Nat) (w : World) : Calls Tryz.prog 5 #[.agg #[.int .i64 b, .slice A1 k1 c1]] w fun e w' => e = .returned (.bool true) ∧ Below w.heap.size w w' := by
  have HB0 := hid (below_alloc w (.cells #[.int .i64 b, .slice A1 k1 c1] 38))
  have HX0 := hid (Bx.new w 38 #[.int .i64 b, .slice A1 k1 c1])
  go_enter Tryz.func5, Tryz.ntmps5
  go_upto_region 1 with fail
  obtain ⟨W0, hW0⟩ : ∃ x, w.alloc (.cells #[.int .i64 b, .slice A1 k1 c1] 38) = x := ⟨_, rfl⟩
  obtain ⟨p, hp⟩ : ∃ x, w.heap.size = x := ⟨_, rfl⟩
  rw [hW0] at HB0 HX0 ⊢
  rw [hp] at HX0 ⊢
  have HP := hid hp
  clear hW0 hp
  go_upto_region 5 with (first
    | (go_at_call 8; refine (wakes16 _).mono ?_; rintro e w1 ⟨rfl, hb⟩; have HB1 := hid (on HB0.out hb); have HX1 := hid (HX0.out.next hb); have x0 : w1.cell? ⟨p, 0, none⟩ = some (.int .i64 b) := HX1.out.cell 0; have x1 : w1.cell? ⟨p, 1, none⟩ = some (.slice A1 k1 c1) := HX1.out.cell 1; clear hb)
    | (go_at_call 13; refine (clear16_nil _).mono ?_; rintro e w2 ⟨rfl, rfl⟩))
  go_upto_region 6 with (go_at_call 23; refine (put16_nil _ _ _ _ _ _).mono ?_; rintro e w2 ⟨rfl, hb⟩; have HB2 := hid (on HB1.out hb); have HX2 := hid (HX1.out.next hb); clear hb)
  clear x0 x1
  have hb3 := below_alloc w2 (.cells #[.int .i64 0, .slice none 0 0] 38)
  have HB3 := hid (on HB2.out hb3)
  have HX3 := hid (HX2.out.next hb3)
  generalize w2.alloc (.cells #[.int .i64 0, .slice none 0 0] 38) = w3 at *
  have x0 : w3.cell? ⟨p, 0, none⟩ = some (.int .i64 b) := HX3.out.cell 0
  clear hb3
  go_upto_region 8 with (first
    | (go_at_call 24; refine (use16_nil _ _).mono ?_; rintro e w4 ⟨rfl, rfl⟩)
    | (go_at_call 26; refine (drop16_nil _ _).mono ?_; rintro e w4 ⟨rfl, hb⟩; have HB4 := hid (on HB3.out hb); have HX4 := hid (HX3.out.next hb); clear hb))
  clear x0
  have hb5 := below_alloc w4 (.cells #[.int .i64 0, .slice none 0 0] 38)
  have HB5 := hid (on HB4.out hb5)
  have HX5 := hid (HX4.out.next hb5)
  generalize w4.alloc (.cells #[.int .i64 0, .slice none 0 0] 38) = w5 at *
  have x0 : w5.cell? ⟨p, 0, none⟩ = some (.int .i64 b) := HX5.out.cell 0
  have x1 : w5.cell? ⟨p, 1, none⟩ = some (.slice A1 k1 c1) := HX5.out.cell 1
  clear hb5
  go_wp2_with (first
    | (go_at_call 27; refine (set16_nil _ _ _ _ _).mono ?_; rintro e w6 ⟨rfl, hb⟩; have HB6 := hid (on HB5.out hb); have HX6 := hid (HX5.out.next hb); have x0 : w6.cell? ⟨p, 0, none⟩ = some (.int .i64 b) := HX6.out.cell 0; clear hb)
    | (go_at_call 19; refine (has16_nil _ _).mono ?_; rintro e w7 ⟨rfl, rfl⟩)
    | (go_at_call 21; refine (takes16_nil _ _ _).mono ?_; rintro e w7 ⟨rfl, rfl⟩)
    | (go_at_call 16; refine (all16_nil _).mono ?_; rintro e w7 ⟨rfl, rfl⟩)
    | (go_at_call 18; refine (len16_nil _).mono ?_; rintro e w7 ⟨rfl, rfl⟩))
  go_ret
  exact ⟨rfl, HB6.out⟩
end Go.Proofs.YtmfdlkkligjcbaaGreat
/-
  What is proved: the tier that is to have a block, as the program and as the reference tell it, of a right configuration. No condition.
-/
namespace Go.Proofs.YtmfdlkkligjcbaaGreat
open Go.RowKit

/-- what a block's range has of a tier (0 to 2) -/
noncomputable def pOf (c : Nat → Int) (hh : Nat → Hn) (n : Nat) (b : Int) (t : Nat) : Nat := match rgi hh b n with
  | none => 0
  | some i => KP hh n (cps c) i t
/-- the first tier from a on that has something, 4 if there is none -/
def sk (p : Nat → Nat) (a : Nat) : Nat := if a ≤ 0 ∧ 0 < p 0 then 1 else if a ≤ 1 ∧ 0 < p 1 then 2 else if a ≤ 2 ∧ 0 < p 2 then 3 else 4
theorem sk_no {p : Nat → Nat} {a : Nat} (ha : a < 3) (h : p a = 0) : sk p a = sk p (a + 1) := by
  obtain rfl | rfl | rfl : a = 0 ∨ a = 1 ∨ a = 2 := by omega
  all_goals
    unfold sk
    simp [h]
theorem sk_yes {p : Nat → Nat} {a : Nat} (ha : a < 3) (h : 0 < p a) : sk p a = a + 1 := by
  obtain rfl | rfl | rfl : a = 0 ∨ a = 1 ∨ a = 2 := by omega
  all_goals
    unfold sk
    simp [h]
theorem sk_end {p : Nat → Nat} {a : Nat} (ha : 3 ≤ a) : sk p a = 4 := by
  unfold sk
  rw [if_neg (by omega), if_neg (by omega), if_neg (by omega)]
theorem sk_at (p : Nat → Nat) (a : Nat) : sk p a = 4 ∨ (a + 1 ≤ sk p a ∧ sk p a ≤ 3 ∧ 0 < p (sk p a - 1)) := by
  by_cases h0 : a ≤ 0 ∧ 0 < p 0
  · have e : sk p a = 1 := if_pos h0
    rw [e]; exact .inr ⟨by omega, by omega, h0.2⟩
  · by_cases h1 : a ≤ 1 ∧ 0 < p 1
    · have e : sk p a = 2 := (if_neg h0).trans (if_pos h1)
      rw [e]; exact .inr ⟨by omega, by omega, h1.2⟩
    · by_cases h2 : a ≤ 2 ∧ 0 < p 2
      · have e : sk p a = 3 := (if_neg h0).trans ((if_neg h1).trans (if_pos h2))
        rw [e]; exact .inr ⟨by omega, by omega, h2.2⟩
      · exact .inl ((if_neg h0).trans ((if_neg h1).trans (if_neg h2)))
theorem cfg_caps {w : World} {g : Nat} {c : Nat → Int} {A : Option Addr} {n cq : Nat} (h : Bx w g 25 (cfgC c A n cq)) : (Instr.loadAt 22 (.pointer (some ⟨g, 9, none⟩))).run Tryz.prog w = .ok (.agg #[.int .i64 (c 9), .int .i64 (c 10), .int .i64 (c 11)]) w := by
  refine run_loadAt_mid (P := Tryz.prog) _ g 9 22 [.int .i64 (c 9), .int .i64 (c 10), .int .i64 (c 11)] _ (fun j u hj => ?_) Tryz.underlying22 rfl (by kernel_rfl)
  have hj3 : j < 3 := (List.getElem?_eq_some_iff.1 hj).1
  rw [h.cell, ← hj]
  rcases j with _ | _ | _ | j
  · rfl
  · rfl
  · rfl
  · omega
/-- the tier that is to have a block from above a tier -/
noncomputable def tgt (c : Nat → Int) (hh : Nat → Hn) (n : Nat) (b ab : Int) : Nat :=
  if ab < 0 ∨ 3 ≤ ab ∨ ¬ (0 ≤ b ∧ b < c 2) then 4 else if c 5 = 2 then sk (pOf c hh n b) ab.toNat else ab.toNat + 1
section
variable {c : Nat → Int} {A : Option Addr} {n cq : Nat} {hh : Nat → Hn} {w : World} {b ab : Int}
/-- what a plan's Part answers -/
theorem part_tgt {q : Nat} {A1 B1 : Option Addr} {c1 dd : Nat} (h : Pl w q (c 2) (cps c) hh n A1 c1 B1 dd) (b : Int) {j : Nat} (hj : j < 3) : Calls Tryz.prog 53 #[.pointer (some ⟨q, 0, none⟩), .int .i64 b, .int .i64 ((j : Int) + 1)] w fun e w' => e = .returned (.int .i64 (pOf c hh n b j : Nat)) ∧ Below w.heap.size w w' := by
  refine (part_any h b ((j : Int) + 1)).mono fun e w' ⟨he, hb⟩ => ⟨?_, hb⟩
  rw [he]
  congr 2
  unfold ptV pOf
  cases rgi hh b n with
  | none => rfl
  | some i =>
    dsimp only
    rw [if_pos (by omega), show ((j : Int) + 1 - 1).toNat = j from by omega]
    rfl
set_option maxRecDepth 20000 in
set_option maxHeartbeats 2000000 in
theorem tgt_far (h : ab < 0 ∨ 3 ≤ ab) : Calls Tryz.prog 28 #[.agg (cfgC c A n cq), .int .i64 b, .int .i64 ab] w fun e w' => e = .returned (.int .i64 4) ∧ Below w.heap.size w w' := by
  have HB0 := hid (below_alloc w (.cells (cfgC c A n cq) 25))
  rcases h with h | h
  · have d1 : decide (ab < 0) = true := decide_eq_true h
    clear h
    go_enter Tryz.func28, Tryz.ntmps28
    go_upto_region 1 with fail
    generalize w.alloc (.cells (cfgC c A n cq) 25) = w1 at *
    go_wp2
    go_ret
    exact ⟨rfl, HB0.out⟩
  · have d1 : decide (ab < 0) = false := decide_eq_false (by omega)
    have d2 : decide (3 ≤ ab) = true := decide_eq_true h
    clear h
    go_enter Tryz.func28, Tryz.ntmps28
    go_upto_region 1 with fail
    generalize w.alloc (.cells (cfgC c A n cq) 25) = w1 at *
    go_wp2
    go_ret
    exact ⟨rfl, HB0.out⟩
set_option maxRecDepth 20000 in
set_option maxHeartbeats 4000000 in
theorem tgt_near (rt : RightP c hh n) (hr : Rv w w.heap.size A (hvs hh n)) (ca : A = none → cq = 0) {a : Nat} (ha : a < 3) : Calls Tryz.prog 28 #[.agg (cfgC c A n cq), .int .i64 b, .int .i64 a] w fun e w' => e = .returned (.int .i64 (tgt c hh n b a : Nat)) ∧ Below w.heap.size w w' := by
  have hb0 := below_alloc w (.cells (cfgC c A n cq) 25)
  have hx0 := Bx.new w 25 (cfgC c A n cq)
  have HX0 := hid hx0
  obtain ⟨k0, k1, k2, kc, kp⟩ := rt.caps
  have hr0 := (hr.below hb0 (Nat.le_refl _)).more hb0.size
  have hn8 : n ≤ 8 := rt.2.2.2.1
  have d1 : decide ((a : Int) < 0) = false := decide_eq_false (by omega)
  have d2 : decide (3 ≤ (a : Int)) = false := decide_eq_false (by omega)
  have HI := hid (fun w => isblk_any c A n cq b w)
  have HB0 := hid hb0
  have HR0 := hid hr0
  have HRT := hid rt
  have HKP := hid kp
  have HCA := hid ca
  have HA3 := hid ha
  have ntg : (a : Int).toNat = a := Int.toNat_natCast a
  by_cases hb : 0 ≤ b ∧ b < c 2
  · rw [decide_eq_true hb] at HI
    by_cases h5 : c 5 = 2
    · have HE := hid (show tgt c hh n b a = sk (pOf c hh n b) a from by unfold tgt; rw [if_neg (by omega), if_pos h5, ntg])
      have d5 : (c 5 != 2) = false := by rw [h5]; rfl
      clear hr rt hb0 hr0 kp ca h5 hb ntg hx0
      go_enter Tryz.func28, Tryz.ntmps28
      go_upto_region 1 with fail
      obtain ⟨W0, hW0⟩ : ∃ x, w.alloc (.cells (cfgC c A n cq) 25) = x := ⟨_, rfl⟩
      obtain ⟨r0, hr0⟩ : ∃ x, w.heap.size = x := ⟨_, rfl⟩
      rw [hW0] at HB0 HR0 HX0 ⊢
      rw [hr0] at HX0 ⊢
      clear hW0 hr0
      go_upto_region 3 with (first
        | (go_at_call 47; refine (HI.out _).mono ?_; rintro e w1 ⟨rfl, hb⟩; have HX1 := hid (HX0.out.next hb); have HB1 := hid (on HB0.out hb); have HR1 := hid (Rv.more (HR0.out.below hb (Nat.le_refl _)) hb.size); clear hb)
        | (refine wpList_load_bxg (by rfl) 25 (.tmp 3) rfl r0 _ _ _ rfl HX0.out Tryz.underlying25 rfl (by kernel_rfl) ?_))
      have HKN := hid (new_ok (A := A) (n := n) (c := cq) (hh := hh) (b := c 2) (w := w1) (u := cps c) (by omega) HCA.out HR1.out (by rw [← k0, ← k1, ← k2]; exact HKP.out) (cps_cN HRT.out) HRT.out.2.2.2)
      rw [← k0, ← k1, ← k2] at HKN
      have hl3 := cfg_caps HX1.out
      have y5 : w1.cell? ⟨r0, 5, none⟩ = some (.int .i64 (c 5)) := HX1.out.cell 5
      have y16 : w1.cell? ⟨r0, 16, none⟩ = some (.slice A n cq) := HX1.out.cell 16
      have y2 : w1.cell? ⟨r0, 2, none⟩ = some (.int .i64 (c 2)) := HX1.out.cell 2
      have y9 : w1.cell? ⟨r0, 9, none⟩ = some (.int .i64 (c 9)) := HX1.out.cell 9
      have y10 : w1.cell? ⟨r0, 10, none⟩ = some (.int .i64 (c 10)) := HX1.out.cell 10
      have y11 : w1.cell? ⟨r0, 11, none⟩ = some (.int .i64 (c 11)) := HX1.out.cell 11
      clear k0 k1 k2
      go_upto_region 7 with (go_at_call 52; with_reducible refine HKN.out.mono ?_; rintro e w2 ⟨q, A1, c1, B1, dd1, rfl, hp, hb, hq⟩; have HP := hid hp; have HB2 := hid (on HB1.out hb); clear hp hb hq)
      clear hl3 y5 y16 y2 y9 y10 y11
      have HPA := hid (fun (y : World) (hb : Below w2.heap.size w2 y) (j : Nat) (hj : j < 3) => part_tgt (HP.out.below hb) b hj)
      go_loopg [9] 3 (fun gk t9 wr => ∃ j : Nat, j + gk = 3 + a ∧ t9 = .int .i64 ((j : Int) + 1) ∧ sk (pOf c hh n b) a = sk (pOf c hh n b) j ∧ Below w2.heap.size w2 wr)
      case atStart => exact ⟨a, by have := HA3.out; omega, rfl, rfl, Below.refl _ _⟩
      case round =>
        obtain ⟨j, hj, rfl, hsk, hbl⟩ := hrel
        have HBL := hid hbl
        have HSK := hid hsk
        clear hbl hsk
        by_cases hlt : j < 3
        · have hlt' : (j : Int) + 1 ≤ 3 := by omega
          have HPJ := hid (HPA.out wr HBL.out j hlt)
          have HLT := hid hlt
          cases hp : decide (0 < pOf c hh n b j) with
          | true =>
            have HY := hid (show sk (pOf c hh n b) a = j + 1 from HSK.out.trans (sk_yes hlt (by simpa using hp)))
            go_wp2_with (go_at_call 53; refine HPJ.out.mono ?_; rintro e w4 ⟨rfl, hb⟩; have HB4 := hid (on HBL.out hb); clear hb)
            go_ret
            exact ⟨by rw [HE.out, HY.out]; simp, on HB2.out HB4.out⟩
          | false =>
            have HY := hid (show sk (pOf c hh n b) a = sk (pOf c hh n b) (j + 1) from HSK.out.trans (sk_no hlt (by simpa using hp)))
            go_wp2_with (go_at_call 53; refine HPJ.out.mono ?_; rintro e w4 ⟨rfl, hb⟩; have HB4 := hid (on HBL.out hb); clear hb)
            go_roundg (gk - 1)
            case measure => omega
            case rel => exact ⟨j + 1, by omega, by go_num, HY.out, HB4.out⟩
        · have hlt' : ¬ (j : Int) + 1 ≤ 3 := by omega
          have HY := hid (show sk (pOf c hh n b) a = 4 from HSK.out.trans (sk_end (by omega)))
          go_wp2
          go_ret
          exact ⟨by rw [HE.out, HY.out]; rfl, on HB2.out HBL.out⟩
    · have HE := hid (show tgt c hh n b a = a + 1 from by unfold tgt; rw [if_neg (by omega), if_neg h5, ntg])
      have d5 : (c 5 != 2) = true := by simpa using h5
      clear hr rt hb0 hr0 kp ca h5 hb ntg hx0 k0 k1 k2
      go_enter Tryz.func28, Tryz.ntmps28
      go_upto_region 1 with fail
      obtain ⟨W0, hW0⟩ : ∃ x, w.alloc (.cells (cfgC c A n cq) 25) = x := ⟨_, rfl⟩
      obtain ⟨r0, hr0⟩ : ∃ x, w.heap.size = x := ⟨_, rfl⟩
      rw [hW0] at HB0 HX0 ⊢
      rw [hr0] at HX0 ⊢
      clear hW0 hr0
      go_wp2_with (first
        | (go_at_call 47; refine (HI.out _).mono ?_; rintro e w1 ⟨rfl, hb⟩; have HB1 := hid (on HB0.out hb); have y5 : w1.cell? ⟨r0, 5, none⟩ = some (.int .i64 (c 5)) := (HX0.out.next hb).cell 5; clear hb)
        | (refine wpList_load_bxg (by rfl) 25 (.tmp 3) rfl r0 _ _ _ rfl HX0.out Tryz.underlying25 rfl (by kernel_rfl) ?_))
      go_ret
      exact ⟨by rw [HE.out]; simp, HB1.out⟩
  · have HE := hid (show tgt c hh n b a = 4 from by unfold tgt; rw [if_pos (.inr (.inr hb))])
    rw [decide_eq_false hb] at HI
    clear hr rt hb0 hr0 kp ca hb ntg hx0 k0 k1 k2
    go_enter Tryz.func28, Tryz.ntmps28
    go_upto_region 1 with fail
    obtain ⟨W0, hW0⟩ : ∃ x, w.alloc (.cells (cfgC c A n cq) 25) = x := ⟨_, rfl⟩
    obtain ⟨r0, hr0⟩ : ∃ x, w.heap.size = x := ⟨_, rfl⟩
    rw [hW0] at HB0 HX0 ⊢
    rw [hr0] at HX0 ⊢
    clear hW0 hr0
    go_wp2_with (first
      | (go_at_call 47; refine (HI.out _).mono ?_; rintro e w1 ⟨rfl, hb⟩; have HB1 := hid (on HB0.out hb); clear hb)
      | (refine wpList_load_bxg (by rfl) 25 (.tmp 3) rfl r0 _ _ _ rfl HX0.out Tryz.underlying25 rfl (by kernel_rfl) ?_))
    go_ret
    exact ⟨by rw [HE.out]; rfl, HB1.out⟩
set_option maxRecDepth 20000 in
set_option maxHeartbeats 4000000 in
theorem rtgt_near (rt : RightP c hh n) (hr : Rv w w.heap.size A (hvs hh n)) {a : Nat} (ha : a < 3) : Calls Tryz.prog 29 #[.agg (cfgC c A n cq), .int .i64 b, .int .i64 a] w fun e w' => e = .returned (.int .i64 (tgt c hh n b a : Nat)) ∧ Below w.heap.size w w' := by
  have hb0 := below_alloc w (.cells (cfgC c A n cq) 25)
  have hx0 := Bx.new w 25 (cfgC c A n cq)
  have HX0 := hid hx0
  obtain ⟨k0, k1, k2, kc, kp⟩ := rt.caps
  have hr0 := (hr.below hb0 (Nat.le_refl _)).more hb0.size
  have hn8 : n ≤ 8 := rt.2.2.2.1
  have l2 : (1 : Int) ≤ c 2 ∧ c 2 ≤ 32 := rt.1 2 (by omega)
  have d1 : decide ((a : Int) < 0) = false := decide_eq_false (by omega)
  have d2 : decide (2 < (a : Int)) = false := decide_eq_false (by omega)
  have HB0 := hid hb0
  have HR0 := hid hr0
  have HRT := hid rt
  have HA3 := hid ha
  have ntg : (a : Int).toNat = a := Int.toNat_natCast a
  have HKC := hid (show ∀ t, t < 3 → cps c t ≤ 1000 from fun t ht => by have := kc t ht; omega)
  by_cases hb : 0 ≤ b ∧ b < c 2
  · have d3 : decide (b < 0) = false := decide_eq_false (by omega)
    have d4 : decide (c 2 ≤ b) = false := decide_eq_false (by omega)
    by_cases h5 : c 5 = 2
    · have HE := hid (show tgt c hh n b a = sk (pOf c hh n b) a from by unfold tgt; rw [if_neg (by omega), if_pos h5, ntg])
      have d5 : (c 5 != 2) = false := by rw [h5]; rfl
      have HRG := hid (rrange_any A n cq hh (c 2) b _ (by omega) (by omega) rt.2.2.2 hr0)
      have hl3 := cfg_caps hx0
      have y5 : (w.alloc (.cells (cfgC c A n cq) 25)).cell? ⟨w.heap.size, 5, none⟩ = some (.int .i64 (c 5)) := hx0.cell 5
      have y16 : (w.alloc (.cells (cfgC c A n cq) 25)).cell? ⟨w.heap.size, 16, none⟩ = some (.slice A n cq) := hx0.cell 16
      have y2 : (w.alloc (.cells (cfgC c A n cq) 25)).cell? ⟨w.heap.size, 2, none⟩ = some (.int .i64 (c 2)) := hx0.cell 2
      clear hr rt hb0 hr0 kp kc h5 hb ntg l2
      obtain ⟨og, hog⟩ : ∃ x, rgi hh b n = x := ⟨_, rfl⟩
      rw [hog] at HRG
      have HOG := hid hog
      clear hog
      go_enter Tryz.func29, Tryz.ntmps29
      go_upto_region 1 with fail
      obtain ⟨W0, hW0⟩ : ∃ x, w.alloc (.cells (cfgC c A n cq) 25) = x := ⟨_, rfl⟩
      obtain ⟨r0, hr0⟩ : ∃ x, w.heap.size = x := ⟨_, rfl⟩
      rw [hW0] at HB0 HR0 HX0 HRG hl3 y5 y16 y2 ⊢
      rw [hr0] at HX0 hl3 y5 y16 y2 ⊢
      clear hW0 hr0 hx0
      go_upto_region 6 with (go_at_call 54; refine HRG.out.mono ?_; rintro e w1 ⟨rfl, kk, rfl⟩)
      have HX1 := hid (HX0.out.draws kk)
      have HR1 := hid (show Rv (W0.drewN kk) (W0.drewN kk).heap.size A (hvs hh n) from HR0.out.below (below_draws (Below.refl _ _) kk) (Nat.le_refl _))
      have HB1 := hid (below_draws HB0.out kk)
      clear hl3 y5 y16 y2
      generalize W0.drewN kk = w1 at *
      have hl3 := cfg_caps HX1.out
      have y16 : w1.cell? ⟨r0, 16, none⟩ = some (.slice A n cq) := HX1.out.cell 16
      have y9 : w1.cell? ⟨r0, 9, none⟩ = some (.int .i64 (c 9)) := HX1.out.cell 9
      have y10 : w1.cell? ⟨r0, 10, none⟩ = some (.int .i64 (c 10)) := HX1.out.cell 10
      have y11 : w1.cell? ⟨r0, 11, none⟩ = some (.int .i64 (c 11)) := HX1.out.cell 11
      have HPT := hid (rparts_kp (c := cq) HRT.out.2.2.2 HR1.out HKC.out)
      rw [← k0, ← k1, ← k2] at HPT
      clear k0 k1 k2
      go_upto_region 8 with (go_at_call 55; with_reducible refine HPT.out.mono ?_; rintro e w2 ⟨g2, rfl, har, hb⟩; have HAR := hid har; have HB2 := hid (on HB1.out hb); clear har hb)
      clear hl3 y16 y9 y10 y11
      cases og with
      | none =>
        have HZ := hid (show ∀ j, pOf c hh n b j = 0 from fun j => by unfold pOf; rw [HOG.out])
        go_loopg [9] 3 (fun gk t9 wr => ∃ j : Nat, j + gk = 3 + a ∧ t9 = .int .i64 j ∧ sk (pOf c hh n b) a = sk (pOf c hh n b) j ∧ wr = w2)
        case atStart => exact ⟨a, by have := HA3.out; omega, rfl, rfl, rfl⟩
        case round =>
          obtain ⟨j, hj, rfl, hsk, rfl⟩ := hrel
          have HSK := hid hsk
          clear hsk
          by_cases hlt : j < 3
          · have hlt' : (j : Int) < 3 := by omega
            have HY := hid (show sk (pOf c hh n b) a = sk (pOf c hh n b) (j + 1) from HSK.out.trans (sk_no hlt (HZ.out j)))
            go_wp2
            go_roundg (gk - 1)
            case measure => omega
            case rel => exact ⟨j + 1, by omega, by go_num, HY.out, rfl⟩
          · have hlt' : ¬ (j : Int) < 3 := by omega
            have HY := hid (show sk (pOf c hh n b) a = 4 from HSK.out.trans (sk_end (by omega)))
            go_wp2
            go_ret
            exact ⟨by rw [HE.out, HY.out]; rfl, HB2.out⟩
      | some i =>
        have HZ := hid (show ∀ j, pOf c hh n b j = KP hh n (cps c) i j from fun j => by unfold pOf; rw [HOG.out])
        have hi := (rgi_lt HOG.out).1
        have hrv : rrV (some i) = (i : Int) := rfl
        have hrw : decide ((i : Int) ≥ 0) = true := by simp
        have HCL := hid (show ∀ j, j < 3 → w2.cell? ⟨g2, i * 4 + j, none⟩ = some (.int .i64 (pOf c hh n b j : Nat)) from fun j hj => by
          rw [HAR.out.cell (i * 4 + j) (by omega), HZ.out]
          unfold ptv
          rw [show (i * 4 + j) / 4 = i by omega, show (i * 4 + j) % 4 = j by omega])
        go_loopg [9] 3 (fun gk t9 wr => ∃ j : Nat, j + gk = 3 + a ∧ t9 = .int .i64 j ∧ sk (pOf c hh n b) a = sk (pOf c hh n b) j ∧ wr = w2)
        case atStart => exact ⟨a, by have := HA3.out; omega, rfl, rfl, rfl⟩
        case round =>
          obtain ⟨j, hj, rfl, hsk, rfl⟩ := hrel
          have HSK := hid hsk
          clear hsk
          by_cases hlt : j < 3
          · have hlt' : (j : Int) < 3 := by omega
            have hcl := HCL.out j hlt
            obtain ⟨x, hx⟩ : ∃ x : Nat, i * 4 + j = x := ⟨_, rfl⟩
            have hxi : 4 * (i : Int) + (j : Int) = (x : Int) := by omega
            have hxn : x < 4 * n := by omega
            rw [hx] at hcl
            cases hp : decide (0 < pOf c hh n b j) with
            | true =>
              have HY := hid (show sk (pOf c hh n b) a = j + 1 from HSK.out.trans (sk_yes hlt (by simpa using hp)))
              go_wp2
              go_ret
              exact ⟨by rw [HE.out, HY.out]; simp, HB2.out⟩
            | false =>
              have HY := hid (show sk (pOf c hh n b) a = sk (pOf c hh n b) (j + 1) from HSK.out.trans (sk_no hlt (by simpa using hp)))
              go_wp2
              go_roundg (gk - 1)
              case measure => omega
              case rel => exact ⟨j + 1, by omega, by go_num, HY.out, rfl⟩
          · have hlt' : ¬ (j : Int) < 3 := by omega
            have HY := hid (show sk (pOf c hh n b) a = 4 from HSK.out.trans (sk_end (by omega)))
            go_wp2
            go_ret
            exact ⟨by rw [HE.out, HY.out]; rfl, HB2.out⟩
    · have HE := hid (show tgt c hh n b a = a + 1 from by unfold tgt; rw [if_neg (by omega), if_neg h5, ntg])
      have d5 : (c 5 != 2) = true := by simpa using h5
      have y5 : (w.alloc (.cells (cfgC c A n cq) 25)).cell? ⟨w.heap.size, 5, none⟩ = some (.int .i64 (c 5)) := hx0.cell 5
      have y2 : (w.alloc (.cells (cfgC c A n cq) 25)).cell? ⟨w.heap.size, 2, none⟩ = some (.int .i64 (c 2)) := hx0.cell 2
      clear hr rt hb0 hr0 kp kc h5 hb ntg hx0 k0 k1 k2 l2
      go_enter Tryz.func29, Tryz.ntmps29
      go_upto_region 1 with fail
      generalize w.alloc (.cells (cfgC c A n cq) 25) = W0 at *
      go_wp2
      go_ret
      exact ⟨by rw [HE.out]; simp, HB0.out⟩
  · have HE := hid (show tgt c hh n b a = 4 from by unfold tgt; rw [if_pos (.inr (.inr hb))])
    have y2 : (w.alloc (.cells (cfgC c A n cq) 25)).cell? ⟨w.heap.size, 2, none⟩ = some (.int .i64 (c 2)) := hx0.cell 2
    by_cases hb0' : b < 0
    · have d3 : decide (b < 0) = true := decide_eq_true hb0'
      clear hr rt hb0 hr0 kp kc hb ntg hx0 k0 k1 k2 l2 hb0'
      go_enter Tryz.func29, Tryz.ntmps29
      go_upto_region 1 with fail
      generalize w.alloc (.cells (cfgC c A n cq) 25) = W0 at *
      go_wp2
      go_ret
      exact ⟨by rw [HE.out]; rfl, HB0.out⟩
    · have d3 : decide (b < 0) = false := decide_eq_false hb0'
      have d4 : decide (c 2 ≤ b) = true := decide_eq_true (by omega)
      clear hr rt hb0 hr0 kp kc hb ntg hx0 k0 k1 k2 l2 hb0'
      go_enter Tryz.func29, Tryz.ntmps29
      go_upto_region 1 with fail
      generalize w.alloc (.cells (cfgC c A n cq) 25) = W0 at *
      go_wp2
      go_ret
      exact ⟨by rw [HE.out]; rfl, HB0.out⟩
set_option maxRecDepth 20000 in
set_option maxHeartbeats 2000000 in
theorem rtgt_far (h : ab < 0 ∨ 3 ≤ ab) : Calls Tryz.prog 29 #[.agg (cfgC c A n cq), .int .i64 b, .int .i64 ab] w fun e w' => e = .returned (.int .i64 4) ∧ Below w.heap.size w w' := by
  have HB0 := hid (below_alloc w (.cells (cfgC c A n cq) 25))
  rcases h with h | h
  · have d1 : decide (ab < 0) = true := decide_eq_true h
    clear h
    go_enter Tryz.func29, Tryz.ntmps29
    go_upto_region 1 with fail
    generalize w.alloc (.cells (cfgC c A n cq) 25) = w1 at *
    go_wp2
    go_ret
    exact ⟨rfl, HB0.out⟩
  · have d1 : decide (ab < 0) = false := decide_eq_false (by omega)
    have d2 : decide (2 < ab) = true := decide_eq_true (by omega)
    clear h
    go_enter Tryz.func29, Tryz.ntmps29
    go_upto_region 1 with fail
    generalize w.alloc (.cells (cfgC c A n cq) 25) = w1 at *
    go_wp2
    go_ret
    exact ⟨rfl, HB0.out⟩
end
end Go.Proofs.YtmfdlkkligjcbaaGreat
