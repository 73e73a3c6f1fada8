/-
  What is proved: the example of layer 16 holds; a cache that is not there tells so (CacheNil). No condition.
-/
import Derived.Test.YtmfdlkkligjcbaaGreatJ43
import Derived.Test.YtmfdlkkligjcbaaGreatJ44
import Derived.Test.YtmfdlkkligjcbaaGreatRows
import Derived.Test.YtmfdlkkligjcbaaGreatJ03
import Derived.Deep.Slices
import Derived.Deep.Fields
import Derived.ChangeSame
import Derived.OpenShut
namespace Go.Proofs.YtmfdlkkligjcbaaGreat
open Go.RowKit

section
variable {w w' : World} {X F Q : Nat → Prop} {G M n cp T B k1 c1 : Nat} {c : Nat → Int} {A A1 : Option Addr} {hh : Nat → Hn} {v : Value} {o : Ob} {D : Int → List Int} {b : Int}
/-- what comes of Put, refused or not -/
def PutA (w : World) (X F : Nat → Prop) (G M n cp T B : Nat) (c : Nat → Int) (A : Option Addr) (hh : Nat → Hn) (v : Value) (o : Ob) (D : Int → List Int) (b lv : Int) (k1 : Nat) (l : List Int) (e : Ending) (w' : World) : Prop :=
  (putR c T o b lv k1 ≠ 0 ∧ e = .returned (.tuple #[.agg #[.int .i64 0, .slice none 0 0], .bool false, .int .i64 (putR c T o b lv k1)]) ∧ Below w.heap.size w w') ∨
  (putR c T o b lv k1 = 0 ∧ (0 ≤ b ∧ b < c 2) ∧ o.tk b ∧ PutQ w X F G M n cp T B c A hh v o D b l e w')
theorem cm_put (h : Cm w X G M F c A n cp hh T v o D B) (hB : B ≤ 10000000) {l : List Int} (hd : By w X (.slice A1 k1 c1) l) (lv : Int) :
    Calls Tryz.prog 23 #[.pointer (some ⟨G, 0, none⟩), .agg #[.int .i64 b, .slice A1 k1 c1], .int .i64 lv] w (PutA w X F G M n cp T B c A hh v o D b lv k1 l) := by
  by_cases hb : 0 ≤ b ∧ b < c 2
  · by_cases hk : (k1 : Int) = c 3
    · cases ht : o.takes (c 5) T b lv with
      | false =>
        have e5 : putR c T o b lv k1 = 5 := by unfold putR; rw [if_neg (fun h => h hb), if_neg (fun h => h hk), if_pos ht]
        exact (cp_no5 h A1 k1 c1 lv hb hk ht).mono fun e w' ⟨h1, h2⟩ => .inl ⟨by rw [e5]; decide, by rw [e5]; exact h1, h2⟩
      | true =>
        have e0 : putR c T o b lv k1 = 0 := by unfold putR; rw [if_neg (fun h => h hb), if_neg (fun h => h hk), if_neg (by rw [ht]; decide)]
        have key : Calls Tryz.prog 23 #[.pointer (some ⟨G, 0, none⟩), .agg #[.int .i64 b, .slice A1 k1 c1], .int .i64 lv] w (PutQ w X F G M n cp T B c A hh v o D b l) := by
          cases o with
          | lru C Ls =>
            cases hg : (Ob.lru C Ls).gn b with
            | true => exact cp_true_oml h hB hd lv hb hk ht hg
            | false => exact cp_false_oml h hB hd lv hb hk ht hg
          | mq C N L H m =>
            cases hg : (Ob.mq C N L H m).gn b with
            | true => exact cp_true_omm h hB hd lv hb hk ht hg
            | false => exact cp_false_omm h hB hd lv hb hk ht hg
          | prt rg pt lp n2 S =>
            cases hg : (Ob.prt rg pt lp n2 S).gn b with
            | true => exact cp_true_omp h hB hd lv hb hk ht hg
            | false => exact cp_false_omp h hB hd lv hb hk ht hg
        exact key.mono fun e w' h1 => .inr ⟨e0, hb, Ob.tk_of h hb ht, h1⟩
    · have e10 : putR c T o b lv k1 = 10 := by unfold putR; rw [if_neg (fun h => h hb), if_pos hk]
      exact (cp_no10 h A1 k1 c1 lv hb hk).mono fun e w' ⟨h1, h2⟩ => .inl ⟨by rw [e10]; decide, by rw [e10]; exact h1, h2⟩
  · have e9 : putR c T o b lv k1 = 9 := by unfold putR; rw [if_pos hb]
    exact (cp_no9 h A1 k1 c1 lv hb).mono fun e w' ⟨h1, h2⟩ => .inl ⟨by rw [e9]; decide, by rw [e9]; exact h1, h2⟩
end
-- a cache that is not there
section
variable (w : World)
end
/-- frames that are alike -/
theorem same_frame {w : World} {X Y : Nat → Prop} {u v : Value} {l : List Int} (x : Int) (hu : By w X u l) (hv : By w Y v l) :
    Calls Tryz.prog 31 #[.agg #[.int .i64 x, u], .agg #[.int .i64 x, v]] w fun e w' => e = .returned (.bool true) ∧ Below w.heap.size w w' := by
  obtain ⟨A1, c1, rfl, -⟩ := id hu
  obtain ⟨A2, c2, rfl, -⟩ := id hv
  have hb1 := below_alloc w (.cells #[.int .i64 x, .slice A1 l.length c1] 38)
  have hb2 := below_alloc (w.alloc (.cells #[.int .i64 x, .slice A1 l.length c1] 38)) (.cells #[.int .i64 x, .slice A2 l.length c2] 38)
  have HB := hid (on hb1 hb2)
  have HS := hid (same_by ((hu.below hb1).below hb2) ((hv.below hb1).below hb2))
  clear hb1 hb2 hu hv
  go_enter Tryz.func31, Tryz.ntmps31
  go_wp2_with (go_at_call 25; refine HS.out.mono ?_; rintro e w2 ⟨rfl, k, rfl⟩)
  go_ret
  exact ⟨rfl, below_draws HB.out _⟩
end Go.Proofs.YtmfdlkkligjcbaaGreat
namespace Go.Proofs.YtmfdlkkligjcbaaGreat
open Go.RowKit

/-- the example's configuration -/
def exC (i : Nat) : Int := [1, 1, 4, 1, 2, 0, 1, 1, 1, 1, 1, 1, 1, 1, 0, 1].getD i 0
abbrev noH (_ : Nat) : Hn := ⟨0, 0, 0, false⟩
theorem exC_right : RightP exC noH 0 := by
  refine ⟨fun i h => ?_, .inl rfl, .inr rfl, by omega, fun i h => absurd h (Nat.not_lt_zero i), fun i h => absurd h (Nat.not_lt_zero i)⟩
  match i, h with
  | 0, _ | 1, _ | 2, _ | 3, _ | 4, _ | 5, _ | 6, _ | 7, _ | 8, _ | 9, _ | 10, _ | 11, _ | 12, _ | 13, _ | 14, _ | 15, _ => simp [lo, hi, exC]
  | n + 16, h => omega
set_option maxRecDepth 20000 in
theorem least16 (w : World) : Calls Tryz.prog 30 #[] w fun e w' => e = .returned (.agg (cfgC exC none 0 0)) ∧ Below w.heap.size w w' := by
  go_enter Tryz.func30, Tryz.ntmps30
  go_wp2_with (refine wpList_store_new rfl _ _ _ rfl rfl _ (cfgC exC none 0 0) rfl rfl (by kernel_rfl) rfl (by simp [cfgC, Value.oneCell']) ?_)
  refine bodyPost_ret (results_new' rfl _ _ rfl _ _ Tryz.underlying25 rfl (by kernel_rfl)) rfl ?_
  exact ⟨rfl, below_alloc w _⟩
theorem ex_new : Ob.new exC noH 0 1 = .lru 1 [] := Ob.new_lru (T := 1) (by decide) (by decide)
theorem ex_put0 : putR exC (1 : Nat) (.lru 1 []) 0 0 1 = 0 := by decide
theorem ex_put1 : putR exC (1 : Nat) (.lru 1 [0]) 1 0 1 = 0 := by decide
theorem ex_add0 : (Ob.lru 1 []).add 0 = .lru 1 [0] := congrArg (Ob.lru 1) (by decide)
theorem ex_gn1 : (Ob.lru 1 [0]).gn 1 = true := by decide
theorem ex_vi1 : (Ob.lru 1 [0]).vi 1 = 0 := by decide
theorem by_one (w : World) (X : Nat → Prop) (hX : ∀ j, X j → j < w.heap.size) (x : Int) : By (w.alloc (.cells #[.int .u8 x] 5)) X (.slice (some ⟨w.heap.size, 0, none⟩) 1 1) [x] := by
  have hr := rv_new w 5 #[.int .u8 x]
  have hs : (w.alloc (.cells #[.int .u8 x] 5)).heap.size = w.heap.size + 1 := World.size_alloc w _
  refine ⟨_, 1, rfl, by rw [hs]; exact hr, Nat.le_refl _, by unfold maxLen; omega, fun ad e _ => ?_⟩
  injection e with e
  subst e
  exact ⟨by rw [hs]; exact Nat.lt_succ_self _, fun h => Nat.lt_irrefl _ (hX _ h)⟩
set_option maxRecDepth 20000 in
set_option maxHeartbeats 2000000 in
theorem wakes16 (w : World) : Calls Tryz.prog 8 #[] w fun e w' => e = .returned (.bool true) ∧ Below w.heap.size w w' := by
  have HN := hid (fun w => cm_new_yes (c := exC) (A := none) (n := 0) (cp := 0) (hh := noH) (w := w) exC_right (Rv.nil _ _ _) (fun _ => rfl) (T := 1) (by omega) (by omega))
  go_enter Tryz.func8, Tryz.ntmps8
  go_upto_region 4 with (first
    | (go_at_call 30; refine (least16 _).mono ?_; rintro e w1 ⟨rfl, hb⟩; have HB1 := hid hb; clear hb)
    | (go_at_call 10; refine (HN.out _).mono ?_; rintro e w2 ⟨G, M, A, cp, v, F, rfl, hb, ho, hc⟩; have HB2 := hid (on HB1.out hb); have HC := hid (hc (fun _ => False) (fun _ => []) (fun _ h => h.elim)); have HO := hid (fun j h => Nat.le_trans HB1.out.size (ho j h).1); clear hb ho hc))
  rw [ex_new] at HC
  generalize (fun j => False ∨ Own16 F G M j) = X at HC
  have HY1 := hid (by_one w2 X HC.out.lt 7)
  have HPU := hid (cm_put (b := 0) (HC.out.below (below_alloc w2 (.cells #[.int .u8 7] 5))) (by omega) HY1.out 0)
  have HBa := hid (on HB2.out (below_alloc w2 (.cells #[.int .u8 7] 5)))
  go_upto_region 5 with (go_at_call 23; refine HPU.out.mono ?_; rintro e w3 (⟨h1, -⟩ | ⟨-, -, -, x, u, rfl, hc, hch, -, -⟩); exact absurd ex_put0 h1; have HC3 := hid hc; have HCH := hid hch; clear hc hch)
  have HB3 := hid (show Below w.heap.size w w3 from HBa.out.trans (HCH.out.bel HBa.out.size fun j hj => hj.elim (fun h => HO.out j (.inl h)) fun h => HO.out j (.inr (.inr h))))
  rw [ex_add0] at HC3
  have HY2 := hid (by_one w3 X HC3.out.lt 8)
  have HPV := hid ((cm_put (b := 1) (HC3.out.below (below_alloc w3 (.cells #[.int .u8 8] 5))) (by omega) HY2.out 0).mono (R' := fun e w' => ∃ A5 k5 c5, e = .returned (.tuple #[.agg #[.int .i64 0, .slice A5 k5 c5], .bool true, .int .i64 0]) ∧ By w' X (.slice A5 k5 c5) [7] ∧ (∀ j, X j → j < w'.heap.size) ∧ Chg _ w' (fun j => F j ∨ j = M) (fun j => F j ∨ j = M)) fun e w' h => by
    rcases h with ⟨h1, -⟩ | ⟨-, -, -, x2, u2, he, hc, hch, hg, -⟩
    · exact absurd ex_put1 h1
    · obtain ⟨h1, h2⟩ := hg ex_gn1
      rw [ex_vi1] at h1 h2
      subst h1
      obtain ⟨A5, c5, rfl, h3⟩ := id h2
      exact ⟨A5, _, c5, by rw [he, ex_gn1], h2, hc.lt, hch⟩)
  have HBb := hid (on HB3.out (below_alloc w3 (.cells #[.int .u8 8] 5)))
  go_upto_region 6 with (go_at_call 23; refine HPV.out.mono ?_; rintro e w4 ⟨A5, k5, c5, rfl, hby, hlt, hch⟩; have HY4 := hid hby; have HL4 := hid hlt; have HCH4 := hid hch; clear hby hlt hch)
  have HB4 := hid (show Below w.heap.size w w4 from HBb.out.trans (HCH4.out.bel HBb.out.size fun j hj => hj.elim (fun h => HO.out j (.inl h)) fun h => HO.out j (.inr (.inr h))))
  have hb5 := below_alloc w4 (.cells #[.int .i64 0, .slice A5 k5 c5] 38)
  have hb6 := below_alloc (w4.alloc (.cells #[.int .i64 0, .slice A5 k5 c5] 38)) (.cells #[.int .u8 7] 5)
  have HB6 := hid (on (on HB4.out hb5) hb6)
  have HSF := hid (same_frame 0 ((HY4.out.below hb5).below hb6) (by_one (w4.alloc (.cells #[.int .i64 0, .slice A5 k5 c5] 38)) X (fun j hj => Nat.lt_of_lt_of_le (HL4.out j hj) hb5.size) 7))
  rw [show (w4.alloc (.cells #[.int .i64 0, .slice A5 k5 c5] 38)).heap.size = w4.heap.size + 1 from World.size_alloc _ _] at HSF
  clear hb5 hb6
  go_wp2_with (go_at_call 31; with_reducible refine HSF.out.mono ?_; rintro e w7 ⟨rfl, hb⟩; have HB7 := hid (on HB6.out hb); clear hb)
  go_ret
  exact ⟨rfl, HB7.out⟩
end Go.Proofs.YtmfdlkkligjcbaaGreat
namespace Go.Proofs.YtmfdlkkligjcbaaGreat
open Go.RowKit Go.ChangeShapes Go.WideShapes Go.Deep

section
variable {H : Type} {enc : TypeId × Value → H} {w : World} {base : Nat} {spare : Nat → Bool} {held : Bool}
theorem int_at {P : Program} {t : TypeId} {k : IntKind} {m off : Nat} {cs : List Value} {y : Option (DataW H × List MemPlace)} (hk : P.underlying t = some (.int k)) (hy : y.isSome = true)
    (h : DataW.trod enc P w base spare held m t ((cs.drop off).take 1) = y) : ∃ a, cs[off]? = some (.int k a) ∧ (Lit.int k a).wf = true := by
  obtain ⟨y, rfl⟩ := Option.isSome_iff_exists.1 hy
  obtain ⟨a, e, _, hw⟩ := DataW.trod_int hk h
  refine ⟨a, ?_, hw⟩
  have := congrArg (·[0]?) e
  simpa using this
theorem bool_at {P : Program} {t : TypeId} {m off : Nat} {cs : List Value} {y : Option (DataW H × List MemPlace)} (hk : P.underlying t = some .bool) (hy : y.isSome = true)
    (h : DataW.trod enc P w base spare held m t ((cs.drop off).take 1) = y) : ∃ a, cs[off]? = some (.bool a) := by
  obtain ⟨y, rfl⟩ := Option.isSome_iff_exists.1 hy
  obtain ⟨a, e, _⟩ := DataW.trod_bool hk h
  refine ⟨a, ?_⟩
  have := congrArg (·[0]?) e
  simpa using this
end
end Go.Proofs.YtmfdlkkligjcbaaGreat
