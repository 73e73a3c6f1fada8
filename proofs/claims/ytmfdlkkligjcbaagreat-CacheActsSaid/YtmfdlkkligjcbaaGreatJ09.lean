/-
  What is proved: slices.symMergeCmpFunc where the left run, or the right one, has one place: it is put in where it belongs. Condition: both runs stand in order, each place of the left one is less than each of the right one.
-/
import Derived.Test.YtmfdlkkligjcbaaGreatJ08
namespace Go.Proofs.YtmfdlkkligjcbaaGreat
open Go.RowKit

/-- what a merge is given: two runs in order, the left one's places ahead of the right one's -/
structure Runs (n : Nat) (L : Nat → Nat → Prop) (d : Nat → Nat) (a m b : Nat) : Prop where
  am : a < m
  mb : m < b
  bn : b ≤ n
  s1 : Sorted L d a m
  s2 : Sorted L d m b
  up : ∀ i j, a ≤ i → i < m → m ≤ j → j < b → d i < d j
  val : ∀ t, a ≤ t → t < b → d t < n

set_option maxRecDepth 1000000 in
set_option maxHeartbeats 4000000 in
theorem symA_ok (w0 : World) (k n c a b : Nat) (cb : Addr) (cf : Nat → Nat → Int) (L : Nat → Nat → Prop) (hO : Ord n cf L) (hcmp : CmpOk w0 k n cb cf) (hn : n ≤ 1000)
    (m0 : Nat) (hm0 : m0 = a + 1) (d : Nat → Nat) (R : Runs n L d a m0 b) (w : World) (h : St w0 k n d w) :
    Calls Tryz.prog 104 #[.slice (some ⟨k, 0, none⟩) n c, .int .i64 a, .int .i64 m0, .int .i64 b, .func (.func 97) #[] #[.pointer (some cb)]] w fun e w' =>
      e = .returned (.tuple #[]) ∧ ∃ d', St w0 k n d' w' ∧ Done L d' d a b := by
  have hmb := R.mb
  have hbn := R.bn
  have q1 : (m0 : Int) - (a : Int) = 1 := by omega
  have HM := hid hm0
  clear hm0
  go_enter Tryz.func104, Tryz.ntmps104
  go_wp2
  go_loopw [10, 11] (fun i j wr => ∃ p q : Nat, i = .int .i64 p ∧ j = .int .i64 q ∧ m0 ≤ p ∧ p ≤ q ∧ q ≤ b ∧ St w0 k n d wr ∧ (∀ t, m0 ≤ t → t < p → L (d t) (d a)) ∧ ∀ t, q ≤ t → t < b → L (d a) (d t)) (fun i j _ => (intOf j).toNat - (intOf i).toNat)
  case atStart => exact ⟨m0, b, rfl, rfl, by omega, by omega, by omega, h, fun t h1 h2 => by omega, fun t h1 h2 => by omega⟩
  case round =>
    obtain ⟨p, q, rfl, rfl, hp, hpq, hq, hs, h1, h2⟩ := hrel
    have ham := R.am
    have H1 := hid h1
    have H2 := hid h2
    have HS := hid hs
    clear h1 h2 h hs
    by_cases hlt : p < q
    · have hlt' : (p : Int) < (q : Int) := by omega
      obtain ⟨m, hm⟩ : ∃ m, (p + q) / 2 = m := ⟨_, rfl⟩
      have g1 : ((p : Int) + (q : Int)) / 2 = (m : Int) := by omega
      have hpm : p ≤ m := by omega
      have hmq : m < q := by omega
      obtain ⟨x, hx⟩ : ∃ x, d m = x := ⟨_, rfl⟩
      obtain ⟨y, hy⟩ : ∃ y, d a = y := ⟨_, rfl⟩
      have hxn : x < n := by rw [← hx]; exact R.val m (by omega) (by omega)
      have hyn : y < n := by rw [← hy]; exact R.val a (by omega) (by omega)
      have hyx : y < x := by rw [← hx, ← hy]; exact R.up a m (by omega) (by omega) (by omega) (by omega)
      have c1 : ∀ s : Since wr, s.at_.cell? ⟨k, m, none⟩ = some (.int .i64 (x : Nat)) := fun s => by have := (HS.out.below s.bel).cell m (by omega); rwa [hx] at this
      have c2 : ∀ s : Since wr, s.at_.cell? ⟨k, a, none⟩ = some (.int .i64 (y : Nat)) := fun s => by have := (HS.out.below s.bel).cell a (by omega); rwa [hy] at this
      have hc : ∀ s : Since wr, w0.grownBy s.at_ (some k) := fun s => (HS.out.below s.bel).grown
      have g2 : (m : Int) < (n : Int) := by omega
      have g3 : (a : Int) < (n : Int) := by omega
      go_wp2_with fail
      refine wp_region_since (by kernel_rfl) (by kernel_rfl) ?_
      repeat (quiet_step (first | (go_at_call 97; refine Calls.since _ (hcmp _ (hc _) x y hxn hyn))))
      refine wpQuiet_nil ?_
      intro _ hw'
      obtain ⟨s, rfl⟩ := hw'
      have HS3 := hid (HS.out.below s.bel)
      clear c1 c2 hc HS
      generalize s.at_ = w3 at HS3 ⊢
      by_cases hcf : cf x y < 0
      · go_wp2
        go_roundw
        case rel =>
          refine ⟨m + 1, q, rfl, rfl, by omega, by omega, hq, HS3.out, fun t t1 t2 => ?_, H2.out⟩
          have e := hO.ahead x y hyx hxn hcf
          rw [← hx, ← hy] at e
          by_cases et : t = m
          · rw [et]; exact e
          · exact hO.trans _ _ _ (R.val _ (by omega) (by omega)) (R.val _ (by omega) (by omega)) (R.val _ (by omega) (by omega)) (R.s2 t m t1 (by omega) (by omega)) e
        case measure => simp [intOf]; omega
      · go_wp2
        go_roundw
        case rel =>
          refine ⟨p, m, rfl, rfl, hp, by omega, by omega, HS3.out, H1.out, fun t t1 t2 => ?_⟩
          have e := hO.behind x y hyx hxn hcf
          rw [← hx, ← hy] at e
          by_cases et : t = m
          · rw [et]; exact e
          · exact hO.trans _ _ _ (R.val _ (by omega) (by omega)) (R.val _ (by omega) (by omega)) (R.val _ (by omega) (by omega)) e (R.s2 m t (by omega) (by omega) (by omega))
        case measure => simp [intOf]; omega
    · have hlt' : ¬ (p : Int) < (q : Int) := by omega
      have : q = p := by omega
      subst this
      go_wp2
      go_loopw [13] (fun j wr => ∃ (r : Nat) (dk : Nat → Nat), j = .int .i64 r ∧ a ≤ r ∧ r ≤ q - 1 ∧ St w0 k n dk wr ∧ ∀ t, dk t = up d a r t) (fun j _ => n - (intOf j).toNat)
      case atStart => exact ⟨a, d, rfl, Nat.le_refl _, by have := HM.out; omega, HS.out, fun t => (up_here d a t).symm⟩
      case round =>
        obtain ⟨r, dk, rfl, hra, hrq, hs2, hu⟩ := hrel
        have HU := hid hu
        have HS2 := hid hs2
        clear hu HS
        have := HM.out
        have h9 : a + 1 ≤ q := by omega
        clear this
        have g5 : (q : Int) - 1 = ((q - 1 : Nat) : Int) := by omega
        by_cases hlt2 : r < q - 1
        · have hlt3 : (r : Int) < ((q - 1 : Nat) : Int) := by omega
          obtain ⟨x, hx⟩ : ∃ x, dk r = x := ⟨_, rfl⟩
          obtain ⟨y, hy⟩ : ∃ y, dk (r + 1) = y := ⟨_, rfl⟩
          have c1 := hs2.cell r (by omega)
          have c2 := hs2.cell (r + 1) (by omega)
          have f1 := hs2.free r (by omega)
          have f2 := hs2.free (r + 1) (by omega)
          rw [hx] at c1
          rw [hy] at c2
          have g1 : (r : Int) + 1 < (n : Int) := by omega
          have g2 : (r : Int) < (n : Int) := by omega
          have g3 : 0 ≤ (r : Int) + 1 := by omega
          have g4 : ((r : Int) + 1).toNat = r + 1 := by omega
          clear hs2
          go_wp2
          go_region
          go_wp2
          go_roundw
          case rel =>
            refine ⟨r + 1, swp dk r (r + 1), rfl, by omega, by omega, ?_, fun t => ?_⟩
            · have := HS2.out.swp (i := r) (j := r + 1) (by omega) (by omega)
              rw [hx, hy] at this
              exact this.drew
            · rw [← up_step d a r hra t]
              unfold swp
              rw [HU.out, HU.out, HU.out]
          case measure => simp [intOf]; omega
        · have hlt3 : ¬ (r : Int) < ((q - 1 : Nat) : Int) := by omega
          clear hs2
          go_wp2
          (try simp only [Exit.inBlock, Exit.then])
          refine bodyPost_ret (results_none rfl _ _ _) rfl ?_
          have RS := R.s2
          have h1 := H1.out
          rw [HM.out] at RS h1
          refine ⟨rfl, dk, HS2.out, up_done hO (i := q) h9 hq R.val RS h1 H2.out fun t => ?_⟩
          rw [HU.out, show q - 1 = r by omega]
end Go.Proofs.YtmfdlkkligjcbaaGreat
namespace Go.Proofs.YtmfdlkkligjcbaaGreat
open Go.RowKit

theorem down_done {n : Nat} {cf : Nat → Nat → Int} {L : Nat → Nat → Prop} {d dk : Nat → Nat} {a b m q : Nat} (hO : Ord n cf L) (hb : b = m + 1) (R : Runs n L d a m b) (hq : a ≤ q) (hqm : q ≤ m)
    (h1 : ∀ t, a ≤ t → t < q → L (d t) (d m)) (h2 : ∀ t, q ≤ t → t < m → L (d m) (d t)) (hk : ∀ t, dk t = ins d q m t) : Done L dk d a b := by
  subst hb
  refine ins_done hO hk h2 ?_ hq hqm (fun t t1 t2 => R.val t t1 (by omega)) R.s1 (fun i i1 i2 => ⟨i, i1, i2, rfl⟩) fun _ _ => rfl
  by_cases c : q = a
  · exact .inl c
  · exact .inr ⟨by omega, h1 _ (by omega) (by omega)⟩

set_option maxRecDepth 1000000 in
set_option maxHeartbeats 4000000 in
theorem symB_ok (w0 : World) (k n c a b : Nat) (cb : Addr) (cf : Nat → Nat → Int) (L : Nat → Nat → Prop) (hO : Ord n cf L) (hcmp : CmpOk w0 k n cb cf) (hn : n ≤ 1000)
    (m0 : Nat) (hm0 : b = m0 + 1) (hma : ¬ m0 = a + 1) (d : Nat → Nat) (R : Runs n L d a m0 b) (w : World) (h : St w0 k n d w) :
    Calls Tryz.prog 104 #[.slice (some ⟨k, 0, none⟩) n c, .int .i64 a, .int .i64 m0, .int .i64 b, .func (.func 97) #[] #[.pointer (some cb)]] w fun e w' =>
      e = .returned (.tuple #[]) ∧ ∃ d', St w0 k n d' w' ∧ Done L d' d a b := by
  have ham := R.am
  have hbn := R.bn
  have q1 : ((m0 : Int) - (a : Int) == 1) = false := by rw [beq_eq_false_iff_ne]; omega
  have q2 : (b : Int) - (m0 : Int) = 1 := by omega
  have HM := hid hm0
  clear hm0 hma
  go_enter Tryz.func104, Tryz.ntmps104
  go_wp2
  go_loopw [14, 15] (fun i j wr => ∃ p q : Nat, i = .int .i64 p ∧ j = .int .i64 q ∧ a ≤ p ∧ p ≤ q ∧ q ≤ m0 ∧ St w0 k n d wr ∧ (∀ t, a ≤ t → t < p → L (d t) (d m0)) ∧ ∀ t, q ≤ t → t < m0 → L (d m0) (d t)) (fun i j _ => (intOf j).toNat - (intOf i).toNat)
  case atStart => exact ⟨a, m0, rfl, rfl, by omega, by omega, by omega, h, fun t h1 h2 => by omega, fun t h1 h2 => by omega⟩
  case round =>
    obtain ⟨p, q, rfl, rfl, hp, hpq, hq, hs, h1, h2⟩ := hrel
    have H1 := hid h1
    have H2 := hid h2
    have HS := hid hs
    have hmb := R.mb
    clear h1 h2 h hs
    by_cases hlt : p < q
    · have hlt' : (p : Int) < (q : Int) := by omega
      obtain ⟨m, hm⟩ : ∃ m, (p + q) / 2 = m := ⟨_, rfl⟩
      have g1 : ((p : Int) + (q : Int)) / 2 = (m : Int) := by omega
      have hpm : p ≤ m := by omega
      have hmq : m < q := by omega
      obtain ⟨x, hx⟩ : ∃ x, d m0 = x := ⟨_, rfl⟩
      obtain ⟨y, hy⟩ : ∃ y, d m = y := ⟨_, rfl⟩
      have hxn : x < n := by rw [← hx]; exact R.val m0 (by omega) (by omega)
      have hyn : y < n := by rw [← hy]; exact R.val m (by omega) (by omega)
      have hyx : y < x := by rw [← hx, ← hy]; exact R.up m m0 (by omega) (by omega) (by omega) (by omega)
      have c1 : ∀ s : Since wr, s.at_.cell? ⟨k, m0, none⟩ = some (.int .i64 (x : Nat)) := fun s => by have := (HS.out.below s.bel).cell m0 (by omega); rwa [hx] at this
      have c2 : ∀ s : Since wr, s.at_.cell? ⟨k, m, none⟩ = some (.int .i64 (y : Nat)) := fun s => by have := (HS.out.below s.bel).cell m (by omega); rwa [hy] at this
      have hc : ∀ s : Since wr, w0.grownBy s.at_ (some k) := fun s => (HS.out.below s.bel).grown
      have g2 : (m : Int) < (n : Int) := by omega
      have g3 : (m0 : Int) < (n : Int) := by omega
      go_wp2_with fail
      refine wp_region_since (by kernel_rfl) (by kernel_rfl) ?_
      repeat (quiet_step (first | (go_at_call 97; refine Calls.since _ (hcmp _ (hc _) x y hxn hyn))))
      refine wpQuiet_nil ?_
      intro _ hw'
      obtain ⟨s, rfl⟩ := hw'
      have HS3 := hid (HS.out.below s.bel)
      clear c1 c2 hc HS
      generalize s.at_ = w3 at HS3 ⊢
      by_cases hcf : cf x y < 0
      · have hcg : (!decide (cf x y < 0)) = false := by rw [decide_eq_true hcf]; rfl
        rw [hcg]
        go_wp2
        go_roundw
        case rel =>
          refine ⟨p, m, rfl, rfl, hp, by omega, by omega, HS3.out, H1.out, fun t t1 t2 => ?_⟩
          have e := hO.ahead x y hyx hxn hcf
          rw [← hx, ← hy] at e
          by_cases et : t = m
          · rw [et]; exact e
          · exact hO.trans _ _ _ (R.val _ (by omega) (by omega)) (R.val _ (by omega) (by omega)) (R.val _ (by omega) (by omega)) e (R.s1 m t (by omega) (by omega) (by omega))
        case measure => simp [intOf]; omega
      · have hcg : (!decide (cf x y < 0)) = true := by rw [decide_eq_false hcf]; rfl
        rw [hcg]
        go_wp2
        go_roundw
        case rel =>
          refine ⟨m + 1, q, rfl, rfl, by omega, by omega, hq, HS3.out, fun t t1 t2 => ?_, H2.out⟩
          have e := hO.behind x y hyx hxn hcf
          rw [← hx, ← hy] at e
          by_cases et : t = m
          · rw [et]; exact e
          · exact hO.trans _ _ _ (R.val _ (by omega) (by omega)) (R.val _ (by omega) (by omega)) (R.val _ (by omega) (by omega)) (R.s1 t m t1 (by omega) (by omega)) e
        case measure => simp [intOf]; omega
    · have hlt' : ¬ (p : Int) < (q : Int) := by omega
      have : q = p := by omega
      subst this
      go_wp2
      go_loopw [17] (fun j wr => ∃ (r : Nat) (dk : Nat → Nat), j = .int .i64 r ∧ q ≤ r ∧ r ≤ m0 ∧ St w0 k n dk wr ∧ ∀ t, dk t = ins d r m0 t) (fun j _ => (intOf j).toNat)
      case atStart => exact ⟨m0, d, rfl, hq, Nat.le_refl _, HS.out, fun t => (ins_here d m0 t).symm⟩
      case round =>
        obtain ⟨r, dk, rfl, hra, hrq, hs2, hu⟩ := hrel
        have HU := hid hu
        have HS2 := hid hs2
        clear hu HS
        by_cases hlt2 : q < r
        · obtain ⟨r, rfl⟩ : ∃ r', r = r' + 1 := ⟨r - 1, by omega⟩
          have hlt3 : (q : Int) < (r : Int) + 1 := by omega
          obtain ⟨x, hx⟩ : ∃ x, dk (r + 1) = x := ⟨_, rfl⟩
          obtain ⟨y, hy⟩ : ∃ y, dk r = y := ⟨_, rfl⟩
          have c1 := hs2.cell r (by omega)
          have c2 := hs2.cell (r + 1) (by omega)
          have f1 := hs2.free r (by omega)
          have f2 := hs2.free (r + 1) (by omega)
          rw [hy] at c1
          rw [hx] at c2
          have g1 : (r : Int) + 1 < (n : Int) := by omega
          have g2 : (r : Int) < (n : Int) := by omega
          have g3 : 0 ≤ (r : Int) + 1 := by omega
          have g4 : ((r : Int) + 1).toNat = r + 1 := by omega
          have g5 : IntKind.i64.wrap (r : Int) = (r : Int) := by rw [IntKind.wrap_i64]; omega
          clear hs2
          go_wp2
          go_region
          go_wp2
          go_roundw
          case rel =>
            refine ⟨r, swp dk (r + 1) r, rfl, by omega, by omega, ?_, fun t => ?_⟩
            · have := HS2.out.swp (i := r + 1) (j := r) (by omega) (by omega)
              rw [hx, hy] at this
              exact this.drew
            · rw [← ins_down d r m0 (by omega) t]
              unfold swp
              rw [HU.out, HU.out, HU.out]
          case measure => simp [intOf]
        · have hlt3 : ¬ (q : Int) < (r : Int) := by omega
          clear hs2
          go_wp2
          (try simp only [Exit.inBlock, Exit.then])
          refine bodyPost_ret (results_none rfl _ _ _) rfl ?_
          have e : r = q := by omega
          refine ⟨rfl, dk, HS2.out, down_done hO HM.out R hp hq H1.out H2.out fun t => ?_⟩
          rw [HU.out, e]
end Go.Proofs.YtmfdlkkligjcbaaGreat
