/-
  What is proved: slices.symMergeCmpFunc merges two neighbouring runs that stand in order, where they lie. Condition: each place of the left run is less than each of the right one; the comparison answers one function of two places.
-/
import Derived.Test.YtbcejfonkehjgaaGreatDoorK07
namespace Go.Proofs.YtbcejfonkehjgaaGreatDoor
open Go.RowKit

theorem runs_left {n : Nat} {L : Nat → Nat → Prop} {d d2 : Nat → Nat} {a s mid e b : Nat} (M : Mid L d d2 a s mid e b) (hv : ∀ t, a ≤ t → t < b → d t < n) (h1 : a < s) (h2 : s < mid) (h3 : mid ≤ b) (hb : b ≤ n) : Runs n L d2 a s mid :=
  ⟨h1, h2, by omega, M.s1, M.s2, M.up1, fun t t1 t2 => by obtain ⟨j, j1, j2, ej⟩ := M.src t t1 (by omega); rw [ej]; exact hv j j1 j2⟩
theorem runs_right {n : Nat} {L : Nat → Nat → Prop} {d d2 d3 : Nat → Nat} {a s mid e b : Nat} (M : Mid L d d2 a s mid e b) (D : Done L d3 d2 a mid) (hv : ∀ t, a ≤ t → t < b → d t < n) (h1 : mid < e) (h2 : e < b) (ha : a ≤ mid) (hb : b ≤ n) : Runs n L d3 mid e b :=
  ⟨h1, h2, hb, fun i j g1 g2 g3 => by rw [D.2.2 i (by omega), D.2.2 j (by omega)]; exact M.s3 i j g1 g2 g3, fun i j g1 g2 g3 => by rw [D.2.2 i (by omega), D.2.2 j (by omega)]; exact M.s4 i j g1 g2 g3,
    fun i j g1 g2 g3 g4 => by rw [D.2.2 i (by omega), D.2.2 j (by omega)]; exact M.up2 i j g1 g2 g3 g4, fun t t1 t2 => by
      rw [D.2.2 t (by omega)]
      obtain ⟨j, j1, j2, ej⟩ := M.src t (by omega) t2
      rw [ej]; exact hv j j1 j2⟩

def SymOk (w0 : World) (k n c : Nat) (cb : Addr) (L : Nat → Nat → Prop) (N : Nat) : Prop :=
  ∀ (a m b : Nat) (d : Nat → Nat) (w : World), b - a < N → Runs n L d a m b → SoSt w0 k n d w →
    Calls Tryz.prog 173 #[.slice (some ⟨k, 0, none⟩) n c, .int .i64 a, .int .i64 m, .int .i64 b, .func (.func 166) #[] #[.pointer (some cb)]] w fun e w' =>
      e = .returned (.tuple #[]) ∧ ∃ d', SoSt w0 k n d' w' ∧ Done L d' d a b

set_option maxRecDepth 1000000 in
set_option maxHeartbeats 8000000 in
theorem symC_gt (w0 : World) (k n c a b : Nat) (cb : Addr) (cf : Nat → Nat → Int) (L : Nat → Nat → Prop) (hO : Ord n cf L) (hcmp : CmpOk w0 k n cb cf) (hn : n ≤ 1000)
    (m0 mid : Nat) (hb1 : ¬ b = m0 + 1) (hma : ¬ m0 = a + 1) (hmid0 : (a + b) / 2 = mid) (hgt0 : m0 > mid) (d : Nat → Nat) (R : Runs n L d a m0 b) (ih : SymOk w0 k n c cb L (b - a)) (w : World) (h : SoSt w0 k n d w) :
    Calls Tryz.prog 173 #[.slice (some ⟨k, 0, none⟩) n c, .int .i64 a, .int .i64 m0, .int .i64 b, .func (.func 166) #[] #[.pointer (some cb)]] w fun e w' =>
      e = .returned (.tuple #[]) ∧ ∃ d', SoSt w0 k n d' w' ∧ Done L d' d a b := by
  have ham := R.am
  have _ := hb1
  have _ := hma
  have hmb := R.mb
  have hbn := R.bn
  have q1 : ((m0 : Int) - (a : Int) == 1) = false := by rw [beq_eq_false_iff_ne]; omega
  have q2 : ((b : Int) - (m0 : Int) == 1) = false := by rw [beq_eq_false_iff_ne]; omega
  have q3 : ((a : Int) + (b : Int)) / 2 = (mid : Int) := by omega
  obtain ⟨p0, hp0⟩ : ∃ p, mid + m0 = p + 1 := ⟨mid + m0 - 1, by omega⟩
  have q4 : (mid : Int) + (m0 : Int) - 1 = (p0 : Int) := by omega
  have t0 : (m0 : Int) > (mid : Int) := by omega
  obtain ⟨s0, hse⟩ : ∃ s0, mid + m0 = s0 + b := ⟨mid + m0 - b, by omega⟩
  have q5 : (mid : Int) + (m0 : Int) - (b : Int) = (s0 : Int) := by omega
  obtain ⟨r0, hre⟩ : ∃ r0, r0 = mid := ⟨_, rfl⟩
  have hdm : mid ≤ b := by omega
  have ham2 : a ≤ mid := by omega
  have pb : p0 < 3000 := by omega
  have f1 : a ≤ s0 := by omega
  have f2 : s0 ≤ r0 := by omega
  have f3 : r0 ≤ m0 := by omega
  have f4 : r0 ≤ mid := by omega
  have f5 : mid + m0 ≤ b + s0 := by omega
  have f6 : s0 = a ∨ mid + m0 = b + s0 := by omega
  have f7 : r0 = m0 ∨ r0 = mid := by omega
  have hab2 : a + 2 ≤ b := by omega
  have hm1 : a < mid := by omega
  have hm2 : mid < b := by omega
  have F6 := hid f6
  have F7 := hid f7
  have HP := hid hp0
  have HE := hid hse
  have HR := hid hre
  clear hre
  clear f6 f7 hma hb1 hmid0 hp0 hse
  go_enter Tryz.func173, Tryz.ntmps173
  go_wp2
  go_loopw [20, 21] (fun i j wr => ∃ p q : Nat, i = .int .i64 p ∧ j = .int .i64 q ∧ s0 ≤ p ∧ p ≤ q ∧ q ≤ r0 ∧ SoSt w0 k n d wr ∧ (∀ t, s0 ≤ t → t < p → L (d t) (d (p0 - t))) ∧ ∀ t, q ≤ t → t < r0 → L (d (p0 - t)) (d t)) (fun i j _ => (intOf j).toNat - (intOf i).toNat)
  case atStart => exact ⟨s0, r0, rfl, by rw [HR.out], Nat.le_refl _, f2, Nat.le_refl _, h, fun t h1 h2 => by omega, fun t h1 h2 => by omega⟩
  case round =>
    obtain ⟨p, q, rfl, rfl, hp, hpq, hq, hs, h1, h2⟩ := hrel
    have H1 := hid h1
    have H2 := hid h2
    have HS := hid hs
    clear h1 h2 h hs
    by_cases hlt : p < q
    · have hlt' : (p : Int) < (q : Int) := by omega
      have hp0 := HP.out
      obtain ⟨m, hm⟩ : ∃ m, (p + q) / 2 = m := ⟨_, rfl⟩
      have g1 : ((p : Int) + (q : Int)) / 2 = (m : Int) := by omega
      have hpm : p ≤ m := by omega
      have hmq : m < q := by omega
      obtain ⟨u, hu⟩ : ∃ u, p0 = u + m := ⟨p0 - m, by omega⟩
      have g4 : (p0 : Int) - (m : Int) = (u : Int) := by omega
      have hu1 : m0 ≤ u := by omega
      have hu2 : u < b := by omega
      have HU := hid hu
      clear hm hu hp0
      obtain ⟨x, hx⟩ : ∃ x, d u = x := ⟨_, rfl⟩
      obtain ⟨y, hy⟩ : ∃ y, d m = y := ⟨_, rfl⟩
      have hxn : x < n := by rw [← hx]; exact R.val u (by omega) (by omega)
      have hyn : y < n := by rw [← hy]; exact R.val m (by omega) (by omega)
      have hyx : y < x := by rw [← hx, ← hy]; exact R.up m u (by omega) (by omega) (by omega) (by omega)
      have c1 : ∀ s : Since wr, s.at_.cell? ⟨k, u, none⟩ = some (.int .i64 (x : Nat)) := fun s => by have := (HS.out.below s.bel).cell u (by omega); rwa [hx] at this
      have c2 : ∀ s : Since wr, s.at_.cell? ⟨k, m, none⟩ = some (.int .i64 (y : Nat)) := fun s => by have := (HS.out.below s.bel).cell m (by omega); rwa [hy] at this
      have hc : ∀ s : Since wr, w0.grownBy s.at_ (some k) := fun s => (HS.out.below s.bel).grown
      have g2 : (m : Int) < (n : Int) := by omega
      have g3 : (u : Int) < (n : Int) := by omega
      have g5 : IntKind.i64.wrap (u : Int) = (u : Int) := by rw [IntKind.wrap_i64]; omega
      go_wp2_with fail
      refine wp_region_since (by kernel_rfl) (by kernel_rfl) ?_
      repeat (quiet_step (first | (go_at_call 166; refine Calls.since _ (hcmp _ (hc _) x y hxn hyn))))
      refine wpQuiet_nil ?_
      intro _ hw'
      obtain ⟨s, rfl⟩ := hw'
      have HS3 := hid (HS.out.below s.bel)
      clear c1 c2 hc HS
      generalize s.at_ = w3 at HS3 ⊢
      by_cases hcf : cf x y < 0
      · have hcg : (!decide (cf x y < 0)) = false := by rw [decide_eq_true hcf]; rfl
        rw [hcg]
        go_wp2
        go_roundw
        case rel =>
          refine ⟨p, m, rfl, rfl, hp, by omega, by omega, HS3.out, H1.out, fun t t1 t2 => ?_⟩
          have e := hO.ahead x y hyx hxn hcf
          have hu := HU.out
          have hp0 := HP.out
          rw [← hx, ← hy] at e
          by_cases et : t = m
          · rw [et, show p0 - m = u by omega]; exact e
          · exact hO.trans _ _ _ (R.val _ (by omega) (by omega)) (R.val u (by omega) (by omega)) (R.val _ (by omega) (by omega)) (R.s2 _ _ (by omega) (by omega) (by omega))
              (hO.trans _ _ _ (R.val _ (by omega) (by omega)) (R.val _ (by omega) (by omega)) (R.val _ (by omega) (by omega)) e (R.s1 m t (by omega) (by omega) (by omega)))
        case measure => simp [intOf]; omega
      · have hcg : (!decide (cf x y < 0)) = true := by rw [decide_eq_false hcf]; rfl
        rw [hcg]
        go_wp2
        go_roundw
        case rel =>
          refine ⟨m + 1, q, rfl, rfl, by omega, by omega, hq, HS3.out, fun t t1 t2 => ?_, H2.out⟩
          have e := hO.behind x y hyx hxn hcf
          have hu := HU.out
          have hp0 := HP.out
          rw [← hx, ← hy] at e
          by_cases et : t = m
          · rw [et, show p0 - m = u by omega]; exact e
          · exact hO.trans _ _ _ (R.val _ (by omega) (by omega)) (R.val m (by omega) (by omega)) (R.val _ (by omega) (by omega)) (R.s1 t m (by omega) (by omega) (by omega))
              (hO.trans _ _ _ (R.val _ (by omega) (by omega)) (R.val _ (by omega) (by omega)) (R.val _ (by omega) (by omega)) e (R.s2 u _ (by omega) (by omega) (by omega)))
        case measure => simp [intOf]; omega
    · have hlt' : ¬ (p : Int) < (q : Int) := by omega
      have : q = p := by omega
      subst this
      obtain ⟨e, he⟩ : ∃ e, e = mid + m0 - q := ⟨_, rfl⟩
      have g1 : (mid : Int) + (m0 : Int) - (q : Int) = (e : Int) := by omega
      have hme : m0 ≤ e := by omega
      have hde : mid ≤ e := by omega
      have heb : e ≤ b := by omega
      have hqm : q ≤ m0 := by omega
      have hqd : q ≤ mid := by omega
      have haq : a ≤ q := by omega
      have x1 : m0 < e ↔ q < mid := by omega
      have x2 : mid < e ↔ q < m0 := by omega
      have lo := H1.out
      have hi := H2.out
      rw [show p0 = mid + m0 - 1 by have := HP.out; omega] at lo hi
      have MM := hid (mid_of hO ham hmb f1 hp hq f3 f4 hdm f5 F6.out F7.out he R.val R.s1 R.s2 R.up lo hi)
      have SM := hid (fun g : q = m0 ∨ m0 = e => rot_same (d := d) hqm hme g)
      have IH := hid ih
      clear lo hi he ih F6 F7 H1 H2
      by_cases r1 : q < m0
      · have t1 : (q : Int) < (m0 : Int) := by omega
        by_cases r2 : m0 < e
        · have t2 : (m0 : Int) < (e : Int) := by omega
          go_wp2_with fail
          refine (rotate_ok w0 k n c q m0 e _ hn r1 r2 (by omega) d wr HS.out).mono ?_
          rintro e2 w2 ⟨rfl, SW⟩
          replace SW := hid SW
          clear SM HS
          generalize rotF d q m0 e = d2 at MM SW
          by_cases r3 : a < q
          · have z1 : (a : Int) < (q : Int) := by omega
            have r5 : q < mid := by omega
            have z2 : (q : Int) < (mid : Int) := by omega
            go_wp2_with fail
            refine (IH.out a q mid d2 _ (by omega) (runs_left MM.out R.val r3 r5 hdm hbn) SW.out).mono ?_
            rintro e3 w3 ⟨rfl, d3, S3, D⟩
            replace S3 := hid S3
            replace D := hid D
            have y1 : (mid : Int) < (e : Int) := by omega
            by_cases r4 : e < b
            · have y2 : (e : Int) < (b : Int) := by omega
              go_wp2_with fail
              refine (IH.out mid e b d3 _ (by omega) (runs_right MM.out D.out R.val (by omega) r4 ham2 hbn) S3.out).mono ?_
              rintro e4 w4 ⟨rfl, d4, S4, D4⟩
              go_wp2
              go_end0
              exact ⟨rfl, d4, S4, sym_done MM.out D.out D4 ham2 hdm⟩
            · have y2 : ¬ (e : Int) < (b : Int) := by omega
              go_wp2
              go_end0
              exact ⟨rfl, d3, S3.out, sym_done MM.out D.out (right_done MM.out D.out hde heb (by omega)) ham2 hdm⟩
          · have z1 : ¬ (a : Int) < (q : Int) := by omega
            obtain ⟨d3, D, S3⟩ : ∃ d3, Hid (Done L d3 d2 a mid) ∧ Hid (SoSt w0 k n d3 _) := ⟨d2, left_done MM.out haq hqd (by omega), SW⟩
            have y1 : (mid : Int) < (e : Int) := by omega
            by_cases r4 : e < b
            · have y2 : (e : Int) < (b : Int) := by omega
              go_wp2_with fail
              refine (IH.out mid e b d3 _ (by omega) (runs_right MM.out D.out R.val (by omega) r4 ham2 hbn) S3.out).mono ?_
              rintro e4 w4 ⟨rfl, d4, S4, D4⟩
              go_wp2
              go_end0
              exact ⟨rfl, d4, S4, sym_done MM.out D.out D4 ham2 hdm⟩
            · have y2 : ¬ (e : Int) < (b : Int) := by omega
              go_wp2
              go_end0
              exact ⟨rfl, d3, S3.out, sym_done MM.out D.out (right_done MM.out D.out hde heb (by omega)) ham2 hdm⟩
        · have t2 : ¬ (m0 : Int) < (e : Int) := by omega
          have SW := hid (HS.out.alike fun t _ => SM.out (.inr (by omega)) t)
          clear SM HS
          generalize rotF d q m0 e = d2 at MM SW
          by_cases r3 : a < q
          · have z1 : (a : Int) < (q : Int) := by omega
            have z2 : ¬ (q : Int) < (mid : Int) := by omega
            obtain ⟨d3, D, S3⟩ : ∃ d3, Hid (Done L d3 d2 a mid) ∧ Hid (SoSt w0 k n d3 _) := ⟨d2, left_done MM.out haq hqd (by omega), SW⟩
            have y1 : (mid : Int) < (e : Int) := by omega
            by_cases r4 : e < b
            · have y2 : (e : Int) < (b : Int) := by omega
              go_wp2_with fail
              refine (IH.out mid e b d3 _ (by omega) (runs_right MM.out D.out R.val (by omega) r4 ham2 hbn) S3.out).mono ?_
              rintro e4 w4 ⟨rfl, d4, S4, D4⟩
              go_wp2
              go_end0
              exact ⟨rfl, d4, S4, sym_done MM.out D.out D4 ham2 hdm⟩
            · have y2 : ¬ (e : Int) < (b : Int) := by omega
              go_wp2
              go_end0
              exact ⟨rfl, d3, S3.out, sym_done MM.out D.out (right_done MM.out D.out hde heb (by omega)) ham2 hdm⟩
          · have z1 : ¬ (a : Int) < (q : Int) := by omega
            obtain ⟨d3, D, S3⟩ : ∃ d3, Hid (Done L d3 d2 a mid) ∧ Hid (SoSt w0 k n d3 _) := ⟨d2, left_done MM.out haq hqd (by omega), SW⟩
            have y1 : (mid : Int) < (e : Int) := by omega
            by_cases r4 : e < b
            · have y2 : (e : Int) < (b : Int) := by omega
              go_wp2_with fail
              refine (IH.out mid e b d3 _ (by omega) (runs_right MM.out D.out R.val (by omega) r4 ham2 hbn) S3.out).mono ?_
              rintro e4 w4 ⟨rfl, d4, S4, D4⟩
              go_wp2
              go_end0
              exact ⟨rfl, d4, S4, sym_done MM.out D.out D4 ham2 hdm⟩
            · have y2 : ¬ (e : Int) < (b : Int) := by omega
              go_wp2
              go_end0
              exact ⟨rfl, d3, S3.out, sym_done MM.out D.out (right_done MM.out D.out hde heb (by omega)) ham2 hdm⟩
      · have t1 : ¬ (q : Int) < (m0 : Int) := by omega
        have SW := hid (HS.out.alike fun t _ => SM.out (.inl (by omega)) t)
        clear SM HS
        generalize rotF d q m0 e = d2 at MM SW
        by_cases r3 : a < q
        · have z1 : (a : Int) < (q : Int) := by omega
          by_cases r5 : q < mid
          · have z2 : (q : Int) < (mid : Int) := by omega
            go_wp2_with fail
            refine (IH.out a q mid d2 _ (by omega) (runs_left MM.out R.val r3 r5 hdm hbn) SW.out).mono ?_
            rintro e3 w3 ⟨rfl, d3, S3, D⟩
            replace S3 := hid S3
            replace D := hid D
            have y1 : ¬ (mid : Int) < (e : Int) := by omega
            go_wp2
            go_end0
            exact ⟨rfl, d3, S3.out, sym_done MM.out D.out (right_done MM.out D.out hde heb (by omega)) ham2 hdm⟩
          · have z2 : ¬ (q : Int) < (mid : Int) := by omega
            obtain ⟨d3, D, S3⟩ : ∃ d3, Hid (Done L d3 d2 a mid) ∧ Hid (SoSt w0 k n d3 _) := ⟨d2, left_done MM.out haq hqd (by omega), SW⟩
            have y1 : ¬ (mid : Int) < (e : Int) := by omega
            go_wp2
            go_end0
            exact ⟨rfl, d3, S3.out, sym_done MM.out D.out (right_done MM.out D.out hde heb (by omega)) ham2 hdm⟩
        · have z1 : ¬ (a : Int) < (q : Int) := by omega
          obtain ⟨d3, D, S3⟩ : ∃ d3, Hid (Done L d3 d2 a mid) ∧ Hid (SoSt w0 k n d3 _) := ⟨d2, left_done MM.out haq hqd (by omega), SW⟩
          have y1 : ¬ (mid : Int) < (e : Int) := by omega
          go_wp2
          go_end0
          exact ⟨rfl, d3, S3.out, sym_done MM.out D.out (right_done MM.out D.out hde heb (by omega)) ham2 hdm⟩

set_option maxRecDepth 1000000 in
set_option maxHeartbeats 8000000 in
theorem symC_le (w0 : World) (k n c a b : Nat) (cb : Addr) (cf : Nat → Nat → Int) (L : Nat → Nat → Prop) (hO : Ord n cf L) (hcmp : CmpOk w0 k n cb cf) (hn : n ≤ 1000)
    (m0 mid : Nat) (hb1 : ¬ b = m0 + 1) (hma : ¬ m0 = a + 1) (hmid0 : (a + b) / 2 = mid) (hgt0 : ¬ m0 > mid) (d : Nat → Nat) (R : Runs n L d a m0 b) (ih : SymOk w0 k n c cb L (b - a)) (w : World) (h : SoSt w0 k n d w) :
    Calls Tryz.prog 173 #[.slice (some ⟨k, 0, none⟩) n c, .int .i64 a, .int .i64 m0, .int .i64 b, .func (.func 166) #[] #[.pointer (some cb)]] w fun e w' =>
      e = .returned (.tuple #[]) ∧ ∃ d', SoSt w0 k n d' w' ∧ Done L d' d a b := by
  have ham := R.am
  have _ := hb1
  have _ := hma
  have hmb := R.mb
  have hbn := R.bn
  have q1 : ((m0 : Int) - (a : Int) == 1) = false := by rw [beq_eq_false_iff_ne]; omega
  have q2 : ((b : Int) - (m0 : Int) == 1) = false := by rw [beq_eq_false_iff_ne]; omega
  have q3 : ((a : Int) + (b : Int)) / 2 = (mid : Int) := by omega
  obtain ⟨p0, hp0⟩ : ∃ p, mid + m0 = p + 1 := ⟨mid + m0 - 1, by omega⟩
  have q4 : (mid : Int) + (m0 : Int) - 1 = (p0 : Int) := by omega
  have t0 : ¬ (m0 : Int) > (mid : Int) := by omega
  obtain ⟨s0, hse⟩ : ∃ s0, s0 = a := ⟨_, rfl⟩
  obtain ⟨r0, hre⟩ : ∃ r0, r0 = m0 := ⟨_, rfl⟩
  have hdm : mid ≤ b := by omega
  have ham2 : a ≤ mid := by omega
  have pb : p0 < 3000 := by omega
  have f1 : a ≤ s0 := by omega
  have f2 : s0 ≤ r0 := by omega
  have f3 : r0 ≤ m0 := by omega
  have f4 : r0 ≤ mid := by omega
  have f5 : mid + m0 ≤ b + s0 := by omega
  have f6 : s0 = a ∨ mid + m0 = b + s0 := by omega
  have f7 : r0 = m0 ∨ r0 = mid := by omega
  have hab2 : a + 2 ≤ b := by omega
  have hm1 : a < mid := by omega
  have hm2 : mid < b := by omega
  have F6 := hid f6
  have F7 := hid f7
  have HP := hid hp0
  have HE := hid hse
  have HR := hid hre
  clear hre
  clear f6 f7 hma hb1 hmid0 hp0 hse
  go_enter Tryz.func173, Tryz.ntmps173
  go_wp2
  go_loopw [20, 21] (fun i j wr => ∃ p q : Nat, i = .int .i64 p ∧ j = .int .i64 q ∧ s0 ≤ p ∧ p ≤ q ∧ q ≤ r0 ∧ SoSt w0 k n d wr ∧ (∀ t, s0 ≤ t → t < p → L (d t) (d (p0 - t))) ∧ ∀ t, q ≤ t → t < r0 → L (d (p0 - t)) (d t)) (fun i j _ => (intOf j).toNat - (intOf i).toNat)
  case atStart => exact ⟨s0, r0, by rw [HE.out], by rw [HR.out], Nat.le_refl _, f2, Nat.le_refl _, h, fun t h1 h2 => by omega, fun t h1 h2 => by omega⟩
  case round =>
    obtain ⟨p, q, rfl, rfl, hp, hpq, hq, hs, h1, h2⟩ := hrel
    have H1 := hid h1
    have H2 := hid h2
    have HS := hid hs
    clear h1 h2 h hs
    by_cases hlt : p < q
    · have hlt' : (p : Int) < (q : Int) := by omega
      have hp0 := HP.out
      obtain ⟨m, hm⟩ : ∃ m, (p + q) / 2 = m := ⟨_, rfl⟩
      have g1 : ((p : Int) + (q : Int)) / 2 = (m : Int) := by omega
      have hpm : p ≤ m := by omega
      have hmq : m < q := by omega
      obtain ⟨u, hu⟩ : ∃ u, p0 = u + m := ⟨p0 - m, by omega⟩
      have g4 : (p0 : Int) - (m : Int) = (u : Int) := by omega
      have hu1 : m0 ≤ u := by omega
      have hu2 : u < b := by omega
      have HU := hid hu
      clear hm hu hp0
      obtain ⟨x, hx⟩ : ∃ x, d u = x := ⟨_, rfl⟩
      obtain ⟨y, hy⟩ : ∃ y, d m = y := ⟨_, rfl⟩
      have hxn : x < n := by rw [← hx]; exact R.val u (by omega) (by omega)
      have hyn : y < n := by rw [← hy]; exact R.val m (by omega) (by omega)
      have hyx : y < x := by rw [← hx, ← hy]; exact R.up m u (by omega) (by omega) (by omega) (by omega)
      have c1 : ∀ s : Since wr, s.at_.cell? ⟨k, u, none⟩ = some (.int .i64 (x : Nat)) := fun s => by have := (HS.out.below s.bel).cell u (by omega); rwa [hx] at this
      have c2 : ∀ s : Since wr, s.at_.cell? ⟨k, m, none⟩ = some (.int .i64 (y : Nat)) := fun s => by have := (HS.out.below s.bel).cell m (by omega); rwa [hy] at this
      have hc : ∀ s : Since wr, w0.grownBy s.at_ (some k) := fun s => (HS.out.below s.bel).grown
      have g2 : (m : Int) < (n : Int) := by omega
      have g3 : (u : Int) < (n : Int) := by omega
      have g5 : IntKind.i64.wrap (u : Int) = (u : Int) := by rw [IntKind.wrap_i64]; omega
      go_wp2_with fail
      refine wp_region_since (by kernel_rfl) (by kernel_rfl) ?_
      repeat (quiet_step (first | (go_at_call 166; refine Calls.since _ (hcmp _ (hc _) x y hxn hyn))))
      refine wpQuiet_nil ?_
      intro _ hw'
      obtain ⟨s, rfl⟩ := hw'
      have HS3 := hid (HS.out.below s.bel)
      clear c1 c2 hc HS
      generalize s.at_ = w3 at HS3 ⊢
      by_cases hcf : cf x y < 0
      · have hcg : (!decide (cf x y < 0)) = false := by rw [decide_eq_true hcf]; rfl
        rw [hcg]
        go_wp2
        go_roundw
        case rel =>
          refine ⟨p, m, rfl, rfl, hp, by omega, by omega, HS3.out, H1.out, fun t t1 t2 => ?_⟩
          have e := hO.ahead x y hyx hxn hcf
          have hu := HU.out
          have hp0 := HP.out
          rw [← hx, ← hy] at e
          by_cases et : t = m
          · rw [et, show p0 - m = u by omega]; exact e
          · exact hO.trans _ _ _ (R.val _ (by omega) (by omega)) (R.val u (by omega) (by omega)) (R.val _ (by omega) (by omega)) (R.s2 _ _ (by omega) (by omega) (by omega))
              (hO.trans _ _ _ (R.val _ (by omega) (by omega)) (R.val _ (by omega) (by omega)) (R.val _ (by omega) (by omega)) e (R.s1 m t (by omega) (by omega) (by omega)))
        case measure => simp [intOf]; omega
      · have hcg : (!decide (cf x y < 0)) = true := by rw [decide_eq_false hcf]; rfl
        rw [hcg]
        go_wp2
        go_roundw
        case rel =>
          refine ⟨m + 1, q, rfl, rfl, by omega, by omega, hq, HS3.out, fun t t1 t2 => ?_, H2.out⟩
          have e := hO.behind x y hyx hxn hcf
          have hu := HU.out
          have hp0 := HP.out
          rw [← hx, ← hy] at e
          by_cases et : t = m
          · rw [et, show p0 - m = u by omega]; exact e
          · exact hO.trans _ _ _ (R.val _ (by omega) (by omega)) (R.val m (by omega) (by omega)) (R.val _ (by omega) (by omega)) (R.s1 t m (by omega) (by omega) (by omega))
              (hO.trans _ _ _ (R.val _ (by omega) (by omega)) (R.val _ (by omega) (by omega)) (R.val _ (by omega) (by omega)) e (R.s2 u _ (by omega) (by omega) (by omega)))
        case measure => simp [intOf]; omega
    · have hlt' : ¬ (p : Int) < (q : Int) := by omega
      have : q = p := by omega
      subst this
      obtain ⟨e, he⟩ : ∃ e, e = mid + m0 - q := ⟨_, rfl⟩
      have g1 : (mid : Int) + (m0 : Int) - (q : Int) = (e : Int) := by omega
      have hme : m0 ≤ e := by omega
      have hde : mid ≤ e := by omega
      have heb : e ≤ b := by omega
      have hqm : q ≤ m0 := by omega
      have hqd : q ≤ mid := by omega
      have haq : a ≤ q := by omega
      have x1 : m0 < e ↔ q < mid := by omega
      have x2 : mid < e ↔ q < m0 := by omega
      have lo := H1.out
      have hi := H2.out
      rw [show p0 = mid + m0 - 1 by have := HP.out; omega] at lo hi
      have MM := hid (mid_of hO ham hmb f1 hp hq f3 f4 hdm f5 F6.out F7.out he R.val R.s1 R.s2 R.up lo hi)
      have SM := hid (fun g : q = m0 ∨ m0 = e => rot_same (d := d) hqm hme g)
      have IH := hid ih
      clear lo hi he ih F6 F7 H1 H2
      by_cases r1 : q < m0
      · have t1 : (q : Int) < (m0 : Int) := by omega
        by_cases r2 : m0 < e
        · have t2 : (m0 : Int) < (e : Int) := by omega
          go_wp2_with fail
          refine (rotate_ok w0 k n c q m0 e _ hn r1 r2 (by omega) d wr HS.out).mono ?_
          rintro e2 w2 ⟨rfl, SW⟩
          replace SW := hid SW
          clear SM HS
          generalize rotF d q m0 e = d2 at MM SW
          by_cases r3 : a < q
          · have z1 : (a : Int) < (q : Int) := by omega
            have r5 : q < mid := by omega
            have z2 : (q : Int) < (mid : Int) := by omega
            go_wp2_with fail
            refine (IH.out a q mid d2 _ (by omega) (runs_left MM.out R.val r3 r5 hdm hbn) SW.out).mono ?_
            rintro e3 w3 ⟨rfl, d3, S3, D⟩
            replace S3 := hid S3
            replace D := hid D
            have y1 : (mid : Int) < (e : Int) := by omega
            by_cases r4 : e < b
            · have y2 : (e : Int) < (b : Int) := by omega
              go_wp2_with fail
              refine (IH.out mid e b d3 _ (by omega) (runs_right MM.out D.out R.val (by omega) r4 ham2 hbn) S3.out).mono ?_
              rintro e4 w4 ⟨rfl, d4, S4, D4⟩
              go_wp2
              go_end0
              exact ⟨rfl, d4, S4, sym_done MM.out D.out D4 ham2 hdm⟩
            · have y2 : ¬ (e : Int) < (b : Int) := by omega
              go_wp2
              go_end0
              exact ⟨rfl, d3, S3.out, sym_done MM.out D.out (right_done MM.out D.out hde heb (by omega)) ham2 hdm⟩
          · have z1 : ¬ (a : Int) < (q : Int) := by omega
            obtain ⟨d3, D, S3⟩ : ∃ d3, Hid (Done L d3 d2 a mid) ∧ Hid (SoSt w0 k n d3 _) := ⟨d2, left_done MM.out haq hqd (by omega), SW⟩
            have y1 : (mid : Int) < (e : Int) := by omega
            by_cases r4 : e < b
            · have y2 : (e : Int) < (b : Int) := by omega
              go_wp2_with fail
              refine (IH.out mid e b d3 _ (by omega) (runs_right MM.out D.out R.val (by omega) r4 ham2 hbn) S3.out).mono ?_
              rintro e4 w4 ⟨rfl, d4, S4, D4⟩
              go_wp2
              go_end0
              exact ⟨rfl, d4, S4, sym_done MM.out D.out D4 ham2 hdm⟩
            · have y2 : ¬ (e : Int) < (b : Int) := by omega
              go_wp2
              go_end0
              exact ⟨rfl, d3, S3.out, sym_done MM.out D.out (right_done MM.out D.out hde heb (by omega)) ham2 hdm⟩
        · have t2 : ¬ (m0 : Int) < (e : Int) := by omega
          have SW := hid (HS.out.alike fun t _ => SM.out (.inr (by omega)) t)
          clear SM HS
          generalize rotF d q m0 e = d2 at MM SW
          by_cases r3 : a < q
          · have z1 : (a : Int) < (q : Int) := by omega
            have z2 : ¬ (q : Int) < (mid : Int) := by omega
            obtain ⟨d3, D, S3⟩ : ∃ d3, Hid (Done L d3 d2 a mid) ∧ Hid (SoSt w0 k n d3 _) := ⟨d2, left_done MM.out haq hqd (by omega), SW⟩
            have y1 : (mid : Int) < (e : Int) := by omega
            by_cases r4 : e < b
            · have y2 : (e : Int) < (b : Int) := by omega
              go_wp2_with fail
              refine (IH.out mid e b d3 _ (by omega) (runs_right MM.out D.out R.val (by omega) r4 ham2 hbn) S3.out).mono ?_
              rintro e4 w4 ⟨rfl, d4, S4, D4⟩
              go_wp2
              go_end0
              exact ⟨rfl, d4, S4, sym_done MM.out D.out D4 ham2 hdm⟩
            · have y2 : ¬ (e : Int) < (b : Int) := by omega
              go_wp2
              go_end0
              exact ⟨rfl, d3, S3.out, sym_done MM.out D.out (right_done MM.out D.out hde heb (by omega)) ham2 hdm⟩
          · have z1 : ¬ (a : Int) < (q : Int) := by omega
            obtain ⟨d3, D, S3⟩ : ∃ d3, Hid (Done L d3 d2 a mid) ∧ Hid (SoSt w0 k n d3 _) := ⟨d2, left_done MM.out haq hqd (by omega), SW⟩
            have y1 : (mid : Int) < (e : Int) := by omega
            by_cases r4 : e < b
            · have y2 : (e : Int) < (b : Int) := by omega
              go_wp2_with fail
              refine (IH.out mid e b d3 _ (by omega) (runs_right MM.out D.out R.val (by omega) r4 ham2 hbn) S3.out).mono ?_
              rintro e4 w4 ⟨rfl, d4, S4, D4⟩
              go_wp2
              go_end0
              exact ⟨rfl, d4, S4, sym_done MM.out D.out D4 ham2 hdm⟩
            · have y2 : ¬ (e : Int) < (b : Int) := by omega
              go_wp2
              go_end0
              exact ⟨rfl, d3, S3.out, sym_done MM.out D.out (right_done MM.out D.out hde heb (by omega)) ham2 hdm⟩
      · have t1 : ¬ (q : Int) < (m0 : Int) := by omega
        have SW := hid (HS.out.alike fun t _ => SM.out (.inl (by omega)) t)
        clear SM HS
        generalize rotF d q m0 e = d2 at MM SW
        by_cases r3 : a < q
        · have z1 : (a : Int) < (q : Int) := by omega
          by_cases r5 : q < mid
          · have z2 : (q : Int) < (mid : Int) := by omega
            go_wp2_with fail
            refine (IH.out a q mid d2 _ (by omega) (runs_left MM.out R.val r3 r5 hdm hbn) SW.out).mono ?_
            rintro e3 w3 ⟨rfl, d3, S3, D⟩
            replace S3 := hid S3
            replace D := hid D
            have y1 : ¬ (mid : Int) < (e : Int) := by omega
            go_wp2
            go_end0
            exact ⟨rfl, d3, S3.out, sym_done MM.out D.out (right_done MM.out D.out hde heb (by omega)) ham2 hdm⟩
          · have z2 : ¬ (q : Int) < (mid : Int) := by omega
            obtain ⟨d3, D, S3⟩ : ∃ d3, Hid (Done L d3 d2 a mid) ∧ Hid (SoSt w0 k n d3 _) := ⟨d2, left_done MM.out haq hqd (by omega), SW⟩
            have y1 : ¬ (mid : Int) < (e : Int) := by omega
            go_wp2
            go_end0
            exact ⟨rfl, d3, S3.out, sym_done MM.out D.out (right_done MM.out D.out hde heb (by omega)) ham2 hdm⟩
        · have z1 : ¬ (a : Int) < (q : Int) := by omega
          obtain ⟨d3, D, S3⟩ : ∃ d3, Hid (Done L d3 d2 a mid) ∧ Hid (SoSt w0 k n d3 _) := ⟨d2, left_done MM.out haq hqd (by omega), SW⟩
          have y1 : ¬ (mid : Int) < (e : Int) := by omega
          go_wp2
          go_end0
          exact ⟨rfl, d3, S3.out, sym_done MM.out D.out (right_done MM.out D.out hde heb (by omega)) ham2 hdm⟩

theorem sym_ok (w0 : World) (k n c : Nat) (cb : Addr) (cf : Nat → Nat → Int) (L : Nat → Nat → Prop) (hO : Ord n cf L) (hcmp : CmpOk w0 k n cb cf) (hn : n ≤ 1000) : ∀ N, SymOk w0 k n c cb L N := by
  intro N
  induction N with
  | zero => intro a m b d w h; omega
  | succ N ih =>
    intro a m b d w hN R h
    have ih' : SymOk w0 k n c cb L (b - a) := fun a' m' b' d' w' h' => ih a' m' b' d' w' (by omega)
    by_cases h1 : m = a + 1
    · exact symA_ok w0 k n c a b cb cf L hO hcmp hn m h1 d R w h
    by_cases h2 : b = m + 1
    · exact symB_ok w0 k n c a b cb cf L hO hcmp hn m h2 h1 d R w h
    by_cases h3 : m > (a + b) / 2
    · exact symC_gt w0 k n c a b cb cf L hO hcmp hn m _ h2 h1 rfl h3 d R ih' w h
    · exact symC_le w0 k n c a b cb cf L hO hcmp hn m _ h2 h1 rfl h3 d R ih' w h
end Go.Proofs.YtbcejfonkehjgaaGreatDoor
