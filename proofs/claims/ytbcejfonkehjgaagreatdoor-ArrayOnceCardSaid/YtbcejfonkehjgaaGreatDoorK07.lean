/-
  What is proved: plain facts on two runs that are merged where they lie: one of one place put in, and a cut with a turn in the middle. No program is in it.
-/
import Derived.Test.YtbcejfonkehjgaaGreatDoorK06
namespace Go.Proofs.YtbcejfonkehjgaaGreatDoor
open Go.RowKit

def up (d : Nat → Nat) (a q : Nat) : Nat → Nat := fun t => if t < a then d t else if t < q then d (t + 1) else if t = q then d a else d t
theorem up_out (d : Nat → Nat) (a q t : Nat) (hq : a ≤ q) (h : t < a ∨ q < t) : up d a q t = d t := by
  unfold up
  rcases h with h | h
  · rw [if_pos h]
  · rw [if_neg (show ¬ t < a by omega), if_neg (show ¬ t < q by omega), if_neg (show ¬ t = q by omega)]
theorem up_in (d : Nat → Nat) (a q t : Nat) (h : a ≤ t) (g : t < q) : up d a q t = d (t + 1) := by
  unfold up; rw [if_neg (show ¬ t < a by omega), if_pos g]
theorem up_at (d : Nat → Nat) (a q : Nat) (h : a ≤ q) : up d a q q = d a := by
  unfold up; rw [if_neg (show ¬ q < a by omega), if_neg (Nat.lt_irrefl q), if_pos rfl]
theorem up_here (d : Nat → Nat) (a t : Nat) : up d a a t = d t := by
  by_cases h : t = a
  · rw [h]; exact up_at d a a (Nat.le_refl _)
  · exact up_out d a a t (Nat.le_refl _) (by omega)
theorem up_step (d : Nat → Nat) (a q : Nat) (hq : a ≤ q) (t : Nat) : swp (up d a q) q (q + 1) t = up d a (q + 1) t := by
  unfold swp up
  by_cases h1 : t = q + 1
  · rw [if_pos h1, if_neg (by omega), if_neg (by omega), if_pos rfl, if_neg (by omega), if_neg (by omega), if_pos h1]
  · rw [if_neg h1]
    by_cases h2 : t = q
    · rw [if_pos h2, if_neg (by omega), if_neg (by omega), if_neg (by omega), if_neg (by omega), if_pos (by omega), h2]
    · rw [if_neg h2]
      by_cases h3 : t < a
      · rw [if_pos h3, if_pos h3]
      · rw [if_neg h3, if_neg h3]
        by_cases h4 : t < q
        · rw [if_pos h4, if_pos (by omega)]
        · rw [if_neg h4, if_neg h2, if_neg (by omega), if_neg h1]

section
variable {n : Nat} {cf : Nat → Nat → Int} {L : Nat → Nat → Prop} {d d2 d3 d4 : Nat → Nat} {a b m : Nat}

theorem up_done (hO : Ord n cf L) {i : Nat} (hi : a + 1 ≤ i) (hib : i ≤ b) (hv : ∀ t, a ≤ t → t < b → d t < n) (hs : Sorted L d (a + 1) b) (h1 : ∀ t, a + 1 ≤ t → t < i → L (d t) (d a)) (h2 : ∀ t, i ≤ t → t < b → L (d a) (d t))
    (hd : ∀ t, d2 t = up d a (i - 1) t) : Sorted L d2 a b ∧ From d2 d a b ∧ Same d2 d a b := by
  have _ := hO
  have _ := hv
  refine ⟨fun x y hx hxy hy => ?_, fun x hx hxb => ?_, fun x hx => ?_⟩
  · rw [hd x, hd y]
    by_cases c1 : x < i - 1
    · rw [up_in d a _ x hx c1]
      by_cases c2 : y < i - 1
      · rw [up_in d a _ y (by omega) c2]; exact hs _ _ (by omega) (by omega) (by omega)
      · by_cases c3 : y = i - 1
        · rw [c3, up_at d a _ (by omega)]; exact h1 _ (by omega) (by omega)
        · rw [up_out d a _ y (by omega) (by omega)]; exact hs _ _ (by omega) (by omega) hy
    · rw [up_out d a _ y (by omega) (by omega)]
      by_cases c3 : x = i - 1
      · rw [c3, up_at d a _ (by omega)]; exact h2 _ (by omega) hy
      · rw [up_out d a _ x (by omega) (by omega)]; exact hs _ _ (by omega) hxy hy
  · rw [hd x]
    by_cases c1 : x < i - 1
    · rw [up_in d a _ x hx c1]; exact ⟨x + 1, by omega, by omega, rfl⟩
    · by_cases c3 : x = i - 1
      · rw [c3, up_at d a _ (by omega)]; exact ⟨a, by omega, by omega, rfl⟩
      · rw [up_out d a _ x (by omega) (by omega)]; exact ⟨x, hx, hxb, rfl⟩
  · rw [hd x]
    exact up_out d a _ x (by omega) (by omega)

structure Mid (L : Nat → Nat → Prop) (d d2 : Nat → Nat) (a s mid e b : Nat) : Prop where
  s1 : Sorted L d2 a s
  s2 : Sorted L d2 s mid
  s3 : Sorted L d2 mid e
  s4 : Sorted L d2 e b
  cross : ∀ i j, a ≤ i → i < mid → mid ≤ j → j < b → L (d2 i) (d2 j)
  up1 : ∀ i j, a ≤ i → i < s → s ≤ j → j < mid → d2 i < d2 j
  up2 : ∀ i j, mid ≤ i → i < e → e ≤ j → j < b → d2 i < d2 j
  src : From d2 d a b
  same : Same d2 d a b

theorem mid_of (hO : Ord n cf L) {s mid e s0 r0 : Nat} (ham : a < m) (hmb : m < b) (has : a ≤ s0) (hs0 : s0 ≤ s) (hr0 : s ≤ r0) (hrm : r0 ≤ m) (hrd : r0 ≤ mid) (hmid : mid ≤ b) (hend : mid + m ≤ b + s0) (hse : s0 = a ∨ mid + m = b + s0) (hre : r0 = m ∨ r0 = mid)
    (he : e = mid + m - s) (hv : ∀ t, a ≤ t → t < b → d t < n) (h1 : Sorted L d a m) (h2 : Sorted L d m b) (hup : ∀ i j, a ≤ i → i < m → m ≤ j → j < b → d i < d j)
    (lo : ∀ c, s0 ≤ c → c < s → L (d c) (d (mid + m - 1 - c))) (hi : ∀ c, s ≤ c → c < r0 → L (d (mid + m - 1 - c)) (d c)) : Mid L d (rotF d s m e) a s mid e b := by
  have p1 : ∀ t, t < s → rotF d s m e t = d t := fun t ht => by unfold rotF; rw [if_neg (by omega), if_neg (by omega)]
  have p2 : ∀ t, s ≤ t → t < mid → rotF d s m e t = d (t + (m - s)) := fun t h3 h4 => by unfold rotF; rw [if_pos (by omega)]
  have p3 : ∀ t, mid ≤ t → t < e → rotF d s m e t = d (t - (mid - s)) := fun t h3 h4 => by
    unfold rotF; rw [if_neg (by omega), if_pos (by omega)]; congr 1; omega
  have p4 : ∀ t, e ≤ t → rotF d s m e t = d t := fun t ht => by unfold rotF; rw [if_neg (by omega), if_neg (by omega)]
  have low : ∀ i j, a ≤ i → i < s → e ≤ j → j < b → L (d i) (d j) := fun i j g1 g2 g3 g4 => by
    by_cases c : s0 < s
    · have k := lo (s - 1) (by omega) (by omega)
      have e1 : mid + m - 1 - (s - 1) = e := by omega
      rw [e1] at k
      have k2 : L (d i) (d e) := by
        by_cases c2 : i = s - 1
        · rw [c2]; exact k
        · exact hO.trans _ _ _ (hv _ g1 (by omega)) (hv _ (by omega) (by omega)) (hv _ (by omega) (by omega)) (h1 i (s - 1) g1 (by omega) (by omega)) k
      by_cases c3 : j = e
      · rw [c3]; exact k2
      · exact hO.trans _ _ _ (hv _ g1 (by omega)) (hv _ (by omega) (by omega)) (hv _ (by omega) g4) k2 (h2 e j (by omega) (by omega) g4)
    · omega
  have high : ∀ i j, m ≤ i → i < e → s ≤ j → j < m → L (d i) (d j) := fun i j g1 g2 g3 g4 => by
    by_cases c : s < r0
    · have k := hi s (Nat.le_refl _) c
      have e1 : mid + m - 1 - s = e - 1 := by omega
      rw [e1] at k
      have k2 : L (d i) (d s) := by
        by_cases c2 : i = e - 1
        · rw [c2]; exact k
        · exact hO.trans _ _ _ (hv _ (by omega) (by omega)) (hv _ (by omega) (by omega)) (hv _ (by omega) (by omega)) (h2 i (e - 1) g1 (by omega) (by omega)) k
      by_cases c3 : j = s
      · rw [c3]; exact k2
      · exact hO.trans _ _ _ (hv _ (by omega) (by omega)) (hv _ (by omega) (by omega)) (hv _ (by omega) (by omega)) k2 (h1 s j (by omega) (by omega) g4)
    · omega
  refine ⟨fun i j g1 g2 g3 => ?_, fun i j g1 g2 g3 => ?_, fun i j g1 g2 g3 => ?_, fun i j g1 g2 g3 => ?_, fun i j g1 g2 g3 g4 => ?_, fun i j g1 g2 g3 g4 => ?_, fun i j g1 g2 g3 g4 => ?_, fun i g1 g2 => ?_, fun i g1 => ?_⟩
  · rw [p1 i (by omega), p1 j g3]; exact h1 i j g1 g2 (by omega)
  · rw [p2 i g1 (by omega), p2 j (by omega) g3]; exact h2 _ _ (by omega) (by omega) (by omega)
  · rw [p3 i g1 (by omega), p3 j (by omega) g3]; exact h1 _ _ (by omega) (by omega) (by omega)
  · rw [p4 i g1, p4 j (by omega)]; exact h2 i j (by omega) g2 g3
  · by_cases c1 : i < s
    · rw [p1 i c1]
      by_cases c2 : j < e
      · rw [p3 j g3 c2]; exact h1 _ _ g1 (by omega) (by omega)
      · rw [p4 j (by omega)]; exact low i j g1 c1 (by omega) g4
    · rw [p2 i (by omega) g2]
      by_cases c2 : j < e
      · rw [p3 j g3 c2]; exact high _ _ (by omega) (by omega) (by omega) (by omega)
      · rw [p4 j (by omega)]; exact h2 _ _ (by omega) (by omega) g4
  · rw [p1 i g2, p2 j g3 g4]; exact hup _ _ g1 (by omega) (by omega) (by omega)
  · rw [p3 i g1 g2, p4 j g3]; exact hup _ _ (by omega) (by omega) (by omega) g4
  · by_cases c1 : i < s
    · exact ⟨i, g1, g2, p1 i c1⟩
    by_cases c2 : i < mid
    · exact ⟨_, by omega, by omega, p2 i (by omega) c2⟩
    by_cases c3 : i < e
    · exact ⟨_, by omega, by omega, p3 i (by omega) c3⟩
    · exact ⟨i, g1, g2, p4 i (by omega)⟩
  · by_cases c1 : i < s
    · exact p1 i c1
    · exact p4 i (by omega)

theorem rot_same {s e : Nat} (hs : s ≤ m) (he : m ≤ e) (h : s = m ∨ m = e) (t : Nat) : rotF d s m e t = d t := by
  unfold rotF
  by_cases c1 : s ≤ t ∧ t < s + (e - m)
  · rw [if_pos c1]; congr 1; omega
  · rw [if_neg c1]
    by_cases c2 : s + (e - m) ≤ t ∧ t < e
    · rw [if_pos c2]; congr 1; omega
    · rw [if_neg c2]

def Done (L : Nat → Nat → Prop) (d' d : Nat → Nat) (a b : Nat) : Prop := Sorted L d' a b ∧ From d' d a b ∧ Same d' d a b
theorem done_refl (h : Sorted L d a b) : Done L d d a b := ⟨h, fun i h1 h2 => ⟨i, h1, h2, rfl⟩, fun _ _ => rfl⟩

theorem left_done {s mid e : Nat} (M : Mid L d d2 a s mid e b) (has : a ≤ s) (hs : s ≤ mid) (h : ¬ (a < s ∧ s < mid)) : Done L d2 d2 a mid := by
  refine done_refl fun i j g1 g2 g3 => ?_
  by_cases c : a < s
  · exact M.s1 i j g1 g2 (by omega)
  · exact M.s2 i j (by omega) g2 g3
theorem right_done {s mid e : Nat} (M : Mid L d d2 a s mid e b) (D : Done L d3 d2 a mid) (hme : mid ≤ e) (heb : e ≤ b) (h : ¬ (mid < e ∧ e < b)) : Done L d3 d3 mid b := by
  refine done_refl fun i j g1 g2 g3 => ?_
  rw [D.2.2 i (by omega), D.2.2 j (by omega)]
  by_cases c : mid < e
  · exact M.s3 i j g1 g2 (by omega)
  · exact M.s4 i j (by omega) g2 g3
theorem sym_done {s mid e : Nat} (M : Mid L d d2 a s mid e b) (D : Done L d3 d2 a mid) (E : Done L d4 d3 mid b) (h1 : a ≤ mid) (h2 : mid ≤ b) : Done L d4 d a b := by
  refine ⟨fun i j g1 g2 g3 => ?_, fun i g1 g2 => ?_, fun i g1 => ?_⟩
  · by_cases c1 : j < mid
    · rw [E.2.2 i (by omega), E.2.2 j (by omega)]; exact D.1 i j g1 g2 c1
    by_cases c2 : mid ≤ i
    · exact E.1 i j c2 g2 g3
    · rw [E.2.2 i (by omega)]
      obtain ⟨x, x1, x2, ex⟩ := D.2.1 i g1 (by omega)
      obtain ⟨y, y1, y2, ey⟩ := E.2.1 j (by omega) g3
      rw [ex, ey, D.2.2 y (by omega)]
      exact M.cross x y x1 x2 y1 y2
  · by_cases c1 : i < mid
    · rw [E.2.2 i (by omega)]
      obtain ⟨x, x1, x2, ex⟩ := D.2.1 i g1 c1
      obtain ⟨y, y1, y2, ey⟩ := M.src x x1 (by omega)
      exact ⟨y, y1, y2, ex.trans ey⟩
    · obtain ⟨x, x1, x2, ex⟩ := E.2.1 i (by omega) g2
      obtain ⟨y, y1, y2, ey⟩ := M.src x (by omega) x2
      exact ⟨y, y1, y2, by rw [ex, D.2.2 x (by omega), ey]⟩
  · rw [E.2.2 i (by omega), D.2.2 i (by omega), M.same i g1]
end
end Go.Proofs.YtbcejfonkehjgaaGreatDoor
namespace Go.Proofs.YtbcejfonkehjgaaGreatDoor
open Go.RowKit

structure Runs (n : Nat) (L : Nat → Nat → Prop) (d : Nat → Nat) (a m b : Nat) : Prop where
  am : a < m
  mb : m < b
  bn : b ≤ n
  s1 : Sorted L d a m
  s2 : Sorted L d m b
  up : ∀ i j, a ≤ i → i < m → m ≤ j → j < b → d i < d j
  val : ∀ t, a ≤ t → t < b → d t < n

set_option maxRecDepth 1000000 in
set_option maxHeartbeats 4000000 in
theorem symA_ok (w0 : World) (k n c a b : Nat) (cb : Addr) (cf : Nat → Nat → Int) (L : Nat → Nat → Prop) (hO : Ord n cf L) (hcmp : CmpOk w0 k n cb cf) (hn : n ≤ 1000)
    (m0 : Nat) (hm0 : m0 = a + 1) (d : Nat → Nat) (R : Runs n L d a m0 b) (w : World) (h : SoSt w0 k n d w) :
    Calls Tryz.prog 173 #[.slice (some ⟨k, 0, none⟩) n c, .int .i64 a, .int .i64 m0, .int .i64 b, .func (.func 166) #[] #[.pointer (some cb)]] w fun e w' =>
      e = .returned (.tuple #[]) ∧ ∃ d', SoSt w0 k n d' w' ∧ Done L d' d a b := by
  have hmb := R.mb
  have hbn := R.bn
  have q1 : (m0 : Int) - (a : Int) = 1 := by omega
  have HM := hid hm0
  clear hm0
  go_enter Tryz.func173, Tryz.ntmps173
  go_wp2
  go_loopw [10, 11] (fun i j wr => ∃ p q : Nat, i = .int .i64 p ∧ j = .int .i64 q ∧ m0 ≤ p ∧ p ≤ q ∧ q ≤ b ∧ SoSt w0 k n d wr ∧ (∀ t, m0 ≤ t → t < p → L (d t) (d a)) ∧ ∀ t, q ≤ t → t < b → L (d a) (d t)) (fun i j _ => (intOf j).toNat - (intOf i).toNat)
  case atStart => exact ⟨m0, b, rfl, rfl, by omega, by omega, by omega, h, fun t h1 h2 => by omega, fun t h1 h2 => by omega⟩
  case round =>
    obtain ⟨p, q, rfl, rfl, hp, hpq, hq, hs, h1, h2⟩ := hrel
    have ham := R.am
    have H1 := hid h1
    have H2 := hid h2
    have HS := hid hs
    clear h1 h2 h hs
    by_cases hlt : p < q
    · have hlt' : (p : Int) < (q : Int) := by omega
      obtain ⟨m, hm⟩ : ∃ m, (p + q) / 2 = m := ⟨_, rfl⟩
      have g1 : ((p : Int) + (q : Int)) / 2 = (m : Int) := by omega
      have hpm : p ≤ m := by omega
      have hmq : m < q := by omega
      obtain ⟨x, hx⟩ : ∃ x, d m = x := ⟨_, rfl⟩
      obtain ⟨y, hy⟩ : ∃ y, d a = y := ⟨_, rfl⟩
      have hxn : x < n := by rw [← hx]; exact R.val m (by omega) (by omega)
      have hyn : y < n := by rw [← hy]; exact R.val a (by omega) (by omega)
      have hyx : y < x := by rw [← hx, ← hy]; exact R.up a m (by omega) (by omega) (by omega) (by omega)
      have c1 : ∀ s : Since wr, s.at_.cell? ⟨k, m, none⟩ = some (.int .i64 (x : Nat)) := fun s => by have := (HS.out.below s.bel).cell m (by omega); rwa [hx] at this
      have c2 : ∀ s : Since wr, s.at_.cell? ⟨k, a, none⟩ = some (.int .i64 (y : Nat)) := fun s => by have := (HS.out.below s.bel).cell a (by omega); rwa [hy] at this
      have hc : ∀ s : Since wr, w0.grownBy s.at_ (some k) := fun s => (HS.out.below s.bel).grown
      have g2 : (m : Int) < (n : Int) := by omega
      have g3 : (a : Int) < (n : Int) := by omega
      go_wp2_with fail
      refine wp_region_since (by kernel_rfl) (by kernel_rfl) ?_
      repeat (quiet_step (first | (go_at_call 166; refine Calls.since _ (hcmp _ (hc _) x y hxn hyn))))
      refine wpQuiet_nil ?_
      intro _ hw'
      obtain ⟨s, rfl⟩ := hw'
      have HS3 := hid (HS.out.below s.bel)
      clear c1 c2 hc HS
      generalize s.at_ = w3 at HS3 ⊢
      by_cases hcf : cf x y < 0
      · go_wp2
        go_roundw
        case rel =>
          refine ⟨m + 1, q, rfl, rfl, by omega, by omega, hq, HS3.out, fun t t1 t2 => ?_, H2.out⟩
          have e := hO.ahead x y hyx hxn hcf
          rw [← hx, ← hy] at e
          by_cases et : t = m
          · rw [et]; exact e
          · exact hO.trans _ _ _ (R.val _ (by omega) (by omega)) (R.val _ (by omega) (by omega)) (R.val _ (by omega) (by omega)) (R.s2 t m t1 (by omega) (by omega)) e
        case measure => simp [intOf]; omega
      · go_wp2
        go_roundw
        case rel =>
          refine ⟨p, m, rfl, rfl, hp, by omega, by omega, HS3.out, H1.out, fun t t1 t2 => ?_⟩
          have e := hO.behind x y hyx hxn hcf
          rw [← hx, ← hy] at e
          by_cases et : t = m
          · rw [et]; exact e
          · exact hO.trans _ _ _ (R.val _ (by omega) (by omega)) (R.val _ (by omega) (by omega)) (R.val _ (by omega) (by omega)) e (R.s2 m t (by omega) (by omega) (by omega))
        case measure => simp [intOf]; omega
    · have hlt' : ¬ (p : Int) < (q : Int) := by omega
      have : q = p := by omega
      subst this
      go_wp2
      go_loopw [13] (fun j wr => ∃ (r : Nat) (dk : Nat → Nat), j = .int .i64 r ∧ a ≤ r ∧ r ≤ q - 1 ∧ SoSt w0 k n dk wr ∧ ∀ t, dk t = up d a r t) (fun j _ => n - (intOf j).toNat)
      case atStart => exact ⟨a, d, rfl, Nat.le_refl _, by have := HM.out; omega, HS.out, fun t => (up_here d a t).symm⟩
      case round =>
        obtain ⟨r, dk, rfl, hra, hrq, hs2, hu⟩ := hrel
        have HU := hid hu
        have HS2 := hid hs2
        clear hu HS
        have := HM.out
        have h9 : a + 1 ≤ q := by omega
        clear this
        have g5 : (q : Int) - 1 = ((q - 1 : Nat) : Int) := by omega
        by_cases hlt2 : r < q - 1
        · have hlt3 : (r : Int) < ((q - 1 : Nat) : Int) := by omega
          obtain ⟨x, hx⟩ : ∃ x, dk r = x := ⟨_, rfl⟩
          obtain ⟨y, hy⟩ : ∃ y, dk (r + 1) = y := ⟨_, rfl⟩
          have c1 := hs2.cell r (by omega)
          have c2 := hs2.cell (r + 1) (by omega)
          have f1 := hs2.free r (by omega)
          have f2 := hs2.free (r + 1) (by omega)
          rw [hx] at c1
          rw [hy] at c2
          have g1 : (r : Int) + 1 < (n : Int) := by omega
          have g2 : (r : Int) < (n : Int) := by omega
          have g3 : 0 ≤ (r : Int) + 1 := by omega
          have g4 : ((r : Int) + 1).toNat = r + 1 := by omega
          clear hs2
          go_wp2
          go_region
          go_wp2
          go_roundw
          case rel =>
            refine ⟨r + 1, swp dk r (r + 1), rfl, by omega, by omega, ?_, fun t => ?_⟩
            · have := HS2.out.swp (i := r) (j := r + 1) (by omega) (by omega)
              rw [hx, hy] at this
              exact this.drew
            · rw [← up_step d a r hra t]
              unfold swp
              rw [HU.out, HU.out, HU.out]
          case measure => simp [intOf]; omega
        · have hlt3 : ¬ (r : Int) < ((q - 1 : Nat) : Int) := by omega
          clear hs2
          go_wp2
          (try simp only [Exit.inBlock, Exit.then])
          refine bodyPost_ret (results_none rfl _ _ _) rfl ?_
          have RS := R.s2
          have h1 := H1.out
          rw [HM.out] at RS h1
          refine ⟨rfl, dk, HS2.out, up_done hO (i := q) h9 hq R.val RS h1 H2.out fun t => ?_⟩
          rw [HU.out, show q - 1 = r by omega]
end Go.Proofs.YtbcejfonkehjgaaGreatDoor
namespace Go.Proofs.YtbcejfonkehjgaaGreatDoor
open Go.RowKit

theorem down_done {n : Nat} {cf : Nat → Nat → Int} {L : Nat → Nat → Prop} {d dk : Nat → Nat} {a b m q : Nat} (hO : Ord n cf L) (hb : b = m + 1) (R : Runs n L d a m b) (hq : a ≤ q) (hqm : q ≤ m)
    (h1 : ∀ t, a ≤ t → t < q → L (d t) (d m)) (h2 : ∀ t, q ≤ t → t < m → L (d m) (d t)) (hk : ∀ t, dk t = ins d q m t) : Done L dk d a b := by
  subst hb
  refine ins_done hO hk h2 ?_ hq hqm (fun t t1 t2 => R.val t t1 (by omega)) R.s1 (fun i i1 i2 => ⟨i, i1, i2, rfl⟩) fun _ _ => rfl
  by_cases c : q = a
  · exact .inl c
  · exact .inr ⟨by omega, h1 _ (by omega) (by omega)⟩

set_option maxRecDepth 1000000 in
set_option maxHeartbeats 4000000 in
theorem symB_ok (w0 : World) (k n c a b : Nat) (cb : Addr) (cf : Nat → Nat → Int) (L : Nat → Nat → Prop) (hO : Ord n cf L) (hcmp : CmpOk w0 k n cb cf) (hn : n ≤ 1000)
    (m0 : Nat) (hm0 : b = m0 + 1) (hma : ¬ m0 = a + 1) (d : Nat → Nat) (R : Runs n L d a m0 b) (w : World) (h : SoSt w0 k n d w) :
    Calls Tryz.prog 173 #[.slice (some ⟨k, 0, none⟩) n c, .int .i64 a, .int .i64 m0, .int .i64 b, .func (.func 166) #[] #[.pointer (some cb)]] w fun e w' =>
      e = .returned (.tuple #[]) ∧ ∃ d', SoSt w0 k n d' w' ∧ Done L d' d a b := by
  have ham := R.am
  have hbn := R.bn
  have q1 : ((m0 : Int) - (a : Int) == 1) = false := by rw [beq_eq_false_iff_ne]; omega
  have q2 : (b : Int) - (m0 : Int) = 1 := by omega
  have HM := hid hm0
  clear hm0 hma
  go_enter Tryz.func173, Tryz.ntmps173
  go_wp2
  go_loopw [14, 15] (fun i j wr => ∃ p q : Nat, i = .int .i64 p ∧ j = .int .i64 q ∧ a ≤ p ∧ p ≤ q ∧ q ≤ m0 ∧ SoSt w0 k n d wr ∧ (∀ t, a ≤ t → t < p → L (d t) (d m0)) ∧ ∀ t, q ≤ t → t < m0 → L (d m0) (d t)) (fun i j _ => (intOf j).toNat - (intOf i).toNat)
  case atStart => exact ⟨a, m0, rfl, rfl, by omega, by omega, by omega, h, fun t h1 h2 => by omega, fun t h1 h2 => by omega⟩
  case round =>
    obtain ⟨p, q, rfl, rfl, hp, hpq, hq, hs, h1, h2⟩ := hrel
    have H1 := hid h1
    have H2 := hid h2
    have HS := hid hs
    have hmb := R.mb
    clear h1 h2 h hs
    by_cases hlt : p < q
    · have hlt' : (p : Int) < (q : Int) := by omega
      obtain ⟨m, hm⟩ : ∃ m, (p + q) / 2 = m := ⟨_, rfl⟩
      have g1 : ((p : Int) + (q : Int)) / 2 = (m : Int) := by omega
      have hpm : p ≤ m := by omega
      have hmq : m < q := by omega
      obtain ⟨x, hx⟩ : ∃ x, d m0 = x := ⟨_, rfl⟩
      obtain ⟨y, hy⟩ : ∃ y, d m = y := ⟨_, rfl⟩
      have hxn : x < n := by rw [← hx]; exact R.val m0 (by omega) (by omega)
      have hyn : y < n := by rw [← hy]; exact R.val m (by omega) (by omega)
      have hyx : y < x := by rw [← hx, ← hy]; exact R.up m m0 (by omega) (by omega) (by omega) (by omega)
      have c1 : ∀ s : Since wr, s.at_.cell? ⟨k, m0, none⟩ = some (.int .i64 (x : Nat)) := fun s => by have := (HS.out.below s.bel).cell m0 (by omega); rwa [hx] at this
      have c2 : ∀ s : Since wr, s.at_.cell? ⟨k, m, none⟩ = some (.int .i64 (y : Nat)) := fun s => by have := (HS.out.below s.bel).cell m (by omega); rwa [hy] at this
      have hc : ∀ s : Since wr, w0.grownBy s.at_ (some k) := fun s => (HS.out.below s.bel).grown
      have g2 : (m : Int) < (n : Int) := by omega
      have g3 : (m0 : Int) < (n : Int) := by omega
      go_wp2_with fail
      refine wp_region_since (by kernel_rfl) (by kernel_rfl) ?_
      repeat (quiet_step (first | (go_at_call 166; refine Calls.since _ (hcmp _ (hc _) x y hxn hyn))))
      refine wpQuiet_nil ?_
      intro _ hw'
      obtain ⟨s, rfl⟩ := hw'
      have HS3 := hid (HS.out.below s.bel)
      clear c1 c2 hc HS
      generalize s.at_ = w3 at HS3 ⊢
      by_cases hcf : cf x y < 0
      · have hcg : (!decide (cf x y < 0)) = false := by rw [decide_eq_true hcf]; rfl
        rw [hcg]
        go_wp2
        go_roundw
        case rel =>
          refine ⟨p, m, rfl, rfl, hp, by omega, by omega, HS3.out, H1.out, fun t t1 t2 => ?_⟩
          have e := hO.ahead x y hyx hxn hcf
          rw [← hx, ← hy] at e
          by_cases et : t = m
          · rw [et]; exact e
          · exact hO.trans _ _ _ (R.val _ (by omega) (by omega)) (R.val _ (by omega) (by omega)) (R.val _ (by omega) (by omega)) e (R.s1 m t (by omega) (by omega) (by omega))
        case measure => simp [intOf]; omega
      · have hcg : (!decide (cf x y < 0)) = true := by rw [decide_eq_false hcf]; rfl
        rw [hcg]
        go_wp2
        go_roundw
        case rel =>
          refine ⟨m + 1, q, rfl, rfl, by omega, by omega, hq, HS3.out, fun t t1 t2 => ?_, H2.out⟩
          have e := hO.behind x y hyx hxn hcf
          rw [← hx, ← hy] at e
          by_cases et : t = m
          · rw [et]; exact e
          · exact hO.trans _ _ _ (R.val _ (by omega) (by omega)) (R.val _ (by omega) (by omega)) (R.val _ (by omega) (by omega)) (R.s1 t m t1 (by omega) (by omega)) e
        case measure => simp [intOf]; omega
    · have hlt' : ¬ (p : Int) < (q : Int) := by omega
      have : q = p := by omega
      subst this
      go_wp2
      go_loopw [17] (fun j wr => ∃ (r : Nat) (dk : Nat → Nat), j = .int .i64 r ∧ q ≤ r ∧ r ≤ m0 ∧ SoSt w0 k n dk wr ∧ ∀ t, dk t = ins d r m0 t) (fun j _ => (intOf j).toNat)
      case atStart => exact ⟨m0, d, rfl, hq, Nat.le_refl _, HS.out, fun t => (ins_here d m0 t).symm⟩
      case round =>
        obtain ⟨r, dk, rfl, hra, hrq, hs2, hu⟩ := hrel
        have HU := hid hu
        have HS2 := hid hs2
        clear hu HS
        by_cases hlt2 : q < r
        · obtain ⟨r, rfl⟩ : ∃ r', r = r' + 1 := ⟨r - 1, by omega⟩
          have hlt3 : (q : Int) < (r : Int) + 1 := by omega
          obtain ⟨x, hx⟩ : ∃ x, dk (r + 1) = x := ⟨_, rfl⟩
          obtain ⟨y, hy⟩ : ∃ y, dk r = y := ⟨_, rfl⟩
          have c1 := hs2.cell r (by omega)
          have c2 := hs2.cell (r + 1) (by omega)
          have f1 := hs2.free r (by omega)
          have f2 := hs2.free (r + 1) (by omega)
          rw [hy] at c1
          rw [hx] at c2
          have g1 : (r : Int) + 1 < (n : Int) := by omega
          have g2 : (r : Int) < (n : Int) := by omega
          have g3 : 0 ≤ (r : Int) + 1 := by omega
          have g4 : ((r : Int) + 1).toNat = r + 1 := by omega
          have g5 : IntKind.i64.wrap (r : Int) = (r : Int) := by rw [IntKind.wrap_i64]; omega
          clear hs2
          go_wp2
          go_region
          go_wp2
          go_roundw
          case rel =>
            refine ⟨r, swp dk (r + 1) r, rfl, by omega, by omega, ?_, fun t => ?_⟩
            · have := HS2.out.swp (i := r + 1) (j := r) (by omega) (by omega)
              rw [hx, hy] at this
              exact this.drew
            · rw [← ins_down d r m0 (by omega) t]
              unfold swp
              rw [HU.out, HU.out, HU.out]
          case measure => simp [intOf]
        · have hlt3 : ¬ (q : Int) < (r : Int) := by omega
          clear hs2
          go_wp2
          (try simp only [Exit.inBlock, Exit.then])
          refine bodyPost_ret (results_none rfl _ _ _) rfl ?_
          have e : r = q := by omega
          refine ⟨rfl, dk, HS2.out, down_done hO HM.out R hp hq H1.out H2.out fun t => ?_⟩
          rw [HU.out, e]
end Go.Proofs.YtbcejfonkehjgaaGreatDoor
