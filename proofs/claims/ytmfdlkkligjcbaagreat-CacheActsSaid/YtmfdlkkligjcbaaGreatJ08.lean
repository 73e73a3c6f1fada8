/-
  What is proved: slices.rotateCmpFunc turns two neighbouring runs about; the rest stays. Condition: neither run is empty, they lie within.
-/
import Derived.Test.YtmfdlkkligjcbaaGreatJ07
import Derived.Test.YtmfdlkkligjcbaaGreatJ03
namespace Go.Proofs.YtmfdlkkligjcbaaGreat
open Go.RowKit

/-- the runs [a, m) and [m, b) turned about -/
def rotF (d : Nat → Nat) (a m b : Nat) : Nat → Nat := fun t => if a ≤ t ∧ t < a + (b - m) then d (t + (m - a)) else if a + (b - m) ≤ t ∧ t < b then d (t - (b - m)) else d t

/-- the runs of m places at a and at b, exchanged, point by point -/
theorem swapped {d d2 : Nat → Nat} {a b m : Nat} (hab : a + m ≤ b) (h1 : ∀ t, t < m → d2 (a + t) = d (b + t) ∧ d2 (b + t) = d (a + t)) (h2 : ∀ t, (∀ s, s < m → t ≠ a + s ∧ t ≠ b + s) → d2 t = d t) :
    (∀ t, a ≤ t → t < a + m → d2 t = d (t + (b - a))) ∧ (∀ t, b ≤ t → t < b + m → d2 t = d (t - (b - a))) ∧ ∀ t, ¬ (a ≤ t ∧ t < a + m) → ¬ (b ≤ t ∧ t < b + m) → d2 t = d t := by
  refine ⟨fun t h3 h4 => ?_, fun t h3 h4 => ?_, fun t h3 h4 => h2 t fun s hs => by omega⟩
  · have h := (h1 (t - a) (by omega)).1
    rw [show a + (t - a) = t by omega] at h
    exact h.trans (congrArg d (by omega))
  · have h := (h1 (t - b) (by omega)).2
    rw [show b + (t - b) = t by omega] at h
    exact h.trans (congrArg d (by omega))

theorem rot_left {d d2 : Nat → Nat} {lo m hi : Nat} (hlo : lo + (hi - m) < m) (hm : m < hi)
    (A : ∀ t, lo ≤ t → t < lo + (hi - m) → d2 t = d (t + (m - lo))) (B : ∀ t, m ≤ t → t < m + (hi - m) → d2 t = d (t - (m - lo))) (C : ∀ t, ¬ (lo ≤ t ∧ t < lo + (hi - m)) → ¬ (m ≤ t ∧ t < m + (hi - m)) → d2 t = d t) (t : Nat) :
    rotF d2 (lo + (hi - m)) m hi t = rotF d lo m hi t := by
  unfold rotF
  by_cases c1 : t < lo
  · rw [if_neg (by omega), if_neg (by omega), if_neg (by omega), if_neg (by omega)]
    exact C t (by omega) (by omega)
  by_cases c2 : t < lo + (hi - m)
  · rw [if_neg (by omega), if_neg (by omega), if_pos (by omega)]
    exact A t (by omega) c2
  by_cases c3 : t < lo + (hi - m) + (hi - m)
  · rw [if_pos (by omega), if_neg (by omega), if_pos (by omega)]
    exact (B _ (by omega) (by omega)).trans (congrArg d (by omega))
  by_cases c4 : t < hi
  · rw [if_neg (by omega), if_pos (by omega), if_neg (by omega), if_pos (by omega)]
    exact C _ (by omega) (by omega)
  · rw [if_neg (by omega), if_neg (by omega), if_neg (by omega), if_neg (by omega)]
    exact C t (by omega) (by omega)

theorem rot_right {d d2 : Nat → Nat} {lo m hi i : Nat} (hi1 : i = m - lo) (h0 : lo < m) (hm : m + i < hi)
    (A : ∀ t, lo ≤ t → t < lo + i → d2 t = d (t + (hi - i - lo))) (B : ∀ t, hi - i ≤ t → t < hi - i + i → d2 t = d (t - (hi - i - lo))) (C : ∀ t, ¬ (lo ≤ t ∧ t < lo + i) → ¬ (hi - i ≤ t ∧ t < hi - i + i) → d2 t = d t) (t : Nat) :
    rotF d2 lo m (hi - i) t = rotF d lo m hi t := by
  unfold rotF
  by_cases c1 : t < lo
  · rw [if_neg (by omega), if_neg (by omega), if_neg (by omega), if_neg (by omega)]
    exact C t (by omega) (by omega)
  by_cases c2 : t < lo + (hi - i - m)
  · rw [if_pos (by omega), if_pos (by omega)]
    exact C _ (by omega) (by omega)
  by_cases c3 : t < hi - i
  · rw [if_neg (by omega), if_pos (by omega), if_pos (by omega)]
    exact (A _ (by omega) (by omega)).trans (congrArg d (by omega))
  by_cases c4 : t < hi
  · rw [if_neg (by omega), if_neg (by omega), if_neg (by omega), if_pos (by omega)]
    exact (B _ (by omega) (by omega)).trans (congrArg d (by omega))
  · rw [if_neg (by omega), if_neg (by omega), if_neg (by omega), if_neg (by omega)]
    exact C t (by omega) (by omega)

theorem rot_end {d d2 : Nat → Nat} {lo m hi i : Nat} (h1 : lo + i = m) (h2 : m + i = hi)
    (A : ∀ t, lo ≤ t → t < lo + i → d2 t = d (t + (m - lo))) (B : ∀ t, m ≤ t → t < m + i → d2 t = d (t - (m - lo))) (C : ∀ t, ¬ (lo ≤ t ∧ t < lo + i) → ¬ (m ≤ t ∧ t < m + i) → d2 t = d t) (t : Nat) :
    d2 t = rotF d lo m hi t := by
  unfold rotF
  by_cases c1 : lo ≤ t ∧ t < lo + (hi - m)
  · rw [if_pos c1]; exact A t (by omega) (by omega)
  by_cases c2 : lo + (hi - m) ≤ t ∧ t < hi
  · rw [if_neg c1, if_pos c2]; exact (B t (by omega) (by omega)).trans (congrArg d (by omega))
  · rw [if_neg c1, if_neg c2]; exact C t (by omega) (by omega)

set_option maxRecDepth 1000000 in
set_option maxHeartbeats 1000000 in
theorem rotate_ok (w0 : World) (k n c a m b : Nat) (fv : Value) (hn : n ≤ 1000) (ha : a < m) (hm : m < b) (hb : b ≤ n) (d : Nat → Nat) (w : World) (h : St w0 k n d w) :
    Calls Tryz.prog 107 #[.slice (some ⟨k, 0, none⟩) n c, .int .i64 a, .int .i64 m, .int .i64 b, fv] w fun e w' =>
      e = .returned (.tuple #[]) ∧ St w0 k n (rotF d a m b) w' := by
  have s1 : (m : Int) - (a : Int) = ((m - a : Nat) : Int) := by omega
  have s2 : (b : Int) - (m : Int) = ((b - m : Nat) : Int) := by omega
  go_enter Tryz.func107, Tryz.ntmps107
  go_wp2
  go_loopw [10, 11] (fun i j wr => ∃ (p q : Nat) (d' : Nat → Nat), i = .int .i64 p ∧ j = .int .i64 q ∧ 0 < p ∧ 0 < q ∧ a + p ≤ m ∧ m + q ≤ b ∧ St w0 k n d' wr ∧ ∀ t, rotF d' (m - p) m (m + q) t = rotF d a m b t) (fun i j _ => (intOf i).toNat + (intOf j).toNat)
  case atStart => exact ⟨m - a, b - m, d, by congr 1, by congr 1, by omega, by omega, by omega, by omega, h, fun t => by rw [show m - (m - a) = a by omega, show m + (b - m) = b by omega]⟩
  case round =>
    obtain ⟨p, q, d', rfl, rfl, hp, hq, hpa, hqb, hs, hr⟩ := hrel
    have HR := hid hr
    have HS := hid hs
    clear hr h hs
    by_cases heq : p = q
    · subst heq
      have t1 : (m : Int) - (p : Int) = ((m - p : Nat) : Int) := by omega
      go_wp2_with fail
      refine (swapRange_ok w0 k n c (m - p) m p fv hn (by omega) (by omega) d' wr HS.out).mono ?_
      rintro e w2 ⟨rfl, d2, S2, h1, h2⟩
      obtain ⟨A, B, C⟩ := swapped (by omega) h1 h2
      go_wp2
      go_end0
      refine ⟨rfl, S2.alike fun t _ => ?_⟩
      rw [← HR.out t]
      exact (rot_end (by omega) (by omega) A B C t).symm
    · have hne : ¬ (p : Int) = (q : Int) := by omega
      by_cases hgt : p > q
      · have hgt' : (p : Int) > (q : Int) := by omega
        have t1 : (m : Int) - (p : Int) = ((m - p : Nat) : Int) := by omega
        have t3 : (p : Int) - (q : Int) = ((p - q : Nat) : Int) := by omega
        go_wp2_with fail
        refine (swapRange_ok w0 k n c (m - p) m q fv hn (by omega) (by omega) d' wr HS.out).mono ?_
        rintro e w2 ⟨rfl, d2, S2, h1, h2⟩
        obtain ⟨A, B, C⟩ := swapped (by omega) h1 h2
        clear h1 h2
        have HA := hid A
        have HB := hid B
        have HC := hid C
        have HS2 := hid S2
        clear A B C S2
        go_wp2
        go_roundw
        case rel =>
          refine ⟨p - q, q, d2, by congr 1, rfl, by omega, hq, by omega, hqb, HS2.out, fun t => ?_⟩
          rw [← HR.out t]
          have e1 : m - (p - q) = m - p + (m + q - m) := by omega
          have e2 : q = m + q - m := by omega
          rw [e1]
          refine rot_left (by omega) (by omega) ?_ ?_ ?_ t
          · rw [← e2]; exact HA.out
          · rw [← e2]; exact HB.out
          · rw [← e2]; exact HC.out
        case measure => simp [intOf]; omega
      · have hgt' : ¬ (p : Int) > (q : Int) := by omega
        have t1 : (m : Int) - (p : Int) = ((m - p : Nat) : Int) := by omega
        have t2 : (m : Int) + (q : Int) - (p : Int) = ((m + q - p : Nat) : Int) := by omega
        have t3 : (q : Int) - (p : Int) = ((q - p : Nat) : Int) := by omega
        go_wp2_with fail
        refine (swapRange_ok w0 k n c (m - p) (m + q - p) p fv hn (by omega) (by omega) d' wr HS.out).mono ?_
        rintro e w2 ⟨rfl, d2, S2, h1, h2⟩
        obtain ⟨A, B, C⟩ := swapped (by omega) h1 h2
        clear h1 h2
        have HA := hid A
        have HB := hid B
        have HC := hid C
        have HS2 := hid S2
        clear A B C S2
        go_wp2
        go_roundw
        case rel =>
          refine ⟨p, q - p, d2, rfl, by congr 1, hp, by omega, hpa, by omega, HS2.out, fun t => ?_⟩
          rw [← HR.out t]
          have e1 : m + (q - p) = m + q - p := by omega
          rw [e1]
          exact rot_right (by omega) (by omega) (by omega) HA.out HB.out HC.out t
        case measure => simp [intOf]; omega
end Go.Proofs.YtmfdlkkligjcbaaGreat
namespace Go.Proofs.YtmfdlkkligjcbaaGreat
open Go.RowKit





/-- the comparison at places: one function of them, told in every world of the sort -/
def CmpOk (w0 : World) (k n : Nat) (cb : Addr) (cf : Nat → Nat → Int) : Prop :=
  ∀ w, w0.grownBy w (some k) → ∀ x y, x < n → y < n → Calls Tryz.prog 97 #[.int .i64 (x : Nat), .int .i64 (y : Nat), .pointer (some cb)] w fun e w' => e = .returned (.int .i64 (cf x y)) ∧ Below w.heap.size w w'

/-- the order that it tells: a later place goes ahead of an earlier one if the comparison says so, else behind -/
structure Ord (n : Nat) (cf : Nat → Nat → Int) (L : Nat → Nat → Prop) : Prop where
  irr : ∀ x, ¬ L x x
  trans : ∀ x y z, x < n → y < n → z < n → L x y → L y z → L x z
  ahead : ∀ x y, y < x → x < n → cf x y < 0 → L x y
  behind : ∀ x y, y < x → x < n → ¬ cf x y < 0 → L y x

def Sorted (L : Nat → Nat → Prop) (d : Nat → Nat) (a b : Nat) : Prop := ∀ i j, a ≤ i → i < j → j < b → L (d i) (d j)
def From (d' d : Nat → Nat) (a b : Nat) : Prop := ∀ i, a ≤ i → i < b → ∃ j, a ≤ j ∧ j < b ∧ d' i = d j
def Same (d' d : Nat → Nat) (a b : Nat) : Prop := ∀ i, ¬ (a ≤ i ∧ i < b) → d' i = d i

/-- x, from place i, put in at j: what stood in between moves up by one -/
def ins (d : Nat → Nat) (j i : Nat) : Nat → Nat := fun t => if t < j then d t else if t = j then d i else if t ≤ i then d (t - 1) else d t

theorem ins_here (d : Nat → Nat) (i t : Nat) : ins d i i t = d t := by
  unfold ins
  by_cases h : t < i
  · rw [if_pos h]
  · rw [if_neg h]
    by_cases g : t = i
    · rw [if_pos g, g]
    · rw [if_neg g, if_neg (by omega)]
theorem ins_down (d : Nat → Nat) (j i : Nat) (hj : j < i) (t : Nat) : swp (ins d (j + 1) i) (j + 1) j t = ins d j i t := by
  unfold swp ins
  by_cases h1 : t = j
  · subst h1
    rw [if_pos rfl, if_neg (by omega), if_pos rfl, if_neg (by omega), if_pos rfl]
  · rw [if_neg h1]
    by_cases h2 : t = j + 1
    · subst h2
      rw [if_pos rfl, if_pos (by omega), if_neg (by omega), if_neg (by omega), if_pos (by omega), Nat.add_sub_cancel]
    · rw [if_neg h2]
      by_cases h3 : t < j
      · rw [if_pos (by omega), if_pos h3]
      · rw [if_neg (by omega), if_neg h2, if_neg h3, if_neg h1]

theorem ins_done {n : Nat} {cf : Nat → Nat → Int} {L : Nat → Nat → Prop} (hO : Ord n cf L) {di dj d : Nat → Nat} {a q p : Nat} (hj : ∀ t, dj t = ins di q p t) (hl : ∀ t, q ≤ t → t < p → L (di p) (di t))
    (stop : q = a ∨ (a < q ∧ L (di (q - 1)) (di p))) (hqa : a ≤ q) (hqp : q ≤ p) (hv : ∀ t, a ≤ t → t ≤ p → di t < n) (h1 : Sorted L di a p) (h2 : From di d a p) (h3 : Same di d a p) :
    Sorted L dj a (p + 1) ∧ From dj d a (p + 1) ∧ Same dj d a (p + 1) := by
  refine ⟨fun i j hi hij hjp => ?_, fun i hi hip => ?_, fun i hi => ?_⟩
  · rw [hj i, hj j]
    unfold ins
    by_cases c1 : i < q
    · rw [if_pos c1]
      by_cases c2 : j < q
      · rw [if_pos c2]; exact h1 i j hi hij (by omega)
      · rw [if_neg c2]
        by_cases c3 : j = q
        · rw [if_pos c3]
          rcases stop with e | ⟨_, e⟩
          · omega
          · by_cases c4 : i = q - 1
            · rw [c4]; exact e
            · exact hO.trans _ _ _ (hv _ hi (by omega)) (hv _ (by omega) (by omega)) (hv _ (by omega) (Nat.le_refl _)) (h1 i (q - 1) hi (by omega) (by omega)) e
        · rw [if_neg c3, if_pos (by omega)]
          exact h1 i (j - 1) hi (by omega) (by omega)
    · rw [if_neg c1]
      by_cases c3 : i = q
      · rw [if_pos c3, if_neg (by omega), if_neg (by omega), if_pos (by omega)]; exact hl (j - 1) (by omega) (by omega)
      · rw [if_neg c3, if_pos (by omega), if_neg (by omega), if_neg (by omega), if_pos (by omega)]
        exact h1 (i - 1) (j - 1) (by omega) (by omega) (by omega)
  · have old : ∀ t, a ≤ t → t ≤ p → ∃ s, a ≤ s ∧ s < p + 1 ∧ di t = d s := fun t t1 t2 => by
      by_cases e : t = p
      · exact ⟨p, by omega, by omega, by rw [e]; exact h3 p (by omega)⟩
      · obtain ⟨s, s1, s2, s3⟩ := h2 t t1 (by omega)
        exact ⟨s, s1, by omega, s3⟩
    rw [hj i]
    unfold ins
    by_cases c1 : i < q
    · rw [if_pos c1]; exact old i hi (by omega)
    · rw [if_neg c1]
      by_cases c2 : i = q
      · rw [if_pos c2]; exact old p (by omega) (Nat.le_refl _)
      · rw [if_neg c2, if_pos (by omega)]; exact old (i - 1) (by omega) (by omega)
  · rw [hj i]
    unfold ins
    by_cases c1 : i < q
    · rw [if_pos c1]; exact h3 i (by omega)
    · rw [if_neg c1, if_neg (by omega), if_neg (by omega)]; exact h3 i (by omega)

set_option maxRecDepth 1000000 in
set_option maxHeartbeats 16000000 in
theorem insertion_ok (w0 : World) (k n c a b : Nat) (cb : Addr) (cf : Nat → Nat → Int) (L : Nat → Nat → Prop) (hO : Ord n cf L) (hcmp : CmpOk w0 k n cb cf) (hn : n ≤ 1000) (hab : a ≤ b) (hb : b ≤ n)
    (d : Nat → Nat) (hv : ∀ t, t < n → d t < n) (hup : ∀ s t, a ≤ s → s < t → t < b → d s < d t) (w : World) (h : St w0 k n d w) :
    Calls Tryz.prog 103 #[.slice (some ⟨k, 0, none⟩) n c, .int .i64 a, .int .i64 b, .func (.func 97) #[] #[.pointer (some cb)]] w fun e w' =>
      e = .returned (.tuple #[]) ∧ ∃ d', St w0 k n d' w' ∧ Sorted L d' a b ∧ From d' d a b ∧ Same d' d a b := by
  go_enter Tryz.func103, Tryz.ntmps103
  go_wp2
  go_loopw [8] (fun i wr => ∃ (p : Nat) (di : Nat → Nat), i = .int .i64 p ∧ a + 1 ≤ p ∧ (p ≤ b ∨ p = a + 1) ∧ St w0 k n di wr ∧ Sorted L di a p ∧ From di d a p ∧ Same di d a p) (fun i _ => n + 1 - (intOf i).toNat)
  case atStart => exact ⟨a + 1, d, by congr 1, Nat.le_refl _, .inr rfl, h, fun i j h1 h2 h3 => by omega, fun i h1 h2 => ⟨i, h1, h2, rfl⟩, fun _ _ => rfl⟩
  case round =>
    obtain ⟨p, di, rfl, hp, hpb, hs, h1, h2, h3⟩ := hrel
    have H1 := hid h1
    have H2 := hid h2
    have H3 := hid h3
    have HS := hid hs
    have HV := hid hv
    have HU := hid hup
    clear h1 h2 h3 h hs hv hup
    by_cases hlt : p < b
    · have hlt' : (p : Int) < (b : Int) := by omega
      have dip : di p = d p := H3.out p (by omega)
      have old : ∀ t, a ≤ t → t < p → ∃ s, a ≤ s ∧ s < p ∧ di t = d s := H2.out
      have less : ∀ t, a ≤ t → t < p → di t < di p ∧ di p < n := fun t ht1 ht2 => by
        obtain ⟨s, hs1, hs2, e⟩ := old t ht1 ht2
        rw [e, dip]
        exact ⟨HU.out s p hs1 hs2 hlt, HV.out p (by omega)⟩
      have vv : ∀ t, a ≤ t → t ≤ p → di t < n := fun t t1 t2 => by
        by_cases e : t = p
        · rw [e, dip]; exact HV.out p (by omega)
        · have := less t t1 (by omega); omega
      have VV := hid vv
      clear vv
      have HL := hid less
      clear less old
      obtain ⟨x, hx⟩ : ∃ x, di p = x := ⟨_, rfl⟩
      go_wp2
      go_loopw [9] (fun j w2 => ∃ (q : Nat) (dj : Nat → Nat), j = .int .i64 q ∧ a ≤ q ∧ q ≤ p ∧ St w0 k n dj w2 ∧ (∀ t, dj t = ins di q p t) ∧ ∀ t, q ≤ t → t < p → L (di p) (di t)) (fun j _ => (intOf j).toNat)
      case atStart => exact ⟨p, di, rfl, by omega, Nat.le_refl _, HS.out, fun t => (ins_here di p t).symm, fun t h1 h2 => by omega⟩
      case round =>
        obtain ⟨q, dj, rfl, hqa, hqp, hs2, hj1, hj2⟩ := hrel
        have HJ1 := hid hj1
        have HJ2 := hid hj2
        have HS2 := hid hs2
        clear hj1 hj2
        by_cases hqa' : a < q
        · obtain ⟨q, rfl⟩ : ∃ r, q = r + 1 := ⟨q - 1, by omega⟩
          have hg : (a : Int) < (q : Int) + 1 := by omega
          obtain ⟨y, hy⟩ : ∃ y, di q = y := ⟨_, rfl⟩
          have vx : dj (q + 1) = x := by rw [HJ1.out]; unfold ins; rw [if_neg (by omega), if_pos rfl, hx]
          have vy : dj q = y := by rw [HJ1.out]; unfold ins; rw [if_pos (by omega), hy]
          have hyx := HL.out q (by omega) (by omega)
          rw [hx, hy] at hyx
          have hxn : x < n := hyx.2
          have hyn : y < n := by omega
          have c1 : ∀ s : Since wr, s.at_.cell? ⟨k, q + 1, none⟩ = some (.int .i64 (x : Nat)) := fun s => by have := (HS2.out.below s.bel).cell (q + 1) (by omega); rwa [vx] at this
          have c2 : ∀ s : Since wr, s.at_.cell? ⟨k, q, none⟩ = some (.int .i64 (y : Nat)) := fun s => by have := (HS2.out.below s.bel).cell q (by omega); rwa [vy] at this
          have g1 : (q : Int) + 1 < (n : Int) := by omega
          have g3 : 0 ≤ (q : Int) + 1 := by omega
          have g5 : IntKind.i64.wrap (q : Int) = (q : Int) := by rw [IntKind.wrap_i64]; omega
          have g4 : ((q : Int) + 1).toNat = q + 1 := by omega
          have g2 : (q : Int) < (n : Int) := by omega
          have hc : ∀ s : Since wr, w0.grownBy s.at_ (some k) := fun s => (HS2.out.below s.bel).grown
          clear hs2
          go_wp2_with fail
          refine wp_region_since (by kernel_rfl) (by kernel_rfl) ?_
          repeat (quiet_step (first | (go_at_call 97; refine Calls.since _ (hcmp _ (hc _) x y hxn hyn))))
          refine wpQuiet_nil ?_
          intro _ hw'
          obtain ⟨s, rfl⟩ := hw'
          have HS3 := hid (HS2.out.below s.bel)
          clear c1 c2 hc HS2
          generalize s.at_ = w3 at HS3 ⊢
          by_cases hcf : cf x y < 0
          · have c1 := HS3.out.cell (q + 1) (by omega)
            have c2 := HS3.out.cell q (by omega)
            have f1 := HS3.out.free (q + 1) (by omega)
            have f2 := HS3.out.free q (by omega)
            rw [vx] at c1
            rw [vy] at c2
            go_wp2
            go_region
            go_wp2
            go_roundw
            case rel =>
              refine ⟨q, swp dj (q + 1) q, rfl, by omega, by omega, ?_, ?_, ?_⟩
              · have := HS3.out.swp (i := q + 1) (j := q) (by omega) (by omega)
                rw [vx, vy] at this
                exact this.drew
              · intro t
                rw [← ins_down di q p (by omega) t]
                unfold swp
                rw [HJ1.out, HJ1.out, HJ1.out]
              · intro t h1 h2
                by_cases e : t = q
                · subst e
                  rw [hx, hy]
                  exact hO.ahead x y hyx.1 hxn hcf
                · exact HJ2.out t (by omega) h2
            case measure => simp [intOf]
          · go_wp2
            go_roundw
            case rel =>
              obtain ⟨r1, r2, r3⟩ := ins_done hO (a := a) (q := q + 1) (p := p) HJ1.out HJ2.out (.inr ⟨by omega, by rw [Nat.add_sub_cancel, hx, hy]; exact hO.behind x y hyx.1 hxn hcf⟩) (by omega) hqp VV.out H1.out H2.out H3.out
              exact ⟨p + 1, dj, rfl, by omega, by omega, HS3.out, r1, r2, r3⟩
            case measure => simp [intOf]; omega
        · have : q = a := by omega
          subst this
          have hg : decide ((q : Int) < (q : Int)) = false := by simp
          go_wp2_with fail
          go_region
          go_wp2
          go_roundw
          case rel =>
            obtain ⟨r1, r2, r3⟩ := ins_done hO (a := q) (q := q) (p := p) HJ1.out HJ2.out (.inl rfl) (by omega) hqp VV.out H1.out H2.out H3.out
            exact ⟨p + 1, dj, rfl, by omega, by omega, HS2.out.drew, r1, r2, r3⟩
          case measure => simp [intOf]; omega
    · have hlt' : ¬ (p : Int) < (b : Int) := by omega
      go_wp2
      go_end0
      refine ⟨rfl, di, HS.out, ?_, ?_, ?_⟩
      · exact fun i j h1 h2 h3 => H1.out i j h1 h2 (by omega)
      · intro i h1 h2
        obtain ⟨j, e1, e2, e3⟩ := H2.out i h1 (by omega)
        refine ⟨j, e1, ?_, e3⟩
        omega
      · intro i h1
        by_cases hi : a ≤ i ∧ i < p
        · obtain ⟨j, e1, e2, e3⟩ := H2.out i hi.1 hi.2
          rw [e3]
          congr 1
          omega
        · exact H3.out i hi
end Go.Proofs.YtmfdlkkligjcbaaGreat
namespace Go.Proofs.YtmfdlkkligjcbaaGreat
open Go.RowKit

/-- the number at a, moved up to q: what stood in between moves down by one -/
def up (d : Nat → Nat) (a q : Nat) : Nat → Nat := fun t => if t < a then d t else if t < q then d (t + 1) else if t = q then d a else d t
theorem up_out (d : Nat → Nat) (a q t : Nat) (hq : a ≤ q) (h : t < a ∨ q < t) : up d a q t = d t := by
  unfold up
  rcases h with h | h
  · rw [if_pos h]
  · rw [if_neg (show ¬ t < a by omega), if_neg (show ¬ t < q by omega), if_neg (show ¬ t = q by omega)]
theorem up_in (d : Nat → Nat) (a q t : Nat) (h : a ≤ t) (g : t < q) : up d a q t = d (t + 1) := by
  unfold up; rw [if_neg (show ¬ t < a by omega), if_pos g]
theorem up_at (d : Nat → Nat) (a q : Nat) (h : a ≤ q) : up d a q q = d a := by
  unfold up; rw [if_neg (show ¬ q < a by omega), if_neg (Nat.lt_irrefl q), if_pos rfl]
theorem up_here (d : Nat → Nat) (a t : Nat) : up d a a t = d t := by
  by_cases h : t = a
  · rw [h]; exact up_at d a a (Nat.le_refl _)
  · exact up_out d a a t (Nat.le_refl _) (by omega)
theorem up_step (d : Nat → Nat) (a q : Nat) (hq : a ≤ q) (t : Nat) : swp (up d a q) q (q + 1) t = up d a (q + 1) t := by
  unfold swp up
  by_cases h1 : t = q + 1
  · rw [if_pos h1, if_neg (by omega), if_neg (by omega), if_pos rfl, if_neg (by omega), if_neg (by omega), if_pos h1]
  · rw [if_neg h1]
    by_cases h2 : t = q
    · rw [if_pos h2, if_neg (by omega), if_neg (by omega), if_neg (by omega), if_neg (by omega), if_pos (by omega), h2]
    · rw [if_neg h2]
      by_cases h3 : t < a
      · rw [if_pos h3, if_pos h3]
      · rw [if_neg h3, if_neg h3]
        by_cases h4 : t < q
        · rw [if_pos h4, if_pos (by omega)]
        · rw [if_neg h4, if_neg h2, if_neg (by omega), if_neg h1]

section
variable {n : Nat} {cf : Nat → Nat → Int} {L : Nat → Nat → Prop} {d d2 d3 d4 : Nat → Nat} {a b m : Nat}

/-- the first of all is put in where it belongs -/
theorem up_done (hO : Ord n cf L) {i : Nat} (hi : a + 1 ≤ i) (hib : i ≤ b) (hv : ∀ t, a ≤ t → t < b → d t < n) (hs : Sorted L d (a + 1) b) (h1 : ∀ t, a + 1 ≤ t → t < i → L (d t) (d a)) (h2 : ∀ t, i ≤ t → t < b → L (d a) (d t))
    (hd : ∀ t, d2 t = up d a (i - 1) t) : Sorted L d2 a b ∧ From d2 d a b ∧ Same d2 d a b := by
  have _ := hO
  have _ := hv
  refine ⟨fun x y hx hxy hy => ?_, fun x hx hxb => ?_, fun x hx => ?_⟩
  · rw [hd x, hd y]
    by_cases c1 : x < i - 1
    · rw [up_in d a _ x hx c1]
      by_cases c2 : y < i - 1
      · rw [up_in d a _ y (by omega) c2]; exact hs _ _ (by omega) (by omega) (by omega)
      · by_cases c3 : y = i - 1
        · rw [c3, up_at d a _ (by omega)]; exact h1 _ (by omega) (by omega)
        · rw [up_out d a _ y (by omega) (by omega)]; exact hs _ _ (by omega) (by omega) hy
    · rw [up_out d a _ y (by omega) (by omega)]
      by_cases c3 : x = i - 1
      · rw [c3, up_at d a _ (by omega)]; exact h2 _ (by omega) hy
      · rw [up_out d a _ x (by omega) (by omega)]; exact hs _ _ (by omega) hxy hy
  · rw [hd x]
    by_cases c1 : x < i - 1
    · rw [up_in d a _ x hx c1]; exact ⟨x + 1, by omega, by omega, rfl⟩
    · by_cases c3 : x = i - 1
      · rw [c3, up_at d a _ (by omega)]; exact ⟨a, by omega, by omega, rfl⟩
      · rw [up_out d a _ x (by omega) (by omega)]; exact ⟨x, hx, hxb, rfl⟩
  · rw [hd x]
    exact up_out d a _ x (by omega) (by omega)

/-- what holds behind the turn in the middle -/
structure Mid (L : Nat → Nat → Prop) (d d2 : Nat → Nat) (a s mid e b : Nat) : Prop where
  s1 : Sorted L d2 a s
  s2 : Sorted L d2 s mid
  s3 : Sorted L d2 mid e
  s4 : Sorted L d2 e b
  cross : ∀ i j, a ≤ i → i < mid → mid ≤ j → j < b → L (d2 i) (d2 j)
  up1 : ∀ i j, a ≤ i → i < s → s ≤ j → j < mid → d2 i < d2 j
  up2 : ∀ i j, mid ≤ i → i < e → e ≤ j → j < b → d2 i < d2 j
  src : From d2 d a b
  same : Same d2 d a b

theorem mid_of (hO : Ord n cf L) {s mid e s0 r0 : Nat} (ham : a < m) (hmb : m < b) (has : a ≤ s0) (hs0 : s0 ≤ s) (hr0 : s ≤ r0) (hrm : r0 ≤ m) (hrd : r0 ≤ mid) (hmid : mid ≤ b) (hend : mid + m ≤ b + s0) (hse : s0 = a ∨ mid + m = b + s0) (hre : r0 = m ∨ r0 = mid)
    (he : e = mid + m - s) (hv : ∀ t, a ≤ t → t < b → d t < n) (h1 : Sorted L d a m) (h2 : Sorted L d m b) (hup : ∀ i j, a ≤ i → i < m → m ≤ j → j < b → d i < d j)
    (lo : ∀ c, s0 ≤ c → c < s → L (d c) (d (mid + m - 1 - c))) (hi : ∀ c, s ≤ c → c < r0 → L (d (mid + m - 1 - c)) (d c)) : Mid L d (rotF d s m e) a s mid e b := by
  have p1 : ∀ t, t < s → rotF d s m e t = d t := fun t ht => by unfold rotF; rw [if_neg (by omega), if_neg (by omega)]
  have p2 : ∀ t, s ≤ t → t < mid → rotF d s m e t = d (t + (m - s)) := fun t h3 h4 => by unfold rotF; rw [if_pos (by omega)]
  have p3 : ∀ t, mid ≤ t → t < e → rotF d s m e t = d (t - (mid - s)) := fun t h3 h4 => by
    unfold rotF; rw [if_neg (by omega), if_pos (by omega)]; congr 1; omega
  have p4 : ∀ t, e ≤ t → rotF d s m e t = d t := fun t ht => by unfold rotF; rw [if_neg (by omega), if_neg (by omega)]
  have low : ∀ i j, a ≤ i → i < s → e ≤ j → j < b → L (d i) (d j) := fun i j g1 g2 g3 g4 => by
    by_cases c : s0 < s
    · have k := lo (s - 1) (by omega) (by omega)
      have e1 : mid + m - 1 - (s - 1) = e := by omega
      rw [e1] at k
      have k2 : L (d i) (d e) := by
        by_cases c2 : i = s - 1
        · rw [c2]; exact k
        · exact hO.trans _ _ _ (hv _ g1 (by omega)) (hv _ (by omega) (by omega)) (hv _ (by omega) (by omega)) (h1 i (s - 1) g1 (by omega) (by omega)) k
      by_cases c3 : j = e
      · rw [c3]; exact k2
      · exact hO.trans _ _ _ (hv _ g1 (by omega)) (hv _ (by omega) (by omega)) (hv _ (by omega) g4) k2 (h2 e j (by omega) (by omega) g4)
    · omega
  have high : ∀ i j, m ≤ i → i < e → s ≤ j → j < m → L (d i) (d j) := fun i j g1 g2 g3 g4 => by
    by_cases c : s < r0
    · have k := hi s (Nat.le_refl _) c
      have e1 : mid + m - 1 - s = e - 1 := by omega
      rw [e1] at k
      have k2 : L (d i) (d s) := by
        by_cases c2 : i = e - 1
        · rw [c2]; exact k
        · exact hO.trans _ _ _ (hv _ (by omega) (by omega)) (hv _ (by omega) (by omega)) (hv _ (by omega) (by omega)) (h2 i (e - 1) g1 (by omega) (by omega)) k
      by_cases c3 : j = s
      · rw [c3]; exact k2
      · exact hO.trans _ _ _ (hv _ (by omega) (by omega)) (hv _ (by omega) (by omega)) (hv _ (by omega) (by omega)) k2 (h1 s j (by omega) (by omega) g4)
    · omega
  refine ⟨fun i j g1 g2 g3 => ?_, fun i j g1 g2 g3 => ?_, fun i j g1 g2 g3 => ?_, fun i j g1 g2 g3 => ?_, fun i j g1 g2 g3 g4 => ?_, fun i j g1 g2 g3 g4 => ?_, fun i j g1 g2 g3 g4 => ?_, fun i g1 g2 => ?_, fun i g1 => ?_⟩
  · rw [p1 i (by omega), p1 j g3]; exact h1 i j g1 g2 (by omega)
  · rw [p2 i g1 (by omega), p2 j (by omega) g3]; exact h2 _ _ (by omega) (by omega) (by omega)
  · rw [p3 i g1 (by omega), p3 j (by omega) g3]; exact h1 _ _ (by omega) (by omega) (by omega)
  · rw [p4 i g1, p4 j (by omega)]; exact h2 i j (by omega) g2 g3
  · by_cases c1 : i < s
    · rw [p1 i c1]
      by_cases c2 : j < e
      · rw [p3 j g3 c2]; exact h1 _ _ g1 (by omega) (by omega)
      · rw [p4 j (by omega)]; exact low i j g1 c1 (by omega) g4
    · rw [p2 i (by omega) g2]
      by_cases c2 : j < e
      · rw [p3 j g3 c2]; exact high _ _ (by omega) (by omega) (by omega) (by omega)
      · rw [p4 j (by omega)]; exact h2 _ _ (by omega) (by omega) g4
  · rw [p1 i g2, p2 j g3 g4]; exact hup _ _ g1 (by omega) (by omega) (by omega)
  · rw [p3 i g1 g2, p4 j g3]; exact hup _ _ (by omega) (by omega) (by omega) g4
  · by_cases c1 : i < s
    · exact ⟨i, g1, g2, p1 i c1⟩
    by_cases c2 : i < mid
    · exact ⟨_, by omega, by omega, p2 i (by omega) c2⟩
    by_cases c3 : i < e
    · exact ⟨_, by omega, by omega, p3 i (by omega) c3⟩
    · exact ⟨i, g1, g2, p4 i (by omega)⟩
  · by_cases c1 : i < s
    · exact p1 i c1
    · exact p4 i (by omega)

/-- nothing to turn: as it was -/
theorem rot_same {s e : Nat} (hs : s ≤ m) (he : m ≤ e) (h : s = m ∨ m = e) (t : Nat) : rotF d s m e t = d t := by
  unfold rotF
  by_cases c1 : s ≤ t ∧ t < s + (e - m)
  · rw [if_pos c1]; congr 1; omega
  · rw [if_neg c1]
    by_cases c2 : s + (e - m) ≤ t ∧ t < e
    · rw [if_pos c2]; congr 1; omega
    · rw [if_neg c2]

/-- a run is in order, with what it had -/
def Done (L : Nat → Nat → Prop) (d' d : Nat → Nat) (a b : Nat) : Prop := Sorted L d' a b ∧ From d' d a b ∧ Same d' d a b
theorem done_refl (h : Sorted L d a b) : Done L d d a b := ⟨h, fun i h1 h2 => ⟨i, h1, h2, rfl⟩, fun _ _ => rfl⟩

theorem left_done {s mid e : Nat} (M : Mid L d d2 a s mid e b) (has : a ≤ s) (hs : s ≤ mid) (h : ¬ (a < s ∧ s < mid)) : Done L d2 d2 a mid := by
  refine done_refl fun i j g1 g2 g3 => ?_
  by_cases c : a < s
  · exact M.s1 i j g1 g2 (by omega)
  · exact M.s2 i j (by omega) g2 g3
theorem right_done {s mid e : Nat} (M : Mid L d d2 a s mid e b) (D : Done L d3 d2 a mid) (hme : mid ≤ e) (heb : e ≤ b) (h : ¬ (mid < e ∧ e < b)) : Done L d3 d3 mid b := by
  refine done_refl fun i j g1 g2 g3 => ?_
  rw [D.2.2 i (by omega), D.2.2 j (by omega)]
  by_cases c : mid < e
  · exact M.s3 i j g1 g2 (by omega)
  · exact M.s4 i j (by omega) g2 g3
theorem sym_done {s mid e : Nat} (M : Mid L d d2 a s mid e b) (D : Done L d3 d2 a mid) (E : Done L d4 d3 mid b) (h1 : a ≤ mid) (h2 : mid ≤ b) : Done L d4 d a b := by
  refine ⟨fun i j g1 g2 g3 => ?_, fun i g1 g2 => ?_, fun i g1 => ?_⟩
  · by_cases c1 : j < mid
    · rw [E.2.2 i (by omega), E.2.2 j (by omega)]; exact D.1 i j g1 g2 c1
    by_cases c2 : mid ≤ i
    · exact E.1 i j c2 g2 g3
    · rw [E.2.2 i (by omega)]
      obtain ⟨x, x1, x2, ex⟩ := D.2.1 i g1 (by omega)
      obtain ⟨y, y1, y2, ey⟩ := E.2.1 j (by omega) g3
      rw [ex, ey, D.2.2 y (by omega)]
      exact M.cross x y x1 x2 y1 y2
  · by_cases c1 : i < mid
    · rw [E.2.2 i (by omega)]
      obtain ⟨x, x1, x2, ex⟩ := D.2.1 i g1 c1
      obtain ⟨y, y1, y2, ey⟩ := M.src x x1 (by omega)
      exact ⟨y, y1, y2, ex.trans ey⟩
    · obtain ⟨x, x1, x2, ex⟩ := E.2.1 i (by omega) g2
      obtain ⟨y, y1, y2, ey⟩ := M.src x (by omega) x2
      exact ⟨y, y1, y2, by rw [ex, D.2.2 x (by omega), ey]⟩
  · rw [E.2.2 i (by omega), D.2.2 i (by omega), M.same i g1]
end
end Go.Proofs.YtmfdlkkligjcbaaGreat
