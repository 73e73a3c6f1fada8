/-
  What is proved: the exchange of two runs of a slice's places, as slices.swapRangeCmpFunc does it: what lay in the one lies in the other, the rest stays. Condition: the runs lie within, apart from one another.
-/
import Derived.Test.YtibppolcchhmaaaK02
import Derived.Test.YtibppolcchhmaaaRows
import Derived.BigRegion
import Derived.BigQuiet
import Derived.Deep.QuietTactic
import Derived.RegionTactic
namespace Go.Proofs.Ytibppolcchhmaaa

open Go.RowKit

/-- the world w came from w0 by turns of block k alone, whose cells 0 .. n-1 hold d's numbers -/
structure St (w0 : World) (k n : Nat) (d : Nat → Nat) (w : World) : Prop where
  grown : w0.grownBy w (some k)
  lt : k < w0.heap.size
  cell : ∀ i, i < n → w.cell? ⟨k, i, none⟩ = some (.int .i64 (d i : Nat))
  free : ∀ i, i < n → w.frozen? ⟨k, i, none⟩ = false

def swp (d : Nat → Nat) (i j : Nat) : Nat → Nat := fun t => if t = j then d i else if t = i then d j else d t

section
variable {w0 w w' : World} {k n : Nat} {d d' : Nat → Nat}
theorem St.here (h : St w0 k n d w) : k < w.heap.size := Nat.lt_of_lt_of_le h.lt h.grown.size
theorem St.below (h : St w0 k n d w) (hb : Below w.heap.size w w') : St w0 k n d w' where
  grown := h.grown.trans ⟨hb.os, hb.tape, hb.output, hb.size, fun j hj _ => hb.block j hj⟩
  lt := h.lt
  cell := fun i hi => (hb.cell (p := ⟨k, i, none⟩) h.here).trans (h.cell i hi)
  free := fun i hi => (hb.frozen (p := ⟨k, i, none⟩) h.here).trans (h.free i hi)
theorem St.drewN (h : St w0 k n d w) (m : Nat) : St w0 k n d (w.drewN m) := h.below (below_drewN' w m)
  where below_drewN' (w : World) (m : Nat) : Below w.heap.size w (w.drewN m) := ⟨rfl, rfl, rfl, Nat.le_refl _, fun _ _ => rfl⟩
theorem St.drew (h : St w0 k n d w) : St w0 k n d w.drew := h.below (Below.refl _ _).drew
theorem St.alike (h : St w0 k n d w) (hd : ∀ i, i < n → d' i = d i) : St w0 k n d' w := ⟨h.grown, h.lt, fun i hi => by rw [hd i hi]; exact h.cell i hi, h.free⟩
theorem St.set (h : St w0 k n d w) {i : Nat} (hi : i < n) (x : Nat) : St w0 k n (fun t => if t = i then x else d t) (w.setCell ⟨k, i, none⟩ (.int .i64 (x : Nat))) where
  grown := h.grown.trans (grown_set w ⟨k, i, none⟩ _)
  lt := h.lt
  cell := fun t ht => by
    by_cases e : t = i
    · subst e
      rw [World.cell?_setCell_same _ _ _ (h.cell t ht), if_pos rfl]
    · rw [World.cell?_setCell_other _ _ _ _ (by intro q; injection q with _ q; exact e q.symm), if_neg e]
      exact h.cell t ht
  free := fun t ht => by rw [World.frozen?_setCell]; exact h.free t ht
  where grown_set (w : World) (a : Addr) (u : Value) : w.grownBy (w.setCell a u) (some a.block) := by
          refine ⟨rfl, rfl, rfl, by unfold World.setCell; split <;> simp, fun j hj hne => ?_⟩
          exact Below.heap_setCell w a u j (by intro e; exact hne (by rw [e]))
theorem St.swp (h : St w0 k n d w) {i j : Nat} (hi : i < n) (hj : j < n) :
    St w0 k n (swp d i j) ((w.setCell ⟨k, i, none⟩ (.int .i64 (d j : Nat))).setCell ⟨k, j, none⟩ (.int .i64 (d i : Nat))) :=
  ((h.set hi (d j)).set hj (d i)).alike fun _ _ => rfl
end

set_option maxRecDepth 1000000 in
set_option maxHeartbeats 1000000 in
theorem swapRange_ok (w0 : World) (k n c a b m : Nat) (fv : Value) (hn : n ≤ 1000) (ha : a + m ≤ b) (hb : b + m ≤ n) (d : Nat → Nat) (w : World) (h : St w0 k n d w) :
    Calls Try.prog 80 #[.slice (some ⟨k, 0, none⟩) n c, .int .i64 a, .int .i64 b, .int .i64 m, fv] w fun e w' =>
      e = .returned (.tuple #[]) ∧ ∃ d', St w0 k n d' w' ∧ (∀ t, t < m → d' (a + t) = d (b + t) ∧ d' (b + t) = d (a + t)) ∧ ∀ t, (∀ s, s < m → t ≠ a + s ∧ t ≠ b + s) → d' t = d t := by
  go_enter Try.func80, Try.ntmps80
  go_wp2
  go_loopw [10] (fun i wr => ∃ (q : Nat) (d' : Nat → Nat), i = .int .i64 q ∧ q ≤ m ∧ St w0 k n d' wr ∧ (∀ t, t < q → d' (a + t) = d (b + t) ∧ d' (b + t) = d (a + t)) ∧ ∀ t, (∀ s, s < q → t ≠ a + s ∧ t ≠ b + s) → d' t = d t) (fun i _ => m - (intOf i).toNat)
  case atStart => exact ⟨0, d, rfl, Nat.zero_le _, h, fun t ht => absurd ht (Nat.not_lt_zero t), fun _ _ => rfl⟩
  case round =>
    obtain ⟨q, d', rfl, hq, hs, h1, h2⟩ := hrel
    have H1 := hid h1
    have H2 := hid h2
    have HS := hid hs
    clear h1 h2 h
    by_cases hlt : q < m
    · have hlt' : (q : Int) < (m : Int) := by omega
      obtain ⟨x, hx⟩ : ∃ x, d' (a + q) = x := ⟨_, rfl⟩
      obtain ⟨y, hy⟩ : ∃ y, d' (b + q) = y := ⟨_, rfl⟩
      have ca := hs.cell (a + q) (by omega)
      have cb := hs.cell (b + q) (by omega)
      rw [hx] at ca
      rw [hy] at cb
      have fa := hs.free (a + q) (by omega)
      have fb := hs.free (b + q) (by omega)
      have g1 : 0 ≤ (a : Int) + (q : Int) := by omega
      have g2 : (a : Int) + (q : Int) < (n : Int) := by omega
      have g3 : ((a : Int) + (q : Int)).toNat = a + q := by omega
      have g4 : 0 ≤ (b : Int) + (q : Int) := by omega
      have g5 : (b : Int) + (q : Int) < (n : Int) := by omega
      have g6 : ((b : Int) + (q : Int)).toNat = b + q := by omega
      clear hs
      go_wp2
      go_region
      go_wp2
      go_roundw
      case rel =>
        refine ⟨q + 1, swp d' (a + q) (b + q), by congr 1, by omega, ?_, ?_, ?_⟩
        · have := HS.out.swp (i := a + q) (j := b + q) (by omega) (by omega)
          rw [hx, hy] at this
          exact this.drew
        · intro t ht
          unfold swp
          by_cases e : t = q
          · subst e
            have h2 := H2.out
            have p1 : d' (a + t) = d (a + t) := h2 _ fun s hs => by omega
            have p2 : d' (b + t) = d (b + t) := h2 _ fun s hs => by omega
            rw [if_neg (by omega), if_pos rfl, if_pos rfl, p1, p2]
            exact ⟨rfl, rfl⟩
          · rw [if_neg (by omega), if_neg (by omega), if_neg (by omega), if_neg (by omega)]
            exact H1.out t (by omega)
        · intro t ht
          have := ht q (by omega)
          unfold swp
          rw [if_neg (by omega), if_neg (by omega)]
          exact H2.out t fun s hs => ht s (by omega)
      case measure => simp [intOf]; omega
    · have hge : ¬ (q : Int) < (m : Int) := by omega
      have : q = m := by omega
      subst this
      go_wp2
      go_end0
      exact ⟨rfl, d', HS.out, H1.out, fun t ht => H2.out t fun s hs => ht s hs⟩
end Go.Proofs.Ytibppolcchhmaaa
/-
  What is proved: slices.rotateCmpFunc turns two neighbouring runs about; the rest stays. Condition: neither run is empty, they lie within.
-/
namespace Go.Proofs.Ytibppolcchhmaaa
open Go.RowKit

/-- the runs [a, m) and [m, b) turned about -/
def rotF (d : Nat → Nat) (a m b : Nat) : Nat → Nat := fun t => if a ≤ t ∧ t < a + (b - m) then d (t + (m - a)) else if a + (b - m) ≤ t ∧ t < b then d (t - (b - m)) else d t

/-- the runs of m places at a and at b, exchanged, point by point -/
theorem swapped {d d2 : Nat → Nat} {a b m : Nat} (hab : a + m ≤ b) (h1 : ∀ t, t < m → d2 (a + t) = d (b + t) ∧ d2 (b + t) = d (a + t)) (h2 : ∀ t, (∀ s, s < m → t ≠ a + s ∧ t ≠ b + s) → d2 t = d t) :
    (∀ t, a ≤ t → t < a + m → d2 t = d (t + (b - a))) ∧ (∀ t, b ≤ t → t < b + m → d2 t = d (t - (b - a))) ∧ ∀ t, ¬ (a ≤ t ∧ t < a + m) → ¬ (b ≤ t ∧ t < b + m) → d2 t = d t := by
  refine ⟨fun t h3 h4 => ?_, fun t h3 h4 => ?_, fun t h3 h4 => h2 t fun s hs => by omega⟩
  · have h := (h1 (t - a) (by omega)).1
    rw [show a + (t - a) = t by omega] at h
    exact h.trans (congrArg d (by omega))
  · have h := (h1 (t - b) (by omega)).2
    rw [show b + (t - b) = t by omega] at h
    exact h.trans (congrArg d (by omega))

theorem rot_left {d d2 : Nat → Nat} {lo m hi : Nat} (hlo : lo + (hi - m) < m) (hm : m < hi)
    (A : ∀ t, lo ≤ t → t < lo + (hi - m) → d2 t = d (t + (m - lo))) (B : ∀ t, m ≤ t → t < m + (hi - m) → d2 t = d (t - (m - lo))) (C : ∀ t, ¬ (lo ≤ t ∧ t < lo + (hi - m)) → ¬ (m ≤ t ∧ t < m + (hi - m)) → d2 t = d t) (t : Nat) :
    rotF d2 (lo + (hi - m)) m hi t = rotF d lo m hi t := by
  unfold rotF
  by_cases c1 : t < lo
  · rw [if_neg (by omega), if_neg (by omega), if_neg (by omega), if_neg (by omega)]
    exact C t (by omega) (by omega)
  by_cases c2 : t < lo + (hi - m)
  · rw [if_neg (by omega), if_neg (by omega), if_pos (by omega)]
    exact A t (by omega) c2
  by_cases c3 : t < lo + (hi - m) + (hi - m)
  · rw [if_pos (by omega), if_neg (by omega), if_pos (by omega)]
    exact (B _ (by omega) (by omega)).trans (congrArg d (by omega))
  by_cases c4 : t < hi
  · rw [if_neg (by omega), if_pos (by omega), if_neg (by omega), if_pos (by omega)]
    exact C _ (by omega) (by omega)
  · rw [if_neg (by omega), if_neg (by omega), if_neg (by omega), if_neg (by omega)]
    exact C t (by omega) (by omega)

theorem rot_right {d d2 : Nat → Nat} {lo m hi i : Nat} (hi1 : i = m - lo) (h0 : lo < m) (hm : m + i < hi)
    (A : ∀ t, lo ≤ t → t < lo + i → d2 t = d (t + (hi - i - lo))) (B : ∀ t, hi - i ≤ t → t < hi - i + i → d2 t = d (t - (hi - i - lo))) (C : ∀ t, ¬ (lo ≤ t ∧ t < lo + i) → ¬ (hi - i ≤ t ∧ t < hi - i + i) → d2 t = d t) (t : Nat) :
    rotF d2 lo m (hi - i) t = rotF d lo m hi t := by
  unfold rotF
  by_cases c1 : t < lo
  · rw [if_neg (by omega), if_neg (by omega), if_neg (by omega), if_neg (by omega)]
    exact C t (by omega) (by omega)
  by_cases c2 : t < lo + (hi - i - m)
  · rw [if_pos (by omega), if_pos (by omega)]
    exact C _ (by omega) (by omega)
  by_cases c3 : t < hi - i
  · rw [if_neg (by omega), if_pos (by omega), if_pos (by omega)]
    exact (A _ (by omega) (by omega)).trans (congrArg d (by omega))
  by_cases c4 : t < hi
  · rw [if_neg (by omega), if_neg (by omega), if_neg (by omega), if_pos (by omega)]
    exact (B _ (by omega) (by omega)).trans (congrArg d (by omega))
  · rw [if_neg (by omega), if_neg (by omega), if_neg (by omega), if_neg (by omega)]
    exact C t (by omega) (by omega)

theorem rot_end {d d2 : Nat → Nat} {lo m hi i : Nat} (h1 : lo + i = m) (h2 : m + i = hi)
    (A : ∀ t, lo ≤ t → t < lo + i → d2 t = d (t + (m - lo))) (B : ∀ t, m ≤ t → t < m + i → d2 t = d (t - (m - lo))) (C : ∀ t, ¬ (lo ≤ t ∧ t < lo + i) → ¬ (m ≤ t ∧ t < m + i) → d2 t = d t) (t : Nat) :
    d2 t = rotF d lo m hi t := by
  unfold rotF
  by_cases c1 : lo ≤ t ∧ t < lo + (hi - m)
  · rw [if_pos c1]; exact A t (by omega) (by omega)
  by_cases c2 : lo + (hi - m) ≤ t ∧ t < hi
  · rw [if_neg c1, if_pos c2]; exact (B t (by omega) (by omega)).trans (congrArg d (by omega))
  · rw [if_neg c1, if_neg c2]; exact C t (by omega) (by omega)

set_option maxRecDepth 1000000 in
set_option maxHeartbeats 1000000 in
theorem rotate_ok (w0 : World) (k n c a m b : Nat) (fv : Value) (hn : n ≤ 1000) (ha : a < m) (hm : m < b) (hb : b ≤ n) (d : Nat → Nat) (w : World) (h : St w0 k n d w) :
    Calls Try.prog 77 #[.slice (some ⟨k, 0, none⟩) n c, .int .i64 a, .int .i64 m, .int .i64 b, fv] w fun e w' =>
      e = .returned (.tuple #[]) ∧ St w0 k n (rotF d a m b) w' := by
  have s1 : (m : Int) - (a : Int) = ((m - a : Nat) : Int) := by omega
  have s2 : (b : Int) - (m : Int) = ((b - m : Nat) : Int) := by omega
  go_enter Try.func77, Try.ntmps77
  go_wp2
  go_loopw [10, 11] (fun i j wr => ∃ (p q : Nat) (d' : Nat → Nat), i = .int .i64 p ∧ j = .int .i64 q ∧ 0 < p ∧ 0 < q ∧ a + p ≤ m ∧ m + q ≤ b ∧ St w0 k n d' wr ∧ ∀ t, rotF d' (m - p) m (m + q) t = rotF d a m b t) (fun i j _ => (intOf i).toNat + (intOf j).toNat)
  case atStart => exact ⟨m - a, b - m, d, by congr 1, by congr 1, by omega, by omega, by omega, by omega, h, fun t => by rw [show m - (m - a) = a by omega, show m + (b - m) = b by omega]⟩
  case round =>
    obtain ⟨p, q, d', rfl, rfl, hp, hq, hpa, hqb, hs, hr⟩ := hrel
    have HR := hid hr
    have HS := hid hs
    clear hr h hs
    by_cases heq : p = q
    · subst heq
      have t1 : (m : Int) - (p : Int) = ((m - p : Nat) : Int) := by omega
      go_wp2_with fail
      refine (swapRange_ok w0 k n c (m - p) m p fv hn (by omega) (by omega) d' wr HS.out).mono ?_
      rintro e w2 ⟨rfl, d2, S2, h1, h2⟩
      obtain ⟨A, B, C⟩ := swapped (by omega) h1 h2
      go_wp2
      go_end0
      refine ⟨rfl, S2.alike fun t _ => ?_⟩
      rw [← HR.out t]
      exact (rot_end (by omega) (by omega) A B C t).symm
    · have hne : ¬ (p : Int) = (q : Int) := by omega
      by_cases hgt : p > q
      · have hgt' : (p : Int) > (q : Int) := by omega
        have t1 : (m : Int) - (p : Int) = ((m - p : Nat) : Int) := by omega
        have t3 : (p : Int) - (q : Int) = ((p - q : Nat) : Int) := by omega
        go_wp2_with fail
        refine (swapRange_ok w0 k n c (m - p) m q fv hn (by omega) (by omega) d' wr HS.out).mono ?_
        rintro e w2 ⟨rfl, d2, S2, h1, h2⟩
        obtain ⟨A, B, C⟩ := swapped (by omega) h1 h2
        clear h1 h2
        have HA := hid A
        have HB := hid B
        have HC := hid C
        have HS2 := hid S2
        clear A B C S2
        go_wp2
        go_roundw
        case rel =>
          refine ⟨p - q, q, d2, by congr 1, rfl, by omega, hq, by omega, hqb, HS2.out, fun t => ?_⟩
          rw [← HR.out t]
          have e1 : m - (p - q) = m - p + (m + q - m) := by omega
          have e2 : q = m + q - m := by omega
          rw [e1]
          refine rot_left (by omega) (by omega) ?_ ?_ ?_ t
          · rw [← e2]; exact HA.out
          · rw [← e2]; exact HB.out
          · rw [← e2]; exact HC.out
        case measure => simp [intOf]; omega
      · have hgt' : ¬ (p : Int) > (q : Int) := by omega
        have t1 : (m : Int) - (p : Int) = ((m - p : Nat) : Int) := by omega
        have t2 : (m : Int) + (q : Int) - (p : Int) = ((m + q - p : Nat) : Int) := by omega
        have t3 : (q : Int) - (p : Int) = ((q - p : Nat) : Int) := by omega
        go_wp2_with fail
        refine (swapRange_ok w0 k n c (m - p) (m + q - p) p fv hn (by omega) (by omega) d' wr HS.out).mono ?_
        rintro e w2 ⟨rfl, d2, S2, h1, h2⟩
        obtain ⟨A, B, C⟩ := swapped (by omega) h1 h2
        clear h1 h2
        have HA := hid A
        have HB := hid B
        have HC := hid C
        have HS2 := hid S2
        clear A B C S2
        go_wp2
        go_roundw
        case rel =>
          refine ⟨p, q - p, d2, rfl, by congr 1, hp, by omega, hpa, by omega, HS2.out, fun t => ?_⟩
          rw [← HR.out t]
          have e1 : m + (q - p) = m + q - p := by omega
          rw [e1]
          exact rot_right (by omega) (by omega) (by omega) HA.out HB.out HC.out t
        case measure => simp [intOf]; omega
end Go.Proofs.Ytibppolcchhmaaa
