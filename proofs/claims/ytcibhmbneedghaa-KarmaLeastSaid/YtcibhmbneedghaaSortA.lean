/-
  What is proved: the exchange of two runs of a slice's places, as slices.swapRangeCmpFunc does it: what lay in the one lies in the other, the rest stays. Condition: the runs lie within, apart from one another.
-/
import Derived.Test.YtcibhmbneedghaaVec
import Derived.Test.YtcibhmbneedghaaRows
import Derived.BigRegion
import Derived.BigQuiet
import Derived.Deep.QuietTactic
import Derived.RegionTactic
namespace Go.Proofs.Ytcibhmbneedghaa

open Go.RowKit

/-- the world w came from w0 by turns of block k alone, whose cells 0 .. n-1 hold d's numbers -/
structure St (w0 : World) (k n : Nat) (d : Nat → Nat) (w : World) : Prop where
  grown : w0.grownBy w (some k)
  lt : k < w0.heap.size
  cell : ∀ i, i < n → w.cell? ⟨k, i, none⟩ = some (.int .i64 (d i : Nat))
  free : ∀ i, i < n → w.frozen? ⟨k, i, none⟩ = false

def swp (d : Nat → Nat) (i j : Nat) : Nat → Nat := fun t => if t = j then d i else if t = i then d j else d t

section
variable {w0 w w' : World} {k n : Nat} {d d' : Nat → Nat}
theorem St.here (h : St w0 k n d w) : k < w.heap.size := Nat.lt_of_lt_of_le h.lt h.grown.size
theorem St.below (h : St w0 k n d w) (hb : Below w.heap.size w w') : St w0 k n d w' where
  grown := h.grown.trans ⟨hb.os, hb.tape, hb.output, hb.size, fun j hj _ => hb.block j hj⟩
  lt := h.lt
  cell := fun i hi => (hb.cell (p := ⟨k, i, none⟩) h.here).trans (h.cell i hi)
  free := fun i hi => (hb.frozen (p := ⟨k, i, none⟩) h.here).trans (h.free i hi)
theorem St.drewN (h : St w0 k n d w) (m : Nat) : St w0 k n d (w.drewN m) := h.below (below_drewN' w m)
  where below_drewN' (w : World) (m : Nat) : Below w.heap.size w (w.drewN m) := ⟨rfl, rfl, rfl, Nat.le_refl _, fun _ _ => rfl⟩
theorem St.drew (h : St w0 k n d w) : St w0 k n d w.drew := h.below (Below.refl _ _).drew
theorem St.alike (h : St w0 k n d w) (hd : ∀ i, i < n → d' i = d i) : St w0 k n d' w := ⟨h.grown, h.lt, fun i hi => by rw [hd i hi]; exact h.cell i hi, h.free⟩
theorem St.set (h : St w0 k n d w) {i : Nat} (hi : i < n) (x : Nat) : St w0 k n (fun t => if t = i then x else d t) (w.setCell ⟨k, i, none⟩ (.int .i64 (x : Nat))) where
  grown := h.grown.trans (grown_set w ⟨k, i, none⟩ _)
  lt := h.lt
  cell := fun t ht => by
    by_cases e : t = i
    · subst e
      rw [World.cell?_setCell_same _ _ _ (h.cell t ht), if_pos rfl]
    · rw [World.cell?_setCell_other _ _ _ _ (by intro q; injection q with _ q; exact e q.symm), if_neg e]
      exact h.cell t ht
  free := fun t ht => by rw [World.frozen?_setCell]; exact h.free t ht
  where grown_set (w : World) (a : Addr) (u : Value) : w.grownBy (w.setCell a u) (some a.block) := by
          refine ⟨rfl, rfl, rfl, by unfold World.setCell; split <;> simp, fun j hj hne => ?_⟩
          exact Below.heap_setCell w a u j (by intro e; exact hne (by rw [e]))
theorem St.swp (h : St w0 k n d w) {i j : Nat} (hi : i < n) (hj : j < n) :
    St w0 k n (swp d i j) ((w.setCell ⟨k, i, none⟩ (.int .i64 (d j : Nat))).setCell ⟨k, j, none⟩ (.int .i64 (d i : Nat))) :=
  ((h.set hi (d j)).set hj (d i)).alike fun _ _ => rfl
end

set_option maxRecDepth 1000000 in
set_option maxHeartbeats 1000000 in
theorem swapRange_ok (w0 : World) (k n c a b m : Nat) (fv : Value) (hn : n ≤ 1000) (ha : a + m ≤ b) (hb : b + m ≤ n) (d : Nat → Nat) (w : World) (h : St w0 k n d w) :
    Calls Try.prog 65 #[.slice (some ⟨k, 0, none⟩) n c, .int .i64 a, .int .i64 b, .int .i64 m, fv] w fun e w' =>
      e = .returned (.tuple #[]) ∧ ∃ d', St w0 k n d' w' ∧ (∀ t, t < m → d' (a + t) = d (b + t) ∧ d' (b + t) = d (a + t)) ∧ ∀ t, (∀ s, s < m → t ≠ a + s ∧ t ≠ b + s) → d' t = d t := by
  go_enter Try.func65, Try.ntmps65
  go_wp2
  go_loopw [10] (fun i wr => ∃ (q : Nat) (d' : Nat → Nat), i = .int .i64 q ∧ q ≤ m ∧ St w0 k n d' wr ∧ (∀ t, t < q → d' (a + t) = d (b + t) ∧ d' (b + t) = d (a + t)) ∧ ∀ t, (∀ s, s < q → t ≠ a + s ∧ t ≠ b + s) → d' t = d t) (fun i _ => m - (intOf i).toNat)
  case atStart => exact ⟨0, d, rfl, Nat.zero_le _, h, fun t ht => absurd ht (Nat.not_lt_zero t), fun _ _ => rfl⟩
  case round =>
    obtain ⟨q, d', rfl, hq, hs, h1, h2⟩ := hrel
    have H1 := hid h1
    have H2 := hid h2
    have HS := hid hs
    clear h1 h2 h
    by_cases hlt : q < m
    · have hlt' : (q : Int) < (m : Int) := by omega
      obtain ⟨x, hx⟩ : ∃ x, d' (a + q) = x := ⟨_, rfl⟩
      obtain ⟨y, hy⟩ : ∃ y, d' (b + q) = y := ⟨_, rfl⟩
      have ca := hs.cell (a + q) (by omega)
      have cb := hs.cell (b + q) (by omega)
      rw [hx] at ca
      rw [hy] at cb
      have fa := hs.free (a + q) (by omega)
      have fb := hs.free (b + q) (by omega)
      have g1 : 0 ≤ (a : Int) + (q : Int) := by omega
      have g2 : (a : Int) + (q : Int) < (n : Int) := by omega
      have g3 : ((a : Int) + (q : Int)).toNat = a + q := by omega
      have g4 : 0 ≤ (b : Int) + (q : Int) := by omega
      have g5 : (b : Int) + (q : Int) < (n : Int) := by omega
      have g6 : ((b : Int) + (q : Int)).toNat = b + q := by omega
      clear hs
      go_wp2
      go_region
      go_wp2
      go_roundw
      case rel =>
        refine ⟨q + 1, swp d' (a + q) (b + q), by congr 1, by omega, ?_, ?_, ?_⟩
        · have := HS.out.swp (i := a + q) (j := b + q) (by omega) (by omega)
          rw [hx, hy] at this
          exact this.drew
        · intro t ht
          unfold swp
          by_cases e : t = q
          · subst e
            have h2 := H2.out
            have p1 : d' (a + t) = d (a + t) := h2 _ fun s hs => by omega
            have p2 : d' (b + t) = d (b + t) := h2 _ fun s hs => by omega
            rw [if_neg (by omega), if_pos rfl, if_pos rfl, p1, p2]
            exact ⟨rfl, rfl⟩
          · rw [if_neg (by omega), if_neg (by omega), if_neg (by omega), if_neg (by omega)]
            exact H1.out t (by omega)
        · intro t ht
          have := ht q (by omega)
          unfold swp
          rw [if_neg (by omega), if_neg (by omega)]
          exact H2.out t fun s hs => ht s (by omega)
      case measure => simp [intOf]; omega
    · have hge : ¬ (q : Int) < (m : Int) := by omega
      have : q = m := by omega
      subst this
      go_wp2
      go_end0
      exact ⟨rfl, d', HS.out, H1.out, fun t ht => H2.out t fun s hs => ht s hs⟩
end Go.Proofs.Ytcibhmbneedghaa
