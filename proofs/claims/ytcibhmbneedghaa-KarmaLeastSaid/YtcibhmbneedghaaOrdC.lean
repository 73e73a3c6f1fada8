/-
  What is proved: the comparison that wide's Order hands to the sort answers by the products across of the two places' fractions, in every world of the sort, and is an order of the places; slices.SortStableFunc sorts the places by it. Condition: the fractions are right, there are no more than 1000.
-/
import Derived.Test.YtcibhmbneedghaaStab
import Derived.Test.YtcibhmbneedghaaThree
namespace Go.Proofs.Ytcibhmbneedghaa
open Go.RowKit

/-- what the comparison answers of places x and y -/
def cfOf (top bot : Nat → Nat) (x y : Nat) : Int := cmpI (top y * bot x) (top x * bot y)
/-- x goes ahead of y -/
def lOf (top bot : Nat → Nat) (x y : Nat) : Prop := cfOf top bot x y = -1 ∨ (cfOf top bot x y = 0 ∧ x < y)

theorem cf_flip (top bot : Nat → Nat) (x y : Nat) : (cfOf top bot x y = -1 ∧ cfOf top bot y x = 1) ∨ (cfOf top bot x y = 0 ∧ cfOf top bot y x = 0) ∨ (cfOf top bot x y = 1 ∧ cfOf top bot y x = -1) := by
  unfold cfOf
  rcases cmp3 (top y * bot x) (top x * bot y) with h | h | h
  · exact .inl h.2
  · exact .inr (.inl h.2)
  · exact .inr (.inr h.2)

theorem ord_of (n : Nat) (top bot : Nat → Nat) (hb : ∀ i, i < n → 0 < bot i) : Ord n (cfOf top bot) (lOf top bot) where
  irr := fun x h => by
    rcases h with h | h
    · rcases cf_flip top bot x x with g | g | g <;> omega
    · omega
  trans := fun x y z hx hy hz h1 h2 => by
    obtain ⟨X, Y, Z, e1, e2, e3, hh⟩ := trip (top x) (bot x) (top y) (bot y) (top z) (bot z) (hb x hx) (hb y hy) (hb z hz)
    have f1 : cfOf top bot y x = X := e1
    have f2 : cfOf top bot z y = Y := e2
    have f3 : cfOf top bot z x = Z := e3
    unfold lOf at h1 h2 ⊢
    have g1 := cf_flip top bot x y
    have g2 := cf_flip top bot y z
    have g3 := cf_flip top bot x z
    omega
  ahead := fun x y _ _ h => by
    rcases cf_flip top bot x y with g | g | g
    · exact .inl g.1
    · omega
    · omega
  behind := fun x y hxy _ h => by
    rcases cf_flip top bot x y with g | g | g
    · omega
    · exact .inr ⟨g.2, hxy⟩
    · exact .inl g.2

/-- the fractions of a list, as they lie in block g -/
def Fr (w : World) (g n : Nat) (top bot : Nat → Nat) : Prop :=
  ∀ i, i < n → w.cell? ⟨g, i * 2, none⟩ = some (.int .i64 (top i : Nat)) ∧ w.cell? ⟨g, i * 2 + 1, none⟩ = some (.int .i64 (bot i : Nat))

set_option maxRecDepth 1000000 in
set_option maxHeartbeats 1000000 in
theorem clos_ok (w0 : World) (k n c g : Nat) (cb : Addr) (top bot : Nat → Nat) (hcb : w0.cell? cb = some (.slice (some ⟨g, 0, none⟩) n c)) (hf : Fr w0 g n top bot) (hk1 : cb.block ≠ k) (hk2 : g ≠ k)
    (ht : ∀ i, i < n → top i ≤ 2147483647) (hb : ∀ i, i < n → bot i ≤ 2147483647) : CmpOk w0 k n cb (cfOf top bot) := by
  intro w hg x y hx hy
  have l1 := World.block_lt_of_cell? w0 _ hcb
  have hA : g < w0.heap.size := World.block_lt_of_cell? w0 _ (hf x hx).1
  have hc0 := (hg.cell_far cb l1 (by intro e; injection e with e; exact hk1 e)).trans hcb
  have far : ∀ i, w.cell? ⟨g, i, none⟩ = w0.cell? ⟨g, i, none⟩ := fun i => hg.cell_far ⟨g, i, none⟩ hA (by intro e; injection e with e; exact hk2 e)
  have x1 := (far _).trans (hf x hx).1
  have x2 := (far _).trans (hf x hx).2
  have y1 := (far _).trans (hf y hy).1
  have y2 := (far _).trans (hf y hy).2
  have kk : ∀ s : Since w, ∀ a v, w.cell? a = some v → s.at_.cell? a = some v := fun s a v h => (s.bel.cell (World.block_lt_of_cell? w _ h)).trans h
  have c0 := fun s => kk s _ _ hc0
  have c1 := fun s => kk s _ _ x1
  have c2 := fun s => kk s _ _ x2
  have c3 := fun s => kk s _ _ y1
  have c4 := fun s => kk s _ _ y2
  have g1 : (x : Int) < (n : Int) := by omega
  have g2 : (y : Int) < (n : Int) := by omega
  have tx := ht x hx
  have ty := ht y hy
  have bx := hb x hx
  have by' := hb y hy
  unfold cfOf
  generalize top x = tx' at *
  generalize bot x = bx' at *
  generalize top y = ty' at *
  generalize bot y = by'' at *
  clear kk far hc0 x1 x2 y1 y2 hf hcb
  go_enter Try.func52, Try.ntmps52
  go_wp2
  refine wp_region_since (by kernel_rfl) (by kernel_rfl) ?_
  repeat (quiet_step (first | (go_at_call 53; refine Calls.since _ (lcompare_any _ ty' by'' tx' bx' ty by' tx bx))))
  refine wpQuiet_nil ?_
  intro _ hw'
  obtain ⟨s, rfl⟩ := hw'
  go_wp2
  go_ret
  exact ⟨rfl, s.bel⟩

theorem sortf_ok (w0 : World) (k n c : Nat) (cb : Addr) (cf : Nat → Nat → Int) (L : Nat → Nat → Prop) (hO : Ord n cf L) (hcmp : CmpOk w0 k n cb cf) (hn : n ≤ 1000)
    (w : World) (h : St w0 k n id w) :
    Calls Try.prog 51 #[.slice (some ⟨k, 0, none⟩) n c, .func (.func 52) #[] #[.pointer (some cb)]] w fun e w' =>
      e = .returned (.tuple #[]) ∧ ∃ d', St w0 k n d' w' ∧ Blk L d' 0 n := by
  go_enter Try.func51, Try.ntmps51
  go_wp2_with fail
  refine (stable_ok w0 k n c cb cf L hO hcmp hn w h).mono ?_
  rintro e w1 ⟨rfl, d', S, B⟩
  go_wp2
  go_end0
  exact ⟨rfl, d', S, B⟩
end Go.Proofs.Ytcibhmbneedghaa
