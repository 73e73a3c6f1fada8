/-
  What is proved: what the laws of this layer share: a plan that is made, as a parted cache sees it; a layout's box beside a cache that a law has made. Condition: the hints are read as such.
-/
import Derived.Test.YtibppolcchhmaaaK32
import Derived.Test.YtibppolcchhmaaaK33
import Derived.Test.YtibppolcchhmaaaK01
namespace Go.Proofs.Ytibppolcchhmaaa
open Go.RowKit

theorem lsum_sN (f : Nat → Nat) : ∀ n, lsum f n = sN f n
  | 0 => rfl
  | n + 1 => by
    show lsum f n + f n = sN f n + f n
    rw [lsum_sN f n]
section
variable {A : Option Addr} {n c T : Nat} {hh : Nat → Hn} {b : Int} {w : World} {u : Nat → Nat}
/-- New makes a plan -/
theorem new_pn (hn : n ≤ 1000) (hc : A = none → c = 0) (hr : Rv w w.heap.size A (hvs hh n)) (h1 : CapP b (u 0 : Nat) (u 1 : Nat) (u 2 : Nat)) (hu : cN (u 0 : Nat) (u 1 : Nat) (u 2 : Nat) = u) (h2 : HintsP hh n b) (t1 : 1 ≤ T) (t3 : T ≤ 3) :
    Calls Try.prog 9 #[.slice A n c, .int .i64 b, .agg #[.int .i64 (u 0 : Nat), .int .i64 (u 1 : Nat), .int .i64 (u 2 : Nat)]] w fun e w' => ∃ q rg pt lp, e = .returned (.tuple #[.pointer (some ⟨q, 0, none⟩), .int .i64 0]) ∧
      Pn w' q T rg pt lp n ∧ lsum pt n ≤ u (T - 1) ∧ (∀ z, rg z = rgi hh z n) ∧ (∀ i, pt i = KP hh n u i (T - 1)) ∧ (∀ i, lp i = (hh i).l) ∧ Below w.heap.size w w' :=
  (new_ok hn hc hr h1 hu h2).mono fun e w' ⟨g, A1, c1, B, d, h3, h4, h5, _⟩ =>
    ⟨g, _, _, _, h3, h4.pn t1 t3, by
      rw [lsum_sN]
      exact (KS_room (u := u) h4.od (t := T - 1) (by omega)).1, fun _ => rfl, fun _ => rfl, fun _ => rfl, h5⟩
end
/-- a layout's box and a cache, as a law has them: w1 is the world in which the cache was made -/
structure Lb (w0 w1 w : World) (s : Nat) (A : Option Addr) (m c : Nat) (b x y z : Int) (g k q T : Nat) (rg : Int → Option Nat) (pt : Nat → Nat) (lp : Nat → Bool) (n : Nat) (S : List (List Int)) : Prop where
  x : Lx w0 w s A m c b x y z
  p : Pt w1 w g k q T rg pt lp n S
  hs : s < w1.heap.size
  hw : w0.heap.size ≤ w1.heap.size
section
variable {w0 w1 w w' : World} {s m c g k q T n : Nat} {A : Option Addr} {b x y z : Int} {rg : Int → Option Nat} {pt : Nat → Nat} {lp : Nat → Bool} {S S' : List (List Int)}
theorem Lb.below (h : Lb w0 w1 w s A m c b x y z g k q T rg pt lp n S) (hb : Below w.heap.size w w') : Lb w0 w1 w' s A m c b x y z g k q T rg pt lp n S := ⟨h.x.below hb, h.p.below hb, h.hs, h.hw⟩
theorem Lb.draws (h : Lb w0 w1 w s A m c b x y z g k q T rg pt lp n S) (d : Nat) : Lb w0 w1 (w.drewN d) s A m c b x y z g k q T rg pt lp n S := h.below (below_draws (Below.refl _ _) d)
theorem Lb.step (h : Lb w0 w1 w s A m c b x y z g k q T rg pt lp n S) (hp : Pt w1 w' g k q T rg pt lp n S') (hc : Chg w w' (· = k) (· = k)) : Lb w0 w1 w' s A m c b x y z g k q T rg pt lp n S' :=
  ⟨h.x.belowG (hc.bel h.p.bel.size fun j e => by rw [e]; exact h.p.hk) h.hw h.hs, hp, h.hs, h.hw⟩
theorem Lb.far (h : Lb w0 w1 w s A m c b x y z g k q T rg pt lp n S) {j i : Nat} {v : Value} (h1 : w1.heap.size ≤ j) (h2 : j ≠ g) (h3 : j ≠ k) : Lb w0 w1 (w.setCell ⟨j, i, none⟩ v) s A m c b x y z g k q T rg pt lp n S := by
  have hc := chg_set (Chg.refl w (· = j)) i v
  exact ⟨h.x.belowG (hc.bel h.p.bel.size fun a e => by rw [e]; exact h1) h.hw h.hs, h.p.chg hc h2.symm h3.symm (fun a e => by rw [e]; exact h1), h.hs, h.hw⟩
end
theorem empt_gd (m i : Nat) : (empt m).getD i [] = [] := gd_empty m i
end Go.Proofs.Ytibppolcchhmaaa
/-
  What is proved: what the reference's MQ in memory is (a struct of eight cells, the row of its queues, how often, when they expire; the queues' and the ghosts' rows are read, and replaced); what it becomes when one of these is stored. Condition: it lies in memory as one.
  (Left out here, as nothing of this law reaches it: Rm, Rm.below, Rm.draws, Rm.chg, Rm.lu, Rm.fr, Rm.c0, Rm.c1, Rm.c2, Rm.c3, Rm.c4, Rm.c5, Rm.c6, Rm.c7, Rm.cap, Rm.at_, Rm.co, Rm.cx, Rm.setO, Rm.setX, Rm.setT, Rm.setG, Rm.setR, Rq, Rq.below.) -/
namespace Go.Proofs.Ytibppolcchhmaaa
open Go.RowKit

/-- 64 numbers -/
def nums (o : Int → Int) : Array Value := Array.ofFn (n := 64) fun i => .int .i64 (o ((i.1 : Nat) : Int))
theorem nums_size (o : Int → Int) : (nums o).size = 64 := by simp [nums]
theorem nums_at (o : Int → Int) {p : Nat} (h : p < 64) : (nums o)[p]? = some (.int .i64 (o p)) := by simp [nums, h]
theorem nums_set (o : Int → Int) {p : Nat} (v : Int) : (nums o).setIfInBounds p (.int .i64 v) = nums (upd o p v) := by
  refine Array.ext (by simp [nums]) fun j h1 h2 => ?_
  rw [Array.getElem_setIfInBounds (by simpa using h1)]
  simp only [nums, Array.getElem_ofFn, upd]
  by_cases e : p = j
  · subst e; rw [if_pos rfl, if_pos rfl]
  · rw [if_neg e, if_neg (show ¬ ((j : Nat) : Int) = p from by omega)]
theorem nums_zero : Array.replicate 64 (Value.int .i64 0) = nums fun _ => 0 := by
  refine Array.ext (by simp [nums]) fun j h1 h2 => ?_
  simp [nums]
/-- a row that is read, and lies off the blocks X -/
def Rt (w : World) (X : Nat → Prop) (u : Value) (l : List Int) : Prop := ∃ A c, u = .slice A l.length c ∧ Rw w A l ∧ l.length ≤ c ∧ c ≤ maxLen ∧ ∀ ad, A = some ad → ¬ X ad.block
section
variable {w w' : World} {X F G : Nat → Prop} {u : Value} {l : List Int}
theorem Rt.below (h : Rt w X u l) (hb : Below w.heap.size w w') : Rt w' X u l := by
  obtain ⟨A, c, e, hr, h1, h2, h3⟩ := h
  exact ⟨A, c, e, hr.below hb, h1, h2, h3⟩
theorem Rt.chg (h : Rt w X u l) (hc : Chg w w' F G) (hF : ∀ j, F j → X j) : Rt w' X u l := by
  obtain ⟨A, c, e, hr, h1, h2, h3⟩ := h
  exact ⟨A, c, e, hr.chg hc fun ad e2 hf => h3 ad e2 (hF _ hf), h1, h2, h3⟩
theorem Rt.told {A : Option Addr} {c : Nat} (hX : ∀ j, X j → j < w.heap.size) (ho : OwnW w' 3 (.slice A l.length c) (ints l)) (hg : GrW w w' nl (.slice A l.length c)) : Rt w' X (.slice A l.length c) l := by
  obtain ⟨h1, h2, h3, h4⟩ := rw_told ho hg
  exact ⟨A, c, rfl, h1, h3, h4, fun ad e hx => by have := h2 ad e; have := hX _ hx; omega⟩
end























/-- which blocks are its own -/
def Fr (h a p e : Nat) (j : Nat) : Prop := j = h ∨ j = a ∨ j = p ∨ j = e
theorem fr_h {h a p e : Nat} : Fr h a p e h := .inl rfl
theorem fr_a {h a p e : Nat} : Fr h a p e a := .inr (.inl rfl)
theorem fr_p {h a p e : Nat} : Fr h a p e p := .inr (.inr (.inl rfl))
theorem fr_e {h a p e : Nat} : Fr h a p e e := .inr (.inr (.inr rfl))
theorem chg_in {w w1 : World} {F : Nat → Prop} (h : Chg w w1 F F) {k : Nat} (hk : F k) (i : Nat) (v : Value) : Chg w (w1.setCell ⟨k, i, none⟩ v) F F :=
  ⟨h.os, h.tape, h.output, by rw [setSize]; exact h.size, fun j h1 h2 => (Below.heap_setCell w1 ⟨k, i, none⟩ v j (fun e => h2 (e ▸ hk))).trans (h.block j h1 h2), fun _ e => .inl e⟩
section
variable {w w' : World} {X : Nat → Prop} {h a p e C N L H cv : Nat} {us : List Value} {ug : Value} {R : List (List Int)} {G : List Int} {o x : Int → Int} {t : Nat}



































































































































end





end Go.Proofs.Ytibppolcchhmaaa
