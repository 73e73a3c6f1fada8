/-
  What is proved: a cache that a law has made, beside its map of what was put last. No condition.
-/
import Derived.Test.YtmfdlkkligjcbaaGreatJ46
namespace Go.Proofs.YtmfdlkkligjcbaaGreat
open Go.RowKit

/-- more uses, more blocks that are written to -/
theorem Cm.up {w : World} {X F : Nat → Prop} {G M n cp T B B' : Nat} {c : Nat → Int} {A : Option Addr} {hh : Nat → Hn} {v : Value} {o : Ob} {D : Int → List Int} (h : Cm w X G M F c A n cp hh T v o D B) (hB : B ≤ B') : Cm w X G M F c A n cp hh T v o D B' :=
  { h with
    tm := Nat.le_trans h.tm hB
    map := by
      obtain ⟨f, h1, h2⟩ := h.map
      exact ⟨f, h1.mono hB, h2⟩ }
/-- no more blocks than the capacity -/
theorem Cm.cap {w : World} {X F : Nat → Prop} {G M n cp T B : Nat} {c : Nat → Int} {A : Option Addr} {hh : Nat → Hn} {v : Value} {o : Ob} {D : Int → List Int} (h : Cm w X G M F c A n cp hh T v o D B) : ((o.all.length : Nat) : Int) ≤ c (9 + (T - 1)) := by
  have h1 := Ob.le h.ok
  have ht : T - 1 < 3 := by have := h.t1; have := h.t3; omega
  rw [cps_at ht] at h1
  have h2 := h.rt.caps
  have h3 : (0 : Int) ≤ c (9 + (T - 1)) := by
    have h4 := h.rt.1 (9 + (T - 1)) (by omega)
    have h5 : lo (9 + (T - 1)) = 1 := by
      obtain h | h | h : T - 1 = 0 ∨ T - 1 = 1 ∨ T - 1 = 2 := by omega
      all_goals rw [h]; rfl
    omega
  omega
/-- but for a parted cache one goes only where it is full -/
theorem Cm.full {w : World} {X F : Nat → Prop} {G M n cp T B : Nat} {c : Nat → Int} {A : Option Addr} {hh : Nat → Hn} {v : Value} {o : Ob} {D : Int → List Int} {b : Int} (h : Cm w X G M F c A n cp hh T v o D B) (h5 : ¬ c 5 = 2) (hg : o.gn b = true) : ((o.all.length : Nat) : Int) = c (9 + (T - 1)) := by
  have hk := h.kd
  have hno : ∀ rg pt lp n2 S, o ≠ .prt rg pt lp n2 S := fun rg pt lp n2 S e => by
    subst e
    by_cases h6 : c (6 + (T - 1)) = 2
    · rw [Ob.new_mq h5 h6] at hk; exact hk
    · rw [Ob.new_lru h5 h6] at hk; exact hk
  have h1 := Ob.gn_full h.ok hno hg
  have ht : T - 1 < 3 := by have := h.t1; have := h.t3; omega
  have h2 := h.rt.caps.2.2.2.1 _ ht
  rw [cps_at ht] at h1 h2
  omega
/-- a law's cache: w0 the law's first world, Ml its map of what was put last (lf), the configuration's box at r -/
structure Lc16 (w0 w : World) (X : Nat → Prop) (G M : Nat) (F : Nat → Prop) (c : Nat → Int) (A : Option Addr) (n cp : Nat) (hh : Nat → Hn) (T : Nat) (v : Value) (o : Ob) (D : Int → List Int) (B Ml r : Nat) (A0 : Option Addr) (n0 c0 : Nat) : Prop where
  cm : Cm w X G M F c A n cp hh T v o D B
  lst : ∃ lf, Mc w Ml B lf ∧ ∀ x, x ∈ o.all → ∃ u, lf x = some u ∧ By w X u (D x)
  bx : Bx w r 25 (cfgC c A0 n0 c0)
  bel : Below w0.heap.size w0 w
  xl : X Ml
  xo : ∀ j, X j → w0.heap.size ≤ j
  xr : ¬ X r
  nl : Ml ≠ G ∧ Ml ≠ M ∧ ¬ F Ml
variable {w0 w w' : World} {X F P Q : Nat → Prop} {G M n cp T B Ml r n0 c0 : Nat} {c : Nat → Int} {A A0 : Option Addr} {hh : Nat → Hn} {v : Value} {o o' : Ob} {D D' : Int → List Int}
theorem Lc16.below (h : Lc16 w0 w X G M F c A n cp hh T v o D B Ml r A0 n0 c0) (hb : Below w.heap.size w w') : Lc16 w0 w' X G M F c A n cp hh T v o D B Ml r A0 n0 c0 :=
  { h with
    cm := h.cm.below hb
    lst := by
      obtain ⟨lf, h1, h2⟩ := h.lst
      exact ⟨lf, h1.below hb, fun x hx => by
        obtain ⟨u, h3, h4⟩ := h2 x hx
        exact ⟨u, h3, h4.below hb⟩⟩
    bx := h.bx.next hb
    bel := on h.bel hb }
theorem Lc16.up {B' : Nat} (h : Lc16 w0 w X G M F c A n cp hh T v o D B Ml r A0 n0 c0) (hB : B ≤ B') : Lc16 w0 w X G M F c A n cp hh T v o D B' Ml r A0 n0 c0 :=
  { h with
    cm := h.cm.up hB
    lst := by
      obtain ⟨lf, h1, h2⟩ := h.lst
      exact ⟨lf, h1.mono hB, h2⟩ }
theorem Lc16.draws (h : Lc16 w0 w X G M F c A n cp hh T v o D B Ml r A0 n0 c0) (d : Nat) : Lc16 w0 (w.drewN d) X G M F c A n cp hh T v o D B Ml r A0 n0 c0 := h.below (below_draws (Below.refl _ _) d)
theorem Lc16.wide (h : Lc16 w0 w X G M F c A n cp hh T v o D B Ml r A0 n0 c0) : ∀ j, F j ∨ j = M → X j := fun j hj => hj.elim (h.cm.fx j) fun e => e ▸ h.cm.xM
/-- the cache has done something: what there is was put last as it is in the map (lf stays), or is not asked for -/
theorem Lc16.step {B' : Nat} (h : Lc16 w0 w X G M F c A n cp hh T v o D B Ml r A0 n0 c0) (hcm : Cm w' X G M F c A n cp hh T v o' D' B') (hc : Chg w w' (fun j => F j ∨ j = M) Q) (hB : B ≤ B') (hD : ∀ x, x ∈ o'.all → x ∈ o.all ∧ D' x = D x) : Lc16 w0 w' X G M F c A n cp hh T v o' D' B' Ml r A0 n0 c0 :=
  { cm := hcm
    lst := by
      obtain ⟨lf, h1, h2⟩ := h.lst
      refine ⟨lf, (h1.same (hc.block Ml h1.lt fun e => e.elim h.nl.2.2 h.nl.2.1)).mono hB, fun x hx => ?_⟩
      obtain ⟨h3, h4⟩ := hD x hx
      obtain ⟨u, h5, h6⟩ := h2 x h3
      exact ⟨u, h5, h4 ▸ h6.chg hc h.wide⟩
    bx := hc.bx h.bx fun e => h.xr (h.wide r e)
    bel := h.bel.trans (hc.bel h.bel.size fun j e => h.xo j (h.wide j e))
    xl := h.xl
    xo := h.xo
    xr := h.xr
    nl := h.nl }
end Go.Proofs.YtmfdlkkligjcbaaGreat
