/-
  What is proved: the parted cache and the reference's, side by side, as PartActs has them; the reference's functions, its rows hidden. Condition: both lie in memory as such.
-/
import Derived.Test.YtibppolcchhmaaaK36
import Derived.Test.YtibppolcchhmaaaRows
import Derived.Test.YtibppolcchhmaaaK03
import Derived.Deep.Slices
import Derived.Deep.Fields
import Derived.ChangeSame
import Derived.OpenShut
namespace Go.Proofs.Ytibppolcchhmaaa
open Go.RowKit

/-- the reference's parted cache, its rows hidden -/
def Rr (w : World) (k r : Nat) (B : Option Addr) (T : Nat) (rg : Int → Option Nat) (pt : Nat → Nat) (lp : Nat → Bool) (n : Nat) (S : List (List Int)) : Prop :=
  ∃ gp b A c hh pf cv us, Rp w (fun j => j = k ∨ bk B = some j) r gp b A c hh pf B cv us T rg pt lp n S
section
variable {w w' : World} {k r T n : Nat} {B : Option Addr} {rg : Int → Option Nat} {pt : Nat → Nat} {lp : Nat → Bool} {S S' : List (List Int)}
theorem Rr.below (h : Rr w k r B T rg pt lp n S) (hb : Below w.heap.size w w') : Rr w' k r B T rg pt lp n S := by
  obtain ⟨gp, b, A, c, hh, pf, cv, us, h⟩ := h
  exact ⟨gp, b, A, c, hh, pf, cv, us, h.below hb⟩
theorem Rr.chg (h : Rr w k r B T rg pt lp n S) (hc : Chg w w' (· = k) (· = k)) (hk : ∀ j, bk B = some j → j ≠ k) : Rr w' k r B T rg pt lp n S := by
  obtain ⟨gp, b, A, c, hh, pf, cv, us, h⟩ := h
  exact ⟨gp, b, A, c, hh, pf, cv, us, h.chg hc (fun j e => .inl e) fun j e e2 => hk j e2 e⟩
theorem rr_has (h : Rr w k r B T rg pt lp n S) (ok : Okp rg pt n S) {z : Int} (hz : zb z) : Calls Try.prog 21 #[.pointer (some ⟨r, 0, none⟩), .int .i64 z] w fun e w' => e = .returned (.bool (dec (inS S z))) ∧ ∃ d, w' = w.drewN d := by
  obtain ⟨gp, b, A, c, hh, pf, cv, us, h⟩ := h
  exact rp_has h ok hz
theorem rr_part (h : Rr w k r B T rg pt lp n S) {z : Int} (hz : zb z) : Calls Try.prog 23 #[.pointer (some ⟨r, 0, none⟩), .int .i64 z] w fun e w' => e = .returned (.int .i64 (ptO pt (rg z) : Nat)) ∧ ∃ d, w' = w.drewN d := by
  obtain ⟨gp, b, A, c, hh, pf, cv, us, h⟩ := h
  exact rp_part h hz
theorem rr_all (h : Rr w k r B T rg pt lp n S) (ok : Okp rg pt n S) : Calls Try.prog 18 #[.pointer (some ⟨r, 0, none⟩)] w (Told w (allp S n)) := by
  obtain ⟨gp, b, A, c, hh, pf, cv, us, h⟩ := h
  exact rp_all h ok
theorem rr_do (h : Rr w k r B T rg pt lp n S) (ok : Okp rg pt n S) {z : Int} (hz : zb z) {κ : Int} (hk : 0 ≤ κ ∧ κ ≤ 2) :
    Calls Try.prog 12 #[.pointer (some ⟨r, 0, none⟩), .agg #[.int .i64 κ, .int .i64 z]] w fun e w' =>
      e = .returned (.agg #[.slice none 0 0, .int .i64 (dwV pt lp (rg z) κ z S), .bool (dwG pt (rg z) κ z S), .bool (dec (inS S z)), .int .i64 (dwE pt (rg z) κ)]) ∧ Rr w' k r B T rg pt lp n (dwS rg pt lp κ z S) ∧ Chg w w' (fun j => bk B = some j) (fun j => bk B = some j) := by
  obtain ⟨gp, b, A, c, hh, pf, cv, us, h⟩ := h
  exact (rp_do h ok hz hk).mono fun e w' ⟨h1, ⟨us', h2⟩, h3⟩ => ⟨h1, ⟨gp, b, A, c, hh, pf, cv, us', h2⟩, h3⟩
end
/-- both, the program's at S, the reference's at S' -/
structure Tb (w0 w1 w : World) (s : Nat) (A : Option Addr) (m c : Nat) (b x y z : Int) (g k q r : Nat) (B : Option Addr) (T : Nat) (rg : Int → Option Nat) (pt : Nat → Nat) (lp : Nat → Bool) (n : Nat) (S S' : List (List Int)) : Prop where
  l : Lb w0 w1 w s A m c b x y z g k q T rg pt lp n S
  r : Rr w k r B T rg pt lp n S'
  hB : ∀ j, bk B = some j → w1.heap.size ≤ j ∧ j ≠ g ∧ j ≠ k
section
variable {w0 w1 w w' : World} {s m c g k q r T n : Nat} {A B : Option Addr} {b x y z : Int} {rg : Int → Option Nat} {pt : Nat → Nat} {lp : Nat → Bool} {S S' S2 : List (List Int)}
theorem Tb.below (h : Tb w0 w1 w s A m c b x y z g k q r B T rg pt lp n S S') (hb : Below w.heap.size w w') : Tb w0 w1 w' s A m c b x y z g k q r B T rg pt lp n S S' := ⟨h.l.below hb, h.r.below hb, h.hB⟩
theorem Tb.draws (h : Tb w0 w1 w s A m c b x y z g k q r B T rg pt lp n S S') (d : Nat) : Tb w0 w1 (w.drewN d) s A m c b x y z g k q r B T rg pt lp n S S' := h.below (below_draws (Below.refl _ _) d)
/-- the reference's has done an act -/
theorem Tb.ref (h : Tb w0 w1 w s A m c b x y z g k q r B T rg pt lp n S S') (hr : Rr w' k r B T rg pt lp n S2) (hc : Chg w w' (fun j => bk B = some j) (fun j => bk B = some j)) : Tb w0 w1 w' s A m c b x y z g k q r B T rg pt lp n S S2 :=
  ⟨⟨h.l.x.belowG (hc.bel h.l.p.bel.size fun j e => (h.hB j e).1) h.l.hw h.l.hs, h.l.p.chg hc (fun e => (h.hB g e).2.1 rfl) (fun e => (h.hB k e).2.2 rfl) fun j e => (h.hB j e).1, h.l.hs, h.l.hw⟩, hr, h.hB⟩
/-- the program's has -/
theorem Tb.prog (h : Tb w0 w1 w s A m c b x y z g k q r B T rg pt lp n S S') (hp : Pt w1 w' g k q T rg pt lp n S2) (hc : Chg w w' (· = k) (· = k)) : Tb w0 w1 w' s A m c b x y z g k q r B T rg pt lp n S2 S' :=
  ⟨h.l.step hp hc, h.r.chg hc fun j e => (h.hB j e).2.2, h.hB⟩
end
end Go.Proofs.Ytibppolcchhmaaa
/-
  What is proved: one cell of more, of a type of integers or truths, holds what its type says. No program's function is in it.
-/
namespace Go.Proofs.Ytibppolcchhmaaa
open Go.RowKit Go.ChangeShapes Go.WideShapes Go.Deep

section
variable {H : Type} {enc : TypeId × Value → H} {w : World} {base : Nat} {spare : Nat → Bool} {held : Bool}
theorem int_at {P : Program} {t : TypeId} {k : IntKind} {m off : Nat} {cs : List Value} {y : Option (DataW H × List MemPlace)} (hk : P.underlying t = some (.int k)) (hy : y.isSome = true)
    (h : DataW.trod enc P w base spare held m t ((cs.drop off).take 1) = y) : ∃ a, cs[off]? = some (.int k a) ∧ (Lit.int k a).wf = true := by
  obtain ⟨y, rfl⟩ := Option.isSome_iff_exists.1 hy
  obtain ⟨a, e, _, hw⟩ := DataW.trod_int hk h
  refine ⟨a, ?_, hw⟩
  have := congrArg (·[0]?) e
  simpa using this
theorem bool_at {P : Program} {t : TypeId} {m off : Nat} {cs : List Value} {y : Option (DataW H × List MemPlace)} (hk : P.underlying t = some .bool) (hy : y.isSome = true)
    (h : DataW.trod enc P w base spare held m t ((cs.drop off).take 1) = y) : ∃ a, cs[off]? = some (.bool a) := by
  obtain ⟨y, rfl⟩ := Option.isSome_iff_exists.1 hy
  obtain ⟨a, e, _⟩ := DataW.trod_bool hk h
  refine ⟨a, ?_⟩
  have := congrArg (·[0]?) e
  simpa using this
end
end Go.Proofs.Ytibppolcchhmaaa
