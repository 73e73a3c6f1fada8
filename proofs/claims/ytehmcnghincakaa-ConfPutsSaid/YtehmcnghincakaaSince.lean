/-
  What is proved: a drawn region that only reads and calls what lays new blocks is walked in the order of its text. No condition on a program.
-/
import Derived.WalkKit
import Derived.BigQuiet
import Derived.Deep.QuietTactic
namespace Go.Proofs.Ytehmcnghincakaa
open Go.RowKit

/-- a world that came from w and left alone what was there -/
structure Since (w : World) where
  at_ : World
  bel : Below w.heap.size w at_

instance (w : World) : Inhabited (Since w) := ⟨⟨w, Below.refl _ _⟩⟩

theorem wp_region_since {P : Program} {id : Nat} {Q : Exit → Act → World → Prop} {a : Act} {w : World} {l : List Oper} (hm : P.follows .mixedOrders = true) (hB : Region.lexB .any l.toArray = true)
    (h : wpQuiet P l.toArray (fun w' => ∃ p : Since w, w' = p.at_) (fun a' => ∀ w', (∃ p : Since w, w' = p.at_) → Q .normal a' w') l a) : (Code.region id l.toArray true).wp P Q a w :=
  wp_region_quiet (C := fun w' => ∃ p : Since w, w' = p.at_) hm hB ⟨⟨w.drew, (Below.refl _ _).drew⟩, rfl⟩ (by simpa using h)

theorem Calls.since {P : Program} {f : FuncId} {args : Array Value} {w : World} {v : Value} (p : Since w)
    (h : Calls P f args p.at_ fun e w' => e = .returned v ∧ Below p.at_.heap.size p.at_ w') : Calls P f args p.at_ fun e w'' => e = .returned v ∧ ∃ q : Since w, w'' = q.at_ :=
  h.mono fun _ w' ⟨he, hb⟩ => ⟨he, ⟨w', p.bel.trans (hb.mono p.bel.size)⟩, rfl⟩
theorem below_draws {B : Nat} {a w : World} (h : Below B a w) (n : Nat) : Below B a (w.drewN n) := ⟨h.os, h.tape, h.output, h.size, h.block⟩
theorem Calls.sinceN {P : Program} {f : FuncId} {args : Array Value} {w : World} {v : Value} (p : Since w)
    (h : Calls P f args p.at_ fun e w' => e = .returned v ∧ ∃ n, w' = p.at_.drewN n) : Calls P f args p.at_ fun e w'' => e = .returned v ∧ ∃ q : Since w, w'' = q.at_ :=
  h.mono fun _ _ ⟨he, n, e⟩ => ⟨he, ⟨p.at_.drewN n, below_draws p.bel n⟩, e⟩
end Go.Proofs.Ytehmcnghincakaa
