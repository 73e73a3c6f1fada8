/-
  What is proved: what the laws of this layer share: a plan's hints, blocks and capacities in a box; New by its two ends; a row that is copied. Condition: the hints are read as such.
  (Left out here, as nothing of this law reaches it: Lx, Lx.new, Lx.below, Lx.belowG, Lx.draws, Lx.all, Lx.lt.) -/
import Derived.Test.YtbcejfonkehjgaaGreatDoorK16
import Derived.Test.YtbcejfonkehjgaaGreatDoorK13
import Derived.Test.YtbcejfonkehjgaaGreatDoorK12
import Derived.Test.YtbcejfonkehjgaaGreatDoorK14
namespace Go.Proofs.YtbcejfonkehjgaaGreatDoor
open Go.RowKit

section
variable {A : Option Addr} {n c : Nat} {hh : Nat → Hn} {b x y z : Int} {w : World}
theorem new_ok {u : Nat → Nat} (hn : n ≤ 1000) (hc : A = none → c = 0) (hr : Rv w w.heap.size A (hvs hh n)) (h1 : CapP b (u 0 : Nat) (u 1 : Nat) (u 2 : Nat)) (hu : cN (u 0 : Nat) (u 1 : Nat) (u 2 : Nat) = u) (h2 : HintsP hh n b) :
    Calls Tryz.prog 78 #[.slice A n c, .int .i64 b, .agg #[.int .i64 (u 0 : Nat), .int .i64 (u 1 : Nat), .int .i64 (u 2 : Nat)]] w fun e w' => ∃ g A1 c1 B d, e = .returned (.tuple #[.pointer (some ⟨g, 0, none⟩), .int .i64 0]) ∧ Pl w' g b u hh n A1 c1 B d ∧ Below w.heap.size w w' ∧ w.heap.size ≤ g :=
  (new_any A n c hh b _ _ _ w hn hc hr).mono fun e w' h' => by
    rcases h' with ⟨h3, _⟩ | ⟨_, h3, _⟩ | ⟨_, _, h3, g, A1, c1, B, d, h4, h5, h6⟩
    · exact absurd h1 h3
    · exact absurd h2 h3
    · rw [hu] at h5
      exact ⟨g, A1, c1, B, d, h4, h5, h3, h6⟩
end




section
variable {w0 w w' : World} {q n c : Nat} {A : Option Addr} {b x y z : Int}






end
theorem own_row2 {w w' : World} {b s n : Nat} {e : TypeId} {v : Value} {us : List Value} (h : OwnV w' b e s v n us) (hb : w.heap.size ≤ b) : ∃ A c, v = .slice A n c ∧ Rv w' w'.heap.size A us ∧ (A = none → c = 0) ∧ ∀ ad, A = some ad → w.heap.size ≤ ad.block := by
  obtain ⟨A, c, e, hr, h1, h2⟩ := OwnV.read h
  refine ⟨A, c, e, hr, fun ea => ?_, fun ad ea => Nat.le_trans hb (World.ownsRow.lt h ad.block (by rw [e, ea]; rfl)).1⟩
  rcases h.2 with ⟨hv, h0⟩ | ⟨g, cap, cur, hv, _⟩
  · rw [e, ea] at hv
    injection hv
  · rw [e, ea] at hv
    cases hv
end Go.Proofs.YtbcejfonkehjgaaGreatDoor
namespace Go.Proofs.YtbcejfonkehjgaaGreatDoor
open Go.RowKit

end Go.Proofs.YtbcejfonkehjgaaGreatDoor
namespace Go.Proofs.YtbcejfonkehjgaaGreatDoor
open Go.RowKit
























































































end Go.Proofs.YtbcejfonkehjgaaGreatDoor
namespace Go.Proofs.YtbcejfonkehjgaaGreatDoor
open Go.RowKit

end Go.Proofs.YtbcejfonkehjgaaGreatDoor
