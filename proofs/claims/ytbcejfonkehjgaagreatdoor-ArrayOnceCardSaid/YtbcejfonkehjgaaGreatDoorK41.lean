/-
  What is proved: what an array that is up makes of a message, as a function of its store's blocks and slots, its cache's order and bytes. No program is in it.
-/
import Derived.Test.YtbcejfonkehjgaaGreatDoorK40
namespace Go.Proofs.YtbcejfonkehjgaaGreatDoor
open Go.RowKit

structure S18 where
  X : RS
  o : Ob
  D : Int → List Int
  r : Int
section
variable (c : Nat → Int) (s : S18) (m : Tm)
noncomputable def rdY : List Int := if m.c 5 ∈ s.o.all then s.D (m.c 5) else s.X.T (m.c 5).toNat
noncomputable def rdR : Int := if m.c 5 ∈ s.o.all then s.r else s.r + 1
noncomputable def hrR : S18 × List Tm :=
  if m.c 5 < c 2 then
    if m.c 5 ∉ s.o.all ∨ c 4 = 2 then (⟨s.X, hdO c (s.o.use (m.c 5)) (m.c 5) (m.c 6) (rdY s m).length, hdD c (s.o.use (m.c 5)) s.D (m.c 5) (m.c 6) (rdY s m), rdR s m⟩, hdT c (s.o.use (m.c 5)) (m.c 5) (m.c 6) (rdY s m).length ++ [tmD (m.c 5) (rdY s m)])
    else (⟨s.X, s.o.use (m.c 5), s.D, rdR s m⟩, [tmD (m.c 5) (rdY s m)])
  else (⟨s.X, s.o.use (m.c 5), s.D, s.r⟩, [tmE (m.c 5)])
def wrX : Wr := ⟨m.c 1, m.c 2, m.c 3, m.c 4, m.c 5, none, 0, m.l⟩
def vrs (X : RS) : Int := if 0 ≤ m.c 5 ∧ m.c 5 < c 2 then (X.V (m.c 5).toNat : Nat) else 0
def wrZ : Int := if (rwr (shC c) s.X (wrX m)).2.2 = 0 then (rwr (shC c) s.X (wrX m)).2.1 else (rwr (shC c) s.X (wrX m)).2.2
noncomputable def hrW : S18 × List Tm :=
  if (rwr (shC c) s.X (wrX m)).2.2 = 12 then (⟨(rwr (shC c) s.X (wrX m)).1, s.o, s.D, s.r⟩, [])
  else if vrs c m (rwr (shC c) s.X (wrX m)).1 = vrs c m s.X then (⟨(rwr (shC c) s.X (wrX m)).1, s.o, s.D, s.r⟩, [tmW m.c (wrZ c s m) false])
  else (⟨(rwr (shC c) s.X (wrX m)).1, hdO c s.o (m.c 5) (m.c 6) m.l.length, hdD c s.o s.D (m.c 5) (m.c 6) m.l, s.r⟩, hdT c s.o (m.c 5) (m.c 6) m.l.length ++ [tmW m.c (wrZ c s m) true])
noncomputable def hrM : S18 × List Tm :=
  if c 4 = 2 ∧ forA c s.o (m.c 5) (m.c 6) = true then (⟨s.X, puO c s.o (m.c 5) (m.c 6) m.l.length, puD c s.o s.D (m.c 5) (m.c 6) m.l, s.r⟩, []) else (s, [])
def hrP : S18 × List Tm := (⟨s.X, s.o.rem (m.c 5), s.D, s.r⟩, [])
end
end Go.Proofs.YtbcejfonkehjgaaGreatDoor
