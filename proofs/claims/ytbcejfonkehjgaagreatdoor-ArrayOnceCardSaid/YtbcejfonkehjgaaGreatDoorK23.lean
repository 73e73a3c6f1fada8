/-
  What is proved: the reference's used and Use, beside the lists. Condition: its MQ lies in memory as one.
-/
import Derived.Test.YtbcejfonkehjgaaGreatDoorK22
import Derived.Test.YtbcejfonkehjgaaGreatDoorK05
import Derived.Test.YtbcejfonkehjgaaGreatDoorK01
namespace Go.Proofs.YtbcejfonkehjgaaGreatDoor
open Go.RowKit

section
variable {w w' : World} {X : Nat → Prop} {h a p e C N L H : Nat} {o' : Int → Int} {m : Ms}
end
end Go.Proofs.YtbcejfonkehjgaaGreatDoor
namespace Go.Proofs.YtbcejfonkehjgaaGreatDoor
open Go.RowKit

section
variable {w w' : World} {X : Nat → Prop} {h a p e C N L H : Nat} {o' : Int → Int} {m : Ms}
end
end Go.Proofs.YtbcejfonkehjgaaGreatDoor
namespace Go.Proofs.YtbcejfonkehjgaaGreatDoor
open Go.RowKit

section
variable {w w' : World} {X : Nat → Prop} {h a p e C N L H : Nat} {o' : Int → Int} {m : Ms}
end
section
variable {w w' : World} {X X' : Nat → Prop} {h a p e C N L H cv : Nat} {us : List Value} {ug : Value} {R : List (List Int)} {G : List Int} {o x : Int → Int} {t : Nat} {u : Value} {l : List Int}
theorem Rt.alloc (r : Rt w X u l) (ob : Obj) : Rt (w.alloc ob) (fun j => X j ∨ j = w.heap.size) u l := by
  obtain ⟨A, c, e, hr, h1, h2, h3⟩ := r
  exact ⟨A, c, e, hr.below (below_alloc w ob), h1, h2, fun ad e2 hx => hx.elim (h3 ad e2) fun e3 => by have := hr.lt ad e2; omega⟩
theorem Rt.cut {A : Option Addr} {n c k : Nat} (r : Rt w X (.slice A n c) l) (hk : k ≤ l.length) : Rt w X (.slice A k c) (l.take k) := by
  obtain ⟨A', c', e, hr, h1, h2, h3⟩ := r
  simp only [Value.slice.injEq] at e
  obtain ⟨rfl, -, rfl⟩ := e
  have hl : (l.take k).length = k := by rw [List.length_take]; omega
  refine ⟨A, c, by rw [hl], ⟨fun j v hv => hr.rd j v ?_, hr.lt⟩, by rw [hl]; omega, h2, h3⟩
  rw [show ints (l.take k) = (ints l).take k from by simp [ints, List.map_take], List.getElem?_take] at hv
  split at hv
  · exact hv
  · cases hv
theorem Rm.alloc (m : Rm w X h a p e C N L H cv us ug R G o x t) (ob : Obj) : Rm (w.alloc ob) (fun j => X j ∨ j = w.heap.size) h a p e C N L H cv us ug R G o x t := by
  have k := m.below (below_alloc w ob)
  exact { k with
    way := fun q u hu => (m.way q u hu).alloc ob
    gh := m.gh.alloc ob
    xb := fun j hj => by
      have hs : (w.alloc ob).heap.size = w.heap.size + 1 := Array.size_push _
      rw [hs]
      rcases hj with hj | hj
      · have := m.xb j hj; omega
      · omega
    xh := .inl m.xh
    xa := .inl m.xa
    xp := .inl m.xp
    xe := .inl m.xe }
theorem Rm.less (m : Rm w X' h a p e C N L H cv us ug R G o x t) (hX : ∀ j, X j → X' j) (hF : ∀ j, Fr h a p e j → X j) : Rm w X h a p e C N L H cv us ug R G o x t :=
  { m with
    way := fun q u hu => (m.way q u hu).less hX
    gh := m.gh.less hX
    xb := fun j hj => m.xb j (hX j hj)
    xh := hF _ fr_h
    xa := hF _ fr_a
    xp := hF _ fr_p
    xe := hF _ fr_e }
theorem Rs.alloc {m : Ms} (r : Rs w X h a p e C N L H m) (ob : Obj) : Rs (w.alloc ob) (fun j => X j ∨ j = w.heap.size) h a p e C N L H m := by
  obtain ⟨o', ⟨cv, us, ug, hm⟩, ho⟩ := r
  exact ⟨o', ⟨cv, us, ug, hm.alloc ob⟩, ho⟩
theorem Rs.less {m : Ms} (r : Rs w X' h a p e C N L H m) (hX : ∀ j, X j → X' j) (hF : ∀ j, Fr h a p e j → X j) : Rs w X h a p e C N L H m := by
  obtain ⟨o', ⟨cv, us, ug, hm⟩, ho⟩ := r
  exact ⟨o', ⟨cv, us, ug, hm.less hX hF⟩, ho⟩
end
end Go.Proofs.YtbcejfonkehjgaaGreatDoor
namespace Go.Proofs.YtbcejfonkehjgaaGreatDoor
open Go.RowKit

section
variable {w w' : World} {k : Nat} {X : Nat → Prop} {h a p e C N L H : Nat} {m : Ms}
theorem chg_fresh {F : Nat → Prop} {w2 : World} (hc : Chg w w2 F F) (hk : w.heap.size ≤ k) (cs : Array Value) : Chg w (w2.setRow k cs) F F :=
  ⟨hc.os, hc.tape, hc.output, by rw [setRow_size]; exact hc.size, fun j h1 h2 => (setRow_other w2 k j cs (by omega)).trans (hc.block j h1 h2), fun _ e => .inl e⟩
end
end Go.Proofs.YtbcejfonkehjgaaGreatDoor
