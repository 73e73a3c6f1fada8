/-
  What is proved: the reference's Hints tells whether hints may be, of so many blocks; what it writes lies in new memory. Condition: the hints are read as such.
  (Left out here, as nothing of this law reaches it: in_any, rhints_any.) -/
import Derived.Test.YtibppolcchhmaaaK15
import Derived.Test.YtibppolcchhmaaaK17
namespace Go.Proofs.Ytibppolcchhmaaa
open Go.RowKit
































































































































































































end Go.Proofs.Ytibppolcchhmaaa
/-
  What is proved: karma's wrong tells whether a number of a part may not be; slices.ContainsFunc over parts with it, and over hints with what asks how often; karma's refuses tells what is wrong with telling a cost. Condition: hints and parts are read as such.
  (Left out here, as nothing of this law reaches it: wrong_any, idx_parts, contains_parts, tooOften_any, idx_hints, contains_hints.) -/
namespace Go.Proofs.Ytibppolcchhmaaa
open Go.RowKit

abbrev f4 (a b c d : Int) (i : Nat) : Int := [a, b, c, d].getD i 0
/-- the cells of parts, one behind the other -/
def pvs (P : Nat → Nat → Int) (m : Nat) : List Value := (List.range (m * 4)).map fun j => .int .i64 (P (j / 4) (j % 4))
theorem pvs_length (P : Nat → Nat → Int) (m : Nat) : (pvs P m).length = m * 4 := by simp [pvs]
theorem pvs_one (P : Nat → Nat → Int) (m : Nat) : ∀ u ∈ pvs P m, u.oneCell' = true := fun u hu => by
  obtain ⟨j, _, rfl⟩ := List.mem_map.1 hu
  rfl
theorem pvs_at (P : Nat → Nat → Int) {m i t : Nat} (hi : i < m) (ht : t < 4) : (pvs P m)[i * 4 + t]? = some (.int .i64 (P i t)) := by
  unfold pvs
  rw [List.getElem?_map, List.getElem?_range (by omega)]
  show some (Value.int .i64 (P ((i * 4 + t) / 4) ((i * 4 + t) % 4))) = _
  rw [show (i * 4 + t) / 4 = i by omega, show (i * 4 + t) % 4 = t by omega]
theorem pvs_congr {P R : Nat → Nat → Int} {m : Nat} (h : ∀ i, i < m → ∀ t, t < 4 → P i t = R i t) : pvs P m = pvs R m := by
  unfold pvs
  refine List.map_congr_left fun j hj => ?_
  have := List.mem_range.1 hj
  rw [h (j / 4) (by omega) (j % 4) (by omega)]
/-- a part that is read -/
structure PAt (w : World) (a : Addr) (x : Nat → Int) : Prop where
  lt : a.block < w.heap.size
  c0 : w.cell? a = some (.int .i64 (x 0))
  c1 : w.cell? ⟨a.block, a.off + 1, none⟩ = some (.int .i64 (x 1))
  c2 : w.cell? ⟨a.block, a.off + 2, none⟩ = some (.int .i64 (x 2))
  c3 : w.cell? ⟨a.block, a.off + 3, none⟩ = some (.int .i64 (x 3))
theorem Rv.part {w : World} {A : Option Addr} {P : Nat → Nat → Int} {m q : Nat} (hr : Rv w w.heap.size A (pvs P m)) (hq : q < m) : ∃ ad, A = some ad ∧ PAt w (ad.add (q * 4)) (P q) := by
  obtain ⟨ad, rfl, hb, c0⟩ := hr _ _ (pvs_at P hq (t := 0) (by omega))
  obtain ⟨_, e1, _, c1⟩ := hr _ _ (pvs_at P hq (t := 1) (by omega))
  obtain ⟨_, e2, _, c2⟩ := hr _ _ (pvs_at P hq (t := 2) (by omega))
  obtain ⟨_, e3, _, c3⟩ := hr _ _ (pvs_at P hq (t := 3) (by omega))
  injection e1 with e1
  injection e2 with e2
  injection e3 with e3
  subst e1 e2 e3
  rw [addSucc _ _ _ (by omega)] at c1 c2 c3
  rw [Nat.add_zero] at c0
  exact ⟨ad, rfl, by rw [addBlk]; exact hb, c0, c1, c2, c3⟩
theorem PAt.next {w w' : World} {a : Addr} {x : Nat → Int} (hh : PAt w a x) (hb : Below w.heap.size w w') : PAt w' a x :=
  ⟨Nat.lt_of_lt_of_le hh.lt hb.size, (hb.cell hh.lt).trans hh.c0, (hb.cell (p := ⟨a.block, a.off + 1, none⟩) hh.lt).trans hh.c1, (hb.cell (p := ⟨a.block, a.off + 2, none⟩) hh.lt).trans hh.c2, (hb.cell (p := ⟨a.block, a.off + 3, none⟩) hh.lt).trans hh.c3⟩

























/-- one of the first m parts has a number that may not be -/
def PBad (P : Nat → Nat → Int) (m : Nat) : Prop := ∃ i, i < m ∧ Outs 0 32 (P i) 4
theorem f4_congr (x : Nat → Int) (lo hi : Int) : Outs lo hi (f4 (x 0) (x 1) (x 2) (x 3)) 4 ↔ Outs lo hi x 4 := by
  have h : ∀ i, i < 4 → f4 (x 0) (x 1) (x 2) (x 3) i = x i := fun i hi => by
    have h4 : i = 0 ∨ i = 1 ∨ i = 2 ∨ i = 3 := by omega
    rcases h4 with rfl | rfl | rfl | rfl <;> rfl
  unfold Outs
  constructor
  · rintro ⟨i, h1, h2⟩; exact ⟨i, h1, by rw [← h i h1]; exact h2⟩
  · rintro ⟨i, h1, h2⟩; exact ⟨i, h1, by rw [h i h1]; exact h2⟩

























































/-- one of the first n hints is asked for too often -/
def OBad (hh : Nat → Hn) (n : Nat) : Prop := ∃ i, i < n ∧ ((hh i).o < 0 ∨ 100000 < (hh i).o)











































































end Go.Proofs.Ytibppolcchhmaaa
