/-
  What is proved: one cell of more, of a type of integers or truths, holds what its type says. No program's function is in it.
-/
import Derived.Test.YtbcejfonkehjgaaGreatDoorRows
import Derived.Test.YtbcejfonkehjgaaGreatDoorK02
import Derived.Deep.Slices
import Derived.Deep.Fields
import Derived.ChangeSame
import Derived.OpenShut
import Derived.Test.YtbcejfonkehjgaaGreatDoorK14
import Derived.Test.YtbcejfonkehjgaaGreatDoorK20
import Derived.Test.YtbcejfonkehjgaaGreatDoorK26
namespace Go.Proofs.YtbcejfonkehjgaaGreatDoor
open Go.RowKit Go.ChangeShapes Go.WideShapes Go.Deep

section
variable {H : Type} {enc : TypeId × Value → H} {w : World} {base : Nat} {spare : Nat → Bool} {held : Bool}
theorem int_at {P : Program} {t : TypeId} {k : IntKind} {m off : Nat} {cs : List Value} {y : Option (DataW H × List MemPlace)} (hk : P.underlying t = some (.int k)) (hy : y.isSome = true)
    (h : DataW.trod enc P w base spare held m t ((cs.drop off).take 1) = y) : ∃ a, cs[off]? = some (.int k a) ∧ (Lit.int k a).wf = true := by
  obtain ⟨y, rfl⟩ := Option.isSome_iff_exists.1 hy
  obtain ⟨a, e, _, hw⟩ := DataW.trod_int hk h
  refine ⟨a, ?_, hw⟩
  have := congrArg (·[0]?) e
  simpa using this
theorem bool_at {P : Program} {t : TypeId} {m off : Nat} {cs : List Value} {y : Option (DataW H × List MemPlace)} (hk : P.underlying t = some .bool) (hy : y.isSome = true)
    (h : DataW.trod enc P w base spare held m t ((cs.drop off).take 1) = y) : ∃ a, cs[off]? = some (.bool a) := by
  obtain ⟨y, rfl⟩ := Option.isSome_iff_exists.1 hy
  obtain ⟨a, e, _⟩ := DataW.trod_bool hk h
  refine ⟨a, ?_⟩
  have := congrArg (·[0]?) e
  simpa using this
end
end Go.Proofs.YtbcejfonkehjgaaGreatDoor
namespace Go.Proofs.YtbcejfonkehjgaaGreatDoor
open Go.RowKit Go.ChangeShapes Go.WideShapes Go.Deep

section
variable {H : Type} {enc : TypeId × Value → H} {w : World} {base : Nat} {spare : Nat → Bool} {held : Bool}
set_option maxRecDepth 100000 in
theorem hint_of {n : Nat} {cs : List Value} {x : DataW H × List MemPlace} (h : DataW.trod enc Tryz.prog w base spare held n 101 cs = some x) : ∃ p : Hn, cs = hv p := by
  obtain ⟨xs, m, _, _, hl, hxl, hg⟩ := DataW.trod_struct Tryz.underlying101 h
  have hl4 : cs.length = 4 := hl.trans (by kernel_rfl)
  have hx4 : xs.length = 4 := hxl
  obtain ⟨a, ha, _⟩ := int_at (off := 0) Tryz.underlying3 (by simp; omega) (hg 0 _ rfl)
  obtain ⟨b, hb, _⟩ := int_at (off := 1) Tryz.underlying3 (by simp; omega) (hg 1 _ rfl)
  obtain ⟨c, hc, _⟩ := int_at (off := 2) Tryz.underlying3 (by simp; omega) (hg 2 _ rfl)
  obtain ⟨d, hd⟩ := bool_at (off := 3) Tryz.underlying4 (by simp; omega) (hg 3 _ rfl)
  match cs, hl4 with
  | [c0, c1, c2, c3], _ =>
    simp at ha hb hc hd
    exact ⟨⟨a, b, c, d⟩, by rw [ha, hb, hc, hd]; rfl⟩
theorem skolemG {α : Type} [Inhabited α] {P : Nat → α → Prop} {n : Nat} (h : ∀ i, i < n → ∃ p, P i p) : ∃ f : Nat → α, ∀ i, i < n → P i (f i) :=
  ⟨fun i => if hi : i < n then Classical.choose (h i hi) else default, fun i hi => by simp only [dif_pos hi]; exact Classical.choose_spec (h i hi)⟩
theorem add_add (a : Addr) (i j : Nat) : (a.add i).add j = a.add (i + j) := by
  unfold Addr.add
  by_cases hi : i = 0 <;> by_cases hj : j = 0 <;> simp [hi, hj, Nat.add_assoc]
instance : Inhabited Hn := ⟨⟨0, 0, 0, false⟩⟩
theorem hints_of {fuel : Nat} {cs : List Value} {x : DataW H × List MemPlace} (h : DataW.trod enc Tryz.prog w base spare held fuel 23 cs = some x) :
    ∃ A n c hh, cs = [.slice A n c] ∧ n ≤ maxLen ∧ Rv w w.heap.size A (hvs hh n) ∧ (A = none → c = 0) := by
  rcases open_slice Tryz.underlying23 h with ⟨h0, _⟩ | ⟨a, len, cap, m, n, D, Pl, hcs, hb, hl, hm, hmm, hx, hi⟩
  · exact ⟨none, 0, 0, default, h0, by unfold maxLen; omega, Rv.nil _ _ _, fun _ => rfl⟩
  · have key : ∀ i, i < len → ∃ p : Hn, ∀ j, j < 4 → w.cell? (a.add (i * 4 + j)) = (hv p)[j]? := fun i hil => by
      have him : i < m := by rw [hmm]; split <;> omega
      obtain ⟨cs', hc, ht'⟩ := hi i him
      rw [show Tryz.prog.cellsOf 101 = 4 by kernel_rfl] at hc
      obtain ⟨p, rfl⟩ := hint_of ht'
      obtain ⟨_, _, hat⟩ := World.cells?_some hc
      refine ⟨p, fun j hj => ?_⟩
      rw [← hat j hj, add_add]
    obtain ⟨hh, H⟩ := skolemG key
    refine ⟨some a, len, cap, hh, hcs, by omega, ?_, fun e => by cases e⟩
    intro j u hu
    have hj : j < len * 4 := by
      rw [← hvs_length hh len]
      exact (List.getElem?_eq_some_iff.1 hu).1
    have hs := H (j / 4) (by omega) (j % 4) (by omega)
    rw [show j / 4 * 4 + j % 4 = j by omega] at hs
    have hc : w.cell? (a.add j) = some u := by
      obtain ⟨a0, a1, a2, a3⟩ := hvs_at hh len (j / 4) (by omega)
      rw [hs]
      have h4 : j % 4 = 0 ∨ j % 4 = 1 ∨ j % 4 = 2 ∨ j % 4 = 3 := by omega
      rcases h4 with h4 | h4 | h4 | h4 <;> rw [h4]
      · rw [show j = j / 4 * 4 by omega, a0] at hu; exact hu
      · rw [show j = j / 4 * 4 + 1 by omega, a1] at hu; exact hu
      · rw [show j = j / 4 * 4 + 2 by omega, a2] at hu; exact hu
      · rw [show j = j / 4 * 4 + 3 by omega, a3] at hu; exact hu
    refine ⟨a, rfl, ?_, hc⟩
    have := World.block_lt_of_cell? w _ hc
    rwa [addBlk] at this
theorem arr_at {t : TypeId} {m off i N : Nat} {cs : List Value} {y : Option (DataW H × List MemPlace)} (ht : Tryz.prog.underlying t = some (.array N 3)) (hi : i < N) (hy : y.isSome = true)
    (h : DataW.trod enc Tryz.prog w base spare held m t ((cs.drop off).take N) = y) : ∃ a, cs[off + i]? = some (.int .i64 a) := by
  obtain ⟨y, rfl⟩ := Option.isSome_iff_exists.1 hy
  obtain ⟨xs, m', _, _, _, hxl, hg⟩ := DataW.trod_array ht h
  have g := hg i hi
  rw [show Tryz.prog.cellsOf 3 = 1 by kernel_rfl, Nat.mul_one] at g
  obtain ⟨a, ha, _⟩ := int_at (off := i) Tryz.underlying3 (by simp; omega) g
  refine ⟨a, ?_⟩
  rw [List.getElem?_take, if_pos hi, List.getElem?_drop] at ha
  exact ha

























end
end Go.Proofs.YtbcejfonkehjgaaGreatDoor
namespace Go.Proofs.YtbcejfonkehjgaaGreatDoor
open Go.RowKit Go.ChangeShapes Go.WideShapes Go.Deep

structure A16 where
  k : Int
  lv : Int
  b : Int
  B : Option Addr
  c : Nat
  l : List Int
instance : Inhabited A16 := ⟨⟨0, 0, 0, none, 0, []⟩⟩
def A16.sl (x : A16) : Value := .slice x.B x.l.length x.c
def A16.cells (x : A16) : List Value := [.int .i64 x.k, .int .i64 x.lv, .int .i64 x.b, x.sl]
structure A16.Good (x : A16) (w : World) : Prop where
  by_ : By w (fun j => w.heap.size ≤ j) x.sl x.l
  wb : -9223372036854775808 ≤ x.b ∧ x.b ≤ 9223372036854775807
structure ActC (w : World) (p : Addr) (x : A16) : Prop where
  lt : p.block < w.heap.size
  c0 : w.cell? p = some (.int .i64 x.k)
  c1 : w.cell? ⟨p.block, p.off + 1, none⟩ = some (.int .i64 x.lv)
  c2 : w.cell? ⟨p.block, p.off + 2, none⟩ = some (.int .i64 x.b)
  c3 : w.cell? ⟨p.block, p.off + 3, none⟩ = some x.sl
theorem ActC.below {w w' : World} {p : Addr} {x : A16} (h : ActC w p x) (hb : Below w.heap.size w w') : ActC w' p x :=
  ⟨Nat.lt_of_lt_of_le h.lt hb.size, (hb.cell h.lt).trans h.c0, (hb.cell (p := ⟨p.block, p.off + 1, none⟩) h.lt).trans h.c1, (hb.cell (p := ⟨p.block, p.off + 2, none⟩) h.lt).trans h.c2, (hb.cell (p := ⟨p.block, p.off + 3, none⟩) h.lt).trans h.c3⟩
def ActsC (w : World) (A : Option Addr) (n : Nat) (f : Nat → A16) : Prop := ∀ i, i < n → ∃ ad, A = some ad ∧ ActC w (ad.add (i * 4)) (f i)
theorem ActsC.below {w w' : World} {A : Option Addr} {n : Nat} {f : Nat → A16} (h : ActsC w A n f) (hb : Below w.heap.size w w') : ActsC w' A n f := fun i hi => by
  obtain ⟨ad, e, h1⟩ := h i hi
  exact ⟨ad, e, h1.below hb⟩
theorem A16.Good.at_ {w w' : World} {x : A16} (h : x.Good w) (hb : Below w.heap.size w w') (X : Nat → Prop) (hX : ∀ j, X j → w.heap.size ≤ j) : By w' X x.sl x.l := (h.by_.below hb).less hX
theorem A16.Good.below {w w' : World} {x : A16} (h : x.Good w) (hb : Below w.heap.size w w') : x.Good w' := ⟨h.by_.below hb |>.less fun _ hj => Nat.le_trans hb.size hj, h.wb⟩
section
variable {H : Type} {enc : TypeId × Value → H} {w : World} {base : Nat} {spare : Nat → Bool} {held : Bool}
set_option maxRecDepth 100000 in
theorem open_config {v : Value} {d : DataW H} {p : List MemPlace} {r : Reach} {b0 : Nat} (hv : Value.okWide Tryz.prog w r b0 25 v) (h : DataW.Trod enc Tryz.prog w base spare held 25 v d p) :
    ∃ c A n cp hh, v = .agg (cfgC c A n cp) ∧ n ≤ maxLen ∧ Rv w w.heap.size A (hvs hh n) ∧ (A = none → cp = 0) := by
  obtain ⟨cs, rfl, hsz⟩ := okWide_struct Tryz.underlying25 hv
  obtain ⟨fuel, hf⟩ := h
  obtain ⟨xs, m, _, _, hl, hxl, hg⟩ := DataW.trod_struct Tryz.underlying25 hf
  have hx : xs.length = 13 := hxl
  have s17 : cs.size = 17 := hsz.trans (by kernel_rfl)
  obtain ⟨l⟩ := cs
  have sm : ∀ i, i < 13 → (xs[i]?).isSome = true := fun i hi => by simp; omega
  obtain ⟨c0, h0, _⟩ := int_at (off := 0) Tryz.underlying3 (sm 0 (by omega)) (hg 0 _ rfl)
  obtain ⟨c1, h1, _⟩ := int_at (off := 1) Tryz.underlying3 (sm 1 (by omega)) (hg 1 _ rfl)
  obtain ⟨c2, h2, _⟩ := int_at (off := 2) Tryz.underlying3 (sm 2 (by omega)) (hg 2 _ rfl)
  obtain ⟨c3, h3, _⟩ := int_at (off := 3) Tryz.underlying3 (sm 3 (by omega)) (hg 3 _ rfl)
  obtain ⟨c4, h4, _⟩ := int_at (off := 4) Tryz.underlying3 (sm 4 (by omega)) (hg 4 _ rfl)
  obtain ⟨c5, h5, _⟩ := int_at (off := 5) Tryz.underlying3 (sm 5 (by omega)) (hg 5 _ rfl)
  obtain ⟨c6, h6⟩ := arr_at (off := 6) (i := 0) Tryz.underlying22 (by omega) (sm 6 (by omega)) (hg 6 _ rfl)
  obtain ⟨c7, h7⟩ := arr_at (off := 6) (i := 1) Tryz.underlying22 (by omega) (sm 6 (by omega)) (hg 6 _ rfl)
  obtain ⟨c8, h8⟩ := arr_at (off := 6) (i := 2) Tryz.underlying22 (by omega) (sm 6 (by omega)) (hg 6 _ rfl)
  obtain ⟨c9, h9⟩ := arr_at (off := 9) (i := 0) Tryz.underlying22 (by omega) (sm 7 (by omega)) (hg 7 _ rfl)
  obtain ⟨c10, h10⟩ := arr_at (off := 9) (i := 1) Tryz.underlying22 (by omega) (sm 7 (by omega)) (hg 7 _ rfl)
  obtain ⟨c11, h11⟩ := arr_at (off := 9) (i := 2) Tryz.underlying22 (by omega) (sm 7 (by omega)) (hg 7 _ rfl)
  obtain ⟨c12, h12, _⟩ := int_at (off := 12) Tryz.underlying3 (sm 8 (by omega)) (hg 8 _ rfl)
  obtain ⟨c13, h13, _⟩ := int_at (off := 13) Tryz.underlying3 (sm 9 (by omega)) (hg 9 _ rfl)
  obtain ⟨c14, h14, _⟩ := int_at (off := 14) Tryz.underlying3 (sm 10 (by omega)) (hg 10 _ rfl)
  obtain ⟨c15, h15, _⟩ := int_at (off := 15) Tryz.underlying3 (sm 11 (by omega)) (hg 11 _ rfl)
  have g12 := hg 12 _ rfl
  obtain ⟨y, hy⟩ := Option.isSome_iff_exists.1 (sm 12 (by omega))
  obtain ⟨A, n, cp, hh, e, hn, hr, hc⟩ := hints_of (g12.trans hy)
  have h16 : l[16]? = some (.slice A n cp) := by
    have e2 : (l.drop 16).take 1 = [.slice A n cp] := e
    have := congrArg (·[0]?) e2
    simpa using this
  match l, s17 with
  | [k0, k1, k2, k3, k4, k5, k6, k7, k8, k9, k10, k11, k12, k13, k14, k15, k16], _ =>
    simp [Value.cells] at h0 h1 h2 h3 h4 h5 h6 h7 h8 h9 h10 h11 h12 h13 h14 h15 h16
    subst h0 h1 h2 h3 h4 h5 h6 h7 h8 h9 h10 h11 h12 h13 h14 h15 h16
    exact ⟨fun i => #[c0, c1, c2, c3, c4, c5, c6, c7, c8, c9, c10, c11, c12, c13, c14, c15].getD i 0, A, n, cp, hh, rfl, hn, hr, hc⟩
end
end Go.Proofs.YtbcejfonkehjgaaGreatDoor
namespace Go.Proofs.YtbcejfonkehjgaaGreatDoor
open Go.RowKit

end Go.Proofs.YtbcejfonkehjgaaGreatDoor
