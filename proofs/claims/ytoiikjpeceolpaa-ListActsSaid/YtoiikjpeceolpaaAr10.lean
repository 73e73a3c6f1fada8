/-
  What is proved: arguments that came in, opened: acts on a space of lists: their cells hold what their types say. No program's function is in it.
-/
import Derived.Test.YtoiikjpeceolpaaRows
import Derived.Test.YtoiikjpeceolpaaBase
import Derived.Deep.Slices
import Derived.Deep.Fields
import Derived.ChangeSame
import Derived.OpenShut
namespace Go.Proofs.Ytoiikjpeceolpaa
open Go.RowKit Go.ChangeShapes Go.WideShapes Go.Deep

/-- an act -/
structure A3 where
  k : Int
  l : Int
  b : Int
instance : Inhabited A3 := ⟨⟨0, 0, 0⟩⟩
def A3.cells (x : A3) : List Value := [.int .i64 x.k, .int .i64 x.l, .int .i64 x.b]
structure ActAt (w : World) (p : Addr) (x : A3) : Prop where
  lt : p.block < w.heap.size
  c0 : w.cell? p = some (.int .i64 x.k)
  c1 : w.cell? ⟨p.block, p.off + 1, none⟩ = some (.int .i64 x.l)
  c2 : w.cell? ⟨p.block, p.off + 2, none⟩ = some (.int .i64 x.b)
theorem ActAt.below {w w' : World} {p : Addr} {x : A3} (h : ActAt w p x) (hb : Below w.heap.size w w') : ActAt w' p x :=
  ⟨Nat.lt_of_lt_of_le h.lt hb.size, (hb.cell h.lt).trans h.c0, (hb.cell (p := ⟨p.block, p.off + 1, none⟩) h.lt).trans h.c1, (hb.cell (p := ⟨p.block, p.off + 2, none⟩) h.lt).trans h.c2⟩
/-- acts that are read -/
def Acts (w : World) (A : Option Addr) (n : Nat) (f : Nat → A3) : Prop := ∀ i, i < n → ∃ ad, A = some ad ∧ ActAt w (ad.add (i * 3)) (f i)
theorem Acts.below {w w' : World} {A : Option Addr} {n : Nat} {f : Nat → A3} (h : Acts w A n f) (hb : Below w.heap.size w w') : Acts w' A n f := fun i hi => by
  obtain ⟨ad, e, h1⟩ := h i hi
  exact ⟨ad, e, h1.below hb⟩

section
variable {H : Type} {enc : TypeId × Value → H} {w : World} {base : Nat} {spare : Nat → Bool} {held : Bool}
/-- one cell of more, of a type of integers -/
theorem int_at {P : Program} {t : TypeId} {k : IntKind} {m off : Nat} {cs : List Value} {y : Option (DataW H × List MemPlace)} (hk : P.underlying t = some (.int k)) (hy : y.isSome = true)
    (h : DataW.trod enc P w base spare held m t ((cs.drop off).take 1) = y) : ∃ a, cs[off]? = some (.int k a) ∧ (Lit.int k a).wf = true := by
  obtain ⟨y, rfl⟩ := Option.isSome_iff_exists.1 hy
  obtain ⟨a, e, _, hw⟩ := DataW.trod_int hk h
  refine ⟨a, ?_, hw⟩
  have := congrArg (·[0]?) e
  simpa using this
set_option maxRecDepth 100000 in
theorem act_of {n : Nat} {cs : List Value} {x : DataW H × List MemPlace} (h : DataW.trod enc Try.prog w base spare held n 29 cs = some x) : ∃ y : A3, cs = y.cells := by
  obtain ⟨xs, m, _, rfl, hl, hxl, hg⟩ := DataW.trod_struct Try.underlying29 h
  have hl3 : cs.length = 3 := hl.trans (by kernel_rfl)
  have hx3 : xs.length = 3 := hxl
  obtain ⟨k, hk, _⟩ := int_at (off := 0) Try.underlying3 (by simp; omega) (hg 0 _ rfl)
  obtain ⟨a, ha, _⟩ := int_at (off := 1) Try.underlying3 (by simp; omega) (hg 1 _ rfl)
  obtain ⟨i, hi, _⟩ := int_at (off := 2) Try.underlying3 (by simp; omega) (hg 2 _ rfl)
  match cs, hl3 with
  | [c0, c1, c2], _ =>
    simp at hk ha hi
    exact ⟨⟨k, a, i⟩, by rw [hk, ha, hi]; rfl⟩
theorem open_act {v : Value} {d : DataW H} {p : List MemPlace} {r : Reach} {b0 : Nat} (hv : Value.okWide Try.prog w r b0 29 v) (h : DataW.Trod enc Try.prog w base spare held 29 v d p) :
    ∃ κ x y : Int, v = .agg #[.int .i64 κ, .int .i64 x, .int .i64 y] := by
  obtain ⟨cs, rfl, hsz⟩ := okWide_struct Try.underlying29 hv
  obtain ⟨fuel, hf⟩ := h
  obtain ⟨y, e⟩ := act_of hf
  have e2 : cs.toList = y.cells := e
  exact ⟨y.k, y.l, y.b, by rw [show cs = cs.toList.toArray from by simp, e2]; rfl⟩
theorem acts_of {fuel : Nat} {cs : List Value} {x : DataW H × List MemPlace} (h : DataW.trod enc Try.prog w base spare held fuel 22 cs = some x) :
    ∃ A n c f, cs = [.slice A n c] ∧ n ≤ maxLen ∧ Acts w A n f := by
  rcases open_slice Try.underlying22 h with ⟨h0, _⟩ | ⟨a, len, cap, m, n, D, Pl, hcs, hb, hl, hm, hmm, hx, hi⟩
  · exact ⟨none, 0, 0, fun _ => default, h0, by unfold maxLen; omega, fun i hi => absurd hi (Nat.not_lt_zero i)⟩
  · have key : ∀ i, i < len → ∃ y : A3, ActAt w (a.add (i * 3)) y := fun i hil => by
      have him : i < m := by rw [hmm]; split <;> omega
      obtain ⟨cs', hc, ht'⟩ := hi i him
      rw [show Try.prog.cellsOf 29 = 3 by kernel_rfl] at hc
      obtain ⟨y, rfl⟩ := act_of ht'
      obtain ⟨_, _, hat⟩ := World.cells?_some hc
      have a0 := hat 0 (by omega)
      have a1 := hat 1 (by omega)
      have a2 := hat 2 (by omega)
      have e : ∀ q : Addr, q.add 0 = q := fun q => by simp [Addr.add]
      have e' : ∀ (q : Addr) (i : Nat), 0 < i → q.add i = ⟨q.block, q.off + i, none⟩ := fun q i hi => by unfold Addr.add; rw [if_neg (by omega)]
      rw [e] at a0
      rw [e' _ 1 (by omega)] at a1
      rw [e' _ 2 (by omega)] at a2
      exact ⟨y, World.block_lt_of_cell? w _ a0, a0, a1, a2⟩
    obtain ⟨f, hf⟩ := choose_lt key
    exact ⟨some a, len, cap, f, hcs, by omega, fun i hi => ⟨a, rfl, hf i hi⟩⟩
theorem open_acts {v : Value} {d : DataW H} {p : List MemPlace} {r : Reach} {b0 : Nat} (hv : Value.okWide Try.prog w r b0 22 v) (h : DataW.Trod enc Try.prog w base spare held 22 v d p) :
    ∃ A n c f, v = .slice A n c ∧ n ≤ maxLen ∧ Acts w A n f := by
  obtain ⟨a0, len0, cap0, rfl⟩ := okWide_slice Try.underlying22 hv
  obtain ⟨fuel, hf⟩ := h
  obtain ⟨A, n, c, f, e, h1⟩ := acts_of hf
  simp [Value.cells] at e
  obtain ⟨rfl, rfl, rfl⟩ := e
  exact ⟨_, _, _, f, rfl, h1⟩
end
end Go.Proofs.Ytoiikjpeceolpaa
