/-
  What is proved: arguments that came in, opened: acts of two numbers; rows of numbers: their cells hold what their types say. No program's function is in it.
-/
import Derived.Test.YtibppolcchhmaaaK37
import Derived.Test.YtibppolcchhmaaaRows
import Derived.Test.YtibppolcchhmaaaK03
import Derived.Deep.Slices
import Derived.Deep.Fields
import Derived.ChangeSame
import Derived.OpenShut
import Derived.ChangeSlices
namespace Go.Proofs.Ytibppolcchhmaaa
open Go.RowKit Go.ChangeShapes Go.WideShapes Go.Deep

/-- an act -/
structure A2 where
  k : Int
  b : Int
instance : Inhabited A2 := ⟨⟨0, 0⟩⟩
def A2.cells (x : A2) : List Value := [.int .i64 x.k, .int .i64 x.b]
structure ActAt (w : World) (p : Addr) (x : A2) : Prop where
  lt : p.block < w.heap.size
  c0 : w.cell? p = some (.int .i64 x.k)
  c1 : w.cell? ⟨p.block, p.off + 1, none⟩ = some (.int .i64 x.b)
theorem ActAt.below {w w' : World} {p : Addr} {x : A2} (h : ActAt w p x) (hb : Below w.heap.size w w') : ActAt w' p x :=
  ⟨Nat.lt_of_lt_of_le h.lt hb.size, (hb.cell h.lt).trans h.c0, (hb.cell (p := ⟨p.block, p.off + 1, none⟩) h.lt).trans h.c1⟩
/-- acts that are read -/
def Acts (w : World) (A : Option Addr) (n : Nat) (f : Nat → A2) : Prop := ∀ i, i < n → ∃ ad, A = some ad ∧ ActAt w (ad.add (i * 2)) (f i)
theorem Acts.below {w w' : World} {A : Option Addr} {n : Nat} {f : Nat → A2} (h : Acts w A n f) (hb : Below w.heap.size w w') : Acts w' A n f := fun i hi => by
  obtain ⟨ad, e, h1⟩ := h i hi
  exact ⟨ad, e, h1.below hb⟩

section
variable {H : Type} {enc : TypeId × Value → H} {w : World} {base : Nat} {spare : Nat → Bool} {held : Bool}
set_option maxRecDepth 100000 in
theorem act_of {n : Nat} {cs : List Value} {x : DataW H × List MemPlace} (h : DataW.trod enc Try.prog w base spare held n 39 cs = some x) : ∃ y : A2, cs = y.cells ∧ (-9223372036854775808 ≤ y.b ∧ y.b ≤ 9223372036854775807) := by
  obtain ⟨xs, m, _, rfl, hl, hxl, hg⟩ := DataW.trod_struct Try.underlying39 h
  have hl3 : cs.length = 2 := hl.trans (by kernel_rfl)
  have hx3 : xs.length = 2 := hxl
  obtain ⟨k, hk, _⟩ := int_at (off := 0) Try.underlying3 (by simp; omega) (hg 0 _ rfl)
  obtain ⟨a, ha, wa⟩ := int_at (off := 1) Try.underlying3 (by simp; omega) (hg 1 _ rfl)
  have hab : -9223372036854775808 ≤ a ∧ a ≤ 9223372036854775807 := by
    simp only [Lit.wf, Bool.and_eq_true, decide_eq_true_eq] at wa
    exact wa
  match cs, hl3 with
  | [c0, c1], _ =>
    simp at hk ha
    exact ⟨⟨k, a⟩, by rw [hk, ha]; rfl, hab⟩
set_option maxRecDepth 10000 in
theorem open_act {v : Value} {d : DataW H} {p : List MemPlace} {r : Reach} {b0 : Nat} (hv : Value.okWide Try.prog w r b0 39 v) (h : DataW.Trod enc Try.prog w base spare held 39 v d p) :
    ∃ κ y : Int, v = .agg #[.int .i64 κ, .int .i64 y] := by
  obtain ⟨cs, rfl, hsz⟩ := okWide_struct Try.underlying39 hv
  obtain ⟨fuel, hf⟩ := h
  obtain ⟨y, e, _⟩ := act_of hf
  have e2 : cs.toList = y.cells := e
  exact ⟨y.k, y.b, by rw [show cs = cs.toList.toArray from by simp, e2]; rfl⟩
theorem acts_of {fuel : Nat} {cs : List Value} {x : DataW H × List MemPlace} (h : DataW.trod enc Try.prog w base spare held fuel 26 cs = some x) :
    ∃ A n c f, cs = [.slice A n c] ∧ n ≤ maxLen ∧ Acts w A n f ∧ ∀ i, i < n → -9223372036854775808 ≤ (f i).b ∧ (f i).b ≤ 9223372036854775807 := by
  rcases open_slice Try.underlying26 h with ⟨h0, _⟩ | ⟨a, len, cap, m, n, D, Pl, hcs, hb, hl, hm, hmm, hx, hi⟩
  · exact ⟨none, 0, 0, fun _ => default, h0, by unfold maxLen; omega, fun i hi => absurd hi (Nat.not_lt_zero i), fun i hi => absurd hi (Nat.not_lt_zero i)⟩
  · have key : ∀ i, i < len → ∃ y : A2, ActAt w (a.add (i * 2)) y ∧ (-9223372036854775808 ≤ y.b ∧ y.b ≤ 9223372036854775807) := fun i hil => by
      have him : i < m := by rw [hmm]; split <;> omega
      obtain ⟨cs', hc, ht'⟩ := hi i him
      rw [show Try.prog.cellsOf 39 = 2 by kernel_rfl] at hc
      obtain ⟨y, rfl, hyb⟩ := act_of ht'
      obtain ⟨_, _, hat⟩ := World.cells?_some hc
      have a0 := hat 0 (by omega)
      have a1 := hat 1 (by omega)
      have e : ∀ q : Addr, q.add 0 = q := fun q => by simp [Addr.add]
      have e' : ∀ (q : Addr) (i : Nat), 0 < i → q.add i = ⟨q.block, q.off + i, none⟩ := fun q i hi => by unfold Addr.add; rw [if_neg (by omega)]
      rw [e] at a0
      rw [e' _ 1 (by omega)] at a1
      exact ⟨y, ⟨World.block_lt_of_cell? w _ a0, a0, a1⟩, hyb⟩
    obtain ⟨f, hf⟩ := choose_lt key
    exact ⟨some a, len, cap, f, hcs, by omega, fun i hi => ⟨a, rfl, (hf i hi).1⟩, fun i hi => (hf i hi).2⟩
set_option maxRecDepth 10000 in
/-- the numbers' bounds, too -/
theorem open_acts_b {v : Value} {d : DataW H} {p : List MemPlace} {r : Reach} {b0 : Nat} (hv : Value.okWide Try.prog w r b0 26 v) (h : DataW.Trod enc Try.prog w base spare held 26 v d p) :
    ∃ A n c f, v = .slice A n c ∧ n ≤ maxLen ∧ Acts w A n f ∧ ∀ i, i < n → -9223372036854775808 ≤ (f i).b ∧ (f i).b ≤ 9223372036854775807 := by
  obtain ⟨a0, len0, cap0, rfl⟩ := okWide_slice Try.underlying26 hv
  obtain ⟨fuel, hf⟩ := h
  obtain ⟨A, n, c, f, e, h1⟩ := acts_of hf
  simp [Value.cells] at e
  obtain ⟨rfl, rfl, rfl⟩ := e
  exact ⟨_, _, _, f, rfl, h1⟩
set_option maxRecDepth 10000 in
theorem open_acts {v : Value} {d : DataW H} {p : List MemPlace} {r : Reach} {b0 : Nat} (hv : Value.okWide Try.prog w r b0 26 v) (h : DataW.Trod enc Try.prog w base spare held 26 v d p) :
    ∃ A n c f, v = .slice A n c ∧ n ≤ maxLen ∧ Acts w A n f := by
  obtain ⟨A, n, c, f, h1, h2, h3, _⟩ := open_acts_b hv h
  exact ⟨A, n, c, f, h1, h2, h3⟩
/-- numbers of one kind that are read, one behind the other -/
def Ns (w : World) (k : IntKind) (A : Option Addr) (l : List Int) : Prop := ∀ j x, l[j]? = some x → ∃ ad, A = some ad ∧ ad.block < w.heap.size ∧ w.cell? (ad.add j) = some (.int k x)
theorem open_ns {P : Program} {t e : TypeId} {k : IntKind} {v : Value} {d : DataW H} {p : List MemPlace} {r : Reach} {b0 : Nat} (ht : P.underlying t = some (.slice e)) (he : P.underlying e = some (.int k)) (hc : P.cellsOf e = 1) (hv : Value.okWide P w r b0 t v) (h : DataW.Trod enc P w base spare held t v d p) :
    ∃ A n c l, v = .slice A n c ∧ l.length = n ∧ n ≤ c ∧ c ≤ maxLen ∧ Ns w k A l ∧ ∀ x ∈ l, (Lit.int k x).wf = true := by
  obtain ⟨a0, len0, cap0, rfl⟩ := okWide_slice ht hv
  obtain ⟨fuel, hf⟩ := h
  rcases open_ints ht he hc hf with ⟨e, _⟩ | ⟨a, len, cap, zs, e, _, hl, hm, hz, _, hcell, hw⟩
  · simp [Value.cells] at e
    obtain ⟨rfl, rfl, rfl⟩ := e
    exact ⟨none, 0, 0, [], rfl, rfl, Nat.le_refl _, by unfold maxLen; omega, fun j x hx => by simp at hx, fun x hx => by cases hx⟩
  · simp [Value.cells] at e
    obtain ⟨rfl, rfl, rfl⟩ := e
    have hle : len0 ≤ zs.length := by rw [hz]; split <;> omega
    refine ⟨some a, len0, cap0, zs.take len0, rfl, by rw [List.length_take]; omega, hl, hm, fun j x hx => ?_, fun x hx => hw x (List.mem_of_mem_take hx)⟩
    rw [List.getElem?_take] at hx
    split at hx
    · have hj := (List.getElem?_eq_some_iff.1 hx).1
      have hc2 := hcell j hj
      have e2 : zs.getD j 0 = x := by rw [List.getD, hx]; rfl
      rw [e2] at hc2
      have hb := World.block_lt_of_cell? w _ hc2
      rw [addBlk] at hb
      exact ⟨a, rfl, hb, hc2⟩
    · cases hx
theorem Ns.rv {w : World} {A : Option Addr} {l : List Int} (h : Ns w .i64 A l) : Rv w w.heap.size A (ints l) := fun j u hu => by
  unfold ints at hu
  rw [List.getElem?_map] at hu
  obtain ⟨x, hx, rfl⟩ := Option.map_eq_some_iff.1 hu
  exact h j x hx
theorem Ns.below {w w' : World} {k : IntKind} {A : Option Addr} {l : List Int} (h : Ns w k A l) (hb : Below w.heap.size w w') : Ns w' k A l := fun j x hx => by
  obtain ⟨ad, e, h1, h2⟩ := h j x hx
  exact ⟨ad, e, Nat.lt_of_lt_of_le h1 hb.size, (hb.cell (p := ad.add j) (by rw [addBlk]; exact h1)).trans h2⟩
end
end Go.Proofs.Ytibppolcchhmaaa
