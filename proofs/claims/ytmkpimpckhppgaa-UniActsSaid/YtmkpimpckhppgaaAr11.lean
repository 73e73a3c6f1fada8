/-
  What is proved: arguments that came in, opened: acts of two numbers; rows of numbers: their cells hold what their types say. No program's function is in it.
  (Left out here, as nothing of this law reaches it: act_of, open_act, acts_of, open_acts.) -/
import Derived.Test.YtmkpimpckhppgaaRows
import Derived.Test.YtmkpimpckhppgaaBase
import Derived.Deep.Slices
import Derived.Deep.Fields
import Derived.ChangeSame
import Derived.OpenShut
import Derived.ChangeSlices
namespace Go.Proofs.Ytmkpimpckhppgaa
open Go.RowKit Go.ChangeShapes Go.WideShapes Go.Deep

/-- an act -/
structure A2 where
  k : Int
  b : Int
instance : Inhabited A2 := ⟨⟨0, 0⟩⟩
def A2.cells (x : A2) : List Value := [.int .i64 x.k, .int .i64 x.b]
structure ActAt (w : World) (p : Addr) (x : A2) : Prop where
  lt : p.block < w.heap.size
  c0 : w.cell? p = some (.int .i64 x.k)
  c1 : w.cell? ⟨p.block, p.off + 1, none⟩ = some (.int .i64 x.b)
theorem ActAt.below {w w' : World} {p : Addr} {x : A2} (h : ActAt w p x) (hb : Below w.heap.size w w') : ActAt w' p x :=
  ⟨Nat.lt_of_lt_of_le h.lt hb.size, (hb.cell h.lt).trans h.c0, (hb.cell (p := ⟨p.block, p.off + 1, none⟩) h.lt).trans h.c1⟩
/-- acts that are read -/
def Acts (w : World) (A : Option Addr) (n : Nat) (f : Nat → A2) : Prop := ∀ i, i < n → ∃ ad, A = some ad ∧ ActAt w (ad.add (i * 2)) (f i)
theorem Acts.below {w w' : World} {A : Option Addr} {n : Nat} {f : Nat → A2} (h : Acts w A n f) (hb : Below w.heap.size w w') : Acts w' A n f := fun i hi => by
  obtain ⟨ad, e, h1⟩ := h i hi
  exact ⟨ad, e, h1.below hb⟩

section
variable {H : Type} {enc : TypeId × Value → H} {w : World} {base : Nat} {spare : Nat → Bool} {held : Bool}
/-- one cell of more, of a type of integers -/
theorem int_at {P : Program} {t : TypeId} {k : IntKind} {m off : Nat} {cs : List Value} {y : Option (DataW H × List MemPlace)} (hk : P.underlying t = some (.int k)) (hy : y.isSome = true)
    (h : DataW.trod enc P w base spare held m t ((cs.drop off).take 1) = y) : ∃ a, cs[off]? = some (.int k a) ∧ (Lit.int k a).wf = true := by
  obtain ⟨y, rfl⟩ := Option.isSome_iff_exists.1 hy
  obtain ⟨a, e, _, hw⟩ := DataW.trod_int hk h
  refine ⟨a, ?_, hw⟩
  have := congrArg (·[0]?) e
  simpa using this













































/-- numbers of one kind that are read, one behind the other -/
def Ns (w : World) (k : IntKind) (A : Option Addr) (l : List Int) : Prop := ∀ j x, l[j]? = some x → ∃ ad, A = some ad ∧ ad.block < w.heap.size ∧ w.cell? (ad.add j) = some (.int k x)
theorem open_ns {P : Program} {t e : TypeId} {k : IntKind} {v : Value} {d : DataW H} {p : List MemPlace} {r : Reach} {b0 : Nat} (ht : P.underlying t = some (.slice e)) (he : P.underlying e = some (.int k)) (hc : P.cellsOf e = 1) (hv : Value.okWide P w r b0 t v) (h : DataW.Trod enc P w base spare held t v d p) :
    ∃ A n c l, v = .slice A n c ∧ l.length = n ∧ n ≤ c ∧ c ≤ maxLen ∧ Ns w k A l ∧ ∀ x ∈ l, (Lit.int k x).wf = true := by
  obtain ⟨a0, len0, cap0, rfl⟩ := okWide_slice ht hv
  obtain ⟨fuel, hf⟩ := h
  rcases open_ints ht he hc hf with ⟨e, _⟩ | ⟨a, len, cap, zs, e, _, hl, hm, hz, _, hcell, hw⟩
  · simp [Value.cells] at e
    obtain ⟨rfl, rfl, rfl⟩ := e
    exact ⟨none, 0, 0, [], rfl, rfl, Nat.le_refl _, by unfold maxLen; omega, fun j x hx => by simp at hx, fun x hx => by cases hx⟩
  · simp [Value.cells] at e
    obtain ⟨rfl, rfl, rfl⟩ := e
    have hle : len0 ≤ zs.length := by rw [hz]; split <;> omega
    refine ⟨some a, len0, cap0, zs.take len0, rfl, by rw [List.length_take]; omega, hl, hm, fun j x hx => ?_, fun x hx => hw x (List.mem_of_mem_take hx)⟩
    rw [List.getElem?_take] at hx
    split at hx
    · have hj := (List.getElem?_eq_some_iff.1 hx).1
      have hc2 := hcell j hj
      have e2 : zs.getD j 0 = x := by rw [List.getD, hx]; rfl
      rw [e2] at hc2
      have hb := World.block_lt_of_cell? w _ hc2
      rw [addBlk] at hb
      exact ⟨a, rfl, hb, hc2⟩
    · cases hx
theorem Ns.rv {w : World} {A : Option Addr} {l : List Int} (h : Ns w .i64 A l) : Rv w w.heap.size A (ints l) := fun j u hu => by
  unfold ints at hu
  rw [List.getElem?_map] at hu
  obtain ⟨x, hx, rfl⟩ := Option.map_eq_some_iff.1 hu
  exact h j x hx
theorem Ns.below {w w' : World} {k : IntKind} {A : Option Addr} {l : List Int} (h : Ns w k A l) (hb : Below w.heap.size w w') : Ns w' k A l := fun j x hx => by
  obtain ⟨ad, e, h1, h2⟩ := h j x hx
  exact ⟨ad, e, Nat.lt_of_lt_of_le h1 hb.size, (hb.cell (p := ad.add j) (by rw [addBlk]; exact h1)).trans h2⟩
end
end Go.Proofs.Ytmkpimpckhppgaa
