/-
  What is proved: arguments that came in, opened: a text, acts on a disk: their cells hold what their types say. No program's function is in it.
-/
import Derived.Test.YtfhejadlkooklaaRows
import Derived.Test.YtfhejadlkooklaaDk
import Derived.Deep.Slices
import Derived.Deep.Fields
import Derived.ChangeSame
import Derived.OpenShut
namespace Go.Proofs.Ytfhejadlkooklaa
open Go.RowKit Go.ChangeShapes Go.WideShapes Go.Deep

/-- an act, and where its text lies -/
structure Ac where
  k : Int
  a : Int
  B : Option Addr
  c : Nat
  l : List Int
instance : Inhabited Ac := ⟨⟨0, 0, none, 0, []⟩⟩
/-- an act that is read -/
structure ActAt (w : World) (p : Addr) (x : Ac) : Prop where
  lt : p.block < w.heap.size
  k : w.cell? p = some (.int .i64 x.k)
  a : w.cell? ⟨p.block, p.off + 1, none⟩ = some (.int .i64 x.a)
  b : w.cell? ⟨p.block, p.off + 2, none⟩ = some (.slice x.B x.l.length x.c)
  r : Rn w x.B x.l
  le : x.l.length ≤ x.c ∧ x.c ≤ maxLen
  wa : -9223372036854775808 ≤ x.a ∧ x.a ≤ 9223372036854775807
theorem ActAt.below {w w' : World} {p : Addr} {x : Ac} (h : ActAt w p x) (hb : Below w.heap.size w w') : ActAt w' p x :=
  ⟨Nat.lt_of_lt_of_le h.lt hb.size, (hb.cell h.lt).trans h.k, (hb.cell (p := ⟨p.block, p.off + 1, none⟩) h.lt).trans h.a, (hb.cell (p := ⟨p.block, p.off + 2, none⟩) h.lt).trans h.b, h.r.now hb, h.le, h.wa⟩
/-- acts that are read -/
def Acts (w : World) (A : Option Addr) (n : Nat) (f : Nat → Ac) : Prop := ∀ i, i < n → ∃ ad, A = some ad ∧ ActAt w (ad.add (i * 3)) (f i)
theorem Acts.below {w w' : World} {A : Option Addr} {n : Nat} {f : Nat → Ac} (h : Acts w A n f) (hb : Below w.heap.size w w') : Acts w' A n f := fun i hi => by
  obtain ⟨ad, e, h1⟩ := h i hi
  exact ⟨ad, e, h1.below hb⟩

section
variable {H : Type} {enc : TypeId × Value → H} {w : World} {base : Nat} {spare : Nat → Bool} {held : Bool}
/-- one cell of more, of a type of integers -/
theorem int_at {P : Program} {t : TypeId} {k : IntKind} {m off : Nat} {cs : List Value} {y : Option (DataW H × List MemPlace)} (hk : P.underlying t = some (.int k)) (hy : y.isSome = true)
    (h : DataW.trod enc P w base spare held m t ((cs.drop off).take 1) = y) : ∃ a, cs[off]? = some (.int k a) ∧ (Lit.int k a).wf = true := by
  obtain ⟨y, rfl⟩ := Option.isSome_iff_exists.1 hy
  obtain ⟨a, e, _, hw⟩ := DataW.trod_int hk h
  refine ⟨a, ?_, hw⟩
  have := congrArg (·[0]?) e
  simpa using this
theorem bytes_of {fuel : Nat} {cs : List Value} {x : DataW H × List MemPlace} (h : DataW.trod enc Try.prog w base spare held fuel 29 cs = some x) :
    ∃ A n c ds, cs = [.slice A n c] ∧ ds.length = n ∧ n ≤ c ∧ c ≤ maxLen ∧ Rn w A ds ∧ ∀ x ∈ ds, 0 ≤ x ∧ x ≤ 255 := by
  rcases open_slice Try.underlying29 h with ⟨h0, _⟩ | ⟨a, len, cap, m, n, D, Pl, hcs, hb, hl, hm, hmm, hx, hi⟩
  · exact ⟨none, 0, 0, [], h0, rfl, Nat.le_refl _, by unfold maxLen; omega, Rd.nil _ _ _, fun x hx => by simp at hx⟩
  · have key : ∀ i, i < len → ∃ y : Int, w.cell? (a.add i) = some (.int .u8 y) ∧ 0 ≤ y ∧ y ≤ 255 := fun i hil => by
      have him : i < m := by rw [hmm]; split <;> omega
      obtain ⟨cs', hc, ht'⟩ := hi i him
      rw [show Try.prog.cellsOf 5 = 1 by kernel_rfl] at hc
      obtain ⟨y, hy, _, hw⟩ := DataW.trod_int Try.underlying5 ht'
      obtain ⟨_, _, hat⟩ := World.cells?_some hc
      have h0 := hat 0 (by omega)
      rw [hy, Nat.mul_one] at h0
      simp only [Lit.wf, Bool.and_eq_true, decide_eq_true_eq] at hw
      have hw' : 0 ≤ y ∧ y ≤ 255 := hw
      refine ⟨y, ?_, hw'⟩
      have e : (a.add i).add 0 = a.add i := by simp [Addr.add]
      rw [e] at h0
      exact h0
    obtain ⟨f, hf⟩ := choose_lt key
    refine ⟨some a, len, cap, (List.range len).map f, hcs, by simp, by omega, by omega, ?_, ?_⟩
    · intro j u hu
      rw [List.getElem?_map] at hu
      obtain ⟨i, hi1, hi2⟩ := Option.map_eq_some_iff.1 hu
      have hj : j < len := by
        have := (List.getElem?_eq_some_iff.1 hi1).1
        simpa using this
      rw [List.getElem?_range hj] at hi1
      injection hi1 with hi1
      subst hi1 hi2
      have hc := (hf j hj).1
      have hb := World.block_lt_of_cell? w _ hc
      rw [addBlk] at hb
      exact ⟨a, rfl, hb, hc⟩
    · intro y hy
      obtain ⟨i, hi1, rfl⟩ := List.mem_map.1 hy
      exact (hf i (List.mem_range.1 hi1)).2
theorem open_bytes {v : Value} {d : DataW H} {p : List MemPlace} {r : Reach} {b0 : Nat} (hv : Value.okWide Try.prog w r b0 29 v) (h : DataW.Trod enc Try.prog w base spare held 29 v d p) :
    ∃ A n c ds, v = .slice A n c ∧ ds.length = n ∧ n ≤ c ∧ c ≤ maxLen ∧ Rn w A ds ∧ ∀ x ∈ ds, 0 ≤ x ∧ x ≤ 255 := by
  obtain ⟨a0, len0, cap0, rfl⟩ := okWide_slice Try.underlying29 hv
  obtain ⟨fuel, hf⟩ := h
  obtain ⟨A, n, c, ds, e, h1⟩ := bytes_of hf
  simp [Value.cells] at e
  obtain ⟨rfl, rfl, rfl⟩ := e
  exact ⟨_, _, _, ds, rfl, h1⟩

theorem act_of {n : Nat} {cs : List Value} {x : DataW H × List MemPlace} (h : DataW.trod enc Try.prog w base spare held n 31 cs = some x) :
    ∃ y : Ac, cs = [.int .i64 y.k, .int .i64 y.a, .slice y.B y.l.length y.c] ∧ Rn w y.B y.l ∧ (y.l.length ≤ y.c ∧ y.c ≤ maxLen) ∧ (-9223372036854775808 ≤ y.a ∧ y.a ≤ 9223372036854775807) := by
  obtain ⟨xs, m, _, _, hl, hxl, hg⟩ := DataW.trod_struct Try.underlying31 h
  have hl3 : cs.length = 3 := hl.trans (by kernel_rfl)
  have hx3 : xs.length = 3 := hxl
  obtain ⟨k, hk, _⟩ := int_at (off := 0) Try.underlying3 (by simp; omega) (hg 0 _ rfl)
  obtain ⟨a, ha, wa⟩ := int_at (off := 1) Try.underlying3 (by simp; omega) (hg 1 _ rfl)
  obtain ⟨y, hy⟩ := Option.isSome_iff_exists.1 (show (xs[2]?).isSome = true by simp; omega)
  obtain ⟨B, bn, bc, ds, e, hn, h1c, h2c, hr, _⟩ := bytes_of ((hg 2 _ rfl).trans hy)
  simp only [Lit.wf, Bool.and_eq_true, decide_eq_true_eq] at wa
  have h2 : cs[2]? = some (.slice B bn bc) := by
    have e2 : (cs.drop 2).take 1 = [.slice B bn bc] := e
    have := congrArg (·[0]?) e2
    simpa using this
  subst hn
  match cs, hl3 with
  | [c0, c1, c2], _ =>
    simp at hk ha h2
    exact ⟨⟨k, a, B, bc, ds⟩, by rw [hk, ha, h2], hr, ⟨h1c, h2c⟩, wa⟩
theorem acts_of {fuel : Nat} {cs : List Value} {x : DataW H × List MemPlace} (h : DataW.trod enc Try.prog w base spare held fuel 22 cs = some x) :
    ∃ A n c f, cs = [.slice A n c] ∧ n ≤ maxLen ∧ Acts w A n f := by
  rcases open_slice Try.underlying22 h with ⟨h0, _⟩ | ⟨a, len, cap, m, n, D, Pl, hcs, hb, hl, hm, hmm, hx, hi⟩
  · exact ⟨none, 0, 0, fun _ => default, h0, by unfold maxLen; omega, fun i hi => absurd hi (Nat.not_lt_zero i)⟩
  · have key : ∀ i, i < len → ∃ y : Ac, ActAt w (a.add (i * 3)) y := fun i hil => by
      have him : i < m := by rw [hmm]; split <;> omega
      obtain ⟨cs', hc, ht'⟩ := hi i him
      rw [show Try.prog.cellsOf 31 = 3 by kernel_rfl] at hc
      obtain ⟨y, rfl, h1, h2, h3⟩ := act_of ht'
      obtain ⟨_, _, hat⟩ := World.cells?_some hc
      have a0 := hat 0 (by omega)
      have a1 := hat 1 (by omega)
      have a2 := hat 2 (by omega)
      have e : ∀ q : Addr, q.add 0 = q := fun q => by simp [Addr.add]
      have e' : ∀ (q : Addr) (i : Nat), 0 < i → q.add i = ⟨q.block, q.off + i, none⟩ := fun q i hi => by unfold Addr.add; rw [if_neg (by omega)]
      rw [e] at a0
      rw [e' _ 1 (by omega)] at a1
      rw [e' _ 2 (by omega)] at a2
      exact ⟨y, World.block_lt_of_cell? w _ a0, a0, a1, a2, h1, h2, h3⟩
    obtain ⟨f, hf⟩ := choose_lt key
    exact ⟨some a, len, cap, f, hcs, by omega, fun i hi => ⟨a, rfl, hf i hi⟩⟩
theorem open_acts {v : Value} {d : DataW H} {p : List MemPlace} {r : Reach} {b0 : Nat} (hv : Value.okWide Try.prog w r b0 22 v) (h : DataW.Trod enc Try.prog w base spare held 22 v d p) :
    ∃ A n c f, v = .slice A n c ∧ n ≤ maxLen ∧ Acts w A n f := by
  obtain ⟨a0, len0, cap0, rfl⟩ := okWide_slice Try.underlying22 hv
  obtain ⟨fuel, hf⟩ := h
  obtain ⟨A, n, c, f, e, h1⟩ := acts_of hf
  simp [Value.cells] at e
  obtain ⟨rfl, rfl, rfl⟩ := e
  exact ⟨_, _, _, f, rfl, h1⟩
end
end Go.Proofs.Ytfhejadlkooklaa
