/-
  What is proved: a message that came in, opened: its cells hold what their types say, its text reads as bytes. No program's function is in it.
-/
import Derived.Test.YtihldenljddmoaaDoorRight4
import Derived.Test.YtihldenljddmoaaDoorRawB
import Derived.Deep.Slices
import Derived.Deep.Fields
import Derived.ChangeSame
import Derived.OpenShut
namespace Go.Proofs.YtihldenljddmoaaDoor
open Go.RowKit Go.ChangeShapes Go.WideShapes Go.Deep

section
variable {H : Type} {enc : TypeId × Value → H} {w : World} {base : Nat} {spare : Nat → Bool} {held : Bool}
/-- one cell of more, of a type of integers or truths -/
theorem int_at {P : Program} {t : TypeId} {k : IntKind} {m off : Nat} {cs : List Value} {y : Option (DataW H × List MemPlace)} (hk : P.underlying t = some (.int k)) (hy : y.isSome = true)
    (h : DataW.trod enc P w base spare held m t ((cs.drop off).take 1) = y) : ∃ a, cs[off]? = some (.int k a) ∧ (Lit.int k a).wf = true := by
  obtain ⟨y, rfl⟩ := Option.isSome_iff_exists.1 hy
  obtain ⟨a, e, _, hw⟩ := DataW.trod_int hk h
  refine ⟨a, ?_, hw⟩
  have := congrArg (·[0]?) e
  simpa using this
theorem bool_at {P : Program} {t : TypeId} {m off : Nat} {cs : List Value} {y : Option (DataW H × List MemPlace)} (hk : P.underlying t = some .bool) (hy : y.isSome = true)
    (h : DataW.trod enc P w base spare held m t ((cs.drop off).take 1) = y) : ∃ a, cs[off]? = some (.bool a) := by
  obtain ⟨y, rfl⟩ := Option.isSome_iff_exists.1 hy
  obtain ⟨a, e, _⟩ := DataW.trod_bool hk h
  refine ⟨a, ?_⟩
  have := congrArg (·[0]?) e
  simpa using this

theorem skolemI {P : Nat → Int → Prop} {n : Nat} (h : ∀ i, i < n → ∃ p, P i p) : ∃ f : Nat → Int, ∀ i, i < n → P i (f i) :=
  ⟨fun i => if hi : i < n then Classical.choose (h i hi) else 0, fun i hi => by simp only [dif_pos hi]; exact Classical.choose_spec (h i hi)⟩

theorem bytes_of {fuel : Nat} {cs : List Value} {x : DataW H × List MemPlace} (h : DataW.trod enc Tryd.prog w base spare held fuel 23 cs = some x) :
    ∃ A n c ds, cs = [.slice A n c] ∧ ds.length = n ∧ n ≤ c ∧ c ≤ maxLen ∧ Rn w A ds ∧ ∀ x ∈ ds, 0 ≤ x ∧ x ≤ 255 := by
  rcases open_slice Tryd.underlying23 h with ⟨h0, _⟩ | ⟨a, len, cap, m, n, D, Pl, hcs, hb, hl, hm, hmm, hx, hi⟩
  · exact ⟨none, 0, 0, [], h0, rfl, Nat.le_refl _, by unfold maxLen; omega, Rd.nil _ _ _, fun x hx => by simp at hx⟩
  · have key : ∀ i, i < len → ∃ y : Int, w.cell? (a.add i) = some (.int .u8 y) ∧ 0 ≤ y ∧ y ≤ 255 := fun i hil => by
      have him : i < m := by rw [hmm]; split <;> omega
      obtain ⟨cs', hc, ht'⟩ := hi i him
      rw [show Tryd.prog.cellsOf 5 = 1 by kernel_rfl] at hc
      obtain ⟨y, hy, _, hw⟩ := DataW.trod_int Tryd.underlying5 ht'
      obtain ⟨_, _, hat⟩ := World.cells?_some hc
      have h0 := hat 0 (by omega)
      rw [hy, Nat.mul_one] at h0
      simp only [Lit.wf, Bool.and_eq_true, decide_eq_true_eq] at hw
      have hw' : 0 ≤ y ∧ y ≤ 255 := hw
      refine ⟨y, ?_, hw'⟩
      have e : (a.add i).add 0 = a.add i := by simp [Addr.add]
      rw [e] at h0
      exact h0
    obtain ⟨f, hf⟩ := skolemI key
    refine ⟨some a, len, cap, (List.range len).map f, hcs, by simp, by omega, by omega, ?_, ?_⟩
    · intro j u hu
      rw [List.getElem?_map] at hu
      obtain ⟨i, hi1, hi2⟩ := Option.map_eq_some_iff.1 hu
      have hj : j < len := by
        have := (List.getElem?_eq_some_iff.1 hi1).1
        simpa using this
      rw [List.getElem?_range hj] at hi1
      injection hi1 with hi1
      subst hi1 hi2
      have hc := (hf j hj).1
      have hb := World.block_lt_of_cell? w _ hc
      rw [addBlk] at hb
      exact ⟨a, rfl, hb, hc⟩
    · intro y hy
      obtain ⟨i, hi1, rfl⟩ := List.mem_map.1 hy
      exact (hf i (List.mem_range.1 hi1)).2

set_option maxRecDepth 100000 in
theorem open_msg {v : Value} {d : DataW H} {p : List MemPlace} {r : Reach} {b0 : Nat} (hv : Value.okWide Tryd.prog w r b0 25 v) (h : DataW.Trod enc Tryd.prog w base spare held 25 v d p) :
    ∃ c gr A n cp ds, v = .agg (msgC c gr A n cp) ∧ ds.length = n ∧ n ≤ cp ∧ cp ≤ maxLen ∧ Rn w A ds ∧ ∀ x ∈ ds, 0 ≤ x ∧ x ≤ 255 := by
  obtain ⟨cs, rfl, hsz⟩ := okWide_struct Tryd.underlying25 hv
  obtain ⟨fuel, hf⟩ := h
  obtain ⟨xs, m, _, _, hl, hxl, hg⟩ := DataW.trod_struct Tryd.underlying25 hf
  have hx : xs.length = 11 := hxl
  have s11 : cs.size = 11 := hsz.trans (by kernel_rfl)
  obtain ⟨l⟩ := cs
  have sm : ∀ i, i < 11 → (xs[i]?).isSome = true := fun i hi => by simp; omega
  obtain ⟨c0, h0, _⟩ := int_at (off := 0) Tryd.underlying3 (sm 0 (by omega)) (hg 0 _ rfl)
  obtain ⟨c1, h1, _⟩ := int_at (off := 1) Tryd.underlying3 (sm 1 (by omega)) (hg 1 _ rfl)
  obtain ⟨c2, h2, _⟩ := int_at (off := 2) Tryd.underlying3 (sm 2 (by omega)) (hg 2 _ rfl)
  obtain ⟨c3, h3, _⟩ := int_at (off := 3) Tryd.underlying3 (sm 3 (by omega)) (hg 3 _ rfl)
  obtain ⟨c4, h4, _⟩ := int_at (off := 4) Tryd.underlying3 (sm 4 (by omega)) (hg 4 _ rfl)
  obtain ⟨c5, h5, _⟩ := int_at (off := 5) Tryd.underlying3 (sm 5 (by omega)) (hg 5 _ rfl)
  obtain ⟨c6, h6, _⟩ := int_at (off := 6) Tryd.underlying3 (sm 6 (by omega)) (hg 6 _ rfl)
  obtain ⟨c7, h7, _⟩ := int_at (off := 7) Tryd.underlying3 (sm 7 (by omega)) (hg 7 _ rfl)
  obtain ⟨c8, h8, _⟩ := int_at (off := 8) Tryd.underlying22 (sm 8 (by omega)) (hg 8 _ rfl)
  obtain ⟨gr, h9⟩ := bool_at (off := 9) Tryd.underlying4 (sm 9 (by omega)) (hg 9 _ rfl)
  have g10 := hg 10 _ rfl
  obtain ⟨y, hy⟩ := Option.isSome_iff_exists.1 (sm 10 (by omega))
  obtain ⟨A, n, cp, ds, e, hn, h1c, h2c, hr, hb⟩ := bytes_of (g10.trans hy)
  have h10 : l[10]? = some (.slice A n cp) := by
    have e2 : (l.drop 10).take 1 = [.slice A n cp] := e
    have := congrArg (·[0]?) e2
    simpa using this
  match l, s11 with
  | [k0, k1, k2, k3, k4, k5, k6, k7, k8, k9, k10], _ =>
    simp [Value.cells] at h0 h1 h2 h3 h4 h5 h6 h7 h8 h9 h10
    subst h0 h1 h2 h3 h4 h5 h6 h7 h8 h9 h10
    exact ⟨fun i => #[c0, c1, c2, c3, c4, c5, c6, c7, c8].getD i 0, gr, A, n, cp, ds, rfl, hn, h1c, h2c, hr, hb⟩
end
end Go.Proofs.YtihldenljddmoaaDoor
