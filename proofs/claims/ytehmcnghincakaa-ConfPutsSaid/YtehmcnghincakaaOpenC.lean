/-
  What is proved: arguments that came in, opened: a slice of hints, an array of two bytes, a configuration: their cells hold what their types say. No program's function is in it.
-/
import Derived.Test.YtehmcnghincakaaTurned
import Derived.Deep.Slices
import Derived.Deep.Fields
import Derived.ChangeSame
import Derived.OpenShut
namespace Go.Proofs.Ytehmcnghincakaa
open Go.RowKit Go.ChangeShapes Go.WideShapes Go.Deep

section
variable {H : Type} {enc : TypeId × Value → H} {w : World} {base : Nat} {spare : Nat → Bool} {held : Bool}
theorem okWide_arr {P : Program} {r : Reach} {t e : TypeId} {n : Nat} {v : Value} (ht : P.underlying t = some (.array n e)) (h : Value.okWide P w r base t v) : ∃ cs, v = .agg cs ∧ cs.size = P.cellsOf t := by
  simp only [Value.okWide, ht] at h
  obtain ⟨cs, h1, h2, _⟩ := h
  exact ⟨cs, h1, h2⟩
/-- one cell of more, of a type of integers or truths -/
theorem int_at {P : Program} {t : TypeId} {k : IntKind} {m off : Nat} {cs : List Value} {y : Option (DataW H × List MemPlace)} (hk : P.underlying t = some (.int k)) (hy : y.isSome = true)
    (h : DataW.trod enc P w base spare held m t ((cs.drop off).take 1) = y) : ∃ a, cs[off]? = some (.int k a) ∧ (Lit.int k a).wf = true := by
  obtain ⟨y, rfl⟩ := Option.isSome_iff_exists.1 hy
  obtain ⟨a, e, _, hw⟩ := DataW.trod_int hk h
  refine ⟨a, ?_, hw⟩
  have := congrArg (·[0]?) e
  simpa using this
theorem bool_at {P : Program} {t : TypeId} {m off : Nat} {cs : List Value} {y : Option (DataW H × List MemPlace)} (hk : P.underlying t = some .bool) (hy : y.isSome = true)
    (h : DataW.trod enc P w base spare held m t ((cs.drop off).take 1) = y) : ∃ a, cs[off]? = some (.bool a) := by
  obtain ⟨y, rfl⟩ := Option.isSome_iff_exists.1 hy
  obtain ⟨a, e, _⟩ := DataW.trod_bool hk h
  refine ⟨a, ?_⟩
  have := congrArg (·[0]?) e
  simpa using this

theorem hint_of {n : Nat} {cs : List Value} {x : DataW H × List MemPlace} (h : DataW.trod enc Try.prog w base spare held n 41 cs = some x) : ∃ p : Hn, cs = hv p := by
  obtain ⟨xs, m, _, _, hl, hxl, hg⟩ := DataW.trod_struct Try.underlying41 h
  have hl4 : cs.length = 4 := hl.trans (by kernel_rfl)
  have hx4 : xs.length = 4 := hxl
  obtain ⟨a, ha, _⟩ := int_at (off := 0) Try.underlying3 (by simp; omega) (hg 0 _ rfl)
  obtain ⟨b, hb, _⟩ := int_at (off := 1) Try.underlying3 (by simp; omega) (hg 1 _ rfl)
  obtain ⟨c, hc, _⟩ := int_at (off := 2) Try.underlying3 (by simp; omega) (hg 2 _ rfl)
  obtain ⟨d, hd⟩ := bool_at (off := 3) Try.underlying4 (by simp; omega) (hg 3 _ rfl)
  match cs, hl4 with
  | [c0, c1, c2, c3], _ =>
    simp at ha hb hc hd
    exact ⟨⟨a, b, c, d⟩, by rw [ha, hb, hc, hd]; rfl⟩

theorem skolem {P : Nat → Hn → Prop} {n : Nat} (h : ∀ i, i < n → ∃ p, P i p) : ∃ f : Nat → Hn, ∀ i, i < n → P i (f i) :=
  ⟨fun i => if hi : i < n then Classical.choose (h i hi) else ⟨0, 0, 0, false⟩, fun i hi => by simp only [dif_pos hi]; exact Classical.choose_spec (h i hi)⟩

theorem hints_of {fuel : Nat} {cs : List Value} {x : DataW H × List MemPlace} (h : DataW.trod enc Try.prog w base spare held fuel 23 cs = some x) :
    ∃ A n c hh, cs = [.slice A n c] ∧ n ≤ maxLen ∧ Rv w w.heap.size A (hvs hh n) := by
  rcases open_slice Try.underlying23 h with ⟨h0, _⟩ | ⟨a, len, cap, m, n, D, Pl, hcs, hb, hl, hm, hmm, hx, hi⟩
  · exact ⟨none, 0, 0, fun _ => ⟨0, 0, 0, false⟩, h0, by unfold maxLen; omega, Rv.nil _ _ _⟩
  · have key : ∀ i, i < len → ∃ p : Hn, ∀ j, j < 4 → w.cell? (a.add (i * 4 + j)) = (hv p)[j]? := fun i hil => by
      have him : i < m := by rw [hmm]; split <;> omega
      obtain ⟨cs', hc, ht'⟩ := hi i him
      rw [show Try.prog.cellsOf 41 = 4 by kernel_rfl] at hc
      obtain ⟨p, rfl⟩ := hint_of ht'
      obtain ⟨_, _, hat⟩ := World.cells?_some hc
      refine ⟨p, fun j hj => ?_⟩
      rw [← hat j hj, addAdd']
    obtain ⟨hh, H⟩ := skolem key
    refine ⟨some a, len, cap, hh, hcs, by omega, ?_⟩
    intro j u hu
    have hj : j < len * 4 := by
      rw [← hvs_length hh len]
      exact (List.getElem?_eq_some_iff.1 hu).1
    have hs := H (j / 4) (by omega) (j % 4) (by omega)
    rw [show j / 4 * 4 + j % 4 = j by omega] at hs
    have hc : w.cell? (a.add j) = some u := by
      rw [hs, ← hu, hvs_cell hh len j hj]
      unfold hcell hv
      have h4 : j % 4 < 4 := Nat.mod_lt _ (by omega)
      generalize j % 4 = r at h4
      match r, h4 with
      | 0, _ => rfl
      | 1, _ => rfl
      | 2, _ => rfl
      | 3, _ => rfl
    refine ⟨a, rfl, ?_, hc⟩
    have := World.block_lt_of_cell? w _ hc
    rwa [addBlk] at this
where addAdd' {a : Addr} {i j : Nat} : (a.add i).add j = a.add (i + j) := by
        unfold Addr.add
        by_cases hi : i = 0 <;> by_cases hj : j = 0 <;> simp [hi, hj, Nat.add_assoc]

theorem open_hints {v : Value} {d : DataW H} {p : List MemPlace} {r : Reach} {b0 : Nat} (hv : Value.okWide Try.prog w r b0 23 v) (h : DataW.Trod enc Try.prog w base spare held 23 v d p) :
    ∃ A n c hh, v = .slice A n c ∧ n ≤ maxLen ∧ Rv w w.heap.size A (hvs hh n) := by
  obtain ⟨a0, len0, cap0, rfl⟩ := okWide_slice Try.underlying23 hv
  obtain ⟨fuel, hf⟩ := h
  obtain ⟨A, n, c, hh, e, h1, h2⟩ := hints_of hf
  simp [Value.cells] at e
  obtain ⟨rfl, rfl, rfl⟩ := e
  exact ⟨_, _, _, hh, rfl, h1, h2⟩

theorem open_pair {v : Value} {d : DataW H} {p : List MemPlace} {r : Reach} {b0 : Nat} (hv : Value.okWide Try.prog w r b0 39 v) (h : DataW.Trod enc Try.prog w base spare held 39 v d p) :
    ∃ x y : Nat, v = .agg #[.int .u8 x, .int .u8 y] ∧ x ≤ 255 ∧ y ≤ 255 := by
  obtain ⟨cs, rfl, hsz⟩ := okWide_arr Try.underlying39 hv
  obtain ⟨fuel, hf⟩ := h
  obtain ⟨xs, m, _, _, hl, hxl, hg⟩ := DataW.trod_array Try.underlying39 hf
  obtain ⟨l⟩ := cs
  have e1 : Try.prog.cellsOf 5 = 1 := by kernel_rfl
  have g0 := hg 0 (by omega)
  have g1 := hg 1 (by omega)
  rw [e1] at g0 g1
  obtain ⟨a, ha, wa⟩ := int_at (off := 0) Try.underlying5 (by simp; omega) g0
  obtain ⟨b, hb, wb⟩ := int_at (off := 1) Try.underlying5 (by simp; omega) g1
  have h2 : l.length = 2 := hsz.trans (by kernel_rfl)
  match l, h2 with
  | [c0, c1], _ =>
    simp [Value.cells] at ha hb
    simp only [Lit.wf, Bool.and_eq_true, decide_eq_true_eq] at wa wb
    have wa' : 0 ≤ a ∧ a ≤ 255 := wa
    have wb' : 0 ≤ b ∧ b ≤ 255 := wb
    obtain ⟨x, rfl⟩ : ∃ x : Nat, a = x := ⟨a.toNat, by omega⟩
    obtain ⟨y, rfl⟩ : ∃ y : Nat, b = y := ⟨b.toNat, by omega⟩
    exact ⟨x, y, by rw [ha, hb], by omega, by omega⟩

theorem arr_at {t : TypeId} {m off i : Nat} {cs : List Value} {y : Option (DataW H × List MemPlace)} (ht : Try.prog.underlying t = some (.array 3 3)) (hi : i < 3) (hy : y.isSome = true)
    (h : DataW.trod enc Try.prog w base spare held m t ((cs.drop off).take 3) = y) : ∃ a, cs[off + i]? = some (.int .i64 a) := by
  obtain ⟨y, rfl⟩ := Option.isSome_iff_exists.1 hy
  obtain ⟨xs, m', _, _, _, hxl, hg⟩ := DataW.trod_array ht h
  have g := hg i hi
  rw [show Try.prog.cellsOf 3 = 1 by kernel_rfl, Nat.mul_one] at g
  obtain ⟨a, ha, _⟩ := int_at (off := i) Try.underlying3 (by simp; omega) g
  refine ⟨a, ?_⟩
  rw [List.getElem?_take, if_pos hi, List.getElem?_drop] at ha
  exact ha

set_option maxRecDepth 100000 in
theorem open_config {v : Value} {d : DataW H} {p : List MemPlace} {r : Reach} {b0 : Nat} (hv : Value.okWide Try.prog w r b0 25 v) (h : DataW.Trod enc Try.prog w base spare held 25 v d p) :
    ∃ c A n cp hh, v = .agg (cfgC c A n cp) ∧ n ≤ maxLen ∧ Rv w w.heap.size A (hvs hh n) := by
  obtain ⟨cs, rfl, hsz⟩ := okWide_struct Try.underlying25 hv
  obtain ⟨fuel, hf⟩ := h
  obtain ⟨xs, m, _, _, hl, hxl, hg⟩ := DataW.trod_struct Try.underlying25 hf
  have hx : xs.length = 13 := hxl
  have s17 : cs.size = 17 := hsz.trans (by kernel_rfl)
  obtain ⟨l⟩ := cs
  have sm : ∀ i, i < 13 → (xs[i]?).isSome = true := fun i hi => by simp; omega
  obtain ⟨c0, h0, _⟩ := int_at (off := 0) Try.underlying3 (sm 0 (by omega)) (hg 0 _ rfl)
  obtain ⟨c1, h1, _⟩ := int_at (off := 1) Try.underlying3 (sm 1 (by omega)) (hg 1 _ rfl)
  obtain ⟨c2, h2, _⟩ := int_at (off := 2) Try.underlying3 (sm 2 (by omega)) (hg 2 _ rfl)
  obtain ⟨c3, h3, _⟩ := int_at (off := 3) Try.underlying3 (sm 3 (by omega)) (hg 3 _ rfl)
  obtain ⟨c4, h4, _⟩ := int_at (off := 4) Try.underlying3 (sm 4 (by omega)) (hg 4 _ rfl)
  obtain ⟨c5, h5, _⟩ := int_at (off := 5) Try.underlying3 (sm 5 (by omega)) (hg 5 _ rfl)
  obtain ⟨c6, h6⟩ := arr_at (off := 6) (i := 0) Try.underlying22 (by omega) (sm 6 (by omega)) (hg 6 _ rfl)
  obtain ⟨c7, h7⟩ := arr_at (off := 6) (i := 1) Try.underlying22 (by omega) (sm 6 (by omega)) (hg 6 _ rfl)
  obtain ⟨c8, h8⟩ := arr_at (off := 6) (i := 2) Try.underlying22 (by omega) (sm 6 (by omega)) (hg 6 _ rfl)
  obtain ⟨c9, h9⟩ := arr_at (off := 9) (i := 0) Try.underlying22 (by omega) (sm 7 (by omega)) (hg 7 _ rfl)
  obtain ⟨c10, h10⟩ := arr_at (off := 9) (i := 1) Try.underlying22 (by omega) (sm 7 (by omega)) (hg 7 _ rfl)
  obtain ⟨c11, h11⟩ := arr_at (off := 9) (i := 2) Try.underlying22 (by omega) (sm 7 (by omega)) (hg 7 _ rfl)
  obtain ⟨c12, h12, _⟩ := int_at (off := 12) Try.underlying3 (sm 8 (by omega)) (hg 8 _ rfl)
  obtain ⟨c13, h13, _⟩ := int_at (off := 13) Try.underlying3 (sm 9 (by omega)) (hg 9 _ rfl)
  obtain ⟨c14, h14, _⟩ := int_at (off := 14) Try.underlying3 (sm 10 (by omega)) (hg 10 _ rfl)
  obtain ⟨c15, h15, _⟩ := int_at (off := 15) Try.underlying3 (sm 11 (by omega)) (hg 11 _ rfl)
  have g12 := hg 12 _ rfl
  obtain ⟨y, hy⟩ := Option.isSome_iff_exists.1 (sm 12 (by omega))
  obtain ⟨A, n, cp, hh, e, hn, hr⟩ := hints_of (g12.trans hy)
  have h16 : l[16]? = some (.slice A n cp) := by
    have e2 : (l.drop 16).take 1 = [.slice A n cp] := e
    have := congrArg (·[0]?) e2
    simpa using this
  match l, s17 with
  | [k0, k1, k2, k3, k4, k5, k6, k7, k8, k9, k10, k11, k12, k13, k14, k15, k16], _ =>
    simp [Value.cells] at h0 h1 h2 h3 h4 h5 h6 h7 h8 h9 h10 h11 h12 h13 h14 h15 h16
    subst h0 h1 h2 h3 h4 h5 h6 h7 h8 h9 h10 h11 h12 h13 h14 h15 h16
    exact ⟨fun i => #[c0, c1, c2, c3, c4, c5, c6, c7, c8, c9, c10, c11, c12, c13, c14, c15].getD i 0, A, n, cp, hh, rfl, hn, hr⟩
end
end Go.Proofs.Ytehmcnghincakaa
