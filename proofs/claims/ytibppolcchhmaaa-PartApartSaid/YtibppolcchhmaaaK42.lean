/-
  What is proved: arguments that came in, opened: hints; a plan's hints, blocks and capacities; parts; arrays of four: their cells hold what their types say. No program's function is in it.
  (Left out here, as nothing of this law reaches it: open_bytes4.) -/
import Derived.Test.YtibppolcchhmaaaK37
import Derived.Test.YtibppolcchhmaaaK18
import Derived.Deep.Slices
import Derived.Deep.Fields
import Derived.ChangeSame
import Derived.OpenShut
namespace Go.Proofs.Ytibppolcchhmaaa
open Go.RowKit Go.ChangeShapes Go.WideShapes Go.Deep

section
variable {H : Type} {enc : TypeId × Value → H} {w : World} {base : Nat} {spare : Nat → Bool} {held : Bool}
theorem okWide_arr {P : Program} {r : Reach} {t e : TypeId} {n : Nat} {v : Value} (ht : P.underlying t = some (.array n e)) (h : Value.okWide P w r base t v) : ∃ cs, v = .agg cs ∧ cs.size = P.cellsOf t := by
  simp only [Value.okWide, ht] at h
  obtain ⟨cs, h1, h2, _⟩ := h
  exact ⟨cs, h1, h2⟩
set_option maxRecDepth 100000 in
theorem hint_of {n : Nat} {cs : List Value} {x : DataW H × List MemPlace} (h : DataW.trod enc Try.prog w base spare held n 58 cs = some x) : ∃ p : Hn, cs = hv p := by
  obtain ⟨xs, m, _, _, hl, hxl, hg⟩ := DataW.trod_struct Try.underlying58 h
  have hl4 : cs.length = 4 := hl.trans (by kernel_rfl)
  have hx4 : xs.length = 4 := hxl
  obtain ⟨a, ha, _⟩ := int_at (off := 0) Try.underlying3 (by simp; omega) (hg 0 _ rfl)
  obtain ⟨b, hb, _⟩ := int_at (off := 1) Try.underlying3 (by simp; omega) (hg 1 _ rfl)
  obtain ⟨c, hc, _⟩ := int_at (off := 2) Try.underlying3 (by simp; omega) (hg 2 _ rfl)
  obtain ⟨d, hd⟩ := bool_at (off := 3) Try.underlying4 (by simp; omega) (hg 3 _ rfl)
  match cs, hl4 with
  | [c0, c1, c2, c3], _ =>
    simp at ha hb hc hd
    exact ⟨⟨a, b, c, d⟩, by rw [ha, hb, hc, hd]; rfl⟩
theorem skolemG {α : Type} [Inhabited α] {P : Nat → α → Prop} {n : Nat} (h : ∀ i, i < n → ∃ p, P i p) : ∃ f : Nat → α, ∀ i, i < n → P i (f i) :=
  ⟨fun i => if hi : i < n then Classical.choose (h i hi) else default, fun i hi => by simp only [dif_pos hi]; exact Classical.choose_spec (h i hi)⟩
theorem add_add (a : Addr) (i j : Nat) : (a.add i).add j = a.add (i + j) := by
  unfold Addr.add
  by_cases hi : i = 0 <;> by_cases hj : j = 0 <;> simp [hi, hj, Nat.add_assoc]
instance : Inhabited Hn := ⟨⟨0, 0, 0, false⟩⟩
theorem hints_of {fuel : Nat} {cs : List Value} {x : DataW H × List MemPlace} (h : DataW.trod enc Try.prog w base spare held fuel 22 cs = some x) :
    ∃ A n c hh, cs = [.slice A n c] ∧ n ≤ maxLen ∧ Rv w w.heap.size A (hvs hh n) ∧ (A = none → c = 0) := by
  rcases open_slice Try.underlying22 h with ⟨h0, _⟩ | ⟨a, len, cap, m, n, D, Pl, hcs, hb, hl, hm, hmm, hx, hi⟩
  · exact ⟨none, 0, 0, default, h0, by unfold maxLen; omega, Rv.nil _ _ _, fun _ => rfl⟩
  · have key : ∀ i, i < len → ∃ p : Hn, ∀ j, j < 4 → w.cell? (a.add (i * 4 + j)) = (hv p)[j]? := fun i hil => by
      have him : i < m := by rw [hmm]; split <;> omega
      obtain ⟨cs', hc, ht'⟩ := hi i him
      rw [show Try.prog.cellsOf 58 = 4 by kernel_rfl] at hc
      obtain ⟨p, rfl⟩ := hint_of ht'
      obtain ⟨_, _, hat⟩ := World.cells?_some hc
      refine ⟨p, fun j hj => ?_⟩
      rw [← hat j hj, add_add]
    obtain ⟨hh, H⟩ := skolemG key
    refine ⟨some a, len, cap, hh, hcs, by omega, ?_, fun e => by cases e⟩
    intro j u hu
    have hj : j < len * 4 := by
      rw [← hvs_length hh len]
      exact (List.getElem?_eq_some_iff.1 hu).1
    have hs := H (j / 4) (by omega) (j % 4) (by omega)
    rw [show j / 4 * 4 + j % 4 = j by omega] at hs
    have hc : w.cell? (a.add j) = some u := by
      obtain ⟨a0, a1, a2, a3⟩ := hvs_at hh len (j / 4) (by omega)
      rw [hs]
      have h4 : j % 4 = 0 ∨ j % 4 = 1 ∨ j % 4 = 2 ∨ j % 4 = 3 := by omega
      rcases h4 with h4 | h4 | h4 | h4 <;> rw [h4]
      · rw [show j = j / 4 * 4 by omega, a0] at hu; exact hu
      · rw [show j = j / 4 * 4 + 1 by omega, a1] at hu; exact hu
      · rw [show j = j / 4 * 4 + 2 by omega, a2] at hu; exact hu
      · rw [show j = j / 4 * 4 + 3 by omega, a3] at hu; exact hu
    refine ⟨a, rfl, ?_, hc⟩
    have := World.block_lt_of_cell? w _ hc
    rwa [addBlk] at this
set_option maxRecDepth 10000 in
theorem open_hints {v : Value} {d : DataW H} {p : List MemPlace} {r : Reach} {b0 : Nat} (hv : Value.okWide Try.prog w r b0 22 v) (h : DataW.Trod enc Try.prog w base spare held 22 v d p) :
    ∃ A n c hh, v = .slice A n c ∧ n ≤ maxLen ∧ Rv w w.heap.size A (hvs hh n) ∧ (A = none → c = 0) := by
  obtain ⟨a0, len0, cap0, rfl⟩ := okWide_slice Try.underlying22 hv
  obtain ⟨fuel, hf⟩ := h
  obtain ⟨A, n, c, hh, e, h1, h2, h3⟩ := hints_of hf
  simp [Value.cells] at e
  obtain ⟨rfl, rfl, rfl⟩ := e
  exact ⟨_, _, _, hh, rfl, h1, h2, h3⟩
theorem arr_at {t : TypeId} {m off i N : Nat} {cs : List Value} {y : Option (DataW H × List MemPlace)} (ht : Try.prog.underlying t = some (.array N 3)) (hi : i < N) (hy : y.isSome = true)
    (h : DataW.trod enc Try.prog w base spare held m t ((cs.drop off).take N) = y) : ∃ a, cs[off + i]? = some (.int .i64 a) := by
  obtain ⟨y, rfl⟩ := Option.isSome_iff_exists.1 hy
  obtain ⟨xs, m', _, _, _, hxl, hg⟩ := DataW.trod_array ht h
  have g := hg i hi
  rw [show Try.prog.cellsOf 3 = 1 by kernel_rfl, Nat.mul_one] at g
  obtain ⟨a, ha, _⟩ := int_at (off := i) Try.underlying3 (by simp; omega) g
  refine ⟨a, ?_⟩
  rw [List.getElem?_take, if_pos hi, List.getElem?_drop] at ha
  exact ha
set_option maxRecDepth 100000 in
theorem open_lay {v : Value} {d : DataW H} {p : List MemPlace} {r : Reach} {b0 : Nat} (hv : Value.okWide Try.prog w r b0 25 v) (h : DataW.Trod enc Try.prog w base spare held 25 v d p) :
    ∃ A n c hh b x y z, v = .agg #[.slice A n c, .int .i64 b, .int .i64 x, .int .i64 y, .int .i64 z] ∧ n ≤ maxLen ∧ Rv w w.heap.size A (hvs hh n) ∧ (A = none → c = 0) := by
  obtain ⟨cs, rfl, hsz⟩ := okWide_struct Try.underlying25 hv
  obtain ⟨fuel, hf⟩ := h
  obtain ⟨xs, m, _, _, hl, hxl, hg⟩ := DataW.trod_struct Try.underlying25 hf
  have hx : xs.length = 3 := hxl
  have s5 : cs.size = 5 := hsz.trans (by kernel_rfl)
  obtain ⟨l⟩ := cs
  have sm : ∀ i, i < 3 → (xs[i]?).isSome = true := fun i hi => by simp; omega
  obtain ⟨y0, hy0⟩ := Option.isSome_iff_exists.1 (sm 0 (by omega))
  obtain ⟨A, n, cp, hh, e, hn, hr, hc⟩ := hints_of ((hg 0 _ rfl).trans hy0)
  obtain ⟨b, hb, _⟩ := int_at (off := 1) Try.underlying3 (sm 1 (by omega)) (hg 1 _ rfl)
  obtain ⟨x, hx0⟩ := arr_at (off := 2) (i := 0) Try.underlying23 (by omega) (sm 2 (by omega)) (hg 2 _ rfl)
  obtain ⟨y, hy1⟩ := arr_at (off := 2) (i := 1) Try.underlying23 (by omega) (sm 2 (by omega)) (hg 2 _ rfl)
  obtain ⟨z, hz⟩ := arr_at (off := 2) (i := 2) Try.underlying23 (by omega) (sm 2 (by omega)) (hg 2 _ rfl)
  have h0 : l[0]? = some (.slice A n cp) := by
    have e2 : (l.drop 0).take 1 = [.slice A n cp] := e
    have := congrArg (·[0]?) e2
    simpa using this
  match l, s5 with
  | [k0, k1, k2, k3, k4], _ =>
    simp [Value.cells] at h0 hb hx0 hy1 hz
    subst h0 hb hx0 hy1 hz
    exact ⟨A, n, cp, hh, b, x, y, z, rfl, hn, hr, hc⟩
theorem list4 : ∀ (l : List Value), l.length = 4 → ∀ a b c d, l[0]? = some a → l[1]? = some b → l[2]? = some c → l[3]? = some d → l = [a, b, c, d]
  | [k0, k1, k2, k3], _, a, b, c, d, h0, h1, h2, h3 => by
    simp at h0 h1 h2 h3
    subst h0 h1 h2 h3
    rfl
set_option maxRecDepth 100000 in
theorem open_costs {v : Value} {d : DataW H} {p : List MemPlace} {r : Reach} {b0 : Nat} (hv : Value.okWide Try.prog w r b0 81 v) (h : DataW.Trod enc Try.prog w base spare held 81 v d p) :
    ∃ k : Nat → Int, v = .agg #[.int .i64 (k 0), .int .i64 (k 1), .int .i64 (k 2), .int .i64 (k 3)] := by
  obtain ⟨cs, rfl, hsz⟩ := okWide_arr Try.underlying81 hv
  obtain ⟨fuel, hf⟩ := h
  obtain ⟨xs, m, _, _, hl, hxl, hg⟩ := DataW.trod_array Try.underlying81 hf
  obtain ⟨l⟩ := cs
  have e1 : Try.prog.cellsOf 3 = 1 := by kernel_rfl
  have key : ∀ i, i < 4 → ∃ a, l[i]? = some (.int .i64 a) := fun i hi => by
    have g := hg i hi
    rw [e1, Nat.mul_one] at g
    obtain ⟨a, ha, _⟩ := int_at (off := i) Try.underlying3 (by simp; omega) g
    exact ⟨a, by simpa [Value.cells] using ha⟩
  obtain ⟨a0, h0⟩ := key 0 (by omega)
  obtain ⟨a1, h1⟩ := key 1 (by omega)
  obtain ⟨a2, h2⟩ := key 2 (by omega)
  obtain ⟨a3, h3⟩ := key 3 (by omega)
  have h4 : l.length = 4 := hsz.trans (by kernel_rfl)
  exact ⟨f4 a0 a1 a2 a3, by rw [list4 l h4 _ _ _ _ h0 h1 h2 h3]; rfl⟩





















set_option maxRecDepth 100000 in
theorem part_of {n : Nat} {cs : List Value} {x : DataW H × List MemPlace} (h : DataW.trod enc Try.prog w base spare held n 83 cs = some x) : ∃ k : Nat → Int, ∀ t, t < 4 → cs[t]? = some (.int .i64 (k t)) := by
  obtain ⟨xs, m, _, _, hl, hxl, hg⟩ := DataW.trod_struct Try.underlying83 h
  have hx1 : xs.length = 1 := hxl
  exact skolemG (P := fun t a => cs[t]? = some (.int .i64 a)) fun t ht => by
    obtain ⟨a, ha⟩ := arr_at (off := 0) (i := t) Try.underlying81 ht (by simp; omega) (hg 0 _ rfl)
    exact ⟨a, by rw [← ha, Nat.zero_add]⟩
set_option maxRecDepth 100000 in
theorem open_parts {v : Value} {d : DataW H} {p : List MemPlace} {r : Reach} {b0 : Nat} (hv : Value.okWide Try.prog w r b0 61 v) (h : DataW.Trod enc Try.prog w base spare held 61 v d p) :
    ∃ A n c P, v = .slice A n c ∧ n ≤ maxLen ∧ Rv w w.heap.size A (pvs P n) ∧ (A = none → c = 0) := by
  obtain ⟨a0, len0, cap0, rfl⟩ := okWide_slice Try.underlying61 hv
  obtain ⟨fuel, hf⟩ := h
  rcases open_slice Try.underlying61 hf with ⟨h0, _⟩ | ⟨a, len, cap, m, n, D, Pl, hcs, hb, hl, hm, hmm, hx, hi⟩
  · simp [Value.cells] at h0
    obtain ⟨rfl, rfl, rfl⟩ := h0
    exact ⟨none, 0, 0, default, rfl, by unfold maxLen; omega, Rv.nil _ _ _, fun _ => rfl⟩
  · simp [Value.cells] at hcs
    obtain ⟨rfl, rfl, rfl⟩ := hcs
    have key : ∀ i, i < len0 → ∃ k : Nat → Int, ∀ t, t < 4 → w.cell? (a.add (i * 4 + t)) = some (.int .i64 (k t)) := fun i hil => by
      have him : i < m := by rw [hmm]; split <;> omega
      obtain ⟨cs', hc, ht'⟩ := hi i him
      rw [show Try.prog.cellsOf 83 = 4 by kernel_rfl] at hc
      obtain ⟨k, hk⟩ := part_of ht'
      obtain ⟨_, _, hat⟩ := World.cells?_some hc
      refine ⟨k, fun t ht => ?_⟩
      rw [← hk t ht, ← hat t ht, add_add]
    obtain ⟨P, H⟩ := skolemG key
    refine ⟨some a, len0, cap0, P, rfl, by omega, ?_, fun e => by cases e⟩
    intro j u hu
    have hj : j < len0 * 4 := by
      have := (List.getElem?_eq_some_iff.1 hu).1
      rwa [pvs_length] at this
    have hs := H (j / 4) (by omega) (j % 4) (by omega)
    have hp := pvs_at P (m := len0) (i := j / 4) (t := j % 4) (by omega) (by omega)
    rw [show j / 4 * 4 + j % 4 = j by omega] at hs hp
    rw [hp] at hu
    injection hu with hu
    rw [hu] at hs
    refine ⟨a, rfl, ?_, hs⟩
    have := World.block_lt_of_cell? w _ hs
    rwa [addBlk] at this
end
end Go.Proofs.Ytibppolcchhmaaa
