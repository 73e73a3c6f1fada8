/-
  What is proved: arguments that came in, opened: acts on a directory: their cells hold what their types say; two numbers in an array. No program's function is in it.
-/
import Derived.Test.YtdpniggabidmbaaAr0
import Derived.Test.YtdpniggabidmbaaRows
import Derived.Test.YtdpniggabidmbaaBase
import Derived.Deep.Slices
import Derived.Deep.Fields
import Derived.ChangeSame
import Derived.OpenShut
namespace Go.Proofs.Ytdpniggabidmbaa
open Go.RowKit Go.ChangeShapes Go.WideShapes Go.Deep

/-- an act -/
structure D3 where
  k : Int
  l : Int
  b : Int
instance : Inhabited D3 := ⟨⟨0, 0, 0⟩⟩
def D3.cells (x : D3) : List Value := [.int .i64 x.k, .int .i64 x.l, .int .i64 x.b]
structure DActAt (w : World) (p : Addr) (x : D3) : Prop where
  lt : p.block < w.heap.size
  c0 : w.cell? p = some (.int .i64 x.k)
  c1 : w.cell? ⟨p.block, p.off + 1, none⟩ = some (.int .i64 x.l)
  c2 : w.cell? ⟨p.block, p.off + 2, none⟩ = some (.int .i64 x.b)
theorem DActAt.below {w w' : World} {p : Addr} {x : D3} (h : DActAt w p x) (hb : Below w.heap.size w w') : DActAt w' p x :=
  ⟨Nat.lt_of_lt_of_le h.lt hb.size, (hb.cell h.lt).trans h.c0, (hb.cell (p := ⟨p.block, p.off + 1, none⟩) h.lt).trans h.c1, (hb.cell (p := ⟨p.block, p.off + 2, none⟩) h.lt).trans h.c2⟩
/-- acts that are read -/
def DActs (w : World) (A : Option Addr) (n : Nat) (f : Nat → D3) : Prop := ∀ i, i < n → ∃ ad, A = some ad ∧ DActAt w (ad.add (i * 3)) (f i)
theorem DActs.below {w w' : World} {A : Option Addr} {n : Nat} {f : Nat → D3} (h : DActs w A n f) (hb : Below w.heap.size w w') : DActs w' A n f := fun i hi => by
  obtain ⟨ad, e, h1⟩ := h i hi
  exact ⟨ad, e, h1.below hb⟩

section
variable {H : Type} {enc : TypeId × Value → H} {w : World} {base : Nat} {spare : Nat → Bool} {held : Bool}
set_option maxRecDepth 100000 in
theorem dact_of {n : Nat} {cs : List Value} {x : DataW H × List MemPlace} (h : DataW.trod enc Try.prog w base spare held n 30 cs = some x) : ∃ y : D3, cs = y.cells := by
  obtain ⟨xs, m, _, rfl, hl, hxl, hg⟩ := DataW.trod_struct Try.underlying30 h
  have hl3 : cs.length = 3 := hl.trans (by kernel_rfl)
  have hx3 : xs.length = 3 := hxl
  obtain ⟨k, hk, _⟩ := int_at (off := 0) Try.underlying3 (by simp; omega) (hg 0 _ rfl)
  obtain ⟨a, ha, _⟩ := int_at (off := 1) Try.underlying3 (by simp; omega) (hg 1 _ rfl)
  obtain ⟨i, hi, _⟩ := int_at (off := 2) Try.underlying3 (by simp; omega) (hg 2 _ rfl)
  match cs, hl3 with
  | [c0, c1, c2], _ =>
    simp at hk ha hi
    exact ⟨⟨k, a, i⟩, by rw [hk, ha, hi]; rfl⟩
theorem open_dact {v : Value} {d : DataW H} {p : List MemPlace} {r : Reach} {b0 : Nat} (hv : Value.okWide Try.prog w r b0 30 v) (h : DataW.Trod enc Try.prog w base spare held 30 v d p) :
    ∃ κ x y : Int, v = .agg #[.int .i64 κ, .int .i64 x, .int .i64 y] := by
  obtain ⟨cs, rfl, hsz⟩ := okWide_struct Try.underlying30 hv
  obtain ⟨fuel, hf⟩ := h
  obtain ⟨y, e⟩ := dact_of hf
  have e2 : cs.toList = y.cells := e
  exact ⟨y.k, y.l, y.b, by rw [show cs = cs.toList.toArray from by simp, e2]; rfl⟩
theorem dacts_of {fuel : Nat} {cs : List Value} {x : DataW H × List MemPlace} (h : DataW.trod enc Try.prog w base spare held fuel 23 cs = some x) :
    ∃ A n c f, cs = [.slice A n c] ∧ n ≤ maxLen ∧ DActs w A n f := by
  rcases open_slice Try.underlying23 h with ⟨h0, _⟩ | ⟨a, len, cap, m, n, D, Pl, hcs, hb, hl, hm, hmm, hx, hi⟩
  · exact ⟨none, 0, 0, fun _ => default, h0, by unfold maxLen; omega, fun i hi => absurd hi (Nat.not_lt_zero i)⟩
  · have key : ∀ i, i < len → ∃ y : D3, DActAt w (a.add (i * 3)) y := fun i hil => by
      have him : i < m := by rw [hmm]; split <;> omega
      obtain ⟨cs', hc, ht'⟩ := hi i him
      rw [show Try.prog.cellsOf 30 = 3 by kernel_rfl] at hc
      obtain ⟨y, rfl⟩ := dact_of ht'
      obtain ⟨_, _, hat⟩ := World.cells?_some hc
      have a0 := hat 0 (by omega)
      have a1 := hat 1 (by omega)
      have a2 := hat 2 (by omega)
      have e : ∀ q : Addr, q.add 0 = q := fun q => by simp [Addr.add]
      have e' : ∀ (q : Addr) (i : Nat), 0 < i → q.add i = ⟨q.block, q.off + i, none⟩ := fun q i hi => by unfold Addr.add; rw [if_neg (by omega)]
      rw [e] at a0
      rw [e' _ 1 (by omega)] at a1
      rw [e' _ 2 (by omega)] at a2
      exact ⟨y, World.block_lt_of_cell? w _ a0, a0, a1, a2⟩
    obtain ⟨f, hf⟩ := choose_lt key
    exact ⟨some a, len, cap, f, hcs, by omega, fun i hi => ⟨a, rfl, hf i hi⟩⟩
theorem open_dacts {v : Value} {d : DataW H} {p : List MemPlace} {r : Reach} {b0 : Nat} (hv : Value.okWide Try.prog w r b0 23 v) (h : DataW.Trod enc Try.prog w base spare held 23 v d p) :
    ∃ A n c f, v = .slice A n c ∧ n ≤ maxLen ∧ DActs w A n f := by
  obtain ⟨a0, len0, cap0, rfl⟩ := okWide_slice Try.underlying23 hv
  obtain ⟨fuel, hf⟩ := h
  obtain ⟨A, n, c, f, e, h1⟩ := dacts_of hf
  simp [Value.cells] at e
  obtain ⟨rfl, rfl, rfl⟩ := e
  exact ⟨_, _, _, f, rfl, h1⟩
theorem okWide_arr2 {v : Value} {r : Reach} {b0 : Nat} (hv : Value.okWide Try.prog w r b0 22 v) : ∃ xs : Array Value, v = .agg xs ∧ xs.size = 2 := by
  simp only [Value.okWide, Try.underlying22] at hv
  obtain ⟨cs, h1, h2, _⟩ := hv
  exact ⟨cs, h1, h2.trans (by kernel_rfl)⟩
theorem open_dim {v : Value} {d : DataW H} {p : List MemPlace} {r : Reach} {b0 : Nat} (hv : Value.okWide Try.prog w r b0 22 v) (h : DataW.Trod enc Try.prog w base spare held 22 v d p) :
    ∃ x y : Int, v = .agg #[.int .i64 x, .int .i64 y] := by
  obtain ⟨cs, rfl, h2⟩ := okWide_arr2 hv
  obtain ⟨fuel, hf⟩ := h
  obtain ⟨xs, m, _, _, hl, hxl, hg⟩ := DataW.trod_array Try.underlying22 hf
  have key : ∀ i, i < 2 → ∃ a, cs.toList[i]? = some (.int .i64 a) := fun i hi => by
    have hy : (xs[i]?).isSome = true := by simp; omega
    have hq := hg i hi
    rw [show Try.prog.cellsOf 3 = 1 by kernel_rfl, Nat.mul_one] at hq
    obtain ⟨a, e, _⟩ := int_at (off := i) Try.underlying3 hy hq
    exact ⟨a, by simpa [Value.cells] using e⟩
  obtain ⟨a, ea⟩ := key 0 (by omega)
  obtain ⟨b, eb⟩ := key 1 (by omega)
  refine ⟨a, b, ?_⟩
  congr 1
  refine Array.ext (by simp [h2]) fun j h3 h4 => ?_
  have hj : j = 0 ∨ j = 1 := by omega
  rw [Array.getElem?_toList] at ea eb
  rcases hj with rfl | rfl
  · have := (Array.getElem?_eq_some_iff.1 ea).2; exact this
  · have := (Array.getElem?_eq_some_iff.1 eb).2; exact this
end
end Go.Proofs.Ytdpniggabidmbaa
