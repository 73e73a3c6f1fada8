/-
  What is proved: arguments that came in, opened: hints; a plan's hints, blocks and capacities; parts; arrays of four: their cells hold what their types say. No program's function is in it.
  (Left out here, as nothing of this law reaches it: open_lay, open_bytes4.) -/
import Derived.Test.YtmfdlkkligjcbaaGreatJ45
import Derived.Test.YtmfdlkkligjcbaaGreatJ18
import Derived.Deep.Slices
import Derived.Deep.Fields
import Derived.ChangeSame
import Derived.OpenShut
import Derived.Test.YtmfdlkkligjcbaaGreatJ25
import Derived.Test.YtmfdlkkligjcbaaGreatJ26
namespace Go.Proofs.YtmfdlkkligjcbaaGreat
open Go.RowKit Go.ChangeShapes Go.WideShapes Go.Deep

section
variable {H : Type} {enc : TypeId × Value → H} {w : World} {base : Nat} {spare : Nat → Bool} {held : Bool}
set_option maxRecDepth 100000 in
theorem hint_of {n : Nat} {cs : List Value} {x : DataW H × List MemPlace} (h : DataW.trod enc Tryz.prog w base spare held n 65 cs = some x) : ∃ p : Hn, cs = hv p := by
  obtain ⟨xs, m, _, _, hl, hxl, hg⟩ := DataW.trod_struct Tryz.underlying65 h
  have hl4 : cs.length = 4 := hl.trans (by kernel_rfl)
  have hx4 : xs.length = 4 := hxl
  obtain ⟨a, ha, _⟩ := int_at (off := 0) Tryz.underlying3 (by simp; omega) (hg 0 _ rfl)
  obtain ⟨b, hb, _⟩ := int_at (off := 1) Tryz.underlying3 (by simp; omega) (hg 1 _ rfl)
  obtain ⟨c, hc, _⟩ := int_at (off := 2) Tryz.underlying3 (by simp; omega) (hg 2 _ rfl)
  obtain ⟨d, hd⟩ := bool_at (off := 3) Tryz.underlying4 (by simp; omega) (hg 3 _ rfl)
  match cs, hl4 with
  | [c0, c1, c2, c3], _ =>
    simp at ha hb hc hd
    exact ⟨⟨a, b, c, d⟩, by rw [ha, hb, hc, hd]; rfl⟩
theorem skolemG {α : Type} [Inhabited α] {P : Nat → α → Prop} {n : Nat} (h : ∀ i, i < n → ∃ p, P i p) : ∃ f : Nat → α, ∀ i, i < n → P i (f i) :=
  ⟨fun i => if hi : i < n then Classical.choose (h i hi) else default, fun i hi => by simp only [dif_pos hi]; exact Classical.choose_spec (h i hi)⟩
theorem add_add (a : Addr) (i j : Nat) : (a.add i).add j = a.add (i + j) := by
  unfold Addr.add
  by_cases hi : i = 0 <;> by_cases hj : j = 0 <;> simp [hi, hj, Nat.add_assoc]
instance : Inhabited Hn := ⟨⟨0, 0, 0, false⟩⟩
theorem hints_of {fuel : Nat} {cs : List Value} {x : DataW H × List MemPlace} (h : DataW.trod enc Tryz.prog w base spare held fuel 23 cs = some x) :
    ∃ A n c hh, cs = [.slice A n c] ∧ n ≤ maxLen ∧ Rv w w.heap.size A (hvs hh n) ∧ (A = none → c = 0) := by
  rcases open_slice Tryz.underlying23 h with ⟨h0, _⟩ | ⟨a, len, cap, m, n, D, Pl, hcs, hb, hl, hm, hmm, hx, hi⟩
  · exact ⟨none, 0, 0, default, h0, by unfold maxLen; omega, Rv.nil _ _ _, fun _ => rfl⟩
  · have key : ∀ i, i < len → ∃ p : Hn, ∀ j, j < 4 → w.cell? (a.add (i * 4 + j)) = (hv p)[j]? := fun i hil => by
      have him : i < m := by rw [hmm]; split <;> omega
      obtain ⟨cs', hc, ht'⟩ := hi i him
      rw [show Tryz.prog.cellsOf 65 = 4 by kernel_rfl] at hc
      obtain ⟨p, rfl⟩ := hint_of ht'
      obtain ⟨_, _, hat⟩ := World.cells?_some hc
      refine ⟨p, fun j hj => ?_⟩
      rw [← hat j hj, add_add]
    obtain ⟨hh, H⟩ := skolemG key
    refine ⟨some a, len, cap, hh, hcs, by omega, ?_, fun e => by cases e⟩
    intro j u hu
    have hj : j < len * 4 := by
      rw [← hvs_length hh len]
      exact (List.getElem?_eq_some_iff.1 hu).1
    have hs := H (j / 4) (by omega) (j % 4) (by omega)
    rw [show j / 4 * 4 + j % 4 = j by omega] at hs
    have hc : w.cell? (a.add j) = some u := by
      obtain ⟨a0, a1, a2, a3⟩ := hvs_at hh len (j / 4) (by omega)
      rw [hs]
      have h4 : j % 4 = 0 ∨ j % 4 = 1 ∨ j % 4 = 2 ∨ j % 4 = 3 := by omega
      rcases h4 with h4 | h4 | h4 | h4 <;> rw [h4]
      · rw [show j = j / 4 * 4 by omega, a0] at hu; exact hu
      · rw [show j = j / 4 * 4 + 1 by omega, a1] at hu; exact hu
      · rw [show j = j / 4 * 4 + 2 by omega, a2] at hu; exact hu
      · rw [show j = j / 4 * 4 + 3 by omega, a3] at hu; exact hu
    refine ⟨a, rfl, ?_, hc⟩
    have := World.block_lt_of_cell? w _ hc
    rwa [addBlk] at this
theorem arr_at {t : TypeId} {m off i N : Nat} {cs : List Value} {y : Option (DataW H × List MemPlace)} (ht : Tryz.prog.underlying t = some (.array N 3)) (hi : i < N) (hy : y.isSome = true)
    (h : DataW.trod enc Tryz.prog w base spare held m t ((cs.drop off).take N) = y) : ∃ a, cs[off + i]? = some (.int .i64 a) := by
  obtain ⟨y, rfl⟩ := Option.isSome_iff_exists.1 hy
  obtain ⟨xs, m', _, _, _, hxl, hg⟩ := DataW.trod_array ht h
  have g := hg i hi
  rw [show Tryz.prog.cellsOf 3 = 1 by kernel_rfl, Nat.mul_one] at g
  obtain ⟨a, ha, _⟩ := int_at (off := i) Tryz.underlying3 (by simp; omega) g
  refine ⟨a, ?_⟩
  rw [List.getElem?_take, if_pos hi, List.getElem?_drop] at ha
  exact ha

























end
end Go.Proofs.YtmfdlkkligjcbaaGreat
namespace Go.Proofs.YtmfdlkkligjcbaaGreat
open Go.RowKit Go.ChangeShapes Go.WideShapes Go.Deep

/-- an act, and where its bytes lie -/
structure A16 where
  k : Int
  lv : Int
  b : Int
  B : Option Addr
  c : Nat
  l : List Int
instance : Inhabited A16 := ⟨⟨0, 0, 0, none, 0, []⟩⟩
def A16.sl (x : A16) : Value := .slice x.B x.l.length x.c
def A16.cells (x : A16) : List Value := [.int .i64 x.k, .int .i64 x.lv, .int .i64 x.b, x.sl]
/-- what there is in world w: its bytes are read, off what is new -/
structure A16.Good (x : A16) (w : World) : Prop where
  by_ : By w (fun j => w.heap.size ≤ j) x.sl x.l
  wb : -9223372036854775808 ≤ x.b ∧ x.b ≤ 9223372036854775807
structure ActC (w : World) (p : Addr) (x : A16) : Prop where
  lt : p.block < w.heap.size
  c0 : w.cell? p = some (.int .i64 x.k)
  c1 : w.cell? ⟨p.block, p.off + 1, none⟩ = some (.int .i64 x.lv)
  c2 : w.cell? ⟨p.block, p.off + 2, none⟩ = some (.int .i64 x.b)
  c3 : w.cell? ⟨p.block, p.off + 3, none⟩ = some x.sl
theorem ActC.below {w w' : World} {p : Addr} {x : A16} (h : ActC w p x) (hb : Below w.heap.size w w') : ActC w' p x :=
  ⟨Nat.lt_of_lt_of_le h.lt hb.size, (hb.cell h.lt).trans h.c0, (hb.cell (p := ⟨p.block, p.off + 1, none⟩) h.lt).trans h.c1, (hb.cell (p := ⟨p.block, p.off + 2, none⟩) h.lt).trans h.c2, (hb.cell (p := ⟨p.block, p.off + 3, none⟩) h.lt).trans h.c3⟩
/-- acts that are read -/
def ActsC (w : World) (A : Option Addr) (n : Nat) (f : Nat → A16) : Prop := ∀ i, i < n → ∃ ad, A = some ad ∧ ActC w (ad.add (i * 4)) (f i)
theorem ActsC.below {w w' : World} {A : Option Addr} {n : Nat} {f : Nat → A16} (h : ActsC w A n f) (hb : Below w.heap.size w w') : ActsC w' A n f := fun i hi => by
  obtain ⟨ad, e, h1⟩ := h i hi
  exact ⟨ad, e, h1.below hb⟩
/-- bytes that came in, in a later world: off all that is new -/
theorem A16.Good.at_ {w w' : World} {x : A16} (h : x.Good w) (hb : Below w.heap.size w w') (X : Nat → Prop) (hX : ∀ j, X j → w.heap.size ≤ j) : By w' X x.sl x.l := (h.by_.below hb).less hX
theorem A16.Good.below {w w' : World} {x : A16} (h : x.Good w) (hb : Below w.heap.size w w') : x.Good w' := ⟨h.by_.below hb |>.less fun _ hj => Nat.le_trans hb.size hj, h.wb⟩
section
variable {H : Type} {enc : TypeId × Value → H} {w : World} {base : Nat} {spare : Nat → Bool} {held : Bool}
set_option maxRecDepth 100000 in
theorem bytes_of {fuel : Nat} {cs : List Value} {x : DataW H × List MemPlace} (h : DataW.trod enc Tryz.prog w base spare held fuel 36 cs = some x) :
    ∃ A c l, cs = [.slice A l.length c] ∧ By w (fun j => w.heap.size ≤ j) (.slice A l.length c) l := by
  rcases open_slice Tryz.underlying36 h with ⟨h0, _⟩ | ⟨a, len, cap, m, n, D, Pl, hcs, hb, hl, hm, hmm, hx, hi⟩
  · exact ⟨none, 0, [], h0, none, 0, rfl, Rv.nil _ _ _, Nat.le_refl _, by unfold maxLen; omega, fun ad e => by cases e⟩
  · have key : ∀ i, i < len → ∃ y : Int, w.cell? (a.add i) = some (.int .u8 y) := fun i hil => by
      have him : i < m := by rw [hmm]; split <;> omega
      obtain ⟨cs', hc, ht'⟩ := hi i him
      rw [show Tryz.prog.cellsOf 5 = 1 by kernel_rfl] at hc
      obtain ⟨y, hy, _, hw⟩ := DataW.trod_int Tryz.underlying5 ht'
      obtain ⟨_, _, hat⟩ := World.cells?_some hc
      have h0 := hat 0 (by omega)
      rw [hy, Nat.mul_one] at h0
      have e : (a.add i).add 0 = a.add i := by simp [Addr.add]
      rw [e] at h0
      exact ⟨y, h0⟩
    obtain ⟨f, hf⟩ := skolemG key
    have hlen : ((List.range len).map f).length = len := by simp
    have hat : ∀ j, j < len → a.block < w.heap.size := fun j hj => by
      have hb := World.block_lt_of_cell? w _ (hf j hj)
      rwa [addBlk] at hb
    refine ⟨some a, cap, (List.range len).map f, by rw [hcs, hlen], some a, cap, by rw [hlen], fun j u hu => ?_, by rw [hlen]; omega, by omega, fun ad e hp => ?_⟩
    · unfold bytes at hu
      rw [List.map_map, List.getElem?_map] at hu
      obtain ⟨i, hi1, hi2⟩ := Option.map_eq_some_iff.1 hu
      have hj : j < len := by
        have := (List.getElem?_eq_some_iff.1 hi1).1
        simpa using this
      rw [List.getElem?_range hj] at hi1
      injection hi1 with hi1
      subst hi1 hi2
      exact ⟨a, rfl, hat j hj, hf j hj⟩
    · injection e with e
      subst e
      have := hat 0 (by omega)
      exact ⟨this, by omega⟩
set_option maxRecDepth 100000 in
theorem frame_of {n : Nat} {cs : List Value} {x : DataW H × List MemPlace} (h : DataW.trod enc Tryz.prog w base spare held n 38 cs = some x) :
    ∃ b A c l, cs = [.int .i64 b, .slice A l.length c] ∧ By w (fun j => w.heap.size ≤ j) (.slice A l.length c) l ∧ (-9223372036854775808 ≤ b ∧ b ≤ 9223372036854775807) := by
  obtain ⟨xs, m, _, rfl, hl, hxl, hg⟩ := DataW.trod_struct Tryz.underlying38 h
  have hl2 : cs.length = 2 := hl.trans (by kernel_rfl)
  have hx2 : xs.length = 2 := hxl
  obtain ⟨b, hb, wb⟩ := int_at (off := 0) Tryz.underlying3 (by simp; omega) (hg 0 _ rfl)
  obtain ⟨y, hy⟩ := Option.isSome_iff_exists.1 (show (xs[1]?).isSome = true by simp; omega)
  obtain ⟨A, c, l, e, hf⟩ := bytes_of ((hg 1 _ rfl).trans hy)
  simp only [Lit.wf, Bool.and_eq_true, decide_eq_true_eq] at wb
  have h1 : cs[1]? = some (.slice A l.length c) := by
    have e2 : (cs.drop 1).take 1 = [.slice A l.length c] := e
    have := congrArg (·[0]?) e2
    simpa using this
  match cs, hl2 with
  | [c0, c1], _ =>
    simp at hb h1
    exact ⟨b, A, c, l, by rw [hb, h1], hf, wb⟩
set_option maxRecDepth 100000 in
theorem act_of {n : Nat} {cs : List Value} {x : DataW H × List MemPlace} (h : DataW.trod enc Tryz.prog w base spare held n 40 cs = some x) : ∃ y : A16, cs = y.cells ∧ y.Good w := by
  obtain ⟨xs, m, _, rfl, hl, hxl, hg⟩ := DataW.trod_struct Tryz.underlying40 h
  have hl4 : cs.length = 4 := hl.trans (by kernel_rfl)
  have hx3 : xs.length = 3 := hxl
  obtain ⟨k, hk, _⟩ := int_at (off := 0) Tryz.underlying3 (by simp; omega) (hg 0 _ rfl)
  obtain ⟨lv, hv, _⟩ := int_at (off := 1) Tryz.underlying3 (by simp; omega) (hg 1 _ rfl)
  obtain ⟨y, hy⟩ := Option.isSome_iff_exists.1 (show (xs[2]?).isSome = true by simp; omega)
  obtain ⟨b, A, c, l, e, hf, wb⟩ := frame_of ((hg 2 _ rfl).trans hy)
  have e2 : (cs.drop 2).take 2 = [.int .i64 b, .slice A l.length c] := e
  match cs, hl4 with
  | [c0, c1, c2, c3], _ =>
    simp at hk hv e2
    exact ⟨⟨k, lv, b, A, c, l⟩, by rw [hk, hv, e2.1, e2.2]; rfl, hf, wb⟩
set_option maxRecDepth 100000 in
theorem acts_of {fuel : Nat} {cs : List Value} {x : DataW H × List MemPlace} (h : DataW.trod enc Tryz.prog w base spare held fuel 26 cs = some x) :
    ∃ A n c f, cs = [.slice A n c] ∧ n ≤ maxLen ∧ ActsC w A n f ∧ ∀ i, i < n → (f i).Good w := by
  rcases open_slice Tryz.underlying26 h with ⟨h0, _⟩ | ⟨a, len, cap, m, n, D, Pl, hcs, hb, hl, hm, hmm, hx, hi⟩
  · exact ⟨none, 0, 0, fun _ => default, h0, by unfold maxLen; omega, fun i hi => absurd hi (Nat.not_lt_zero i), fun i hi => absurd hi (Nat.not_lt_zero i)⟩
  · have key : ∀ i, i < len → ∃ y : A16, ActC w (a.add (i * 4)) y ∧ y.Good w := fun i hil => by
      have him : i < m := by rw [hmm]; split <;> omega
      obtain ⟨cs', hc, ht'⟩ := hi i him
      rw [show Tryz.prog.cellsOf 40 = 4 by kernel_rfl] at hc
      obtain ⟨y, rfl, hy⟩ := act_of ht'
      obtain ⟨_, _, hat⟩ := World.cells?_some hc
      have a0 := hat 0 (by omega)
      have a1 := hat 1 (by omega)
      have a2 := hat 2 (by omega)
      have a3 := hat 3 (by omega)
      have e : ∀ q : Addr, q.add 0 = q := fun q => by simp [Addr.add]
      have e' : ∀ (q : Addr) (i : Nat), 0 < i → q.add i = ⟨q.block, q.off + i, none⟩ := fun q i hi => by unfold Addr.add; rw [if_neg (by omega)]
      rw [e] at a0
      rw [e' _ 1 (by omega)] at a1
      rw [e' _ 2 (by omega)] at a2
      rw [e' _ 3 (by omega)] at a3
      exact ⟨y, ⟨World.block_lt_of_cell? w _ a0, a0, a1, a2, a3⟩, hy⟩
    obtain ⟨f, hf⟩ := skolemG key
    exact ⟨some a, len, cap, f, hcs, by omega, fun i hi => ⟨a, rfl, (hf i hi).1⟩, fun i hi => (hf i hi).2⟩
set_option maxRecDepth 100000 in
theorem open_acts {v : Value} {d : DataW H} {p : List MemPlace} {r : Reach} {b0 : Nat} (hv : Value.okWide Tryz.prog w r b0 26 v) (h : DataW.Trod enc Tryz.prog w base spare held 26 v d p) :
    ∃ A n c f, v = .slice A n c ∧ n ≤ maxLen ∧ ActsC w A n f ∧ ∀ i, i < n → (f i).Good w := by
  obtain ⟨a0, len0, cap0, rfl⟩ := okWide_slice Tryz.underlying26 hv
  obtain ⟨fuel, hf⟩ := h
  obtain ⟨A, n, c, f, e, h1⟩ := acts_of hf
  simp [Value.cells] at e
  obtain ⟨rfl, rfl, rfl⟩ := e
  exact ⟨_, _, _, f, rfl, h1⟩
set_option maxRecDepth 100000 in
theorem open_config {v : Value} {d : DataW H} {p : List MemPlace} {r : Reach} {b0 : Nat} (hv : Value.okWide Tryz.prog w r b0 25 v) (h : DataW.Trod enc Tryz.prog w base spare held 25 v d p) :
    ∃ c A n cp hh, v = .agg (cfgC c A n cp) ∧ n ≤ maxLen ∧ Rv w w.heap.size A (hvs hh n) ∧ (A = none → cp = 0) := by
  obtain ⟨cs, rfl, hsz⟩ := okWide_struct Tryz.underlying25 hv
  obtain ⟨fuel, hf⟩ := h
  obtain ⟨xs, m, _, _, hl, hxl, hg⟩ := DataW.trod_struct Tryz.underlying25 hf
  have hx : xs.length = 13 := hxl
  have s17 : cs.size = 17 := hsz.trans (by kernel_rfl)
  obtain ⟨l⟩ := cs
  have sm : ∀ i, i < 13 → (xs[i]?).isSome = true := fun i hi => by simp; omega
  obtain ⟨c0, h0, _⟩ := int_at (off := 0) Tryz.underlying3 (sm 0 (by omega)) (hg 0 _ rfl)
  obtain ⟨c1, h1, _⟩ := int_at (off := 1) Tryz.underlying3 (sm 1 (by omega)) (hg 1 _ rfl)
  obtain ⟨c2, h2, _⟩ := int_at (off := 2) Tryz.underlying3 (sm 2 (by omega)) (hg 2 _ rfl)
  obtain ⟨c3, h3, _⟩ := int_at (off := 3) Tryz.underlying3 (sm 3 (by omega)) (hg 3 _ rfl)
  obtain ⟨c4, h4, _⟩ := int_at (off := 4) Tryz.underlying3 (sm 4 (by omega)) (hg 4 _ rfl)
  obtain ⟨c5, h5, _⟩ := int_at (off := 5) Tryz.underlying3 (sm 5 (by omega)) (hg 5 _ rfl)
  obtain ⟨c6, h6⟩ := arr_at (off := 6) (i := 0) Tryz.underlying22 (by omega) (sm 6 (by omega)) (hg 6 _ rfl)
  obtain ⟨c7, h7⟩ := arr_at (off := 6) (i := 1) Tryz.underlying22 (by omega) (sm 6 (by omega)) (hg 6 _ rfl)
  obtain ⟨c8, h8⟩ := arr_at (off := 6) (i := 2) Tryz.underlying22 (by omega) (sm 6 (by omega)) (hg 6 _ rfl)
  obtain ⟨c9, h9⟩ := arr_at (off := 9) (i := 0) Tryz.underlying22 (by omega) (sm 7 (by omega)) (hg 7 _ rfl)
  obtain ⟨c10, h10⟩ := arr_at (off := 9) (i := 1) Tryz.underlying22 (by omega) (sm 7 (by omega)) (hg 7 _ rfl)
  obtain ⟨c11, h11⟩ := arr_at (off := 9) (i := 2) Tryz.underlying22 (by omega) (sm 7 (by omega)) (hg 7 _ rfl)
  obtain ⟨c12, h12, _⟩ := int_at (off := 12) Tryz.underlying3 (sm 8 (by omega)) (hg 8 _ rfl)
  obtain ⟨c13, h13, _⟩ := int_at (off := 13) Tryz.underlying3 (sm 9 (by omega)) (hg 9 _ rfl)
  obtain ⟨c14, h14, _⟩ := int_at (off := 14) Tryz.underlying3 (sm 10 (by omega)) (hg 10 _ rfl)
  obtain ⟨c15, h15, _⟩ := int_at (off := 15) Tryz.underlying3 (sm 11 (by omega)) (hg 11 _ rfl)
  have g12 := hg 12 _ rfl
  obtain ⟨y, hy⟩ := Option.isSome_iff_exists.1 (sm 12 (by omega))
  obtain ⟨A, n, cp, hh, e, hn, hr, hc⟩ := hints_of (g12.trans hy)
  have h16 : l[16]? = some (.slice A n cp) := by
    have e2 : (l.drop 16).take 1 = [.slice A n cp] := e
    have := congrArg (·[0]?) e2
    simpa using this
  match l, s17 with
  | [k0, k1, k2, k3, k4, k5, k6, k7, k8, k9, k10, k11, k12, k13, k14, k15, k16], _ =>
    simp [Value.cells] at h0 h1 h2 h3 h4 h5 h6 h7 h8 h9 h10 h11 h12 h13 h14 h15 h16
    subst h0 h1 h2 h3 h4 h5 h6 h7 h8 h9 h10 h11 h12 h13 h14 h15 h16
    exact ⟨fun i => #[c0, c1, c2, c3, c4, c5, c6, c7, c8, c9, c10, c11, c12, c13, c14, c15].getD i 0, A, n, cp, hh, rfl, hn, hr, hc⟩
end
end Go.Proofs.YtmfdlkkligjcbaaGreat
namespace Go.Proofs.YtmfdlkkligjcbaaGreat
open Go.RowKit

/-- what long tells -/
def LongQ (n m : Nat) (f : Nat → A16) (w : World) (e : Ending) (w' : World) : Prop :=
  ∃ b, e = .returned (.bool b) ∧ Below w.heap.size w w' ∧ (b = false → n ≤ 20 ∧ m ≤ 120 ∧ ∀ i, i < m → (f i).l.length ≤ 100)
set_option maxRecDepth 20000 in
set_option maxHeartbeats 1000000 in
theorem long16 {c : Nat → Int} {A A2 : Option Addr} {n cq m c2 : Nat} {f : Nat → A16} {w : World} (hm : m ≤ maxLen) (h : ActsC w A2 m f) (hg : ∀ i, i < m → (f i).Good w) :
    Calls Tryz.prog 9 #[.agg (cfgC c A n cq), .slice A2 m c2] w (LongQ n m f w) := by
  have hb0 := below_alloc w (.cells (cfgC c A n cq) 25)
  have y16 : (w.alloc (.cells (cfgC c A n cq) 25)).cell? ⟨w.heap.size, 16, none⟩ = some (.slice A n cq) := (Bx.new w 25 (cfgC c A n cq)).cell 16
  unfold maxLen at hm
  have HB0 := hid hb0
  have HA := hid (h.below hb0)
  have HGO := hid (fun i hi => (hg i hi).by_.below hb0)
  clear h hb0 hg
  by_cases h20 : 20 < n
  · have d20 : decide ((20 : Int) < (n : Int)) = true := by simp; omega
    clear h20
    go_enter Tryz.func9, Tryz.ntmps9
    go_upto_region 1 with fail
    generalize w.alloc (.cells (cfgC c A n cq) 25) = W0 at *
    go_wp2
    go_ret
    exact ⟨true, rfl, HB0.out, fun e => by cases e⟩
  · have d20 : decide ((20 : Int) < (n : Int)) = false := by simp; omega
    by_cases h120 : 120 < m
    · have d120 : decide ((120 : Int) < (m : Int)) = true := by simp; omega
      clear h20 h120
      go_enter Tryz.func9, Tryz.ntmps9
      go_upto_region 1 with fail
      generalize w.alloc (.cells (cfgC c A n cq) 25) = W0 at *
      go_wp2
      go_ret
      exact ⟨true, rfl, HB0.out, fun e => by cases e⟩
    · have d120 : decide ((120 : Int) < (m : Int)) = false := by simp; omega
      have hle : m ≤ 120 := by omega
      have HN := hid h20
      clear h20 h120
      go_enter Tryz.func9, Tryz.ntmps9
      go_upto_region 1 with fail
      obtain ⟨W0, hW0⟩ : ∃ x, w.alloc (.cells (cfgC c A n cq) 25) = x := ⟨_, rfl⟩
      obtain ⟨r0, hr0⟩ : ∃ x, w.heap.size = x := ⟨_, rfl⟩
      rw [hW0] at HB0 HA y16 ⊢
      rw [hr0] at y16 ⊢
      clear hW0 hr0 HGO
      go_wp2
      go_loopg [17] m (fun gk t17 wr => ∃ p : Nat, p + gk = m ∧ t17 = .int .i64 p ∧ (∀ i, i < p → (f i).l.length ≤ 100) ∧ wr = W0)
      case atStart => exact ⟨0, by omega, rfl, fun i hi => absurd hi (Nat.not_lt_zero i), rfl⟩
      case round =>
        obtain ⟨p, hp, rfl, hall, rfl⟩ := hrel
        have HL := hid hall
        clear hall
        by_cases hlt : p < m
        · have hlt' : (p : Int) < (m : Int) := by omega
          obtain ⟨ad, rfl, hat⟩ := HA.out p hlt
          obtain ⟨⟨κ, lv, b, B, bc, l⟩, hf⟩ : ∃ y, f p = y := ⟨_, rfl⟩
          have HF := hid hf
          rw [hf] at hat
          have c3 := hat.c3
          dsimp only [A16.sl] at c3
          obtain ⟨x, hx⟩ : ∃ x, l.length = x := ⟨_, rfl⟩
          rw [hx] at c3
          have HX := hid hx
          clear hat hf hx
          by_cases h2 : 100 < x
          · have h2' : (100 : Int) < (x : Int) := by omega
            go_wp2
            go_ret
            exact ⟨true, rfl, HB0.out, fun e => by cases e⟩
          · have h2' : ¬ (100 : Int) < (x : Int) := by omega
            go_wp2
            go_roundg (gk - 1)
            case measure => omega
            case rel =>
              refine ⟨p + 1, by omega, by go_num, fun i hi => ?_, rfl⟩
              by_cases e : i = p
              · subst e; rw [HF.out]; show l.length ≤ 100; rw [HX.out]; omega
              · exact HL.out i (by omega)
        · have hlt' : ¬ (p : Int) < (m : Int) := by omega
          go_wp2
          go_ret
          exact ⟨false, rfl, HB0.out, fun _ => ⟨by have := HN.out; omega, hle, fun i hi => HL.out i (by omega)⟩⟩
end Go.Proofs.YtmfdlkkligjcbaaGreat
