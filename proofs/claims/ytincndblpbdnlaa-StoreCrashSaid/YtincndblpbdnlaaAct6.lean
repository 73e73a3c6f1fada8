/-
  What is proved: arguments that came in, opened: a shape, a write, acts on a store, rows of texts: their cells hold what their types say; a struct in the middle of a block, loaded. No program's function is in it.
-/
import Derived.Test.YtincndblpbdnlaaStw
import Derived.Deep.Slices
import Derived.Deep.Fields
import Derived.Deep.MidRow
import Derived.ChangeSame
import Derived.OpenShut
namespace Go.Proofs.Ytincndblpbdnlaa
open Go.RowKit Go.ChangeShapes Go.WideShapes Go.Deep

/-- the cells from an address on -/
def At (w : World) (p : Addr) (cs : List Value) : Prop := ∀ j v, cs[j]? = some v → w.cell? (p.add j) = some v
theorem At.below {w w' : World} {p : Addr} {cs : List Value} (h : At w p cs) (hb : Below w.heap.size w w') (hp : p.block < w.heap.size) : At w' p cs := fun j v e => by
  rw [hb.cell (by rw [addBlk]; exact hp)]
  exact h j v e
theorem wpList_load_at {P : Program} {ops : Array Oper} {rest : List Oper} {op : Oper} {a : Act} {w : World} {Q : Exit → Act → World → Prop} (hgd : op.guard = none) (ty : TypeId) (x : Operand) (ho : op.op = .load ty x)
    (p : Addr) (hx : a.eval x = .pointer (some p)) (cs : List Value) (d : TypeDesc) (hc : At w p cs)
    (hu : P.underlying ty = some d) (hd : d.isRow = true) (hi : (P.info? ty).map (·.size) = some cs.length)
    (h : wpList P ops Q rest (a.put op.dst (.agg cs.toArray)) w) : wpList P ops Q (op :: rest) a w := by
  have hl : (loadCells p cs.length).run P w = .ok cs.toArray w := run_loadCells_list (P := P) w p cs hc
  have hrun : (loadVar ty p).run P w = .ok (.agg cs.toArray) w := by
    cases hq : P.info? ty with
    | none => simp [hq] at hi
    | some i =>
      have hs : i.size = cs.length := by simpa [hq] using hi
      have hagg : (isAgg ty).run P w = .ok true w := by
        unfold isAgg
        rw [Sem.run_bind, run_underlying hu w]
        cases d <;> simp_all
      simp [loadVar, Sem.run_bind, hagg, sizeOf, typeInfo, hq, hs, hl]
  refine wpList_plain hgd fun K hK => ?_
  unfold Oper.wp execOp
  simp only [ho, hx, Instr.loadAt, Instr.sureAddr, Sem.run_bind, Sem.run_pure, Result.andThen_ok, hrun]
  exact hK _ _ h
/-- the write that lies in the middle of a block -/
theorem Bx.range {w : World} {g : Nat} {t : TypeId} {cs : Array Value} (h : Bx w g t cs) (o : Nat) (us : List Value) (hu : ∀ j v, us[j]? = some v → cs[o + j]? = some v) : w.rangeAt g o us := fun j v e => by
  rw [h.cell]
  exact hu j v e

/-- an act, and where its bytes lie -/
structure Ac where
  k : Int
  n : Int
  x : Wr
instance : Inhabited Ac := ⟨⟨0, 0, ⟨0, 0, 0, 0, 0, none, 0, []⟩⟩⟩
def Wr.cells (x : Wr) : List Value := [.int .i64 x.c, .int .i64 x.s, .int .i64 x.b, .int .i64 x.o, .int .i64 x.k, .slice x.A x.l.length x.cap]
def Ac.cells (y : Ac) : List Value := .int .i64 y.k :: .int .i64 y.n :: y.x.cells
/-- the bytes of a write are read -/
structure Wr.Good (w : World) (x : Wr) : Prop where
  r : Rn w x.A x.l
  by_ : Byt x.l
  le : x.l.length ≤ x.cap ∧ x.cap ≤ maxLen
theorem Wr.Good.below {w w' : World} {x : Wr} (h : x.Good w) (hb : Below w.heap.size w w') : x.Good w' := ⟨h.r.now hb, h.by_, h.le⟩
/-- an act that is read -/
structure ActAt (w : World) (p : Addr) (y : Ac) : Prop where
  lt : p.block < w.heap.size
  c : At w p y.cells
  g : y.x.Good w
  wn : -9223372036854775808 ≤ y.n ∧ y.n ≤ 9223372036854775807
theorem ActAt.below {w w' : World} {p : Addr} {x : Ac} (h : ActAt w p x) (hb : Below w.heap.size w w') : ActAt w' p x :=
  ⟨Nat.lt_of_lt_of_le h.lt hb.size, h.c.below hb h.lt, h.g.below hb, h.wn⟩
/-- acts that are read -/
def Acts (w : World) (A : Option Addr) (n : Nat) (f : Nat → Ac) : Prop := ∀ i, i < n → ∃ ad, A = some ad ∧ ActAt w (ad.add (i * 8)) (f i)
theorem Acts.below {w w' : World} {A : Option Addr} {n : Nat} {f : Nat → Ac} (h : Acts w A n f) (hb : Below w.heap.size w w') : Acts w' A n f := fun i hi => by
  obtain ⟨ad, e, h1⟩ := h i hi
  exact ⟨ad, e, h1.below hb⟩
/-- rows of texts that are read -/
def Texts (w : World) (A : Option Addr) (n : Nat) (f : Nat → List Int) : Prop := ∀ i, i < n → ∃ ad u, A = some ad ∧ ad.block < w.heap.size ∧ w.cell? (ad.add i) = some u ∧ Bs w u (f i) ∧ Byt (f i)
theorem Texts.below {w w' : World} {A : Option Addr} {n : Nat} {f : Nat → List Int} (h : Texts w A n f) (hb : Below w.heap.size w w') : Texts w' A n f := fun i hi => by
  obtain ⟨ad, u, e, h1, h2, h3, h4⟩ := h i hi
  exact ⟨ad, u, e, Nat.lt_of_lt_of_le h1 hb.size, (hb.cell (by rw [addBlk]; exact h1)).trans h2, h3.below hb, h4⟩

section
variable {H : Type} {enc : TypeId × Value → H} {w : World} {base : Nat} {spare : Nat → Bool} {held : Bool}
/-- one cell of more, of a type of integers -/
theorem int_at {P : Program} {t : TypeId} {k : IntKind} {m off : Nat} {cs : List Value} {y : Option (DataW H × List MemPlace)} (hk : P.underlying t = some (.int k)) (hy : y.isSome = true)
    (h : DataW.trod enc P w base spare held m t ((cs.drop off).take 1) = y) : ∃ a, cs[off]? = some (.int k a) ∧ (Lit.int k a).wf = true := by
  obtain ⟨y, rfl⟩ := Option.isSome_iff_exists.1 hy
  obtain ⟨a, e, _, hw⟩ := DataW.trod_int hk h
  refine ⟨a, ?_, hw⟩
  have := congrArg (·[0]?) e
  simpa using this
theorem bytes_of {fuel : Nat} {cs : List Value} {x : DataW H × List MemPlace} (h : DataW.trod enc Try.prog w base spare held fuel 36 cs = some x) :
    ∃ A n c ds, cs = [.slice A n c] ∧ ds.length = n ∧ n ≤ c ∧ c ≤ maxLen ∧ Rn w A ds ∧ ∀ x ∈ ds, 0 ≤ x ∧ x ≤ 255 := by
  rcases open_slice Try.underlying36 h with ⟨h0, _⟩ | ⟨a, len, cap, m, n, D, Pl, hcs, hb, hl, hm, hmm, hx, hi⟩
  · exact ⟨none, 0, 0, [], h0, rfl, Nat.le_refl _, by unfold maxLen; omega, Rd.nil _ _ _, fun x hx => by simp at hx⟩
  · have key : ∀ i, i < len → ∃ y : Int, w.cell? (a.add i) = some (.int .u8 y) ∧ 0 ≤ y ∧ y ≤ 255 := fun i hil => by
      have him : i < m := by rw [hmm]; split <;> omega
      obtain ⟨cs', hc, ht'⟩ := hi i him
      rw [show Try.prog.cellsOf 5 = 1 by kernel_rfl] at hc
      obtain ⟨y, hy, _, hw⟩ := DataW.trod_int Try.underlying5 ht'
      obtain ⟨_, _, hat⟩ := World.cells?_some hc
      have h0 := hat 0 (by omega)
      rw [hy, Nat.mul_one] at h0
      simp only [Lit.wf, Bool.and_eq_true, decide_eq_true_eq] at hw
      have hw' : 0 ≤ y ∧ y ≤ 255 := hw
      refine ⟨y, ?_, hw'⟩
      have e : (a.add i).add 0 = a.add i := by simp [Addr.add]
      rw [e] at h0
      exact h0
    obtain ⟨f, hf⟩ := choose_lt key
    refine ⟨some a, len, cap, (List.range len).map f, hcs, by simp, by omega, by omega, ?_, ?_⟩
    · intro j u hu
      rw [List.getElem?_map] at hu
      obtain ⟨i, hi1, hi2⟩ := Option.map_eq_some_iff.1 hu
      have hj : j < len := by
        have := (List.getElem?_eq_some_iff.1 hi1).1
        simpa using this
      rw [List.getElem?_range hj] at hi1
      injection hi1 with hi1
      subst hi1 hi2
      have hc := (hf j hj).1
      have hb := World.block_lt_of_cell? w _ hc
      rw [addBlk] at hb
      exact ⟨a, rfl, hb, hc⟩
    · intro y hy
      obtain ⟨i, hi1, rfl⟩ := List.mem_map.1 hy
      exact (hf i (List.mem_range.1 hi1)).2

set_option maxRecDepth 100000 in
/-- a write's cells -/
theorem wr_of {n : Nat} {cs : List Value} {x : DataW H × List MemPlace} (h : DataW.trod enc Try.prog w base spare held n 38 cs = some x) : ∃ y : Wr, cs = y.cells ∧ y.Good w := by
  obtain ⟨xs, m, _, _, hl, hxl, hg⟩ := DataW.trod_struct Try.underlying38 h
  have hl6 : cs.length = 6 := hl.trans (by kernel_rfl)
  have hx6 : xs.length = 6 := hxl
  have sm : ∀ i, i < 6 → (xs[i]?).isSome = true := fun i hi => by simp; omega
  obtain ⟨c0, h0, _⟩ := int_at (off := 0) Try.underlying3 (sm 0 (by omega)) (hg 0 _ rfl)
  obtain ⟨c1, h1, _⟩ := int_at (off := 1) Try.underlying3 (sm 1 (by omega)) (hg 1 _ rfl)
  obtain ⟨c2, h2, _⟩ := int_at (off := 2) Try.underlying3 (sm 2 (by omega)) (hg 2 _ rfl)
  obtain ⟨c3, h3, _⟩ := int_at (off := 3) Try.underlying3 (sm 3 (by omega)) (hg 3 _ rfl)
  obtain ⟨c4, h4, _⟩ := int_at (off := 4) Try.underlying3 (sm 4 (by omega)) (hg 4 _ rfl)
  obtain ⟨y, hy⟩ := Option.isSome_iff_exists.1 (sm 5 (by omega))
  obtain ⟨B, bn, bc, ds, e, hn, h1c, h2c, hr, hby⟩ := bytes_of ((hg 5 _ rfl).trans hy)
  have h5 : cs[5]? = some (.slice B bn bc) := by
    have e2 : (cs.drop 5).take 1 = [.slice B bn bc] := e
    have := congrArg (·[0]?) e2
    simpa using this
  subst hn
  match cs, hl6 with
  | [k0, k1, k2, k3, k4, k5], _ =>
    simp at h0 h1 h2 h3 h4 h5
    exact ⟨⟨c0, c1, c2, c3, c4, B, bc, ds⟩, by rw [h0, h1, h2, h3, h4, h5]; rfl, ⟨hr, hby, h1c, h2c⟩⟩
set_option maxRecDepth 100000 in
theorem open_wr {v : Value} {d : DataW H} {p : List MemPlace} {r : Reach} {b0 : Nat} (hv : Value.okWide Try.prog w r b0 38 v) (h : DataW.Trod enc Try.prog w base spare held 38 v d p) : ∃ y : Wr, v = y.v ∧ y.Good w := by
  obtain ⟨cs, rfl, hsz⟩ := okWide_struct Try.underlying38 hv
  obtain ⟨fuel, hf⟩ := h
  obtain ⟨y, e, hg⟩ := wr_of hf
  refine ⟨y, ?_, hg⟩
  obtain ⟨l⟩ := cs
  have e' : l = y.cells := by simpa [Value.cells] using e
  rw [e']
  rfl
set_option maxRecDepth 100000 in
theorem open_shape {v : Value} {d : DataW H} {p : List MemPlace} {r : Reach} {b0 : Nat} (hv : Value.okWide Try.prog w r b0 23 v) (h : DataW.Trod enc Try.prog w base spare held 23 v d p) :
    ∃ B Z C S : Int, v = .agg #[.int .i64 B, .int .i64 Z, .int .i64 C, .int .i64 S] := by
  obtain ⟨cs, rfl, hsz⟩ := okWide_struct Try.underlying23 hv
  obtain ⟨fuel, hf⟩ := h
  obtain ⟨xs, m, _, _, hl, hxl, hg⟩ := DataW.trod_struct Try.underlying23 hf
  have s4 : cs.size = 4 := hsz.trans (by kernel_rfl)
  have hx4 : xs.length = 4 := hxl
  have sm : ∀ i, i < 4 → (xs[i]?).isSome = true := fun i hi => by simp; omega
  obtain ⟨l⟩ := cs
  obtain ⟨c0, h0, _⟩ := int_at (off := 0) Try.underlying3 (sm 0 (by omega)) (hg 0 _ rfl)
  obtain ⟨c1, h1, _⟩ := int_at (off := 1) Try.underlying3 (sm 1 (by omega)) (hg 1 _ rfl)
  obtain ⟨c2, h2, _⟩ := int_at (off := 2) Try.underlying3 (sm 2 (by omega)) (hg 2 _ rfl)
  obtain ⟨c3, h3, _⟩ := int_at (off := 3) Try.underlying3 (sm 3 (by omega)) (hg 3 _ rfl)
  match l, s4 with
  | [k0, k1, k2, k3], _ =>
    simp [Value.cells] at h0 h1 h2 h3
    subst h0 h1 h2 h3
    exact ⟨c0, c1, c2, c3, rfl⟩

set_option maxRecDepth 100000 in
theorem act_of {n : Nat} {cs : List Value} {x : DataW H × List MemPlace} (h : DataW.trod enc Try.prog w base spare held n 40 cs = some x) :
    ∃ y : Ac, cs = y.cells ∧ y.x.Good w ∧ (-9223372036854775808 ≤ y.n ∧ y.n ≤ 9223372036854775807) := by
  obtain ⟨xs, m, _, _, hl, hxl, hg⟩ := DataW.trod_struct Try.underlying40 h
  have hl8 : cs.length = 8 := hl.trans (by kernel_rfl)
  have hx3 : xs.length = 3 := hxl
  obtain ⟨k, hk, _⟩ := int_at (off := 0) Try.underlying3 (by simp; omega) (hg 0 _ rfl)
  obtain ⟨a, ha, wa⟩ := int_at (off := 1) Try.underlying3 (by simp; omega) (hg 1 _ rfl)
  obtain ⟨y, hy⟩ := Option.isSome_iff_exists.1 (show (xs[2]?).isSome = true by simp; omega)
  obtain ⟨z, e, hz⟩ := wr_of ((hg 2 _ rfl).trans hy)
  simp only [Lit.wf, Bool.and_eq_true, decide_eq_true_eq] at wa
  have e2 : (cs.drop 2).take 6 = z.cells := e
  match cs, hl8 with
  | [k0, k1, k2, k3, k4, k5, k6, k7], _ =>
    simp at hk ha e2
    refine ⟨⟨k, a, z⟩, ?_, hz, wa⟩
    rw [hk, ha]
    exact congrArg (fun l => Value.int .i64 k :: Value.int .i64 a :: l) e2
set_option maxRecDepth 100000 in
theorem open_acts {v : Value} {d : DataW H} {p : List MemPlace} {r : Reach} {b0 : Nat} (hv : Value.okWide Try.prog w r b0 24 v) (h : DataW.Trod enc Try.prog w base spare held 24 v d p) :
    ∃ A n c f, v = .slice A n c ∧ n ≤ maxLen ∧ Acts w A n f := by
  obtain ⟨a0, len0, cap0, rfl⟩ := okWide_slice Try.underlying24 hv
  obtain ⟨fuel, hf⟩ := h
  rcases open_slice Try.underlying24 hf with ⟨h0, _⟩ | ⟨a, len, cap, m, n, D, Pl, hcs, hb, hl, hm, hmm, hx, hi⟩
  · simp [Value.cells] at h0
    obtain ⟨rfl, rfl, rfl⟩ := h0
    exact ⟨none, 0, 0, fun _ => default, rfl, by unfold maxLen; omega, fun i hi => absurd hi (Nat.not_lt_zero i)⟩
  · simp [Value.cells] at hcs
    obtain ⟨rfl, rfl, rfl⟩ := hcs
    have key : ∀ i, i < len0 → ∃ y : Ac, ActAt w (a.add (i * 8)) y := fun i hil => by
      have him : i < m := by rw [hmm]; split <;> omega
      obtain ⟨cs', hc, ht'⟩ := hi i him
      rw [show Try.prog.cellsOf 40 = 8 by kernel_rfl] at hc
      obtain ⟨y, rfl, h1, h2⟩ := act_of ht'
      obtain ⟨_, _, hat⟩ := World.cells?_some hc
      have hat' : At w (a.add (i * 8)) y.cells := fun j v e => by
        have hj : j < 8 := (List.getElem?_eq_some_iff.1 e).1
        have := hat j hj
        rw [this]
        exact e
      have a0 := hat' 0 _ rfl
      have hb0 := World.block_lt_of_cell? w _ a0
      rw [addBlk] at hb0
      exact ⟨y, hb0, hat', h1, h2⟩
    obtain ⟨f, hf⟩ := choose_lt key
    exact ⟨some a, len0, cap0, f, rfl, by omega, fun i hi => ⟨a, rfl, hf i hi⟩⟩
set_option maxRecDepth 100000 in
theorem open_texts {v : Value} {d : DataW H} {p : List MemPlace} {r : Reach} {b0 : Nat} (hv : Value.okWide Try.prog w r b0 51 v) (h : DataW.Trod enc Try.prog w base spare held 51 v d p) :
    ∃ A n c f, v = .slice A n c ∧ n ≤ maxLen ∧ Texts w A n f := by
  obtain ⟨a0, len0, cap0, rfl⟩ := okWide_slice Try.underlying51 hv
  obtain ⟨fuel, hf⟩ := h
  rcases open_slice Try.underlying51 hf with ⟨h0, _⟩ | ⟨a, len, cap, m, n, D, Pl, hcs, hb, hl, hm, hmm, hx, hi⟩
  · simp [Value.cells] at h0
    obtain ⟨rfl, rfl, rfl⟩ := h0
    exact ⟨none, 0, 0, fun _ => default, rfl, by unfold maxLen; omega, fun i hi => absurd hi (Nat.not_lt_zero i)⟩
  · simp [Value.cells] at hcs
    obtain ⟨rfl, rfl, rfl⟩ := hcs
    have key : ∀ i, i < len0 → ∃ l : List Int, ∃ u, a.block < w.heap.size ∧ w.cell? (a.add i) = some u ∧ Bs w u l ∧ Byt l := fun i hil => by
      have him : i < m := by rw [hmm]; split <;> omega
      obtain ⟨cs', hc, ht'⟩ := hi i him
      rw [show Try.prog.cellsOf 36 = 1 by kernel_rfl] at hc
      obtain ⟨B, bn, bc, ds, e, hn, h1c, h2c, hr, hby⟩ := bytes_of ht'
      obtain ⟨_, _, hat⟩ := World.cells?_some hc
      have h0 := hat 0 (by omega)
      rw [e, Nat.mul_one, show (a.add i).add 0 = a.add i by simp [Addr.add]] at h0
      have h0' : w.cell? (a.add i) = some (.slice B bn bc) := h0
      have hb0 := World.block_lt_of_cell? w _ h0'
      rw [addBlk] at hb0
      subst hn
      exact ⟨ds, _, hb0, h0', ⟨B, bc, rfl, hr, h1c, h2c⟩, hby⟩
    obtain ⟨f, hf⟩ := choose_lt key
    exact ⟨some a, len0, cap0, f, rfl, by omega, fun i hi => by
      obtain ⟨u, h1⟩ := hf i hi
      exact ⟨a, u, rfl, h1⟩⟩
end
end Go.Proofs.Ytincndblpbdnlaa
