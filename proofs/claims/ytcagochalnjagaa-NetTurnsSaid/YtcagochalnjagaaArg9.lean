/-
  What is proved: arguments that came in, opened: frames, acts on a net: their cells hold what their types say, and no slice of them is longer than the form's reach. No program's function is in it.
-/
import Derived.Test.YtcagochalnjagaaSnt9
import Derived.Deep.Slices
import Derived.Deep.Fields
import Derived.ChangeSame
import Derived.OpenShut
import Derived.SizedLaws
namespace Go.Proofs.Ytcagochalnjagaa
open Go.RowKit Go.ChangeShapes Go.WideShapes Go.Deep

def rng (x : List Int) : Prop := (∀ y ∈ x, 0 ≤ y ∧ y ≤ 255) ∧ x.length ≤ 140737488355328
/-- frames that are read -/
structure Fr (w : World) (A : Option Addr) (bs : List Value) (l : Wy) : Prop where
  rv : Rv w w.heap.size A bs
  cs : Cs Eb w bs l
  rng : ∀ x ∈ l, rng x
theorem Fr.below {w w' : World} {A : Option Addr} {bs : List Value} {l : Wy} (h : Fr w A bs l) (hb : Below w.heap.size w w') : Fr w' A bs l :=
  ⟨h.rv.now hb, h.cs.below stb_Eb hb, h.rng⟩
theorem Fr.fin {w w' : World} {A : Option Addr} {bs : List Value} {l : Wy} {F : Nat → Prop} (h : Fr w A bs l) (hb : Below w.heap.size w w') (hF : ∀ j, F j → w.heap.size ≤ j) : Fin w' F A bs l :=
  ⟨fun j u hu => by
    obtain ⟨ad, e, h1, h2⟩ := h.rv j u hu
    exact ⟨ad, e, Nat.lt_of_lt_of_le h1 hb.size, fun hf => by have := hF _ hf; omega, (hb.cell (p := ad.add j) (by rw [addBlk]; exact h1)).trans h2⟩, h.cs.below stb_Eb hb, h.rng⟩
/-- an act, and where its frames lie -/
structure A9 where
  k : Int
  a : Int
  i : Int
  r : Int
  B : Option Addr
  c : Nat
  bs : List Value
  l : Wy
instance : Inhabited A9 := ⟨⟨0, 0, 0, 0, none, 0, [], []⟩⟩
def A9.cells (x : A9) : List Value := [.int .i64 x.k, .int .i64 x.a, .int .i64 x.i, .int .i64 x.r, .slice x.B x.l.length x.c]
structure A9.Good (x : A9) (w : World) : Prop where
  f : Fr w x.B x.bs x.l
  le : x.l.length ≤ x.c ∧ x.c ≤ maxLen
  wk : -9223372036854775808 ≤ x.k ∧ x.k ≤ 9223372036854775807
theorem A9.Good.below {w w' : World} {x : A9} (h : x.Good w) (hb : Below w.heap.size w w') : x.Good w' := ⟨h.f.below hb, h.le, h.wk⟩
structure ActAt (w : World) (p : Addr) (x : A9) : Prop where
  lt : p.block < w.heap.size
  c0 : w.cell? p = some (.int .i64 x.k)
  c1 : w.cell? ⟨p.block, p.off + 1, none⟩ = some (.int .i64 x.a)
  c2 : w.cell? ⟨p.block, p.off + 2, none⟩ = some (.int .i64 x.i)
  c3 : w.cell? ⟨p.block, p.off + 3, none⟩ = some (.int .i64 x.r)
  c4 : w.cell? ⟨p.block, p.off + 4, none⟩ = some (.slice x.B x.l.length x.c)
  g : x.Good w
theorem ActAt.below {w w' : World} {p : Addr} {x : A9} (h : ActAt w p x) (hb : Below w.heap.size w w') : ActAt w' p x :=
  ⟨Nat.lt_of_lt_of_le h.lt hb.size, (hb.cell h.lt).trans h.c0, (hb.cell (p := ⟨p.block, p.off + 1, none⟩) h.lt).trans h.c1, (hb.cell (p := ⟨p.block, p.off + 2, none⟩) h.lt).trans h.c2, (hb.cell (p := ⟨p.block, p.off + 3, none⟩) h.lt).trans h.c3, (hb.cell (p := ⟨p.block, p.off + 4, none⟩) h.lt).trans h.c4, h.g.below hb⟩
/-- acts that are read -/
def Acts (w : World) (A : Option Addr) (n : Nat) (f : Nat → A9) : Prop := ∀ i, i < n → ∃ ad, A = some ad ∧ ActAt w (ad.add (i * 5)) (f i)
theorem Acts.below {w w' : World} {A : Option Addr} {n : Nat} {f : Nat → A9} (h : Acts w A n f) (hb : Below w.heap.size w w') : Acts w' A n f := fun i hi => by
  obtain ⟨ad, e, h1⟩ := h i hi
  exact ⟨ad, e, h1.below hb⟩

section
variable {H : Type} {enc : TypeId × Value → H} {w : World} {base : Nat} {spare : Nat → Bool} {held : Bool}
/-- no slice of it is longer than the reach -/
def Sz (t : TypeId) (d : DataW H) : Prop := ∀ n ∈ d.weights Try.prog t, n ≤ reachBytes
theorem mem_weightsAll {P : Program} {e : TypeId} {d : DataW H} {n : Nat} (hn : n ∈ d.weights P e) : ∀ {ds : List (DataW H)}, d ∈ ds → n ∈ DataW.weightsAll P e ds
  | d0 :: r, hd => by
    rw [DataW.weightsAll, List.mem_append]
    rcases List.mem_cons.1 hd with rfl | hd
    · exact .inl hn
    · exact .inr (mem_weightsAll hn hd)
theorem sz_elem {t e : TypeId} {es sp : List (DataW H)} {d : DataW H} (hu : Try.prog.underlying t = some (.slice e)) (h : Sz t (.slice es sp)) (hd : d ∈ es) : Sz e d := fun n hn => h n (by
  simp only [DataW.weights, hu]
  exact List.mem_cons_of_mem _ (List.mem_append.2 (.inl (mem_weightsAll hn hd))))
theorem sz_len {t e : TypeId} {es sp : List (DataW H)} (hu : Try.prog.underlying t = some (.slice e)) (h : Sz t (.slice es sp)) : (es.length + sp.length) * Try.prog.bytesOf e ≤ reachBytes := h _ (by
  simp only [DataW.weights, hu]
  exact List.mem_cons_self)
theorem sz_field {t e : TypeId} {fs : Array Field} {ps : List (DataW H)} {j : Nat} {d : DataW H} (hu : Try.prog.underlying t = some (.struct fs)) (h : Sz t (.agg ps)) (ht : (fs.toList.map (·.type))[j]? = some e) (hd : ps[j]? = some d) : Sz e d := fun n hn => h n (by
  simp only [DataW.weights, hu]
  exact DataW.weights_mem_each ht hd n hn)
/-- one cell of more, of a type of integers -/
theorem int_at {P : Program} {t : TypeId} {k : IntKind} {m off : Nat} {cs : List Value} {y : Option (DataW H × List MemPlace)} (hk : P.underlying t = some (.int k)) (hy : y.isSome = true)
    (h : DataW.trod enc P w base spare held m t ((cs.drop off).take 1) = y) : ∃ a, cs[off]? = some (.int k a) ∧ (Lit.int k a).wf = true := by
  obtain ⟨y, rfl⟩ := Option.isSome_iff_exists.1 hy
  obtain ⟨a, e, _, hw⟩ := DataW.trod_int hk h
  refine ⟨a, ?_, hw⟩
  have := congrArg (·[0]?) e
  simpa using this
theorem bytes_of {fuel : Nat} {cs : List Value} {x : DataW H × List MemPlace} (h : DataW.trod enc Try.prog w base spare held fuel 32 cs = some x) (hz : Sz 32 x.1) :
    ∃ v l, cs = [v] ∧ Eb w v l ∧ rng l := by
  rcases open_slice Try.underlying32 h with ⟨h0, _⟩ | ⟨a, len, cap, m, n, D, Pl, hcs, hb, hl, hm, hmm, hx, hi⟩
  · exact ⟨_, [], h0, bs_nil w, fun x hx => by simp at hx, by simp⟩
  · have key : ∀ i, i < len → ∃ y : Int, w.cell? (a.add i) = some (.int .u8 y) ∧ 0 ≤ y ∧ y ≤ 255 := fun i hil => by
      have him : i < m := by rw [hmm]; split <;> omega
      obtain ⟨cs', hc, ht'⟩ := hi i him
      rw [show Try.prog.cellsOf 5 = 1 by kernel_rfl] at hc
      obtain ⟨y, hy, _, hw⟩ := DataW.trod_int Try.underlying5 ht'
      obtain ⟨_, _, hat⟩ := World.cells?_some hc
      have h0 := hat 0 (by omega)
      rw [hy, Nat.mul_one] at h0
      simp only [Lit.wf, Bool.and_eq_true, decide_eq_true_eq] at hw
      have hw' : 0 ≤ y ∧ y ≤ 255 := hw
      refine ⟨y, ?_, hw'⟩
      have e : (a.add i).add 0 = a.add i := by simp [Addr.add]
      rw [e] at h0
      exact h0
    obtain ⟨f, hf⟩ := choose_lt key
    have hlen : ((List.range len).map f).length = len := by simp
    refine ⟨.slice (some a) len cap, (List.range len).map f, hcs, ⟨some a, cap, by rw [hlen], ?_, by rw [hlen]; omega, by omega⟩, ?_, ?_⟩
    · intro j u hu
      rw [List.getElem?_map] at hu
      obtain ⟨i, hi1, hi2⟩ := Option.map_eq_some_iff.1 hu
      have hj : j < len := by
        have := (List.getElem?_eq_some_iff.1 hi1).1
        simpa using this
      rw [List.getElem?_range hj] at hi1
      injection hi1 with hi1
      subst hi1 hi2
      have hc := (hf j hj).1
      have hb := World.block_lt_of_cell? w _ hc
      rw [addBlk] at hb
      exact ⟨a, rfl, hb, hc⟩
    · intro y hy
      obtain ⟨i, hi1, rfl⟩ := List.mem_map.1 hy
      exact (hf i (List.mem_range.1 hi1)).2
    · rw [hx] at hz
      have := sz_len Try.underlying32 hz
      rw [show Try.prog.bytesOf 5 = 1 by kernel_rfl] at this
      unfold reachBytes at this
      simp at this ⊢
      omega
theorem frames_of {fuel : Nat} {cs : List Value} {x : DataW H × List MemPlace} (h : DataW.trod enc Try.prog w base spare held fuel 29 cs = some x) (hz : Sz 29 x.1) :
    ∃ A c bs l, cs = [.slice A l.length c] ∧ Fr w A bs l ∧ l.length ≤ c ∧ c ≤ maxLen := by
  rcases open_slice Try.underlying29 h with ⟨h0, _⟩ | ⟨a, len, cap, m, n, D, Pl, hcs, hb, hl, hm, hmm, hx, hi⟩
  · exact ⟨none, 0, [], [], h0, ⟨Rv.nil _ _ _, Cs.nil _ _, fun x hx => by simp at hx⟩, Nat.le_refl _, by unfold maxLen; omega⟩
  · have key : ∀ i, i < len → ∃ y : Value × List Int, w.cell? (a.add i) = some y.1 ∧ Eb w y.1 y.2 ∧ rng y.2 := fun i hil => by
      have him : i < m := by rw [hmm]; split <;> omega
      obtain ⟨cs', hc, ht'⟩ := hi i him
      rw [show Try.prog.cellsOf 32 = 1 by kernel_rfl] at hc
      obtain ⟨v, l, rfl, h1, h2⟩ := bytes_of ht' (by rw [hx] at hz; exact sz_elem Try.underlying29 hz (List.mem_map.2 ⟨i, List.mem_range.2 hil, rfl⟩))
      obtain ⟨_, _, hat⟩ := World.cells?_some hc
      have h0 := hat 0 (by omega)
      rw [Nat.mul_one] at h0
      have e : (a.add i).add 0 = a.add i := by simp [Addr.add]
      rw [e] at h0
      exact ⟨(v, l), h0, h1, h2⟩
    obtain ⟨f, hf⟩ := choose_lt key
    have hlen : ((List.range len).map fun i => (f i).2).length = len := by simp
    have at_ : ∀ {α : Type} (g : Nat → α) j u, ((List.range len).map g)[j]? = some u → j < len ∧ g j = u := fun g j u hu => by
      rw [List.getElem?_map] at hu
      obtain ⟨i, hi1, hi2⟩ := Option.map_eq_some_iff.1 hu
      have hj : j < len := by
        have := (List.getElem?_eq_some_iff.1 hi1).1
        simpa using this
      rw [List.getElem?_range hj] at hi1
      injection hi1 with hi1
      subst hi1
      exact ⟨hj, hi2⟩
    refine ⟨some a, cap, (List.range len).map fun i => (f i).1, (List.range len).map fun i => (f i).2, by rw [hcs, hlen], ⟨fun j u hu => ?_, ⟨by simp, fun j x l hx hl => ?_⟩, fun x hx => ?_⟩, by rw [hlen]; omega, by omega⟩
    · obtain ⟨hj, rfl⟩ := at_ _ j u hu
      have hc := (hf j hj).1
      have hb := World.block_lt_of_cell? w _ hc
      rw [addBlk] at hb
      exact ⟨a, rfl, hb, hc⟩
    · obtain ⟨hj, rfl⟩ := at_ _ j x hx
      obtain ⟨_, rfl⟩ := at_ _ j l hl
      exact (hf j hj).2.1
    · obtain ⟨i, hi1, rfl⟩ := List.mem_map.1 hx
      exact (hf i (List.mem_range.1 hi1)).2.2
theorem open_frames {v : Value} {d : DataW H} {p : List MemPlace} {r : Reach} {b0 : Nat} (hv : Value.okWide Try.prog w r b0 29 v) (h : DataW.Trod enc Try.prog w base spare held 29 v d p) (hz : Sz 29 d) :
    ∃ A c bs l, v = .slice A l.length c ∧ Fr w A bs l ∧ l.length ≤ c ∧ c ≤ maxLen := by
  obtain ⟨a0, len0, cap0, rfl⟩ := okWide_slice Try.underlying29 hv
  obtain ⟨fuel, hf⟩ := h
  obtain ⟨A, c, bs, l, e, h1⟩ := frames_of hf hz
  simp [Value.cells] at e
  obtain ⟨rfl, rfl, rfl⟩ := e
  exact ⟨_, _, bs, l, rfl, h1⟩
set_option maxRecDepth 100000 in
theorem act_of {n : Nat} {cs : List Value} {x : DataW H × List MemPlace} (h : DataW.trod enc Try.prog w base spare held n 31 cs = some x) (hz : Sz 31 x.1) :
    ∃ y : A9, cs = y.cells ∧ y.Good w := by
  obtain ⟨xs, m, _, rfl, hl, hxl, hg⟩ := DataW.trod_struct Try.underlying31 h
  have hl5 : cs.length = 5 := hl.trans (by kernel_rfl)
  have hx5 : xs.length = 5 := hxl
  obtain ⟨k, hk, wk⟩ := int_at (off := 0) Try.underlying3 (by simp; omega) (hg 0 _ rfl)
  obtain ⟨a, ha, _⟩ := int_at (off := 1) Try.underlying3 (by simp; omega) (hg 1 _ rfl)
  obtain ⟨i, hi, _⟩ := int_at (off := 2) Try.underlying3 (by simp; omega) (hg 2 _ rfl)
  obtain ⟨r, hr, _⟩ := int_at (off := 3) Try.underlying3 (by simp; omega) (hg 3 _ rfl)
  obtain ⟨y, hy⟩ := Option.isSome_iff_exists.1 (show (xs[4]?).isSome = true by simp; omega)
  have hzy : Sz 29 y.1 := sz_field (j := 4) Try.underlying31 hz rfl (by rw [List.getElem?_map, hy]; rfl)
  obtain ⟨B, bc, bs, l, e, hf, hle⟩ := frames_of ((hg 4 _ rfl).trans hy) hzy
  simp only [Lit.wf, Bool.and_eq_true, decide_eq_true_eq] at wk
  have h4 : cs[4]? = some (.slice B l.length bc) := by
    have e2 : (cs.drop 4).take 1 = [.slice B l.length bc] := e
    have := congrArg (·[0]?) e2
    simpa using this
  match cs, hl5 with
  | [c0, c1, c2, c3, c4], _ =>
    simp at hk ha hi hr h4
    exact ⟨⟨k, a, i, r, B, bc, bs, l⟩, by rw [hk, ha, hi, hr, h4]; rfl, hf, hle, wk⟩
theorem open_act {v : Value} {d : DataW H} {p : List MemPlace} {r : Reach} {b0 : Nat} (hv : Value.okWide Try.prog w r b0 31 v) (h : DataW.Trod enc Try.prog w base spare held 31 v d p) (hz : Sz 31 d) :
    ∃ y : A9, v = .agg y.cells.toArray ∧ y.Good w := by
  obtain ⟨cs, rfl, hsz⟩ := okWide_struct Try.underlying31 hv
  obtain ⟨fuel, hf⟩ := h
  obtain ⟨y, e, hy⟩ := act_of hf hz
  have e2 : cs.toList = y.cells := e
  exact ⟨y, by rw [← e2], hy⟩
theorem acts_of {fuel : Nat} {cs : List Value} {x : DataW H × List MemPlace} (h : DataW.trod enc Try.prog w base spare held fuel 22 cs = some x) (hz : Sz 22 x.1) :
    ∃ A n c f, cs = [.slice A n c] ∧ n ≤ maxLen ∧ Acts w A n f := by
  rcases open_slice Try.underlying22 h with ⟨h0, _⟩ | ⟨a, len, cap, m, n, D, Pl, hcs, hb, hl, hm, hmm, hx, hi⟩
  · exact ⟨none, 0, 0, fun _ => default, h0, by unfold maxLen; omega, fun i hi => absurd hi (Nat.not_lt_zero i)⟩
  · have key : ∀ i, i < len → ∃ y : A9, ActAt w (a.add (i * 5)) y := fun i hil => by
      have him : i < m := by rw [hmm]; split <;> omega
      obtain ⟨cs', hc, ht'⟩ := hi i him
      rw [show Try.prog.cellsOf 31 = 5 by kernel_rfl] at hc
      obtain ⟨y, rfl, hy⟩ := act_of ht' (by rw [hx] at hz; exact sz_elem Try.underlying22 hz (List.mem_map.2 ⟨i, List.mem_range.2 hil, rfl⟩))
      obtain ⟨_, _, hat⟩ := World.cells?_some hc
      have a0 := hat 0 (by omega)
      have a1 := hat 1 (by omega)
      have a2 := hat 2 (by omega)
      have a3 := hat 3 (by omega)
      have a4 := hat 4 (by omega)
      have e : ∀ q : Addr, q.add 0 = q := fun q => by simp [Addr.add]
      have e' : ∀ (q : Addr) (i : Nat), 0 < i → q.add i = ⟨q.block, q.off + i, none⟩ := fun q i hi => by unfold Addr.add; rw [if_neg (by omega)]
      rw [e] at a0
      rw [e' _ 1 (by omega)] at a1
      rw [e' _ 2 (by omega)] at a2
      rw [e' _ 3 (by omega)] at a3
      rw [e' _ 4 (by omega)] at a4
      exact ⟨y, World.block_lt_of_cell? w _ a0, a0, a1, a2, a3, a4, hy⟩
    obtain ⟨f, hf⟩ := choose_lt key
    exact ⟨some a, len, cap, f, hcs, by omega, fun i hi => ⟨a, rfl, hf i hi⟩⟩
theorem open_acts {v : Value} {d : DataW H} {p : List MemPlace} {r : Reach} {b0 : Nat} (hv : Value.okWide Try.prog w r b0 22 v) (h : DataW.Trod enc Try.prog w base spare held 22 v d p) (hz : Sz 22 d) :
    ∃ A n c f, v = .slice A n c ∧ n ≤ maxLen ∧ Acts w A n f := by
  obtain ⟨a0, len0, cap0, rfl⟩ := okWide_slice Try.underlying22 hv
  obtain ⟨fuel, hf⟩ := h
  obtain ⟨A, n, c, f, e, h1⟩ := acts_of hf hz
  simp [Value.cells] at e
  obtain ⟨rfl, rfl, rfl⟩ := e
  exact ⟨_, _, _, f, rfl, h1⟩
end
end Go.Proofs.Ytcagochalnjagaa
