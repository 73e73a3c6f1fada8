/-
  What is proved: a message that came in, opened: its cells hold what their types say, its text reads as bytes. No program's function is in it.
-/
import Derived.Test.YtbcejfonkehjgaaGreatDoorK46
import Derived.Test.YtbcejfonkehjgaaGreatDoorK44
import Derived.Deep.Slices
import Derived.Deep.Fields
import Derived.ChangeSame
import Derived.OpenShut
import Derived.LaidMore
import Derived.Lay
import Derived.Test.YtbcejfonkehjgaaGreatDoorJ47
import Derived.Test.YtbcejfonkehjgaaGreatDoorK27
namespace Go.Proofs.YtbcejfonkehjgaaGreatDoor
open Go.RowKit Go.ChangeShapes Go.WideShapes Go.Deep

section
variable {H : Type} {enc : TypeId × Value → H} {w : World} {base : Nat} {spare : Nat → Bool} {held : Bool}
theorem int_atM {P : Program} {t : TypeId} {k : IntKind} {m off : Nat} {cs : List Value} {y : Option (DataW H × List MemPlace)} (hk : P.underlying t = some (.int k)) (hy : y.isSome = true)
    (h : DataW.trod enc P w base spare held m t ((cs.drop off).take 1) = y) : ∃ a, cs[off]? = some (.int k a) ∧ (Lit.int k a).wf = true := by
  obtain ⟨y, rfl⟩ := Option.isSome_iff_exists.1 hy
  obtain ⟨a, e, _, hw⟩ := DataW.trod_int hk h
  refine ⟨a, ?_, hw⟩
  have := congrArg (·[0]?) e
  simpa using this
theorem bool_atM {P : Program} {t : TypeId} {m off : Nat} {cs : List Value} {y : Option (DataW H × List MemPlace)} (hk : P.underlying t = some .bool) (hy : y.isSome = true)
    (h : DataW.trod enc P w base spare held m t ((cs.drop off).take 1) = y) : ∃ a, cs[off]? = some (.bool a) := by
  obtain ⟨y, rfl⟩ := Option.isSome_iff_exists.1 hy
  obtain ⟨a, e, _⟩ := DataW.trod_bool hk h
  refine ⟨a, ?_⟩
  have := congrArg (·[0]?) e
  simpa using this

theorem skolemI {P : Nat → Int → Prop} {n : Nat} (h : ∀ i, i < n → ∃ p, P i p) : ∃ f : Nat → Int, ∀ i, i < n → P i (f i) :=
  ⟨fun i => if hi : i < n then Classical.choose (h i hi) else 0, fun i hi => by simp only [dif_pos hi]; exact Classical.choose_spec (h i hi)⟩

theorem bytes_ofM {fuel : Nat} {cs : List Value} {x : DataW H × List MemPlace} (h : DataW.trod enc Tryz.prog w base spare held fuel 38 cs = some x) :
    ∃ A n c ds, cs = [.slice A n c] ∧ ds.length = n ∧ n ≤ c ∧ c ≤ maxLen ∧ Rn w A ds ∧ ∀ x ∈ ds, 0 ≤ x ∧ x ≤ 255 := by
  rcases open_slice Tryz.underlying38 h with ⟨h0, _⟩ | ⟨a, len, cap, m, n, D, Pl, hcs, hb, hl, hm, hmm, hx, hi⟩
  · exact ⟨none, 0, 0, [], h0, rfl, Nat.le_refl _, by unfold maxLen; omega, Rd.nil _ _ _, fun x hx => by simp at hx⟩
  · have key : ∀ i, i < len → ∃ y : Int, w.cell? (a.add i) = some (.int .u8 y) ∧ 0 ≤ y ∧ y ≤ 255 := fun i hil => by
      have him : i < m := by rw [hmm]; split <;> omega
      obtain ⟨cs', hc, ht'⟩ := hi i him
      rw [show Tryz.prog.cellsOf 5 = 1 by kernel_rfl] at hc
      obtain ⟨y, hy, _, hw⟩ := DataW.trod_int Tryz.underlying5 ht'
      obtain ⟨_, _, hat⟩ := World.cells?_some hc
      have h0 := hat 0 (by omega)
      rw [hy, Nat.mul_one] at h0
      simp only [Lit.wf, Bool.and_eq_true, decide_eq_true_eq] at hw
      have hw' : 0 ≤ y ∧ y ≤ 255 := hw
      refine ⟨y, ?_, hw'⟩
      have e : (a.add i).add 0 = a.add i := by simp [Addr.add]
      rw [e] at h0
      exact h0
    obtain ⟨f, hf⟩ := skolemI key
    refine ⟨some a, len, cap, (List.range len).map f, hcs, by simp, by omega, by omega, ?_, ?_⟩
    · intro j u hu
      rw [List.getElem?_map] at hu
      obtain ⟨i, hi1, hi2⟩ := Option.map_eq_some_iff.1 hu
      have hj : j < len := by
        have := (List.getElem?_eq_some_iff.1 hi1).1
        simpa using this
      rw [List.getElem?_range hj] at hi1
      injection hi1 with hi1
      subst hi1 hi2
      have hc := (hf j hj).1
      have hb := World.block_lt_of_cell? w _ hc
      rw [addBlk] at hb
      exact ⟨a, rfl, hb, hc⟩
    · intro y hy
      obtain ⟨i, hi1, rfl⟩ := List.mem_map.1 hy
      exact (hf i (List.mem_range.1 hi1)).2

set_option maxRecDepth 100000 in
theorem open_msg {v : Value} {d : DataW H} {p : List MemPlace} {r : Reach} {b0 : Nat} (hv : Value.okWide Tryz.prog w r b0 40 v) (h : DataW.Trod enc Tryz.prog w base spare held 40 v d p) :
    ∃ c gr A n cp ds, v = .agg (msgC c gr A n cp) ∧ ds.length = n ∧ n ≤ cp ∧ cp ≤ maxLen ∧ Rn w A ds ∧ ∀ x ∈ ds, 0 ≤ x ∧ x ≤ 255 := by
  obtain ⟨cs, rfl, hsz⟩ := okWide_struct Tryz.underlying40 hv
  obtain ⟨fuel, hf⟩ := h
  obtain ⟨xs, m, _, _, hl, hxl, hg⟩ := DataW.trod_struct Tryz.underlying40 hf
  have hx : xs.length = 11 := hxl
  have s11 : cs.size = 11 := hsz.trans (by kernel_rfl)
  obtain ⟨l⟩ := cs
  have sm : ∀ i, i < 11 → (xs[i]?).isSome = true := fun i hi => by simp; omega
  obtain ⟨c0, h0, _⟩ := int_atM (off := 0) Tryz.underlying3 (sm 0 (by omega)) (hg 0 _ rfl)
  obtain ⟨c1, h1, _⟩ := int_atM (off := 1) Tryz.underlying3 (sm 1 (by omega)) (hg 1 _ rfl)
  obtain ⟨c2, h2, _⟩ := int_atM (off := 2) Tryz.underlying3 (sm 2 (by omega)) (hg 2 _ rfl)
  obtain ⟨c3, h3, _⟩ := int_atM (off := 3) Tryz.underlying3 (sm 3 (by omega)) (hg 3 _ rfl)
  obtain ⟨c4, h4, _⟩ := int_atM (off := 4) Tryz.underlying3 (sm 4 (by omega)) (hg 4 _ rfl)
  obtain ⟨c5, h5, _⟩ := int_atM (off := 5) Tryz.underlying3 (sm 5 (by omega)) (hg 5 _ rfl)
  obtain ⟨c6, h6, _⟩ := int_atM (off := 6) Tryz.underlying3 (sm 6 (by omega)) (hg 6 _ rfl)
  obtain ⟨c7, h7, _⟩ := int_atM (off := 7) Tryz.underlying3 (sm 7 (by omega)) (hg 7 _ rfl)
  obtain ⟨c8, h8, _⟩ := int_atM (off := 8) Tryz.underlying30 (sm 8 (by omega)) (hg 8 _ rfl)
  obtain ⟨gr, h9⟩ := bool_atM (off := 9) Tryz.underlying4 (sm 9 (by omega)) (hg 9 _ rfl)
  have g10 := hg 10 _ rfl
  obtain ⟨y, hy⟩ := Option.isSome_iff_exists.1 (sm 10 (by omega))
  obtain ⟨A, n, cp, ds, e, hn, h1c, h2c, hr, hb⟩ := bytes_ofM (g10.trans hy)
  have h10 : l[10]? = some (.slice A n cp) := by
    have e2 : (l.drop 10).take 1 = [.slice A n cp] := e
    have := congrArg (·[0]?) e2
    simpa using this
  match l, s11 with
  | [k0, k1, k2, k3, k4, k5, k6, k7, k8, k9, k10], _ =>
    simp [Value.cells] at h0 h1 h2 h3 h4 h5 h6 h7 h8 h9 h10
    subst h0 h1 h2 h3 h4 h5 h6 h7 h8 h9 h10
    exact ⟨fun i => #[c0, c1, c2, c3, c4, c5, c6, c7, c8].getD i 0, gr, A, n, cp, ds, rfl, hn, h1c, h2c, hr, hb⟩
end
end Go.Proofs.YtbcejfonkehjgaaGreatDoor
namespace Go.Proofs.YtbcejfonkehjgaaGreatDoor
open Go.RowKit Go.ChangeShapes Go.WideShapes

theorem named_at : ∀ k, k < 15 → ((Rows.laid_gradine_msg_named : DataW Unit) = .agg ((List.range 15).map fun i => .lit (.int .u64 (mk i)))) := fun _ _ => by kernel_rfl
theorem nm_of_laid {W : World} (h : laidMetH Tryz.prog [("gradine/msg.named", Rows.laid_gradine_msg_named)] W) : Nm W := by
  rw [MakeChecks.laidMetH_plain _ _ _ (by kernel_rfl)] at h
  obtain ⟨ps, ⟨g, t, cs, fuel, p, q, hg, ht, hv, hd, _, _⟩, _, _⟩ := h
  obtain rfl := Option.some.inj ((show Tryz.prog.globalNamed "gradine/msg.named" = some 0 by kernel_rfl).symm.trans hg)
  obtain rfl := Option.some.inj ((show (Tryz.prog.globals[0]?).map (·.type) = some 125 by kernel_rfl).symm.trans ht)
  obtain ⟨xs, m, _, ex, _, hl, hel⟩ := DataW.trod_array Tryz.underlying125 hd
  have c5 : Tryz.prog.cellsOf 118 = 1 := by kernel_rfl
  have e3 : (xs.map (·.1)) = (List.range 15).map fun i => .lit (.int .u64 (mk i)) := by
    have := (Prod.mk.inj ex).1
    rw [named_at 0 (by omega)] at this
    exact (DataW.agg.inj this).symm
  have key : ∀ k, k < 15 → W.cell? ⟨0, k, none⟩ = some (.int .u64 (mk k)) := fun k hk => by
    have hE := hel k hk
    rw [c5, Nat.mul_one, List.getElem?_eq_getElem (by omega)] at hE
    obtain ⟨z, e1, e2, _⟩ := DataW.trod_int Tryz.underlying118 hE
    have e4 : (xs.map (·.1))[k]? = ((List.range 15).map fun i => (DataW.lit (.int .u64 (mk i)) : DataW Unit))[k]? := by rw [e3]
    rw [List.getElem?_map, List.getElem?_map, List.getElem?_eq_getElem (by omega : k < xs.length), List.getElem?_range hk, e2] at e4
    have hz : z = mk k := by
      simp only [Option.map_some, Option.some.injEq, DataW.lit.injEq, Lit.int.injEq, true_and] at e4
      exact e4
    rw [World.var?_cell hg hv k, ← hz]
    have : cs.toList[k]? = some (.int .u64 z) := by
      have h0 : ((cs.toList.drop k).take 1)[0]? = some (.int .u64 z) := by rw [e1]; rfl
      simpa using h0
    simpa using this
  exact ⟨World.block_lt_of_cell? W _ (key 0 (by omega)), key⟩
end Go.Proofs.YtbcejfonkehjgaaGreatDoor
namespace Go.Proofs.YtbcejfonkehjgaaGreatDoor
open Go.RowKit

structure O18 (c : Nat → Int) (o : Ob) : Prop where
  ok : o.Ok (cps c 2)
  np : ∀ rg pt lp n S, o = .prt rg pt lp n S → c 5 = 2
  rt : 1 ≤ c 2 ∧ c 2 ≤ 32
section
variable {w : World} {K : AC} {st : St} {o : Ob} {D : Int → List Int} {B : Nat} {r : Int} {dn : Bool} {c : Nat → Int} {b lv : Int} {k : Nat} {l : List Int} {X : RS}
theorem Am.o18 (h : Am w K st o D B r dn) : O18 K.c o :=
  ⟨h.cm.ok, fun rg pt lp n S e => by
    by_cases h5 : K.c 5 = 2
    · exact h5
    · exfalso
      have hk := h.cm.kd
      subst e
      by_cases h6 : K.c (6 + (3 - 1)) = 2
      · rw [Ob.new_mq h5 h6] at hk; exact hk
      · rw [Ob.new_lru h5 h6] at hk; exact hk, h.c2⟩
theorem O18.use (h : O18 c o) (b : Int) : O18 c (o.use b) := ⟨Ob.Ok.use h.ok b, fun rg pt lp n S e => by
    cases o with
    | lru C L => cases e
    | mq C N L H m => cases e
    | prt rg' pt' lp' n' S' => exact h.np _ _ _ _ _ rfl, h.rt⟩
theorem O18.tk (h : O18 c o) (hb : 0 ≤ b ∧ b < c 2) (ht : o.takes (c 5) 3 b lv = true) : o.tk b := by
  have := h.rt
  cases o with
  | lru C Ls => show vb b; unfold vb; omega
  | mq C N L H m => show vb b; unfold vb; omega
  | prt rg pt lp n2 S => exact of_decide_eq_true (p := 0 < ptO pt (rg b)) ht
theorem O18.all (h : O18 c o) (h5 : c 5 = 0) : o.takes (c 5) 3 b lv = true := by
  rw [h5]
  cases o with
  | lru C Ls => rfl
  | mq C N L H m => rfl
  | prt rg pt lp n2 S => have := h.np _ _ _ _ _ rfl; omega
theorem put0 (h : putR c 3 o b lv k = 0) : (0 ≤ b ∧ b < c 2) ∧ (k : Int) = c 3 ∧ o.takes (c 5) 3 b lv = true := by
  unfold putR at h
  by_cases h1 : 0 ≤ b ∧ b < c 2
  · rw [if_neg (fun hh => hh h1)] at h
    by_cases h2 : (k : Int) = c 3
    · rw [if_neg (fun hh => hh h2)] at h
      by_cases h3 : o.takes (c 5) 3 b lv = false
      · rw [if_pos h3] at h; cases h
      · exact ⟨h1, h2, by simpa using h3⟩
    · rw [if_pos h2] at h; cases h
  · rw [if_pos h1] at h; cases h
theorem put_0 (h1 : 0 ≤ b ∧ b < c 2) (h2 : (k : Int) = c 3) (h3 : o.takes (c 5) 3 b lv = true) : putR c 3 o b lv k = 0 := by
  unfold putR
  rw [if_neg (fun hh => hh h1), if_neg (fun hh => hh h2), if_neg (by rw [h3]; decide)]
theorem puO_mem (h : O18 c o) {x : Int} (hx : x ∈ (puO c o b lv k).all) : x ∈ o.all ∨ (x = b ∧ putR c 3 o b lv k = 0) := by
  unfold puO at hx
  by_cases h0 : putR c 3 o b lv k = 0
  · rw [if_pos h0] at hx
    obtain ⟨h1, h2, h3⟩ := put0 h0
    exact (((Ob.add_mem h.ok (h.tk h1 h3)).1 x).1 hx).elim (fun e => .inr ⟨e, h0⟩) fun e => .inl e.1
  · rw [if_neg h0] at hx
    exact .inl hx
theorem hdO_mem (h : O18 c o) {x : Int} (hx : x ∈ (hdO c o b lv k).all) : x ∈ o.all ∨ (x = b ∧ putR c 3 o b lv k = 0 ∧ hdS c o b lv = false) := by
  unfold hdO at hx
  cases hs : hdS c o b lv with
  | true =>
    rw [if_pos hs] at hx
    exact .inl ((Ob.rem_mem h.ok b x).1 hx).1
  | false =>
    rw [if_neg (by rw [hs]; decide)] at hx
    exact (puO_mem h hx).imp id fun e => ⟨e.1, e.2, rfl⟩
theorem hdD_all (h : O18 c o) {P : Int → List Int → Prop} (hP : ∀ x, x ∈ o.all → P x (D x)) (hl : (l.length : Int) = c 3 → P b l) {x : Int} (hx : x ∈ (hdO c o b lv l.length).all) : P x (hdD c o D b lv l x) := by
  unfold hdD
  rcases hdO_mem h hx with h1 | ⟨rfl, h2, h3⟩
  · by_cases hs : hdS c o b lv = true
    · rw [if_pos hs]; exact hP x h1
    · rw [if_neg hs]
      unfold puD
      by_cases h0 : putR c 3 o b lv l.length = 0
      · rw [if_pos h0]
        unfold updB
        by_cases e : x = b
        · subst e; rw [if_pos rfl]; exact hl (put0 h0).2.1
        · rw [if_neg e]; exact hP x h1
      · rw [if_neg h0]; exact hP x h1
  · rw [if_neg (by rw [h3]; decide)]
    unfold puD updB
    rw [if_pos h2, if_pos rfl]
    exact hl (put0 h2).2.1
theorem puD_all (h : O18 c o) {P : Int → List Int → Prop} (hP : ∀ x, x ∈ o.all → P x (D x)) (hl : (l.length : Int) = c 3 → P b l) {x : Int} (hx : x ∈ (puO c o b lv l.length).all) : P x (puD c o D b lv l x) := by
  unfold puD
  by_cases h0 : putR c 3 o b lv l.length = 0
  · rw [if_pos h0]
    unfold updB
    by_cases e : x = b
    · subst e; rw [if_pos rfl]; exact hl (put0 h0).2.1
    · rw [if_neg e]; exact hP x ((puO_mem h hx).elim id fun e2 => absurd e2.1 e)
  · rw [if_neg h0]
    exact hP x ((puO_mem h hx).elim id fun e2 => absurd e2.2 h0)
theorem hdO_has (h : O18 c o) (h5 : c 5 = 0) (hb : 0 ≤ b ∧ b < c 2) (hk : (k : Int) = c 3) : b ∈ (hdO c o b lv k).all ↔ ¬ (c 4 = 2 ∧ lv ≠ 3) := by
  have ht : o.takes (c 5) 3 b lv = true := h.all h5
  unfold hdO
  cases hs : hdS c o b lv with
  | true =>
    rw [if_pos rfl]
    have h1 : ¬ b ∈ (o.rem b).all := fun hx => ((Ob.rem_mem h.ok b b).1 hx).2 rfl
    refine ⟨fun hx => absurd hx h1, fun hn => absurd ?_ hn⟩
    unfold hdS forA at hs
    rw [decide_eq_true (show 0 ≤ b ∧ b < c 2 from hb), Bool.true_and, ht, Bool.and_true] at hs
    simpa using hs
  | false =>
    rw [if_neg (by decide)]
    have h1 : b ∈ (puO c o b lv k).all := by
      unfold puO
      rw [if_pos (put_0 hb hk ht)]
      exact ((Ob.add_mem h.ok (h.tk (lv := lv) hb ht)).1 b).2 (.inl rfl)
    refine ⟨fun _ hn => ?_, fun _ => h1⟩
    unfold hdS forA at hs
    rw [decide_eq_true (show 0 ≤ b ∧ b < c 2 from hb), Bool.true_and, ht, Bool.and_true] at hs
    simp [hn.1, hn.2] at hs
theorem hdT_inv (h : O18 c o) {t : Tm} (ht : t ∈ hdT c o b lv k) : ∃ x, t = tmI x ∧ x ∉ (hdO c o b lv k).all ∧ c 4 = 1 := by
  unfold hdT at ht
  by_cases hs : hdS c o b lv = true
  · rw [if_pos hs] at ht; cases ht
  · rw [if_neg hs] at ht
    by_cases hg : puG c o b lv k = true ∧ c 4 = 1
    · rw [if_pos hg] at ht
      simp only [List.mem_singleton] at ht
      refine ⟨_, ht, fun hx => ?_, hg.2⟩
      have h1 := hg.1
      unfold puG at h1
      simp only [Bool.and_eq_true, decide_eq_true_eq] at h1
      obtain ⟨h2, h3, h4⟩ := put0 h1.1
      unfold hdO puO at hx
      rw [if_neg hs, if_pos h1.1] at hx
      have h5 := Ob.add_mem h.ok (h.tk h2 h4)
      rcases (h5.1 _).1 hx with e | e
      · exact (h5.2 h1.2).2.2 e
      · exact e.2 ⟨h1.2, rfl⟩
    · rw [if_neg hg] at ht; cases ht
def Bt18 (c : Nat → Int) (o : Ob) (lv : Int) (t : Tm) : Prop :=
  (t.c 0 = 12 → t.c 8 = 0 → c 5 = 0 → (t.c 5 ∈ o.all ↔ ¬ (c 4 = 2 ∧ lv ≠ 3))) ∧ (t.c 0 = 14 → t.c 5 ∉ o.all ∧ c 4 = 1)
theorem bt_inv {x : Int} (h : x ∉ o.all) (h4 : c 4 = 1) : Bt18 c o lv (tmI x) := ⟨(fun e => by cases (show (14 : Int) = 12 from e)), fun _ => ⟨h, h4⟩⟩
theorem bt_wr {mc : Nat → Int} {z : Int} {gr : Bool} : Bt18 c o lv (tmW mc z gr) := ⟨(fun e => by cases (show (13 : Int) = 12 from e)), (fun e => by cases (show (13 : Int) = 14 from e))⟩
theorem hear_bound (h : O18 c o) (hX : ∀ b, 0 ≤ b → b < c 2 → ((X.T b.toNat).length : Int) = c 3) (dz : ∀ x, x ∈ o.all → ((D x).length : Int) = c 3) (m : Tm) :
    (∀ x, x ∈ (hearF c ⟨X, o, D, r⟩ m).1.o.all → (((hearF c ⟨X, o, D, r⟩ m).1.D x).length : Int) = c 3) ∧ (∀ t, t ∈ (hearF c ⟨X, o, D, r⟩ m).2 → Bt18 c (hearF c ⟨X, o, D, r⟩ m).1.o (m.c 6) t) ∧ r ≤ (hearF c ⟨X, o, D, r⟩ m).1.r ∧ (hearF c ⟨X, o, D, r⟩ m).1.r ≤ r + 1 := by
  have dzu : ∀ x, x ∈ (o.use (m.c 5)).all → ((D x).length : Int) = c 3 := fun x hx => dz x ((Ob.use_mem h.ok (m.c 5) x).1 hx)
  unfold hearF
  try dsimp only
  split
  · exact ⟨dz, (fun t ht => by cases ht), Int.le_refl _, by show r ≤ r + 1; omega⟩
  rename_i hR
  have hRM : RightM m.c m.gr m.l.length := dec_iff.1 (by simpa using hR)
  have h0 : 0 ≤ m.c 5 := (hRM.2 5 (by omega) (by omega)).1
  split
  · unfold hrR
    dsimp only
    split
    · rename_i hb2
      have hrd : ((rdY ⟨X, o, D, r⟩ m).length : Int) = c 3 := by
        unfold rdY
        dsimp only
        split
        · rename_i hin; exact dz _ hin
        · exact hX _ h0 hb2
      have hrr : r ≤ rdR ⟨X, o, D, r⟩ m ∧ rdR ⟨X, o, D, r⟩ m ≤ r + 1 := by
        unfold rdR
        dsimp only
        split <;> omega
      split
      · refine ⟨fun x hx => hdD_all (P := fun _ l => (l.length : Int) = c 3) (h.use _) dzu (fun _ => hrd) hx, fun t ht => ?_, hrr⟩
        rcases List.mem_append.1 ht with ht | ht
        · obtain ⟨x, rfl, h1, h2⟩ := hdT_inv (h.use _) ht
          exact bt_inv h1 h2
        · simp only [List.mem_singleton] at ht
          subst ht
          refine ⟨fun _ _ h5 => hdO_has (h.use _) h5 ⟨h0, hb2⟩ hrd, (fun e => by cases (show (12 : Int) = 14 from e))⟩
      · rename_i hno
        refine ⟨dzu, fun t ht => ?_, hrr⟩
        simp only [List.mem_singleton] at ht
        subst ht
        refine ⟨fun _ _ h5 => ⟨fun _ hh => hno (.inr hh.1), fun _ => (Ob.use_mem h.ok _ _).2 (Classical.byContradiction fun hn => hno (.inl hn))⟩, (fun e => by cases (show (12 : Int) = 14 from e))⟩
    · refine ⟨dzu, fun t ht => ?_, Int.le_refl _, by show r ≤ r + 1; omega⟩
      simp only [List.mem_singleton] at ht
      subst ht
      exact ⟨(fun _ e => by cases (show (9 : Int) = 0 from e)), (fun e => by cases (show (12 : Int) = 14 from e))⟩
  split
  · unfold hrW
    dsimp only
    split
    · exact ⟨dz, (fun t ht => by cases ht), Int.le_refl _, by show r ≤ r + 1; omega⟩
    · split
      · refine ⟨dz, fun t ht => ?_, Int.le_refl _, by show r ≤ r + 1; omega⟩
        simp only [List.mem_singleton] at ht
        subst ht
        exact bt_wr
      · refine ⟨fun x hx => hdD_all (P := fun _ l => (l.length : Int) = c 3) h dz (fun hl => hl) hx, fun t ht => ?_, Int.le_refl _, by show r ≤ r + 1; omega⟩
        rcases List.mem_append.1 ht with ht | ht
        · obtain ⟨x, rfl, h1, h2⟩ := hdT_inv h ht
          exact bt_inv h1 h2
        · simp only [List.mem_singleton] at ht
          subst ht
          exact bt_wr
  split
  · unfold hrM
    dsimp only
    split
    · exact ⟨fun x hx => puD_all (P := fun _ l => (l.length : Int) = c 3) h dz (fun hl => hl) hx, (fun t ht => by cases ht), Int.le_refl _, by show r ≤ r + 1; omega⟩
    · exact ⟨dz, (fun t ht => by cases ht), Int.le_refl _, by show r ≤ r + 1; omega⟩
  split
  · unfold hrP
    dsimp only
    exact ⟨fun x hx => dz x ((Ob.rem_mem h.ok _ x).1 hx).1, (fun t ht => by cases ht), Int.le_refl _, by show r ≤ r + 1; omega⟩
  · exact ⟨dz, (fun t ht => by cases ht), Int.le_refl _, by show r ≤ r + 1; omega⟩
end
end Go.Proofs.YtbcejfonkehjgaaGreatDoor
namespace Go.Proofs.YtbcejfonkehjgaaGreatDoor
open Go.RowKit Go.ChangeShapes Go.WideShapes Go.Deep

structure A18 where
  fu : Int
  t : Tm
  B : Option Addr
  cp : Nat
instance : Inhabited A18 := ⟨⟨0, ⟨fun _ => 0, false, []⟩, none, 0⟩⟩
def A18.sl (x : A18) : Value := .slice x.B x.t.l.length x.cp
structure A18.Good (x : A18) (w : World) : Prop where
  y : By w (fun j => w.heap.size ≤ j) x.sl x.t.l
  b : Byt x.t.l
  wf : -9223372036854775808 ≤ x.fu ∧ x.fu ≤ 9223372036854775807
structure Act18 (w : World) (p : Addr) (x : A18) : Prop where
  lt : p.block < w.heap.size
  c0 : w.cell? p = some (.int .i64 x.fu)
  ck : ∀ j, j < 11 → w.cell? ⟨p.block, p.off + (1 + j), none⟩ = (tcl x.t x.sl)[j]?
theorem Act18.below {w w' : World} {p : Addr} {x : A18} (h : Act18 w p x) (hb : Below w.heap.size w w') : Act18 w' p x :=
  ⟨Nat.lt_of_lt_of_le h.lt hb.size, (hb.cell h.lt).trans h.c0, fun j hj => (hb.cell (p := ⟨p.block, p.off + (1 + j), none⟩) h.lt).trans (h.ck j hj)⟩
def Acts18 (w : World) (A : Option Addr) (n : Nat) (f : Nat → A18) : Prop := ∀ i, i < n → ∃ ad, A = some ad ∧ Act18 w (ad.add (i * 12)) (f i)
theorem Acts18.below {w w' : World} {A : Option Addr} {n : Nat} {f : Nat → A18} (h : Acts18 w A n f) (hb : Below w.heap.size w w') : Acts18 w' A n f := fun i hi => by
  obtain ⟨ad, e, h1⟩ := h i hi
  exact ⟨ad, e, h1.below hb⟩
theorem A18.Good.at_ {w w' : World} {x : A18} (h : x.Good w) (hb : Below w.heap.size w w') (X : Nat → Prop) (hX : ∀ j, X j → w.heap.size ≤ j) : By w' X x.sl x.t.l := (h.y.below hb).less hX
theorem A18.Good.below {w w' : World} {x : A18} (h : x.Good w) (hb : Below w.heap.size w w') : x.Good w' := ⟨h.y.below hb |>.less fun _ hj => Nat.le_trans hb.size hj, h.b, h.wf⟩
section
variable {H : Type} {enc : TypeId × Value → H} {w : World} {base : Nat} {spare : Nat → Bool} {held : Bool}
theorem by_of_rn {A : Option Addr} {c : Nat} {l : List Int} (h : Rn w A l) (h1 : l.length ≤ c) (h2 : c ≤ maxLen) : By w (fun j => w.heap.size ≤ j) (.slice A l.length c) l :=
  ⟨A, c, rfl, rd_rv h, h1, h2, fun ad ea hp => by
    obtain ⟨ad', e, hb, _⟩ := Rd.get h hp
    rw [ea] at e
    injection e with e
    subst e
    exact ⟨hb, by omega⟩⟩
set_option maxRecDepth 100000 in
theorem msg_of {n : Nat} {cs : List Value} {x : DataW H × List MemPlace} (h : DataW.trod enc Tryz.prog w base spare held n 40 cs = some x) :
    ∃ (t : Tm) (A : Option Addr) (cp : Nat), cs = tcl t (.slice A t.l.length cp) ∧ By w (fun j => w.heap.size ≤ j) (.slice A t.l.length cp) t.l ∧ Byt t.l := by
  obtain ⟨xs, m, _, _, hl, hxl, hg⟩ := DataW.trod_struct Tryz.underlying40 h
  have hx : xs.length = 11 := hxl
  have s11 : cs.length = 11 := hl.trans (by kernel_rfl)
  have sm : ∀ i, i < 11 → (xs[i]?).isSome = true := fun i hi => by simp; omega
  obtain ⟨c0, h0, _⟩ := int_atM (off := 0) Tryz.underlying3 (sm 0 (by omega)) (hg 0 _ rfl)
  obtain ⟨c1, h1, _⟩ := int_atM (off := 1) Tryz.underlying3 (sm 1 (by omega)) (hg 1 _ rfl)
  obtain ⟨c2, h2, _⟩ := int_atM (off := 2) Tryz.underlying3 (sm 2 (by omega)) (hg 2 _ rfl)
  obtain ⟨c3, h3, _⟩ := int_atM (off := 3) Tryz.underlying3 (sm 3 (by omega)) (hg 3 _ rfl)
  obtain ⟨c4, h4, _⟩ := int_atM (off := 4) Tryz.underlying3 (sm 4 (by omega)) (hg 4 _ rfl)
  obtain ⟨c5, h5, _⟩ := int_atM (off := 5) Tryz.underlying3 (sm 5 (by omega)) (hg 5 _ rfl)
  obtain ⟨c6, h6, _⟩ := int_atM (off := 6) Tryz.underlying3 (sm 6 (by omega)) (hg 6 _ rfl)
  obtain ⟨c7, h7, _⟩ := int_atM (off := 7) Tryz.underlying3 (sm 7 (by omega)) (hg 7 _ rfl)
  obtain ⟨c8, h8, _⟩ := int_atM (off := 8) Tryz.underlying30 (sm 8 (by omega)) (hg 8 _ rfl)
  obtain ⟨gr, h9⟩ := bool_atM (off := 9) Tryz.underlying4 (sm 9 (by omega)) (hg 9 _ rfl)
  obtain ⟨y, hy⟩ := Option.isSome_iff_exists.1 (sm 10 (by omega))
  obtain ⟨A, n', cp, ds, e, hn, h1c, h2c, hr, hb⟩ := bytes_ofM ((hg 10 _ rfl).trans hy)
  subst hn
  have h10 : cs[10]? = some (.slice A ds.length cp) := by
    have e2 : (cs.drop 10).take 1 = [.slice A ds.length cp] := e
    have := congrArg (·[0]?) e2
    simpa using this
  match cs, s11 with
  | [k0, k1, k2, k3, k4, k5, k6, k7, k8, k9, k10], _ =>
    simp at h0 h1 h2 h3 h4 h5 h6 h7 h8 h9 h10
    subst h0 h1 h2 h3 h4 h5 h6 h7 h8 h9 h10
    exact ⟨⟨fun i => #[c0, c1, c2, c3, c4, c5, c6, c7, c8].getD i 0, gr, ds⟩, A, cp, rfl, by_of_rn hr h1c h2c, hb⟩
set_option maxRecDepth 100000 in
theorem act_of18 {n : Nat} {cs : List Value} {x : DataW H × List MemPlace} (h : DataW.trod enc Tryz.prog w base spare held n 42 cs = some x) : ∃ y : A18, cs = .int .i64 y.fu :: tcl y.t y.sl ∧ y.Good w := by
  obtain ⟨xs, m, _, rfl, hl, hxl, hg⟩ := DataW.trod_struct Tryz.underlying42 h
  have hl12 : cs.length = 12 := hl.trans (by kernel_rfl)
  have hx2 : xs.length = 2 := hxl
  obtain ⟨k, hk, wk⟩ := int_atM (off := 0) Tryz.underlying3 (by simp; omega) (hg 0 _ rfl)
  obtain ⟨y, hy⟩ := Option.isSome_iff_exists.1 (show (xs[1]?).isSome = true by simp; omega)
  obtain ⟨t, A, cp, e, hf, hb⟩ := msg_of ((hg 1 _ rfl).trans hy)
  have e2 : (cs.drop 1).take 11 = tcl t (.slice A t.l.length cp) := e
  simp only [Lit.wf, Bool.and_eq_true, decide_eq_true_eq] at wk
  match cs, hl12 with
  | [k0, k1, k2, k3, k4, k5, k6, k7, k8, k9, k10, k11], _ =>
    simp at hk e2
    exact ⟨⟨k, t, A, cp⟩, by rw [hk, e2]; rfl, hf, hb, wk⟩
set_option maxRecDepth 100000 in
theorem open_acts18 {v : Value} {d : DataW H} {p : List MemPlace} {r : Reach} {b0 : Nat} (hv : Value.okWide Tryz.prog w r b0 26 v) (h : DataW.Trod enc Tryz.prog w base spare held 26 v d p) :
    ∃ A n c f, v = .slice A n c ∧ n ≤ maxLen ∧ Acts18 w A n f ∧ ∀ i, i < n → (f i).Good w := by
  obtain ⟨a0, len0, cap0, rfl⟩ := okWide_slice Tryz.underlying26 hv
  obtain ⟨fuel, hf⟩ := h
  rcases open_slice Tryz.underlying26 hf with ⟨h0, _⟩ | ⟨a, len, cap, m, n, D, Pl, hcs, hb, hl, hm, hmm, hx, hi⟩
  · simp [Value.cells] at h0
    obtain ⟨rfl, rfl, rfl⟩ := h0
    exact ⟨_, _, _, fun _ => default, rfl, by unfold maxLen; omega, fun i hi => absurd hi (Nat.not_lt_zero i), fun i hi => absurd hi (Nat.not_lt_zero i)⟩
  · have key : ∀ i, i < len → ∃ y : A18, Act18 w (a.add (i * 12)) y ∧ y.Good w := fun i hil => by
      have him : i < m := by rw [hmm]; split <;> omega
      obtain ⟨cs', hc, ht'⟩ := hi i him
      rw [show Tryz.prog.cellsOf 42 = 12 by kernel_rfl] at hc
      obtain ⟨y, rfl, hy⟩ := act_of18 ht'
      obtain ⟨_, _, hat⟩ := World.cells?_some hc
      have a0 : w.cell? (a.add (i * 12)) = some (.int .i64 y.fu) := hat 0 (by omega)
      refine ⟨y, ⟨World.block_lt_of_cell? w _ a0, a0, fun j hj => ?_⟩, hy⟩
      have h1 := hat (1 + j) (by omega)
      have e' : ∀ (q : Addr) (i : Nat), 0 < i → q.add i = ⟨q.block, q.off + i, none⟩ := fun q i hi => by unfold Addr.add; rw [if_neg (by omega)]
      rw [e' _ (1 + j) (by omega)] at h1
      rw [h1, Nat.add_comm 1 j]
      rfl
    obtain ⟨f, hf⟩ := skolemG key
    simp [Value.cells] at hcs
    obtain ⟨rfl, rfl, rfl⟩ := hcs
    exact ⟨_, _, _, f, rfl, by omega, fun i hi => ⟨a, rfl, (hf i hi).1⟩, fun i hi => (hf i hi).2⟩
end
theorem Act18.all {w : World} {p : Addr} {x : A18} (h : Act18 w p x) : w.cell? p = some (.int .i64 x.fu) ∧ w.cell? ⟨p.block, p.off + 1, none⟩ = some (.int .i64 (x.t.c 0)) ∧ w.cell? ⟨p.block, p.off + 2, none⟩ = some (.int .i64 (x.t.c 1)) ∧ w.cell? ⟨p.block, p.off + 3, none⟩ = some (.int .i64 (x.t.c 2)) ∧ w.cell? ⟨p.block, p.off + 4, none⟩ = some (.int .i64 (x.t.c 3)) ∧ w.cell? ⟨p.block, p.off + 5, none⟩ = some (.int .i64 (x.t.c 4)) ∧ w.cell? ⟨p.block, p.off + 6, none⟩ = some (.int .i64 (x.t.c 5)) ∧ w.cell? ⟨p.block, p.off + 7, none⟩ = some (.int .i64 (x.t.c 6)) ∧ w.cell? ⟨p.block, p.off + 8, none⟩ = some (.int .i64 (x.t.c 7)) ∧ w.cell? ⟨p.block, p.off + 9, none⟩ = some (.int .i64 (x.t.c 8)) ∧ w.cell? ⟨p.block, p.off + 10, none⟩ = some (.bool x.t.gr) ∧ w.cell? ⟨p.block, p.off + 11, none⟩ = some (x.sl) :=
  ⟨h.c0, h.ck 0 (by omega), h.ck 1 (by omega), h.ck 2 (by omega), h.ck 3 (by omega), h.ck 4 (by omega), h.ck 5 (by omega), h.ck 6 (by omega), h.ck 7 (by omega), h.ck 8 (by omega), h.ck 9 (by omega), h.ck 10 (by omega)⟩
def LongQ18 (n m : Nat) (f : Nat → A18) (w : World) (e : Ending) (w' : World) : Prop :=
  ∃ b, e = .returned (.bool b) ∧ Below w.heap.size w w' ∧ (b = false → n ≤ 20 ∧ m ≤ 100 ∧ ∀ i, i < m → (f i).t.l.length ≤ 100)
set_option maxRecDepth 20000 in
set_option maxHeartbeats 1000000 in
theorem long18 {c : Nat → Int} {A A2 : Option Addr} {n cq m c2 : Nat} {f : Nat → A18} {w : World} (hm : m ≤ maxLen) (h : Acts18 w A2 m f) (hg : ∀ i, i < m → (f i).Good w) :
    Calls Tryz.prog 9 #[.agg (cfgC c A n cq), .slice A2 m c2] w (LongQ18 n m f w) := by
  have hb0 := below_alloc w (.cells (cfgC c A n cq) 25)
  have y16 : (w.alloc (.cells (cfgC c A n cq) 25)).cell? ⟨w.heap.size, 16, none⟩ = some (.slice A n cq) := (Bx.new w 25 (cfgC c A n cq)).cell 16
  unfold maxLen at hm
  have HB0 := hid hb0
  have HA := hid (h.below hb0)
  have HGO := hid (fun i hi => (hg i hi).y.below hb0)
  clear h hb0 hg
  by_cases h20 : 20 < n
  · have d20 : decide ((20 : Int) < (n : Int)) = true := by simp; omega
    clear h20
    go_enter Tryz.func9, Tryz.ntmps9
    go_upto_region 1 with fail
    generalize w.alloc (.cells (cfgC c A n cq) 25) = W0 at *
    go_wp2
    go_ret
    exact ⟨true, rfl, HB0.out, fun e => by cases e⟩
  · have d20 : decide ((20 : Int) < (n : Int)) = false := by simp; omega
    by_cases h100 : 100 < m
    · have d100 : decide ((100 : Int) < (m : Int)) = true := by simp; omega
      clear h20 h100
      go_enter Tryz.func9, Tryz.ntmps9
      go_upto_region 1 with fail
      generalize w.alloc (.cells (cfgC c A n cq) 25) = W0 at *
      go_wp2
      go_ret
      exact ⟨true, rfl, HB0.out, fun e => by cases e⟩
    · have d100 : decide ((100 : Int) < (m : Int)) = false := by simp; omega
      have hle : m ≤ 100 := by omega
      have HN := hid h20
      clear h20 h100
      go_enter Tryz.func9, Tryz.ntmps9
      go_upto_region 1 with fail
      obtain ⟨W0, hW0⟩ : ∃ x, w.alloc (.cells (cfgC c A n cq) 25) = x := ⟨_, rfl⟩
      obtain ⟨r0, hr0⟩ : ∃ x, w.heap.size = x := ⟨_, rfl⟩
      rw [hW0] at HB0 HA y16 ⊢
      rw [hr0] at y16 ⊢
      clear hW0 hr0 HGO
      go_wp2
      go_loopg [17] m (fun gk t17 wr => ∃ p : Nat, p + gk = m ∧ t17 = .int .i64 p ∧ (∀ i, i < p → (f i).t.l.length ≤ 100) ∧ wr = W0)
      case atStart => exact ⟨0, by omega, rfl, fun i hi => absurd hi (Nat.not_lt_zero i), rfl⟩
      case round =>
        obtain ⟨p, hp, rfl, hall, rfl⟩ := hrel
        have HL := hid hall
        clear hall
        by_cases hlt : p < m
        · have hlt' : (p : Int) < (m : Int) := by omega
          obtain ⟨ad, rfl, hat⟩ := HA.out p hlt
          obtain ⟨⟨fu, ⟨tc, tg, l⟩, B, bc⟩, hf⟩ : ∃ y, f p = y := ⟨_, rfl⟩
          have HF := hid hf
          rw [hf] at hat
          have c3 := hat.all.2.2.2.2.2.2.2.2.2.2.2
          dsimp only [A18.sl] at c3
          obtain ⟨x, hx⟩ : ∃ x, l.length = x := ⟨_, rfl⟩
          rw [hx] at c3
          have HX := hid hx
          clear hat hf hx
          by_cases h2 : 100 < x
          · have h2' : (100 : Int) < (x : Int) := by omega
            go_wp2
            go_ret
            exact ⟨true, rfl, HB0.out, fun e => by cases e⟩
          · have h2' : ¬ (100 : Int) < (x : Int) := by omega
            go_wp2
            go_roundg (gk - 1)
            case measure => omega
            case rel =>
              refine ⟨p + 1, by omega, by go_num, fun i hi => ?_, rfl⟩
              by_cases e : i = p
              · subst e; rw [HF.out]; show l.length ≤ 100; rw [HX.out]; omega
              · exact HL.out i (by omega)
        · have hlt' : ¬ (p : Int) < (m : Int) := by omega
          go_wp2
          go_ret
          exact ⟨false, rfl, HB0.out, fun _ => ⟨by have := HN.out; omega, hle, fun i hi => HL.out i (by omega)⟩⟩
end Go.Proofs.YtbcejfonkehjgaaGreatDoor
