/-
  What is proved: a message that came in, opened: its cells hold what their types say, its text reads as bytes. No program's function is in it.
-/
import Derived.Test.YtbcejfonkehjgaaGreatDoorK46
import Derived.Test.YtbcejfonkehjgaaGreatDoorK44
import Derived.Deep.Slices
import Derived.Deep.Fields
import Derived.ChangeSame
import Derived.OpenShut
import Derived.LaidMore
import Derived.Lay
namespace Go.Proofs.YtbcejfonkehjgaaGreatDoor
open Go.RowKit Go.ChangeShapes Go.WideShapes Go.Deep

section
variable {H : Type} {enc : TypeId × Value → H} {w : World} {base : Nat} {spare : Nat → Bool} {held : Bool}
theorem int_atM {P : Program} {t : TypeId} {k : IntKind} {m off : Nat} {cs : List Value} {y : Option (DataW H × List MemPlace)} (hk : P.underlying t = some (.int k)) (hy : y.isSome = true)
    (h : DataW.trod enc P w base spare held m t ((cs.drop off).take 1) = y) : ∃ a, cs[off]? = some (.int k a) ∧ (Lit.int k a).wf = true := by
  obtain ⟨y, rfl⟩ := Option.isSome_iff_exists.1 hy
  obtain ⟨a, e, _, hw⟩ := DataW.trod_int hk h
  refine ⟨a, ?_, hw⟩
  have := congrArg (·[0]?) e
  simpa using this
theorem bool_atM {P : Program} {t : TypeId} {m off : Nat} {cs : List Value} {y : Option (DataW H × List MemPlace)} (hk : P.underlying t = some .bool) (hy : y.isSome = true)
    (h : DataW.trod enc P w base spare held m t ((cs.drop off).take 1) = y) : ∃ a, cs[off]? = some (.bool a) := by
  obtain ⟨y, rfl⟩ := Option.isSome_iff_exists.1 hy
  obtain ⟨a, e, _⟩ := DataW.trod_bool hk h
  refine ⟨a, ?_⟩
  have := congrArg (·[0]?) e
  simpa using this

theorem skolemI {P : Nat → Int → Prop} {n : Nat} (h : ∀ i, i < n → ∃ p, P i p) : ∃ f : Nat → Int, ∀ i, i < n → P i (f i) :=
  ⟨fun i => if hi : i < n then Classical.choose (h i hi) else 0, fun i hi => by simp only [dif_pos hi]; exact Classical.choose_spec (h i hi)⟩

theorem bytes_ofM {fuel : Nat} {cs : List Value} {x : DataW H × List MemPlace} (h : DataW.trod enc Tryz.prog w base spare held fuel 38 cs = some x) :
    ∃ A n c ds, cs = [.slice A n c] ∧ ds.length = n ∧ n ≤ c ∧ c ≤ maxLen ∧ Rn w A ds ∧ ∀ x ∈ ds, 0 ≤ x ∧ x ≤ 255 := by
  rcases open_slice Tryz.underlying38 h with ⟨h0, _⟩ | ⟨a, len, cap, m, n, D, Pl, hcs, hb, hl, hm, hmm, hx, hi⟩
  · exact ⟨none, 0, 0, [], h0, rfl, Nat.le_refl _, by unfold maxLen; omega, Rd.nil _ _ _, fun x hx => by simp at hx⟩
  · have key : ∀ i, i < len → ∃ y : Int, w.cell? (a.add i) = some (.int .u8 y) ∧ 0 ≤ y ∧ y ≤ 255 := fun i hil => by
      have him : i < m := by rw [hmm]; split <;> omega
      obtain ⟨cs', hc, ht'⟩ := hi i him
      rw [show Tryz.prog.cellsOf 5 = 1 by kernel_rfl] at hc
      obtain ⟨y, hy, _, hw⟩ := DataW.trod_int Tryz.underlying5 ht'
      obtain ⟨_, _, hat⟩ := World.cells?_some hc
      have h0 := hat 0 (by omega)
      rw [hy, Nat.mul_one] at h0
      simp only [Lit.wf, Bool.and_eq_true, decide_eq_true_eq] at hw
      have hw' : 0 ≤ y ∧ y ≤ 255 := hw
      refine ⟨y, ?_, hw'⟩
      have e : (a.add i).add 0 = a.add i := by simp [Addr.add]
      rw [e] at h0
      exact h0
    obtain ⟨f, hf⟩ := skolemI key
    refine ⟨some a, len, cap, (List.range len).map f, hcs, by simp, by omega, by omega, ?_, ?_⟩
    · intro j u hu
      rw [List.getElem?_map] at hu
      obtain ⟨i, hi1, hi2⟩ := Option.map_eq_some_iff.1 hu
      have hj : j < len := by
        have := (List.getElem?_eq_some_iff.1 hi1).1
        simpa using this
      rw [List.getElem?_range hj] at hi1
      injection hi1 with hi1
      subst hi1 hi2
      have hc := (hf j hj).1
      have hb := World.block_lt_of_cell? w _ hc
      rw [addBlk] at hb
      exact ⟨a, rfl, hb, hc⟩
    · intro y hy
      obtain ⟨i, hi1, rfl⟩ := List.mem_map.1 hy
      exact (hf i (List.mem_range.1 hi1)).2

end
end Go.Proofs.YtbcejfonkehjgaaGreatDoor
namespace Go.Proofs.YtbcejfonkehjgaaGreatDoor
open Go.RowKit Go.ChangeShapes Go.WideShapes

theorem named_at : ∀ k, k < 15 → ((Rows.laid_gradine_msg_named : DataW Unit) = .agg ((List.range 15).map fun i => .lit (.int .u64 (mk i)))) := fun _ _ => by kernel_rfl
theorem nm_of_laid {W : World} (h : laidMetH Tryz.prog [("gradine/msg.named", Rows.laid_gradine_msg_named)] W) : Nm W := by
  rw [MakeChecks.laidMetH_plain _ _ _ (by kernel_rfl)] at h
  obtain ⟨ps, ⟨g, t, cs, fuel, p, q, hg, ht, hv, hd, _, _⟩, _, _⟩ := h
  obtain rfl := Option.some.inj ((show Tryz.prog.globalNamed "gradine/msg.named" = some 0 by kernel_rfl).symm.trans hg)
  obtain rfl := Option.some.inj ((show (Tryz.prog.globals[0]?).map (·.type) = some 125 by kernel_rfl).symm.trans ht)
  obtain ⟨xs, m, _, ex, _, hl, hel⟩ := DataW.trod_array Tryz.underlying125 hd
  have c5 : Tryz.prog.cellsOf 118 = 1 := by kernel_rfl
  have e3 : (xs.map (·.1)) = (List.range 15).map fun i => .lit (.int .u64 (mk i)) := by
    have := (Prod.mk.inj ex).1
    rw [named_at 0 (by omega)] at this
    exact (DataW.agg.inj this).symm
  have key : ∀ k, k < 15 → W.cell? ⟨0, k, none⟩ = some (.int .u64 (mk k)) := fun k hk => by
    have hE := hel k hk
    rw [c5, Nat.mul_one, List.getElem?_eq_getElem (by omega)] at hE
    obtain ⟨z, e1, e2, _⟩ := DataW.trod_int Tryz.underlying118 hE
    have e4 : (xs.map (·.1))[k]? = ((List.range 15).map fun i => (DataW.lit (.int .u64 (mk i)) : DataW Unit))[k]? := by rw [e3]
    rw [List.getElem?_map, List.getElem?_map, List.getElem?_eq_getElem (by omega : k < xs.length), List.getElem?_range hk, e2] at e4
    have hz : z = mk k := by
      simp only [Option.map_some, Option.some.injEq, DataW.lit.injEq, Lit.int.injEq, true_and] at e4
      exact e4
    rw [World.var?_cell hg hv k, ← hz]
    have : cs.toList[k]? = some (.int .u64 z) := by
      have h0 : ((cs.toList.drop k).take 1)[0]? = some (.int .u64 z) := by rw [e1]; rfl
      simpa using h0
    simpa using this
  exact ⟨World.block_lt_of_cell? W _ (key 0 (by omega)), key⟩
end Go.Proofs.YtbcejfonkehjgaaGreatDoor
namespace Go.Proofs.YtbcejfonkehjgaaGreatDoor
open Go.RowKit

structure O18 (c : Nat → Int) (o : Ob) : Prop where
  ok : o.Ok (cps c 2)
  np : ∀ rg pt lp n S, o = .prt rg pt lp n S → c 5 = 2
  rt : 1 ≤ c 2 ∧ c 2 ≤ 32
section
variable {w : World} {K : AC} {st : St} {o : Ob} {D : Int → List Int} {B : Nat} {r : Int} {dn : Bool} {c : Nat → Int} {b lv : Int} {k : Nat} {l : List Int} {X : RS}
theorem Am.o18 (h : Am w K st o D B r dn) : O18 K.c o :=
  ⟨h.cm.ok, fun rg pt lp n S e => by
    by_cases h5 : K.c 5 = 2
    · exact h5
    · exfalso
      have hk := h.cm.kd
      subst e
      by_cases h6 : K.c (6 + (3 - 1)) = 2
      · rw [Ob.new_mq h5 h6] at hk; exact hk
      · rw [Ob.new_lru h5 h6] at hk; exact hk, h.c2⟩
theorem O18.use (h : O18 c o) (b : Int) : O18 c (o.use b) := ⟨Ob.Ok.use h.ok b, fun rg pt lp n S e => by
    cases o with
    | lru C L => cases e
    | mq C N L H m => cases e
    | prt rg' pt' lp' n' S' => exact h.np _ _ _ _ _ rfl, h.rt⟩
theorem O18.tk (h : O18 c o) (hb : 0 ≤ b ∧ b < c 2) (ht : o.takes (c 5) 3 b lv = true) : o.tk b := by
  have := h.rt
  cases o with
  | lru C Ls => show vb b; unfold vb; omega
  | mq C N L H m => show vb b; unfold vb; omega
  | prt rg pt lp n2 S => exact of_decide_eq_true (p := 0 < ptO pt (rg b)) ht
theorem O18.all (h : O18 c o) (h5 : c 5 = 0) : o.takes (c 5) 3 b lv = true := by
  rw [h5]
  cases o with
  | lru C Ls => rfl
  | mq C N L H m => rfl
  | prt rg pt lp n2 S => have := h.np _ _ _ _ _ rfl; omega
theorem put0 (h : putR c 3 o b lv k = 0) : (0 ≤ b ∧ b < c 2) ∧ (k : Int) = c 3 ∧ o.takes (c 5) 3 b lv = true := by
  unfold putR at h
  by_cases h1 : 0 ≤ b ∧ b < c 2
  · rw [if_neg (fun hh => hh h1)] at h
    by_cases h2 : (k : Int) = c 3
    · rw [if_neg (fun hh => hh h2)] at h
      by_cases h3 : o.takes (c 5) 3 b lv = false
      · rw [if_pos h3] at h; cases h
      · exact ⟨h1, h2, by simpa using h3⟩
    · rw [if_pos h2] at h; cases h
  · rw [if_pos h1] at h; cases h
theorem put_0 (h1 : 0 ≤ b ∧ b < c 2) (h2 : (k : Int) = c 3) (h3 : o.takes (c 5) 3 b lv = true) : putR c 3 o b lv k = 0 := by
  unfold putR
  rw [if_neg (fun hh => hh h1), if_neg (fun hh => hh h2), if_neg (by rw [h3]; decide)]
theorem puO_mem (h : O18 c o) {x : Int} (hx : x ∈ (puO c o b lv k).all) : x ∈ o.all ∨ (x = b ∧ putR c 3 o b lv k = 0) := by
  unfold puO at hx
  by_cases h0 : putR c 3 o b lv k = 0
  · rw [if_pos h0] at hx
    obtain ⟨h1, h2, h3⟩ := put0 h0
    exact (((Ob.add_mem h.ok (h.tk h1 h3)).1 x).1 hx).elim (fun e => .inr ⟨e, h0⟩) fun e => .inl e.1
  · rw [if_neg h0] at hx
    exact .inl hx
theorem hdO_mem (h : O18 c o) {x : Int} (hx : x ∈ (hdO c o b lv k).all) : x ∈ o.all ∨ (x = b ∧ putR c 3 o b lv k = 0 ∧ hdS c o b lv = false) := by
  unfold hdO at hx
  cases hs : hdS c o b lv with
  | true =>
    rw [if_pos hs] at hx
    exact .inl ((Ob.rem_mem h.ok b x).1 hx).1
  | false =>
    rw [if_neg (by rw [hs]; decide)] at hx
    exact (puO_mem h hx).imp id fun e => ⟨e.1, e.2, rfl⟩
theorem hdD_all (h : O18 c o) {P : Int → List Int → Prop} (hP : ∀ x, x ∈ o.all → P x (D x)) (hl : (l.length : Int) = c 3 → P b l) {x : Int} (hx : x ∈ (hdO c o b lv l.length).all) : P x (hdD c o D b lv l x) := by
  unfold hdD
  rcases hdO_mem h hx with h1 | ⟨rfl, h2, h3⟩
  · by_cases hs : hdS c o b lv = true
    · rw [if_pos hs]; exact hP x h1
    · rw [if_neg hs]
      unfold puD
      by_cases h0 : putR c 3 o b lv l.length = 0
      · rw [if_pos h0]
        unfold updB
        by_cases e : x = b
        · subst e; rw [if_pos rfl]; exact hl (put0 h0).2.1
        · rw [if_neg e]; exact hP x h1
      · rw [if_neg h0]; exact hP x h1
  · rw [if_neg (by rw [h3]; decide)]
    unfold puD updB
    rw [if_pos h2, if_pos rfl]
    exact hl (put0 h2).2.1
theorem puD_all (h : O18 c o) {P : Int → List Int → Prop} (hP : ∀ x, x ∈ o.all → P x (D x)) (hl : (l.length : Int) = c 3 → P b l) {x : Int} (hx : x ∈ (puO c o b lv l.length).all) : P x (puD c o D b lv l x) := by
  unfold puD
  by_cases h0 : putR c 3 o b lv l.length = 0
  · rw [if_pos h0]
    unfold updB
    by_cases e : x = b
    · subst e; rw [if_pos rfl]; exact hl (put0 h0).2.1
    · rw [if_neg e]; exact hP x ((puO_mem h hx).elim id fun e2 => absurd e2.1 e)
  · rw [if_neg h0]
    exact hP x ((puO_mem h hx).elim id fun e2 => absurd e2.2 h0)
theorem hdO_has (h : O18 c o) (h5 : c 5 = 0) (hb : 0 ≤ b ∧ b < c 2) (hk : (k : Int) = c 3) : b ∈ (hdO c o b lv k).all ↔ ¬ (c 4 = 2 ∧ lv ≠ 3) := by
  have ht : o.takes (c 5) 3 b lv = true := h.all h5
  unfold hdO
  cases hs : hdS c o b lv with
  | true =>
    rw [if_pos rfl]
    have h1 : ¬ b ∈ (o.rem b).all := fun hx => ((Ob.rem_mem h.ok b b).1 hx).2 rfl
    refine ⟨fun hx => absurd hx h1, fun hn => absurd ?_ hn⟩
    unfold hdS forA at hs
    rw [decide_eq_true (show 0 ≤ b ∧ b < c 2 from hb), Bool.true_and, ht, Bool.and_true] at hs
    simpa using hs
  | false =>
    rw [if_neg (by decide)]
    have h1 : b ∈ (puO c o b lv k).all := by
      unfold puO
      rw [if_pos (put_0 hb hk ht)]
      exact ((Ob.add_mem h.ok (h.tk (lv := lv) hb ht)).1 b).2 (.inl rfl)
    refine ⟨fun _ hn => ?_, fun _ => h1⟩
    unfold hdS forA at hs
    rw [decide_eq_true (show 0 ≤ b ∧ b < c 2 from hb), Bool.true_and, ht, Bool.and_true] at hs
    simp [hn.1, hn.2] at hs
theorem hdT_inv (h : O18 c o) {t : Tm} (ht : t ∈ hdT c o b lv k) : ∃ x, t = tmI x ∧ x ∉ (hdO c o b lv k).all ∧ c 4 = 1 := by
  unfold hdT at ht
  by_cases hs : hdS c o b lv = true
  · rw [if_pos hs] at ht; cases ht
  · rw [if_neg hs] at ht
    by_cases hg : puG c o b lv k = true ∧ c 4 = 1
    · rw [if_pos hg] at ht
      simp only [List.mem_singleton] at ht
      refine ⟨_, ht, fun hx => ?_, hg.2⟩
      have h1 := hg.1
      unfold puG at h1
      simp only [Bool.and_eq_true, decide_eq_true_eq] at h1
      obtain ⟨h2, h3, h4⟩ := put0 h1.1
      unfold hdO puO at hx
      rw [if_neg hs, if_pos h1.1] at hx
      have h5 := Ob.add_mem h.ok (h.tk h2 h4)
      rcases (h5.1 _).1 hx with e | e
      · exact (h5.2 h1.2).2.2 e
      · exact e.2 ⟨h1.2, rfl⟩
    · rw [if_neg hg] at ht; cases ht
def Bt18 (c : Nat → Int) (o : Ob) (lv : Int) (t : Tm) : Prop :=
  (t.c 0 = 12 → t.c 8 = 0 → c 5 = 0 → (t.c 5 ∈ o.all ↔ ¬ (c 4 = 2 ∧ lv ≠ 3))) ∧ (t.c 0 = 14 → t.c 5 ∉ o.all ∧ c 4 = 1)
theorem bt_inv {x : Int} (h : x ∉ o.all) (h4 : c 4 = 1) : Bt18 c o lv (tmI x) := ⟨(fun e => by cases (show (14 : Int) = 12 from e)), fun _ => ⟨h, h4⟩⟩
theorem bt_wr {mc : Nat → Int} {z : Int} {gr : Bool} : Bt18 c o lv (tmW mc z gr) := ⟨(fun e => by cases (show (13 : Int) = 12 from e)), (fun e => by cases (show (13 : Int) = 14 from e))⟩
theorem hear_bound (h : O18 c o) (hX : ∀ b, 0 ≤ b → b < c 2 → ((X.T b.toNat).length : Int) = c 3) (dz : ∀ x, x ∈ o.all → ((D x).length : Int) = c 3) (m : Tm) :
    (∀ x, x ∈ (hearF c ⟨X, o, D, r⟩ m).1.o.all → (((hearF c ⟨X, o, D, r⟩ m).1.D x).length : Int) = c 3) ∧ (∀ t, t ∈ (hearF c ⟨X, o, D, r⟩ m).2 → Bt18 c (hearF c ⟨X, o, D, r⟩ m).1.o (m.c 6) t) ∧ r ≤ (hearF c ⟨X, o, D, r⟩ m).1.r ∧ (hearF c ⟨X, o, D, r⟩ m).1.r ≤ r + 1 := by
  have dzu : ∀ x, x ∈ (o.use (m.c 5)).all → ((D x).length : Int) = c 3 := fun x hx => dz x ((Ob.use_mem h.ok (m.c 5) x).1 hx)
  unfold hearF
  try dsimp only
  split
  · exact ⟨dz, (fun t ht => by cases ht), Int.le_refl _, by show r ≤ r + 1; omega⟩
  rename_i hR
  have hRM : RightM m.c m.gr m.l.length := dec_iff.1 (by simpa using hR)
  have h0 : 0 ≤ m.c 5 := (hRM.2 5 (by omega) (by omega)).1
  split
  · unfold hrR
    dsimp only
    split
    · rename_i hb2
      have hrd : ((rdY ⟨X, o, D, r⟩ m).length : Int) = c 3 := by
        unfold rdY
        dsimp only
        split
        · rename_i hin; exact dz _ hin
        · exact hX _ h0 hb2
      have hrr : r ≤ rdR ⟨X, o, D, r⟩ m ∧ rdR ⟨X, o, D, r⟩ m ≤ r + 1 := by
        unfold rdR
        dsimp only
        split <;> omega
      split
      · refine ⟨fun x hx => hdD_all (P := fun _ l => (l.length : Int) = c 3) (h.use _) dzu (fun _ => hrd) hx, fun t ht => ?_, hrr⟩
        rcases List.mem_append.1 ht with ht | ht
        · obtain ⟨x, rfl, h1, h2⟩ := hdT_inv (h.use _) ht
          exact bt_inv h1 h2
        · simp only [List.mem_singleton] at ht
          subst ht
          refine ⟨fun _ _ h5 => hdO_has (h.use _) h5 ⟨h0, hb2⟩ hrd, (fun e => by cases (show (12 : Int) = 14 from e))⟩
      · rename_i hno
        refine ⟨dzu, fun t ht => ?_, hrr⟩
        simp only [List.mem_singleton] at ht
        subst ht
        refine ⟨fun _ _ h5 => ⟨fun _ hh => hno (.inr hh.1), fun _ => (Ob.use_mem h.ok _ _).2 (Classical.byContradiction fun hn => hno (.inl hn))⟩, (fun e => by cases (show (12 : Int) = 14 from e))⟩
    · refine ⟨dzu, fun t ht => ?_, Int.le_refl _, by show r ≤ r + 1; omega⟩
      simp only [List.mem_singleton] at ht
      subst ht
      exact ⟨(fun _ e => by cases (show (9 : Int) = 0 from e)), (fun e => by cases (show (12 : Int) = 14 from e))⟩
  split
  · unfold hrW
    dsimp only
    split
    · exact ⟨dz, (fun t ht => by cases ht), Int.le_refl _, by show r ≤ r + 1; omega⟩
    · split
      · refine ⟨dz, fun t ht => ?_, Int.le_refl _, by show r ≤ r + 1; omega⟩
        simp only [List.mem_singleton] at ht
        subst ht
        exact bt_wr
      · refine ⟨fun x hx => hdD_all (P := fun _ l => (l.length : Int) = c 3) h dz (fun hl => hl) hx, fun t ht => ?_, Int.le_refl _, by show r ≤ r + 1; omega⟩
        rcases List.mem_append.1 ht with ht | ht
        · obtain ⟨x, rfl, h1, h2⟩ := hdT_inv h ht
          exact bt_inv h1 h2
        · simp only [List.mem_singleton] at ht
          subst ht
          exact bt_wr
  split
  · unfold hrM
    dsimp only
    split
    · exact ⟨fun x hx => puD_all (P := fun _ l => (l.length : Int) = c 3) h dz (fun hl => hl) hx, (fun t ht => by cases ht), Int.le_refl _, by show r ≤ r + 1; omega⟩
    · exact ⟨dz, (fun t ht => by cases ht), Int.le_refl _, by show r ≤ r + 1; omega⟩
  split
  · unfold hrP
    dsimp only
    exact ⟨fun x hx => dz x ((Ob.rem_mem h.ok _ x).1 hx).1, (fun t ht => by cases ht), Int.le_refl _, by show r ≤ r + 1; omega⟩
  · exact ⟨dz, (fun t ht => by cases ht), Int.le_refl _, by show r ≤ r + 1; omega⟩
end
end Go.Proofs.YtbcejfonkehjgaaGreatDoor
namespace Go.Proofs.YtbcejfonkehjgaaGreatDoor
open Go.RowKit

theorem rwr_T {sh : Sh} {X : RS} {x : Wr} (q : Nat) : (rwr sh X x).1.T q = X.T q ∨ (q = x.k.toNat ∧ (rwr sh X x).1.T q = x.l ∧ (rwr sh X x).1.V q ≠ X.V q ∧ x.wrong sh = 0) := by
  unfold rwr
  by_cases hw : x.wrong sh = 0
  · rw [if_pos hw]
    by_cases h1 : age x.b x.o (X.P (x.i sh)) (X.O (x.i sh)) < 0
    · rw [if_pos h1]; exact .inl rfl
    · rw [if_neg h1]
      by_cases h2 : age x.b x.o (X.P (x.i sh)) (X.O (x.i sh)) = 0
      · rw [if_pos h2]; exact .inl rfl
      · rw [if_neg h2]
        unfold RS.put
        by_cases hv : X.V x.k.toNat = 1000
        · rw [if_pos hv]; exact .inl rfl
        · rw [if_neg hv]
          by_cases e : q = x.k.toNat
          · subst e
            refine .inr ⟨rfl, ?_, ?_, hw⟩
            · show updN X.T x.k.toNat x.l x.k.toNat = x.l
              simp only [upd_self]
            · show updN X.V x.k.toNat (X.V x.k.toNat + 1) x.k.toNat ≠ X.V x.k.toNat
              simp only [upd_self]
              omega
          · refine .inl ?_
            show updN X.T x.k.toNat x.l q = X.T q
            unfold updN
            rw [if_neg e]
  · rw [if_neg hw]; exact .inl rfl
theorem rwr_V {sh : Sh} {X : RS} {x : Wr} {q : Nat} (h : (rwr sh X x).1.V q ≠ X.V q) : (rwr sh X x).1.T q = x.l := by
  unfold rwr at h ⊢
  by_cases hw : x.wrong sh = 0
  · rw [if_pos hw] at h ⊢
    by_cases h1 : age x.b x.o (X.P (x.i sh)) (X.O (x.i sh)) < 0
    · rw [if_pos h1] at h; exact absurd rfl h
    · rw [if_neg h1] at h ⊢
      by_cases h2 : age x.b x.o (X.P (x.i sh)) (X.O (x.i sh)) = 0
      · rw [if_pos h2] at h; exact absurd rfl h
      · rw [if_neg h2] at h ⊢
        unfold RS.put at h ⊢
        by_cases hv : X.V x.k.toNat = 1000
        · rw [if_pos hv] at h; exact absurd rfl h
        · rw [if_neg hv] at h ⊢
          by_cases e : q = x.k.toNat
          · subst e
            show updN X.T x.k.toNat x.l x.k.toNat = x.l
            simp only [upd_self]
          · refine absurd ?_ h
            show updN X.V x.k.toNat (X.V x.k.toNat + 1) q = X.V q
            unfold updN
            rw [if_neg e]
  · rw [if_neg hw] at h; exact absurd rfl h
section
variable {o : Ob} {D : Int → List Int} {r : Int} {c : Nat → Int} {b lv : Int} {l : List Int} {X : RS}
theorem hdD_new (h : O18 c o) (hb : 0 ≤ b ∧ b < c 2) (hk : (l.length : Int) = c 3) (h45 : c 5 = 0 ∨ c 4 = 2) {x : Int} (hx : x ∈ (hdO c o b lv l.length).all) : hdD c o D b lv l x = if x = b then l else D x := by
  unfold hdD
  cases hs : hdS c o b lv with
  | true =>
    rw [if_pos rfl]
    unfold hdO at hx
    rw [if_pos hs] at hx
    rw [if_neg ((Ob.rem_mem h.ok b x).1 hx).2]
  | false =>
    rw [if_neg (by decide)]
    have ht : o.takes (c 5) 3 b lv = true := by
      rcases h45 with h5 | h4
      · exact h.all h5
      · unfold hdS forA at hs
        rw [decide_eq_true (show c 4 = 2 from h4), Bool.true_and] at hs
        simp only [Bool.not_eq_false', Bool.and_eq_true] at hs
        exact hs.2.2
    unfold puD
    rw [if_pos (put_0 hb hk ht)]
    rfl
def Tt18 (c : Nat → Int) (X : RS) (t : Tm) : Prop := t.c 0 = 12 → t.c 8 = 0 → (0 ≤ t.c 5 ∧ t.c 5 < c 2) ∧ t.l = X.T (t.c 5).toNat
theorem tt_inv {x : Int} : Tt18 c X (tmI x) := fun e => by cases (show (14 : Int) = 12 from e)
theorem tt_wr {mc : Nat → Int} {z : Int} {gr : Bool} : Tt18 c X (tmW mc z gr) := fun e => by cases (show (13 : Int) = 12 from e)
theorem tt_T {k : Nat} (h : O18 c o) {t : Tm} (ht : t ∈ hdT c o b lv k) : Tt18 c X t := by
  obtain ⟨x, rfl, _⟩ := hdT_inv h ht
  exact tt_inv
theorem hear_true (h : O18 c o) (h45 : c 5 = 0 ∨ c 4 = 2) (hs : c 2 = ((c 2).toNat : Int) ∧ c 3 = ((c 3).toNat : Int)) (dom : ∀ x, x ∈ o.all → 0 ≤ x ∧ x < c 2) (de : ∀ x, x ∈ o.all → D x = X.T x.toNat) (m : Tm) (hm : m.c 0 = 10 → 0 ≤ m.c 5 → m.c 5 < c 2 → m.l = X.T (m.c 5).toNat) :
    (∀ x, x ∈ (hearF c ⟨X, o, D, r⟩ m).1.o.all → (hearF c ⟨X, o, D, r⟩ m).1.D x = (hearF c ⟨X, o, D, r⟩ m).1.X.T x.toNat) ∧ (∀ t, t ∈ (hearF c ⟨X, o, D, r⟩ m).2 → Tt18 c (hearF c ⟨X, o, D, r⟩ m).1.X t) ∧ r ≤ (hearF c ⟨X, o, D, r⟩ m).1.r ∧ (hearF c ⟨X, o, D, r⟩ m).1.r ≤ r + 1 := by
  have deu : ∀ x, x ∈ (o.use (m.c 5)).all → D x = X.T x.toNat := fun x hx => de x ((Ob.use_mem h.ok (m.c 5) x).1 hx)
  unfold hearF
  split
  · exact ⟨de, (fun t ht => by cases ht), Int.le_refl _, by show r ≤ r + 1; omega⟩
  rename_i hR
  have hRM : RightM m.c m.gr m.l.length := dec_iff.1 (by simpa using hR)
  have h0 : 0 ≤ m.c 5 := (hRM.2 5 (by omega) (by omega)).1
  split
  · unfold hrR
    dsimp only
    split
    · rename_i hb2
      have hrd : rdY ⟨X, o, D, r⟩ m = X.T (m.c 5).toNat := by
        unfold rdY
        dsimp only
        split
        · rename_i hin; exact de _ hin
        · rfl
      have hrr : r ≤ rdR ⟨X, o, D, r⟩ m ∧ rdR ⟨X, o, D, r⟩ m ≤ r + 1 := by
        unfold rdR
        dsimp only
        split <;> omega
      split
      · refine ⟨fun x hx => hdD_all (P := fun x l => l = X.T x.toNat) (h.use _) deu (fun _ => hrd) hx, fun t ht => ?_, hrr⟩
        rcases List.mem_append.1 ht with ht | ht
        · exact tt_T (h.use _) ht
        · simp only [List.mem_singleton] at ht
          subst ht
          exact fun _ _ => ⟨⟨h0, hb2⟩, hrd⟩
      · refine ⟨deu, fun t ht => ?_, hrr⟩
        simp only [List.mem_singleton] at ht
        subst ht
        exact fun _ _ => ⟨⟨h0, hb2⟩, hrd⟩
    · refine ⟨deu, fun t ht => ?_, Int.le_refl _, by show r ≤ r + 1; omega⟩
      simp only [List.mem_singleton] at ht
      subst ht
      exact fun _ e => by cases (show (9 : Int) = 0 from e)
  split
  · -- a write
    have hT : ∀ q, (rwr (shC c) X (wrX m)).1.T q = X.T q ∨ (q = (m.c 5).toNat ∧ (rwr (shC c) X (wrX m)).1.T q = m.l ∧ (rwr (shC c) X (wrX m)).1.V q ≠ X.V q ∧ (wrX m).wrong (shC c) = 0) := fun q => rwr_T q
    unfold hrW
    dsimp only
    have hsame : vrs c m (rwr (shC c) X (wrX m)).1 = vrs c m X → ∀ x, x ∈ o.all → D x = (rwr (shC c) X (wrX m)).1.T x.toNat := fun hv x hx => by
      rcases hT x.toNat with e | ⟨e1, e2, e3, e4⟩
      · rw [e]; exact de x hx
      · exfalso
        obtain ⟨f1, -⟩ := (wrX m).fits (shC c) e4
        have f2 : 0 ≤ m.c 5 ∧ m.c 5 < c 2 := ⟨f1.1, by have h7 : m.c 5 < ((c 2).toNat : Int) := f1.2; omega⟩
        unfold vrs at hv
        rw [if_pos f2, if_pos f2] at hv
        rw [e1] at e3
        omega
    split
    · rename_i h12
      exact ⟨hsame (by rw [(rwr_err (by rw [h12]; decide)).2]), (fun t ht => by cases ht), Int.le_refl _, by show r ≤ r + 1; omega⟩
    · split
      · rename_i hv
        refine ⟨hsame hv, fun t ht => ?_, Int.le_refl _, by show r ≤ r + 1; omega⟩
        simp only [List.mem_singleton] at ht
        subst ht
        exact tt_wr
      · rename_i hv
        have hrg : 0 ≤ m.c 5 ∧ m.c 5 < c 2 := by
          by_cases hh : 0 ≤ m.c 5 ∧ m.c 5 < c 2
          · exact hh
          · exact absurd (by unfold vrs; rw [if_neg hh, if_neg hh]) hv
        have hw : (wrX m).wrong (shC c) = 0 := by
          by_cases hh : (wrX m).wrong (shC c) = 0
          · exact hh
          · refine absurd ?_ hv
            rw [show (rwr (shC c) X (wrX m)).1 = X by unfold rwr; rw [if_neg hh]]
        have hk : ((m.l.length : Nat) : Int) = c 3 := by
          have h7 : m.l.length = (c 3).toNat := ((wrX m).fits (shC c) hw).2.1
          omega
        refine ⟨fun x hx => ?_, fun t ht => ?_, Int.le_refl _, by show r ≤ r + 1; omega⟩
        · show hdD c o D (m.c 5) (m.c 6) m.l x = (rwr (shC c) X (wrX m)).1.T x.toNat
          rw [hdD_new h hrg hk h45 hx]
          by_cases e : x = m.c 5
          · rw [if_pos e, e]
            refine (rwr_V (sh := shC c) (X := X) (x := wrX m) (q := (m.c 5).toNat) fun e1 => hv ?_).symm
            unfold vrs
            rw [if_pos hrg, if_pos hrg, e1]
          · rw [if_neg e]
            have hx2 : x ∈ o.all := (hdO_mem h hx).elim id fun e2 => absurd e2.1 e
            rw [de x hx2]
            rcases hT x.toNat with e1 | e1
            · exact e1.symm
            · have := dom x hx2
              exact absurd (show x = m.c 5 by omega) e
        · rcases List.mem_append.1 ht with ht | ht
          · exact tt_T h ht
          · simp only [List.mem_singleton] at ht
            subst ht
            exact tt_wr
  split
  · rename_i h10
    unfold hrM
    dsimp only
    split
    · refine ⟨fun x hx => ?_, (fun t ht => by cases ht), Int.le_refl _, by show r ≤ r + 1; omega⟩
      by_cases h2 : m.c 5 < c 2
      · exact puD_all (P := fun x l => l = X.T x.toNat) h de (fun _ => hm h10 h0 h2) hx
      · have hn : ¬ putR c 3 o (m.c 5) (m.c 6) m.l.length = 0 := fun e => h2 (put0 e).1.2
        show puD c o D (m.c 5) (m.c 6) m.l x = X.T x.toNat
        unfold puD
        rw [if_neg hn]
        exact de x ((puO_mem h hx).elim id fun e => absurd e.2 hn)
    · exact ⟨de, (fun t ht => by cases ht), Int.le_refl _, by show r ≤ r + 1; omega⟩
  split
  · unfold hrP
    dsimp only
    exact ⟨fun x hx => de x ((Ob.rem_mem h.ok _ x).1 hx).1, (fun t ht => by cases ht), Int.le_refl _, by show r ≤ r + 1; omega⟩
  · exact ⟨de, (fun t ht => by cases ht), Int.le_refl _, by show r ≤ r + 1; omega⟩
end
end Go.Proofs.YtbcejfonkehjgaaGreatDoor
