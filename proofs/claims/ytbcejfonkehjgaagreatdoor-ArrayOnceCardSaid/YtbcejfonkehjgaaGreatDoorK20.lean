/-
  What is proved: slices of bytes that are read and lie off the blocks X; a copy of one; two that hold the same bytes are alike. No condition.
-/
import Derived.Test.YtbcejfonkehjgaaGreatDoorK15
import Derived.Test.YtbcejfonkehjgaaGreatDoorK19
import Derived.Test.YtbcejfonkehjgaaGreatDoorK03
import Derived.Deep.MidRow
import Derived.Test.YtbcejfonkehjgaaGreatDoorK02
import Derived.Maps.Own
import Derived.Maps.OwnSet
import Derived.Maps.Views
import Derived.Maps.Keyed
import Derived.Test.YtbcejfonkehjgaaGreatDoorK12
import Derived.StillTailTactics
import Derived.Test.YtbcejfonkehjgaaGreatDoorK13
namespace Go.Proofs.YtbcejfonkehjgaaGreatDoor
open Go.RowKit

theorem infoU8 : (Tryz.prog.info? 5).map (fun i => (i.zero, i.size, i.bytes)) = some (some (.int .u8 0), 1, 1) := by kernel_rfl
theorem elt_u8 : Elt Tryz.prog 38 5 (.int .u8 0) 1 1 := ⟨Tryz.underlying38, infoU8, rfl, by decide⟩
theorem rv_rd {w : World} {B : Nat} {A : Option Addr} {l : List Int} (h : Rv w B A (bytes l)) : Rd w B A l := fun j x hx => h j (.int .u8 x) (by unfold bytes; rw [List.getElem?_map, hx]; rfl)
theorem rd_rv {w : World} {B : Nat} {A : Option Addr} {l : List Int} (h : Rd w B A l) : Rv w B A (bytes l) := fun j u hu => by
  unfold bytes at hu
  rw [List.getElem?_map] at hu
  cases hx : l[j]? with
  | none => rw [hx] at hu; cases hu
  | some x =>
    rw [hx] at hu
    injection hu with hu
    rw [← hu]
    exact h j x hx
def By (w : World) (X : Nat → Prop) (v : Value) (l : List Int) : Prop := ∃ A c, v = .slice A l.length c ∧ Rv w w.heap.size A (bytes l) ∧ l.length ≤ c ∧ c ≤ maxLen ∧ ∀ ad, A = some ad → 0 < l.length → ad.block < w.heap.size ∧ ¬ X ad.block
section
variable {w w' : World} {X Y F G : Nat → Prop} {v : Value} {l : List Int}
theorem By.below (h : By w X v l) (hb : Below w.heap.size w w') : By w' X v l := by
  obtain ⟨A, c, e, h1, h2, h3, h4⟩ := h
  exact ⟨A, c, e, (h1.below hb (Nat.le_refl _)).more hb.size, h2, h3, fun ad ea hp => ⟨Nat.lt_of_lt_of_le (h4 ad ea hp).1 hb.size, (h4 ad ea hp).2⟩⟩
theorem By.chg (h : By w X v l) (hc : Chg w w' F G) (hF : ∀ j, F j → X j) : By w' X v l := by
  obtain ⟨A, c, e, h1, h2, h3, h4⟩ := h
  by_cases hl : 0 < l.length
  · exact ⟨A, c, e, hc.rv h1 fun ad ea hf => (h4 ad ea hl).2 (hF _ hf), h2, h3, fun ad ea hp => ⟨Nat.lt_of_lt_of_le (h4 ad ea hp).1 hc.size, (h4 ad ea hp).2⟩⟩
  · obtain rfl : l = [] := List.length_eq_zero_iff.1 (by omega)
    exact ⟨A, c, e, Rv.nil _ _ _, h2, h3, fun ad ea hp => absurd hp hl⟩
theorem By.less (h : By w X v l) (hY : ∀ j, Y j → X j) : By w Y v l := by
  obtain ⟨A, c, e, h1, h2, h3, h4⟩ := h
  exact ⟨A, c, e, h1, h2, h3, fun ad ea hp => ⟨(h4 ad ea hp).1, fun hy => (h4 ad ea hp).2 (hY _ hy)⟩⟩
theorem By.more (h : By w X v l) (hY : ∀ j, Y j → X j ∨ w.heap.size ≤ j) : By w Y v l := by
  obtain ⟨A, c, e, h1, h2, h3, h4⟩ := h
  exact ⟨A, c, e, h1, h2, h3, fun ad ea hp => ⟨(h4 ad ea hp).1, fun hy => (hY _ hy).elim (h4 ad ea hp).2 fun h5 => by have := (h4 ad ea hp).1; omega⟩⟩
end
def CpQ (w : World) (l : List Int) (e : Ending) (w' : World) : Prop :=
  ∃ A c, e = .returned (.slice A l.length c) ∧ Rv w' w'.heap.size A (bytes l) ∧ l.length ≤ c ∧ c ≤ maxLen ∧ (∀ ad, A = some ad → w.heap.size ≤ ad.block ∧ ad.block < w'.heap.size) ∧ Below w.heap.size w w'
theorem CpQ.by_ {w w' : World} {l : List Int} {e : Ending} (h : CpQ w l e w') (X : Nat → Prop) (hX : ∀ j, X j → j < w.heap.size) : ∃ v, e = .returned v ∧ By w' X v l ∧ Below w.heap.size w w' := by
  obtain ⟨A, c, he, h1, h2, h3, h4, h5⟩ := h
  exact ⟨_, he, ⟨A, c, rfl, h1, h2, h3, fun ad ea _ => ⟨(h4 ad ea).2, fun hx => by have := hX _ hx; have := (h4 ad ea).1; omega⟩⟩, h5⟩
theorem own_by {w w' : World} {b n : Nat} {v : Value} {l : List Int} (h : OwnV w' b 5 1 v n (bytes l)) (hn : l.length = n) (hb : w.heap.size ≤ b) : ∃ A c, v = .slice A l.length c ∧ Rv w' w'.heap.size A (bytes l) ∧ l.length ≤ c ∧ c ≤ maxLen ∧ ∀ ad, A = some ad → w.heap.size ≤ ad.block ∧ ad.block < w'.heap.size := by
  subst hn
  obtain ⟨A, c, e, hr, h1, h2⟩ := OwnV.read h
  exact ⟨A, c, e, hr, h1, h2, fun ad ea => by
    have := World.ownsRow.lt h ad.block (by rw [e, ea]; rfl)
    exact ⟨Nat.le_trans hb this.1, this.2⟩⟩
set_option maxHeartbeats 400000 in
theorem clone_bytes (A : Option Addr) (n c : Nat) (l : List Int) (w : World) (hl : l.length = n) (hn : n ≤ 1000) (hr : Rv w w.heap.size A (bytes l)) :
    Calls Tryz.prog 122 #[.slice A n c] w (CpQ w l) := by
  cases A with
  | none =>
    have h0 := rv_none hr
    obtain rfl : l = [] := by unfold bytes at h0; simpa using h0
    clear h0 hr
    have hnil := fun w => eql_nil (P := Tryz.prog) 38 _ none n c Tryz.underlying38 w
    rw [show (none : Option Addr).isNone = true from rfl] at hnil
    go_enter Tryz.func122, Tryz.ntmps122
    go_wp2
    go_ret
    exact ⟨none, 0, rfl, Rv.nil _ _ _, Nat.le_refl _, by unfold maxLen; omega, (fun ad e => by cases e), Below.refl _ _⟩
  | some a =>
    have HR := hid hr
    have HL := hid hl
    clear hr
    have O := World.ownsRow_lit (size := 1) (e := 5) (base := w.heap.size) w #[] 0 (Nat.le_refl _) (by unfold maxLen; omega) rfl
    have HO := hid O
    clear O
    have hnil := fun w => eql_nil (P := Tryz.prog) 38 _ (some a) n c Tryz.underlying38 w
    rw [show (some a).isNone = false from rfl] at hnil
    have hbl : (bytes l).length = n := by unfold bytes; rw [List.length_map]; exact hl
    have HBL := hid hbl
    clear hbl hl
    go_enter Tryz.func122, Tryz.ntmps122
    go_wp2_with (at_builtin; refine wpList_appV elt_u8 rfl _ _ rfl w.heap.size _ 0 [] HO.out rfl _ _ n c (bytes l) rfl (by have := HBL.out; omega) (HR.out.below (below_alloc w _) (Nat.le_refl _)) (bytes_one l) (by unfold maxLen; omega) (by omega) (by rw [World.size_alloc]; omega) ?_; intro v' w2 hown2 hg2)
    have hb2 : Below w.heap.size w w2 := (below_alloc w _).trans (hg2.below HO.out (by rw [World.size_alloc]; omega))
    rw [List.nil_append, Nat.zero_add] at hown2
    obtain ⟨A', c', rfl, hr', h1, h2, hge⟩ := own_by (w := w) hown2 HL.out (Nat.le_refl _)
    have HF := hid (And.intro hr' (And.intro h1 (And.intro h2 (And.intro hge hb2))))
    clear hown2 hg2 hb2 hr' hge h1 h2
    go_wp2
    go_ret
    exact ⟨A', c', rfl, HF.out.1, HF.out.2.1, HF.out.2.2.1, HF.out.2.2.2.1, HF.out.2.2.2.2⟩
theorem same_by {w : World} {X Y : Nat → Prop} {u v : Value} {l : List Int} (hu : By w X u l) (hv : By w Y v l) :
    Calls Tryz.prog 17 #[u, v] w fun e w' => e = .returned (.bool true) ∧ ∃ k, w' = w.drewN k := by
  obtain ⟨A, c, rfl, h1, h2, h3, -⟩ := hu
  obtain ⟨B, d, rfl, h4, h5, h6, -⟩ := hv
  exact same_yes A B _ _ c d l w _ _ rfl rfl (by omega) (rv_rd h1) (rv_rd h4)
end Go.Proofs.YtbcejfonkehjgaaGreatDoor
namespace Go.Proofs.YtbcejfonkehjgaaGreatDoor
open Go.RowKit

def hR (v : Value) : Option (DataW Value × List MemPlace) := some (.held v, [])
def Mp (P : Program) (k : TypeId) (w : World) (b m : Nat) (f : Int → Option Value) : Prop :=
  ∃ D : DataW Value, w.ownsMap P k hR b m D ∧ ∀ x, (Lit.int .i64 x).wf = true → (∀ z, D.atKey (.int .i64 x) z = match f x with | some v => .held v | none => z) ∧ Go.Maps.has D (.int .i64 x) = (f x).isSome
section
variable {P : Program} {k : TypeId} {w w' : World} {b m : Nat} {f : Int → Option Value}
theorem Mp.made (w : World) (P : Program) (k : TypeId) : Mp P k (w.alloc (.map #[] 0)) w.heap.size 0 (fun _ => none) := ⟨_, World.ownsMap_made w P k hR, fun _ _ => ⟨fun _ => rfl, rfl⟩⟩
theorem Mp.lt (h : Mp P k w b m f) : b < w.heap.size := by
  obtain ⟨D, h1, _⟩ := h
  exact h1.lt
theorem Mp.same (h : Mp P k w b m f) (hb : w'.heap[b]? = w.heap[b]?) : Mp P k w' b m f := by
  obtain ⟨D, ⟨es, clock, h1, h2⟩, h3⟩ := h
  exact ⟨D, ⟨es, clock, hb.trans h1, h2⟩, h3⟩
theorem Mp.below (h : Mp P k w b m f) (hb : Below w.heap.size w w') : Mp P k w' b m f := h.same (hb.block b h.lt)
theorem Mp.mono (h : Mp P k w b m f) {m' : Nat} (hm : m ≤ m') : Mp P k w b m' f := by
  obtain ⟨D, h1, h2⟩ := h
  exact ⟨D, h1.mono hm, h2⟩
theorem int_ne {x y : Int} (h : y ≠ x) : (Lit.int .i64 y) ≠ Lit.int .i64 x := fun e => by injection e with _ e; exact h e
theorem Mp.look (h : Mp P k w b m f) (hk : P.underlying k = some (.int .i64)) {t e : TypeId} (ht : P.underlying t = some (.map k e)) {z : Value} (hz : (zeroValue e).run P w = .ok z w) {x : Int} (hx : (Lit.int .i64 x).wf = true) :
    (Instr.lookup t (.map (some b)) (.int .i64 x) false).run P w = .ok ((f x).getD z) w := by
  obtain ⟨D, h1, h2⟩ := h
  obtain ⟨v, ps, hrun, hv⟩ := h1.lookup (Go.Maps.int_keyed hk) ht hz (zd := .held z) (zp := []) rfl (Go.Maps.keyOf_int_mk hk hx)
  have e1 := (h2 x hx).1 (.held z)
  have e2 : v = (f x).getD z := by
    unfold hR at hv
    rw [e1] at hv
    simp only [Option.some.injEq, Prod.mk.injEq] at hv
    cases hf : f x with
    | none => rw [hf] at hv; injection hv.1
    | some u => rw [hf] at hv; injection hv.1
  rw [← e2]
  exact hrun
theorem Mp.put (h : Mp P k w b m f) (hk : P.underlying k = some (.int .i64)) {t e : TypeId} (ht : P.underlying t = some (.map k e)) (hm : m < maxLen) {x : Int} (hx : (Lit.int .i64 x).wf = true) (v : Value) :
    ∃ w', (Instr.mapUpdate t (.map (some b)) (.int .i64 x) v).run P w = .ok () w' ∧ Mp P k w' b (m + 1) (fun y => if y = x then some v else f y) ∧ w.grownBy w' (some b) := by
  obtain ⟨D, h1, h2⟩ := h
  obtain ⟨w', hrun, ho, hg⟩ := h1.update (Go.Maps.int_keyed hk) ht hm (Go.Maps.keyOf_int_mk hk hx) (val := v) (d := .held v) (ps := []) rfl
  refine ⟨w', hrun, ⟨_, ho, fun y hy => ?_⟩, hg⟩
  have hkl := (Go.Maps.int_keyed hk).key (Go.Maps.keyOf_int_mk hk hx)
  by_cases e : y = x
  · subst e
    dsimp only
    rw [if_pos rfl]
    exact ⟨fun z => Go.Maps.atKey_put_same h1.isMap hkl _ z, Go.Maps.has_put_same h1.isMap hkl _⟩
  · dsimp only
    rw [if_neg e]
    refine ⟨fun z => ?_, ?_⟩
    · rw [Go.Maps.atKey_put_other (int_ne e)]
      exact (h2 y hy).1 z
    · rw [Go.Maps.has_put_other (int_ne e)]
      exact (h2 y hy).2
theorem Mp.drop (h : Mp P k w b m f) (hk : P.underlying k = some (.int .i64)) {t e : TypeId} (ht : P.underlying t = some (.map k e)) {x : Int} (hx : (Lit.int .i64 x).wf = true) (ty : TypeId) :
    ∃ w', (Builtin.delete_ #[t, k] ty #[.map (some b), .int .i64 x]).run P w = .ok (.tuple #[]) w' ∧ Mp P k w' b m (fun y => if y = x then none else f y) ∧ w.grownBy w' (some b) := by
  obtain ⟨D, h1, h2⟩ := h
  obtain ⟨w', hrun, ho, hg⟩ := h1.drop (Go.Maps.int_keyed hk) ht (Go.Maps.keyOf_int_mk hk hx) ty
  refine ⟨w', hrun, ⟨_, ho, fun y hy => ?_⟩, hg.grown⟩
  by_cases e : y = x
  · subst e
    dsimp only
    rw [if_pos rfl]
    exact ⟨fun z => Go.Maps.atKey_del_same z, Go.Maps.has_del_same⟩
  · dsimp only
    rw [if_neg e]
    refine ⟨fun z => ?_, ?_⟩
    · rw [Go.Maps.atKey_del_other (int_ne e)]
      exact (h2 y hy).1 z
    · rw [Go.Maps.has_del_other (int_ne e)]
      exact (h2 y hy).2
theorem Mp.clear (h : Mp P k w b m f) {t e : TypeId} (ht : P.underlying t = some (.map k e)) (ty : TypeId) :
    ∃ w', (Builtin.clear_ #[t] ty #[.map (some b)]).run P w = .ok (.tuple #[]) w' ∧ Mp P k w' b 0 (fun _ => none) ∧ w.grownBy w' (some b) := by
  obtain ⟨D, ⟨es, clock, hb, F, hs, hD⟩, h2⟩ := h
  refine ⟨Go.ChangeMaps.setBlock w b (.map #[] clock), ?_, ⟨.map [], ⟨#[], clock, Go.ChangeMaps.heap_setBlock_same hb _, ⟨by simp, MapKept.stamped_empty clock, by simp⟩, Nat.le_refl _, rfl⟩, fun _ _ => ⟨fun _ => rfl, rfl⟩⟩, ⟨rfl, rfl, rfl, by simp [Go.ChangeMaps.setBlock], fun i _ hi => Go.ChangeMaps.heap_setBlock_other hb _ (fun e => hi (by rw [e]))⟩⟩
  simp [Builtin.clear_, run_underlying ht, MapKept.run_getObj_map hb, MapKept.run_setObj_map _ hb, Result.andThen]
  rfl
end
end Go.Proofs.YtbcejfonkehjgaaGreatDoor
namespace Go.Proofs.YtbcejfonkehjgaaGreatDoor
open Go.RowKit

def lo : Nat → Int
  | 5 => 0
  | 14 => 0
  | _ => 1
def hi : Nat → Int
  | 0 => 4
  | 1 => 4
  | 2 => 32
  | 3 => 16
  | 4 => 3
  | 5 => 2
  | 6 => 2
  | 7 => 2
  | 8 => 2
  | 12 => 8
  | 13 => 100
  | _ => 16
def plc (g : Nat) : Array Value := #[
  .pointer (some ⟨g, 0, none⟩), .int .i64 1, .int .i64 4, .pointer (some ⟨g, 1, none⟩), .int .i64 1, .int .i64 4, .pointer (some ⟨g, 2, none⟩), .int .i64 1, .int .i64 32, .pointer (some ⟨g, 3, none⟩), .int .i64 1, .int .i64 16,
  .pointer (some ⟨g, 4, none⟩), .int .i64 1, .int .i64 3, .pointer (some ⟨g, 5, none⟩), .int .i64 0, .int .i64 2, .pointer (some ⟨g, 6, none⟩), .int .i64 1, .int .i64 2, .pointer (some ⟨g, 7, none⟩), .int .i64 1, .int .i64 2,
  .pointer (some ⟨g, 8, none⟩), .int .i64 1, .int .i64 2, .pointer (some ⟨g, 9, none⟩), .int .i64 1, .int .i64 16, .pointer (some ⟨g, 10, none⟩), .int .i64 1, .int .i64 16, .pointer (some ⟨g, 11, none⟩), .int .i64 1, .int .i64 16,
  .pointer (some ⟨g, 12, none⟩), .int .i64 1, .int .i64 8, .pointer (some ⟨g, 13, none⟩), .int .i64 1, .int .i64 100, .pointer (some ⟨g, 14, none⟩), .int .i64 0, .int .i64 16, .pointer (some ⟨g, 15, none⟩), .int .i64 1, .int .i64 16]

set_option maxRecDepth 100000 in
set_option maxHeartbeats 1000000 in
theorem places_any (g : Nat) (w : World) :
    Calls Tryz.prog 76 #[.pointer (some ⟨g, 0, none⟩)] w fun e w' => e = .returned (.agg (plc g)) ∧ Below w.heap.size w w' := by
  go_enter Tryz.func76, Tryz.ntmps76
  go_wp2
  refine wp_region_still_tail 71 (by kernel_rfl) (by kernel_rfl) ?_
  simp only [List.append_eq, List.cons_append, List.nil_append, List.take_succ_cons, List.take_zero, List.drop_succ_cons, List.drop_zero]
  repeat still_step
  refine wpStill_nil ?_
  change wpList _ _ _ _ _ (World.alloc w.drew _)
  refine wpList_store_new rfl _ _ _ rfl rfl _ (plc g) rfl rfl (by kernel_rfl) rfl (by simp [plc, Value.oneCell']) ?_
  go_wp2
  refine bodyPost_ret (results_new rfl _ _ rfl _ _ _ Tryz.underlying149 (by kernel_rfl)) rfl ?_
  exact ⟨rfl, ((Below.refl w.heap.size w).drew).alloc (Nat.le_refl _) _⟩
end Go.Proofs.YtbcejfonkehjgaaGreatDoor
namespace Go.Proofs.YtbcejfonkehjgaaGreatDoor
open Go.RowKit

def cfgC (c : Nat → Int) (A : Option Addr) (n cp : Nat) : Array Value := #[.int .i64 (c 0), .int .i64 (c 1), .int .i64 (c 2), .int .i64 (c 3), .int .i64 (c 4), .int .i64 (c 5), .int .i64 (c 6), .int .i64 (c 7),
  .int .i64 (c 8), .int .i64 (c 9), .int .i64 (c 10), .int .i64 (c 11), .int .i64 (c 12), .int .i64 (c 13), .int .i64 (c 14), .int .i64 (c 15), .slice A n cp]
theorem cfgC_at (c : Nat → Int) (A : Option Addr) (n cp : Nat) : ∀ i, i < 16 → (cfgC c A n cp)[i]? = some (.int .i64 (c i))
  | 0, _ | 1, _ | 2, _ | 3, _ | 4, _ | 5, _ | 6, _ | 7, _ | 8, _ | 9, _ | 10, _ | 11, _ | 12, _ | 13, _ | 14, _ | 15, _ => rfl
  | n + 16, h => absurd h (by omega)
theorem plc_at (g : Nat) : ∀ i, i < 16 → (plc g)[i * 3]? = some (.pointer (some ⟨g, i, none⟩)) ∧ (plc g)[i * 3 + 1]? = some (.int .i64 (lo i)) ∧ (plc g)[i * 3 + 2]? = some (.int .i64 (hi i))
  | 0, _ | 1, _ | 2, _ | 3, _ | 4, _ | 5, _ | 6, _ | 7, _ | 8, _ | 9, _ | 10, _ | 11, _ | 12, _ | 13, _ | 14, _ | 15, _ => ⟨rfl, rfl, rfl⟩
  | n + 16, h => absurd h (by omega)

def RightP (c : Nat → Int) (h : Nat → Hn) (n : Nat) : Prop :=
  (∀ i, i < 16 → lo i ≤ c i ∧ c i ≤ hi i) ∧ (c 5 = 0 ∨ c 4 = 2) ∧ (c 5 = 2 ∨ n = 0) ∧ HintsP h n (c 2)

set_option maxRecDepth 100000 in
set_option maxHeartbeats 1000000 in
theorem right_any (A : Option Addr) (n cp : Nat) (c : Nat → Int) (hh : Nat → Hn) (w : World) (hn : n ≤ maxLen) (hr : Rv w w.heap.size A (hvs hh n)) :
    Calls Tryz.prog 49 #[.agg (cfgC c A n cp)] w fun e w' => e = .returned (.bool (dec (RightP c hh n))) ∧ Below w.heap.size w w' := by
  unfold maxLen at hn
  have HR := hid hr
  clear hr
  go_enter Tryz.func49, Tryz.ntmps49
  go_wp2_with fail
  refine (places_any w.heap.size _).mono ?_
  rintro e w1 ⟨rfl, hb1⟩
  have HB1 := hid (on (below_alloc w (.cells (cfgC c A n cp) 25)) hb1)
  have HX1 := hid ((Bx.new w 25 (cfgC c A n cp)).next hb1)
  clear hb1
  go_wp2_with (refine wpList_store_new rfl _ _ _ rfl rfl _ (plc _) rfl rfl (by kernel_rfl) rfl (by simp [plc, Value.oneCell']) ?_)
  have HX := hid (HX1.out.alloc (.cells (plc w.heap.size) 149))
  have HP := hid (Bx.new w1 149 (plc w.heap.size))
  have HB := hid (on HB1.out (below_alloc w1 (.cells (plc w.heap.size) 149)))
  have hgw : w.heap.size < (w1.alloc (.cells (plc w.heap.size) 149)).heap.size := HX.out.lt
  clear HX1 HB1
  generalize w1.alloc (.cells (plc w.heap.size) 149) = w2 at *
  generalize w1.heap.size = k at *
  clear hgw
  go_loop [7] (fun i => ∃ q : Nat, i = .int .i64 q ∧ q ≤ 16 ∧ ∀ t, t < q → lo t ≤ c t ∧ c t ≤ hi t) (fun i => 16 - (intOf i).toNat)
  case atStart => exact ⟨0, rfl, by omega, fun t ht => absurd ht (Nat.not_lt_zero t)⟩
  case round =>
    obtain ⟨q, rfl, hq, hok⟩ := hrel
    have HO := hid hok
    clear hok
    by_cases hlt : q < 16
    · have hlt' : (q : Int) < 16 := by omega
      obtain ⟨p0, p1, p2⟩ := plc_at w.heap.size q hlt
      rw [← HP.out.cell] at p0 p1 p2
      have p3 := cfgC_at c A n cp q hlt
      rw [← HX.out.cell] at p3
      obtain ⟨x, hx⟩ : ∃ x, c q = x := ⟨_, rfl⟩
      obtain ⟨l, hl⟩ : ∃ x, lo q = x := ⟨_, rfl⟩
      obtain ⟨m, hm⟩ : ∃ x, hi q = x := ⟨_, rfl⟩
      rw [hx] at p3
      rw [hl] at p1
      rw [hm] at p2
      have HQ := hid (show (lo q ≤ c q ∧ c q ≤ hi q) ↔ (l ≤ x ∧ x ≤ m) by rw [hx, hl, hm])
      clear hx hl hm
      go_wp2_with fail
      all_goals
        first
          | (go_ret
             refine ⟨?_, HB.out⟩
             rw [dec_false]
             · rfl
             · intro h
               have := HQ.out.1 (h.1 q hlt)
               omega)
          | (go_round
             case rel =>
               refine ⟨q + 1, by go_num, by omega, fun t ht => ?_⟩
               by_cases e : t = q
               · rw [e]; exact HQ.out.2 (by assumption)
               · exact HO.out t (by omega)
             case measure => simp [intOf]; omega)
    · have hlt' : ¬ (q : Int) < 16 := by omega
      obtain rfl : q = 16 := by omega
      have c2 := HX.out.cell 2
      have c4 := HX.out.cell 4
      have c5 := HX.out.cell 5
      have c16 := HX.out.cell 16
      rw [cfgC_at _ _ _ _ _ (by omega)] at c2 c4 c5
      rw [show (cfgC c A n cp)[16]? = some (.slice A n cp) from rfl] at c16
      have HC := hid (show c 2 = c 2 from rfl)
      go_wp2_with fail
      all_goals
        first
          | (go_ret
             refine ⟨?_, HB.out⟩
             rw [dec_false]
             · rfl
             · intro h
               have h1 := h.2.1
               have h2 := h.2.2.1
               simp at *
               omega)
          | (refine (chints_any A n cp hh _ _ (by unfold maxLen; omega) (by have := (HO.out 2 (by omega)).1; simp [lo] at this; omega) (HR.out.now HB.out)).mono ?_
             rintro e w3 ⟨rfl, hb3⟩
             go_wp2_with fail
             go_ret
             refine ⟨?_, on HB.out hb3⟩
             have hh1 : c 5 = 0 ∨ c 4 = 2 := by simp at *; omega
             have hh2 : c 5 = 2 ∨ n = 0 := by simp at *; omega
             rw [dec_congr (show RightP c hh n ↔ HintsP hh n (c 2) from ⟨fun h => h.2.2.2, fun h => ⟨HO.out, hh1, hh2, h⟩⟩)]
             rfl)
end Go.Proofs.YtbcejfonkehjgaaGreatDoor
