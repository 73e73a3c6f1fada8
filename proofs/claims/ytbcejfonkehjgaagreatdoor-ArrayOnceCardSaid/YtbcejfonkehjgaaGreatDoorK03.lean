/-
  What is proved: what a space of lists in memory is (one block: how many lists, three rows of numbers), what it becomes when a number is stored; list's small functions. Condition: the space lies in memory as one.
-/
import Derived.Test.YtbcejfonkehjgaaGreatDoorRows
import Derived.Test.YtbcejfonkehjgaaGreatDoorK02
import Derived.Test.YtbcejfonkehjgaaGreatDoorK01
import Derived.BigRegion
import Derived.Deep.DeepCutAuto
import Derived.Deep.CutBlock
import Derived.Deep.DeepMust
import Derived.Deep.QuietTactic
import Derived.Test.YtbcejfonkehjgaaGreatDoorChecked
namespace Go.Proofs.YtbcejfonkehjgaaGreatDoor
open Go.RowKit

def scf (n : Nat) (a b c : Int → Int) (i : Nat) : Int := if i = 0 then (n : Int) else if i < 105 then a ((i - 1 : Nat) : Int) else if i < 209 then b ((i - 105 : Nat) : Int) else c ((i - 209 : Nat) : Int)
def sc (n : Nat) (a b c : Int → Int) : Array Value := Array.ofFn (n := 273) fun i => .int .i64 (scf n a b c i)
section
variable (n : Nat) (a b c : Int → Int)
theorem sc_size : (sc n a b c).size = 273 := by simp [sc]
theorem sc_at {i : Nat} (h : i < 273) : (sc n a b c)[i]? = some (.int .i64 (scf n a b c i)) := by simp [sc, h]
theorem sc_n : (sc n a b c)[0]? = some (.int .i64 n) := by rw [sc_at _ _ _ _ (by omega)]; rfl
theorem sc_a {p : Nat} (h : p < 104) : (sc n a b c)[1 + p]? = some (.int .i64 (a p)) := by
  rw [sc_at _ _ _ _ (by omega)]; unfold scf; rw [if_neg (by omega), if_pos (by omega), show 1 + p - 1 = p from by omega]
theorem sc_b {p : Nat} (h : p < 104) : (sc n a b c)[105 + p]? = some (.int .i64 (b p)) := by
  rw [sc_at _ _ _ _ (by omega)]; unfold scf; rw [if_neg (by omega), if_neg (by omega), if_pos (by omega), show 105 + p - 105 = p from by omega]
theorem sc_c {p : Nat} (h : p < 64) : (sc n a b c)[209 + p]? = some (.int .i64 (c p)) := by
  rw [sc_at _ _ _ _ (by omega)]; unfold scf; rw [if_neg (by omega), if_neg (by omega), if_neg (by omega), show 209 + p - 209 = p from by omega]
theorem sc_set {a' b' c' : Int → Int} {i : Nat} {v : Int} (h : ∀ j, j < 273 → scf n a' b' c' j = if i = j then v else scf n a b c j) : (sc n a b c).setIfInBounds i (.int .i64 v) = sc n a' b' c' := by
  refine Array.ext (by simp [sc]) fun j h1 h2 => ?_
  have hj : j < 273 := by rw [sc_size] at h2; exact h2
  rw [Array.getElem_setIfInBounds (by simpa using h1)]
  simp only [sc, Array.getElem_ofFn]
  rw [h j hj]
  split <;> rfl
theorem sc_setA {p : Nat} (h : p < 104) (v : Int) : (sc n a b c).setIfInBounds (1 + p) (.int .i64 v) = sc n (upd a p v) b c := sc_set _ _ _ _ fun j hj => by
  unfold scf upd
  by_cases h0 : j = 0
  · rw [if_pos h0, if_neg (by omega), if_pos h0]
  · rw [if_neg h0, if_neg h0]
    by_cases h1 : j < 105
    · rw [if_pos h1, if_pos h1]
      by_cases h2 : 1 + p = j
      · rw [if_pos h2, if_pos (by omega)]
      · rw [if_neg h2, if_neg (by omega)]
    · rw [if_neg h1, if_neg h1, if_neg (show ¬ 1 + p = j from by omega)]
theorem sc_setB {p : Nat} (h : p < 104) (v : Int) : (sc n a b c).setIfInBounds (105 + p) (.int .i64 v) = sc n a (upd b p v) c := sc_set _ _ _ _ fun j hj => by
  unfold scf upd
  by_cases h0 : j = 0
  · rw [if_pos h0, if_neg (by omega), if_pos h0]
  · rw [if_neg h0, if_neg h0]
    by_cases h1 : j < 105
    · rw [if_pos h1, if_neg (by omega), if_pos h1]
    · rw [if_neg h1, if_neg h1]
      by_cases h3 : j < 209
      · rw [if_pos h3, if_pos h3]
        by_cases h2 : 105 + p = j
        · rw [if_pos h2, if_pos (by omega)]
        · rw [if_neg h2, if_neg (by omega)]
      · rw [if_neg h3, if_neg (by omega), if_neg h3]
theorem sc_setC {p : Nat} (v : Int) : (sc n a b c).setIfInBounds (209 + p) (.int .i64 v) = sc n a b (upd c p v) := sc_set _ _ _ _ fun j hj => by
  unfold scf upd
  by_cases h0 : j = 0
  · rw [if_pos h0, if_neg (by omega), if_pos h0]
  · rw [if_neg h0, if_neg h0]
    by_cases h1 : j < 105
    · rw [if_pos h1, if_neg (by omega), if_pos h1]
    · rw [if_neg h1, if_neg h1]
      by_cases h3 : j < 209
      · rw [if_pos h3, if_neg (by omega), if_pos h3]
      · rw [if_neg h3, if_neg h3]
        by_cases h2 : 209 + p = j
        · rw [if_pos h2, if_pos (by omega)]
        · rw [if_neg h2, if_neg (by omega)]
end

def Sb (w : World) (k n : Nat) (a b c : Int → Int) : Prop := Bx w k 233 (sc n a b c)
section
variable {w w' : World} {k n : Nat} {a b c : Int → Int}
theorem Sb.cN (h : Sb w k n a b c) : w.cell? ⟨k, 0, none⟩ = some (.int .i64 n) := (Bx.cell h 0).trans (sc_n _ _ _ _)
theorem Sb.cA (h : Sb w k n a b c) {p : Nat} (hp : p < 104) : w.cell? ⟨k, 1 + p, none⟩ = some (.int .i64 (a p)) := (Bx.cell h _).trans (sc_a _ _ _ _ hp)
theorem Sb.cB (h : Sb w k n a b c) {p : Nat} (hp : p < 104) : w.cell? ⟨k, 105 + p, none⟩ = some (.int .i64 (b p)) := (Bx.cell h _).trans (sc_b _ _ _ _ hp)
theorem Sb.cC (h : Sb w k n a b c) {p : Nat} (hp : p < 64) : w.cell? ⟨k, 209 + p, none⟩ = some (.int .i64 (c p)) := (Bx.cell h _).trans (sc_c _ _ _ _ hp)
theorem Sb.draws (h : Sb w k n a b c) (m : Nat) : Sb (w.drewN m) k n a b c := Bx.draws h m
theorem Sb.free (h : Sb w k n a b c) (i : Nat) : w.frozen? ⟨k, i, none⟩ = false := Bx.free h i
theorem Sb.next (h : Sb w k n a b c) (hb : Below w.heap.size w w') : Sb w' k n a b c := Bx.next h hb
theorem Sb.setA (h : Sb w k n a b c) {p : Nat} (hp : p < 104) (v : Int) : Sb (w.setCell ⟨k, 1 + p, none⟩ (.int .i64 v)) k n (upd a p v) b c := by
  have := Bx.set h (1 + p) (.int .i64 v)
  rw [sc_setA _ _ _ _ hp] at this
  exact this
theorem Sb.setB (h : Sb w k n a b c) {p : Nat} (hp : p < 104) (v : Int) : Sb (w.setCell ⟨k, 105 + p, none⟩ (.int .i64 v)) k n a (upd b p v) c := by
  have := Bx.set h (105 + p) (.int .i64 v)
  rw [sc_setB _ _ _ _ hp] at this
  exact this
theorem Sb.setC (h : Sb w k n a b c) {p : Nat} (v : Int) : Sb (w.setCell ⟨k, 209 + p, none⟩ (.int .i64 v)) k n a b (upd c p v) := by
  have := Bx.set h (209 + p) (.int .i64 v)
  rw [sc_setC] at this
  exact this
end
def Sq (w : World) (k : Nat) (S : List (List Int)) : Prop := ∃ a b c, Sb w k S.length a b c ∧ Inv a b c S
theorem Sq.lt {w : World} {k : Nat} {S : List (List Int)} (h : Sq w k S) : k < w.heap.size := by obtain ⟨a, b, c, h, _⟩ := h; exact Bx.lt h
theorem Sq.below {w w' : World} {k : Nat} {S : List (List Int)} (h : Sq w k S) (hb : Below w.heap.size w w') : Sq w' k S := by obtain ⟨a, b, c, h, hi⟩ := h; exact ⟨a, b, c, Bx.next h hb, hi⟩
theorem Sq.same {w w' : World} {k : Nat} {S : List (List Int)} (h : Sq w k S) (hb : w'.heap[k]? = w.heap[k]?) : Sq w' k S := by obtain ⟨a, b, c, h, hi⟩ := h; exact ⟨a, b, c, hb.trans h, hi⟩
theorem Sq.wf {w : World} {k : Nat} {S : List (List Int)} (h : Sq w k S) : Wf S ∧ 1 ≤ S.length ∧ S.length ≤ 40 := by obtain ⟨a, b, c, _, hi⟩ := h; exact ⟨hi.wf, hi.sz⟩

def vb (x : Int) : Prop := 0 ≤ x ∧ x < 64
instance (x : Int) : Decidable (vb x) := inferInstanceAs (Decidable (_ ∧ _))

set_option maxHeartbeats 400000 in
theorem closing_any (w : World) (p : Nat) (hp : p < 40) : Calls Tryz.prog 145 #[.int .i64 p] w fun e w' => e = .returned (.int .i64 ((64 + p : Nat))) ∧ w = w' := by
  go_enter Tryz.func145, Tryz.ntmps145
  go_wp2
  go_ret
  refine ⟨?_, rfl⟩
  go_num
theorem closing_z (w : World) (p z : Nat) (hp : p < 40) (hz : 64 + p = z) : Calls Tryz.prog 145 #[.int .i64 p] w fun e w' => e = .returned (.int .i64 z) ∧ w = w' := by
  subst hz
  exact closing_any w p hp
set_option maxHeartbeats 400000 in
theorem isblock_any (w : World) (x : Int) : Calls Tryz.prog 217 #[.int .i64 x] w fun e w' => e = .returned (.bool (decide (vb x))) ∧ w = w' := by
  by_cases h0 : x < 0
  · have hd : decide ((0 : Int) ≤ x) = false := by simpa using h0
    have e : decide (vb x) = false := decide_eq_false fun h => by have := h.1; omega
    rw [e]
    go_enter Tryz.func217, Tryz.ntmps217
    go_wp2
    go_ret
    exact ⟨rfl, rfl⟩
  · have h1 : 0 ≤ x := by omega
    have e : decide (vb x) = decide (x < 64) := decide_eq_decide.2 ⟨fun h => h.2, fun h => ⟨h1, h⟩⟩
    rw [e]
    clear h0 e
    go_enter Tryz.func217, Tryz.ntmps217
    go_wp2
    go_ret
    exact ⟨rfl, rfl⟩
set_option maxHeartbeats 400000 in
theorem blockat_yes (w : World) (x : Int) (h : vb x) : Calls Tryz.prog 219 #[.int .i64 x] w fun e w' => e = .returned (.tuple #[.int .i64 x, .bool true]) ∧ w = w' := by
  have HI := hid (isblock_any w x)
  rw [decide_eq_true h] at HI
  clear h
  go_enter Tryz.func219, Tryz.ntmps219
  go_wp2_with (go_at_call 217; refine HI.out.mono ?_; rintro e w' ⟨rfl, rfl⟩)
  go_ret2
  exact ⟨rfl, rfl⟩
set_option maxHeartbeats 400000 in
theorem blockat_no (w : World) (x : Int) (h : ¬ vb x) : Calls Tryz.prog 219 #[.int .i64 x] w fun e w' => e = .returned (.tuple #[.int .i64 0, .bool false]) ∧ w = w' := by
  have HI := hid (isblock_any w x)
  rw [decide_eq_false h] at HI
  clear h
  go_enter Tryz.func219, Tryz.ntmps219
  go_wp2_with (go_at_call 217; refine HI.out.mono ?_; rintro e w' ⟨rfl, rfl⟩)
  go_ret2
  exact ⟨rfl, rfl⟩
def isl (S : List (List Int)) (x : Int) : Prop := 0 ≤ x ∧ x < S.length
instance (S : List (List Int)) (x : Int) : Decidable (isl S x) := inferInstanceAs (Decidable (_ ∧ _))
theorem isl_at {S : List (List Int)} {x : Int} (h : isl S x) : ∃ (i : Nat) (l : List Int), x = i ∧ S[i]? = some l := by
  obtain ⟨h0, h1⟩ := h
  have hi : x.toNat < S.length := by omega
  exact ⟨x.toNat, _, by omega, List.getElem?_eq_getElem hi⟩
section
variable {w : World} {k : Nat} {S : List (List Int)}
set_option maxHeartbeats 400000 in
theorem has_any (h : Sq w k S) (x : Int) : Calls Tryz.prog 216 #[.pointer (some ⟨k, 0, none⟩), .int .i64 x] w fun e w' => e = .returned (.bool (decide (isl S x))) ∧ w = w' := by
  obtain ⟨a, b, c, hs, hi⟩ := h
  have c0 := hs.cN
  by_cases h0 : x < 0
  · have hd : decide ((0 : Int) ≤ x) = false := by simpa using h0
    have e : decide (isl S x) = false := decide_eq_false fun h => by have := h.1; omega
    rw [e]
    clear hs hi e
    generalize S.length = n at *
    go_enter Tryz.func216, Tryz.ntmps216
    go_wp2
    go_ret
    exact ⟨rfl, rfl⟩
  · have h1 : 0 ≤ x := by omega
    have e : decide (isl S x) = decide (x < (S.length : Int)) := decide_eq_decide.2 ⟨fun h => h.2, fun h => ⟨h1, h⟩⟩
    rw [e]
    clear hs hi e h0
    generalize S.length = n at *
    go_enter Tryz.func216, Tryz.ntmps216
    go_wp2
    go_ret
    exact ⟨rfl, rfl⟩
theorem inS_vb (h : Sq w k S) {x : Int} (hx : inS S x) : vb x := by
  obtain ⟨i, l, hi, hm⟩ := hx
  exact h.wf.1.lt i l x hi hm
set_option maxHeartbeats 400000 in
theorem holds_any (h : Sq w k S) (x : Int) : Calls Tryz.prog 218 #[.pointer (some ⟨k, 0, none⟩), .int .i64 x] w fun e w' => e = .returned (.bool (dec (inS S x))) ∧ w = w' := by
  have HI := hid (isblock_any w x)
  by_cases hx : vb x
  · obtain ⟨a, b, c, hs, hi⟩ := h
    obtain ⟨p, rfl⟩ : ∃ p : Nat, x = p := ⟨x.toNat, by have := hx.1; omega⟩
    have hp : p < 64 := by have := hx.2; omega
    have c0 := hs.cC hp
    have hz := hi.c_zero hx.1 hx.2
    have hpp : (p : Int) < 64 := hx.2
    have e : (c p != 0) = dec (inS S p) := by
      by_cases hc : c p = 0
      · rw [dec_false (hz.1 hc)]; simpa using hc
      · rw [dec_true (Classical.not_not.1 fun hn => hc (hz.2 hn))]; simpa using hc
    rw [← e]
    rw [decide_eq_true hx] at HI
    clear hs hi hx hz e
    generalize c p = cp at *
    go_enter Tryz.func218, Tryz.ntmps218
    go_wp2_with (go_at_call 217; refine HI.out.mono ?_; rintro e w' ⟨rfl, rfl⟩)
    go_ret
    exact ⟨rfl, rfl⟩
  · rw [dec_false fun hm => hx (inS_vb h hm)]
    rw [decide_eq_false hx] at HI
    clear h hx
    go_enter Tryz.func218, Tryz.ntmps218
    go_wp2_with (go_at_call 217; refine HI.out.mono ?_; rintro e w' ⟨rfl, rfl⟩)
    go_ret
    exact ⟨rfl, rfl⟩
set_option maxHeartbeats 400000 in
theorem refuses_any (h : Sq w k S) (x y : Int) : Calls Tryz.prog 213 #[.pointer (some ⟨k, 0, none⟩), .int .i64 x, .int .i64 y] w fun e w' => e = .returned (.int .i64 (if isl S x ∧ vb y then 0 else 3)) ∧ w = w' := by
  have HI := hid (isblock_any w y)
  have HH := hid (has_any h x)
  clear h
  by_cases hx : isl S x
  · rw [decide_eq_true hx] at HH
    by_cases hy : vb y
    · rw [decide_eq_true hy] at HI
      rw [if_pos ⟨hx, hy⟩]
      clear hx hy
      go_enter Tryz.func213, Tryz.ntmps213
      go_wp2_with (first | (go_at_call 217; refine HI.out.mono ?_; rintro e w' ⟨rfl, rfl⟩) | (go_at_call 216; refine HH.out.mono ?_; rintro e w' ⟨rfl, rfl⟩))
      go_ret
      exact ⟨rfl, rfl⟩
    · rw [decide_eq_false hy] at HI
      rw [if_neg fun hh => hy hh.2]
      clear hx hy
      go_enter Tryz.func213, Tryz.ntmps213
      go_wp2_with (first | (go_at_call 217; refine HI.out.mono ?_; rintro e w' ⟨rfl, rfl⟩) | (go_at_call 216; refine HH.out.mono ?_; rintro e w' ⟨rfl, rfl⟩))
      go_ret
      exact ⟨rfl, rfl⟩
  · rw [decide_eq_false hx] at HH
    rw [if_neg fun hh => hx hh.1]
    clear hx HI
    go_enter Tryz.func213, Tryz.ntmps213
    go_wp2_with (go_at_call 216; refine HH.out.mono ?_; rintro e w' ⟨rfl, rfl⟩)
    go_ret
    exact ⟨rfl, rfl⟩
end
end Go.Proofs.YtbcejfonkehjgaaGreatDoor
namespace Go.Proofs.YtbcejfonkehjgaaGreatDoor
open Go.RowKit

structure Chg (w w' : World) (F G : Nat → Prop) : Prop where
  os : w'.os = w.os
  tape : w'.tape = w.tape
  output : w'.output = w.output
  size : w.heap.size ≤ w'.heap.size
  block : ∀ j, j < w.heap.size → ¬ F j → w'.heap[j]? = w.heap[j]?
  foot : ∀ j, G j → F j ∨ (w.heap.size ≤ j ∧ j < w'.heap.size)
section
variable {w w' w'' : World} {F G H : Nat → Prop}
theorem Chg.refl (w : World) (F : Nat → Prop) : Chg w w F F := ⟨rfl, rfl, rfl, Nat.le_refl _, fun _ _ _ => rfl, fun _ h => .inl h⟩
theorem Chg.trans (h : Chg w w' F G) (k : Chg w' w'' G H) : Chg w w'' F H := by
  refine ⟨k.os.trans h.os, k.tape.trans h.tape, k.output.trans h.output, Nat.le_trans h.size k.size, fun j h1 h2 => (k.block j (Nat.lt_of_lt_of_le h1 h.size) fun hg => ?_).trans (h.block j h1 h2), fun j hj => ?_⟩
  · rcases h.foot j hg with hf | hf
    · exact h2 hf
    · omega
  · rcases k.foot j hj with hg | hg
    · rcases h.foot j hg with hf | hf
      · exact .inl hf
      · right; have := k.size; omega
    · right; have := h.size; omega
theorem Chg.of (h : Below w.heap.size w w') (F : Nat → Prop) : Chg w w' F F := ⟨h.os, h.tape, h.output, h.size, fun j h1 _ => h.block j h1, fun _ h => .inl h⟩
theorem Chg.bel {B : Nat} (h : Chg w w' F G) (hB : B ≤ w.heap.size) (hF : ∀ j, F j → B ≤ j) : Below B w w' := ⟨h.os, h.tape, h.output, h.size, fun j hj => h.block j (by omega) fun hf => by have := hF j hf; omega⟩
theorem Chg.cell (h : Chg w w' F G) {p : Addr} (hp : p.block < w.heap.size) (hf : ¬ F p.block) : w'.cell? p = w.cell? p := World.cell?_of_block (h.block _ hp hf)
theorem Chg.bx (h : Chg w w' F G) {g : Nat} {t : TypeId} {cs : Array Value} (hx : Bx w g t cs) (hf : ¬ F g) : Bx w' g t cs := (h.block g hx.lt hf).trans hx
theorem Chg.rv (h : Chg w w' F G) {A : Option Addr} {us : List Value} (hr : Rv w w.heap.size A us) (hf : ∀ ad, A = some ad → ¬ F ad.block) : Rv w' w'.heap.size A us := fun j u hu => by
  obtain ⟨ad, e, hb, hc⟩ := hr j u hu
  exact ⟨ad, e, Nat.lt_of_lt_of_le hb h.size, (h.cell (p := ad.add j) (by rw [addBlk]; exact hb) (by rw [addBlk]; exact hf ad e)).trans hc⟩
theorem Chg.draws (h : Chg w w' F G) (n : Nat) : Chg w (w'.drewN n) F G := ⟨h.os, h.tape, h.output, h.size, h.block, h.foot⟩
end
end Go.Proofs.YtbcejfonkehjgaaGreatDoor
namespace Go.Proofs.YtbcejfonkehjgaaGreatDoor
open Go.RowKit

theorem chg_set {w w1 : World} {k : Nat} (h : Chg w w1 (· = k) (· = k)) (i : Nat) (v : Value) : Chg w (w1.setCell ⟨k, i, none⟩ v) (· = k) (· = k) :=
  ⟨h.os, h.tape, h.output, by rw [setSize]; exact h.size, fun j h1 h2 => (Below.heap_setCell w1 ⟨k, i, none⟩ v j (fun e => h2 e)).trans (h.block j h1 h2), fun _ e => .inl e⟩
section
variable {w : World} {k : Nat} {S : List (List Int)}
set_option maxHeartbeats 400000 in
theorem unlink_no (h : Sq w k S) (x : Int) (hx : ¬ inS S x) : Calls Tryz.prog 214 #[.pointer (some ⟨k, 0, none⟩), .int .i64 x] w fun e w' => e = .returned (.tuple #[]) ∧ Sq w' k (woS x S) ∧ Chg w w' (· = k) (· = k) := by
  have HH := hid (holds_any h x)
  rw [dec_false hx] at HH
  rw [woS_out hx]
  have H := hid h
  clear h hx
  go_enter Tryz.func214, Tryz.ntmps214
  go_wp2_with (go_at_call 218; refine HH.out.mono ?_; rintro e w' ⟨rfl, rfl⟩)
  exact bodyPost_ret (results_none rfl _ _ _) rfl ⟨rfl, H.out, Chg.refl _ _⟩
set_option maxHeartbeats 1000000 in
theorem unlink_yes (h : Sq w k S) (x : Int) (hx : inS S x) : Calls Tryz.prog 214 #[.pointer (some ⟨k, 0, none⟩), .int .i64 x] w fun e w' => e = .returned (.tuple #[]) ∧ Sq w' k (woS x S) ∧ Chg w w' (· = k) (· = k) := by
  have HH := hid (holds_any h x)
  rw [dec_true hx] at HH
  have hv := inS_vb h hx
  obtain ⟨a, b, c, hs, hi⟩ := h
  obtain ⟨p, rfl⟩ : ∃ p : Nat, x = p := ⟨x.toNat, by have := hv.1; omega⟩
  have hp : p < 64 := by have := hv.2; omega
  obtain ⟨hq, hr, hi2⟩ := hi.unl hx
  have ca := hs.cA (p := p) (by omega)
  have cb := hs.cB (p := p) (by omega)
  obtain ⟨q, eq⟩ : ∃ q : Nat, a p = q := ⟨(a p).toNat, by omega⟩
  obtain ⟨r, er⟩ : ∃ r : Nat, b p = r := ⟨(b p).toNat, by omega⟩
  rw [eq, er] at hi2
  rw [eq] at hq ca
  rw [er] at hr cb
  have hq1 : q < 104 := by omega
  have hr1 : r < 104 := by omega
  have HS := hid hs
  have HI2 := hid hi2
  have h0 : (0 : Int) ≤ (p : Int) := by omega
  have h1 : (p : Int) < 64 := by omega
  have h2 : (p : Int) < 104 := by omega
  obtain ⟨q0, q1⟩ := hq
  obtain ⟨r0, r1⟩ := hr
  have qb := hs.cB hq1
  have ra := hs.cA hr1
  have qc := hs.cC hp
  have fr := Bx.free hs
  clear hi hx hv hs hi2
  go_enter Tryz.func214, Tryz.ntmps214
  go_upto_region 1 with (go_at_call 218; refine HH.out.mono ?_; rintro e w' ⟨rfl, rfl⟩)
  go_quiet (fail)
  go_wp2
  have hne : 105 + q ≠ 1 + r := by omega
  have hne2 : 1 + r ≠ 105 + q := by omega
  go_region
  have HW := hid (((HS.out.draws (nq + 1)).setB hq1 (r : Int)).setA hr1 (q : Int))
  have HC := hid (chg_set (chg_set (Chg.draws (Chg.refl w (· = k)) (nq + 1)) (105 + q) (.int .i64 r)) (1 + r) (.int .i64 q))
  generalize ((w.drewN (nq + 1)).setCell ⟨k, 105 + q, none⟩ (.int .i64 r)).setCell ⟨k, 1 + r, none⟩ (.int .i64 q) = W at *
  have wc := HW.out.cC hp
  have wf := Bx.free HW.out
  clear ca cb qb ra qc fr
  go_wp2
  have HX := HW.out.setC (p := p) 0
  exact bodyPost_end (results_none rfl _ _ _) rfl ⟨rfl, ⟨_, _, _, by rw [woS_len]; exact HX, HI2.out⟩, chg_set HC.out _ _⟩
theorem unlink_any (h : Sq w k S) (x : Int) : Calls Tryz.prog 214 #[.pointer (some ⟨k, 0, none⟩), .int .i64 x] w fun e w' => e = .returned (.tuple #[]) ∧ Sq w' k (woS x S) ∧ Chg w w' (· = k) (· = k) := by
  by_cases hx : inS S x
  · exact unlink_yes h x hx
  · exact unlink_no h x hx
set_option maxHeartbeats 1000000 in
theorem link_any {a b c : Int → Int} (hs : Sb w k S.length a b c) (hi : Inv a b c S) {i x t : Nat} {l l' A B : List Int} (hx : x < 64) (hn : ¬ inS S x) (hl : S[i]? = some l) (h1 : (64 + (i : Int)) :: l = A ++ (t : Int) :: B) (h2 : (64 + (i : Int)) :: l' = A ++ (t : Int) :: (x : Int) :: B) :
    Calls Tryz.prog 215 #[.pointer (some ⟨k, 0, none⟩), .int .i64 i, .int .i64 t, .int .i64 x] w fun e w' => e = .returned (.tuple #[]) ∧ Sq w' k (S.set i l') ∧ Chg w w' (· = k) (· = k) := by
  have hi40 : i < 40 := by have := (List.getElem?_eq_some_iff.1 hl).1; have := hi.sz; omega
  have ht := node_lt hi hl (x := (t : Int)) (by rw [h1]; simp)
  obtain ⟨hr, hi2⟩ := hi.lnk (x := (x : Int)) (by omega) hn hl h1 h2
  have ht1 : t < 104 := by omega
  have tb := hs.cB ht1
  have xa := hs.cA (p := x) (by omega)
  obtain ⟨r, er⟩ : ∃ r : Nat, b t = r := ⟨(b t).toNat, by omega⟩
  rw [er] at hi2 hr tb
  have hr1 : r < 104 := by omega
  have HS := hid hs
  have HI2 := hid hi2
  have HCL := hid (fun w => closing_any w i hi40)
  have x0 : (0 : Int) ≤ (x : Int) := by omega
  have x1 : (x : Int) < 64 := by omega
  have x2 : (x : Int) < 104 := by omega
  obtain ⟨t0, t1⟩ := ht
  obtain ⟨r0, r1⟩ := hr
  have fr := hs.free
  have ne1 : 105 + t ≠ 1 + x := by omega
  have ne2 : 1 + x ≠ 105 + t := by omega
  have ne3 : 105 + x ≠ 1 + r := by omega
  have ne4 : 1 + r ≠ 105 + x := by omega
  clear hi hs hi2 hn hl h1 h2
  go_enter Tryz.func215, Tryz.ntmps215
  go_upto_region 1 with fail
  go_region
  have HW := hid (show Sb (((w.setCell ⟨k, 105 + t, none⟩ (.int .i64 x)).setCell ⟨k, 1 + x, none⟩ (.int .i64 t)).drew) k S.length (upd a x t) (upd b t x) c from ((HS.out.setB ht1 (x : Int)).setA (show x < 104 from by omega) (t : Int)).draws 1)
  have HC := hid (show Chg w (((w.setCell ⟨k, 105 + t, none⟩ (.int .i64 x)).setCell ⟨k, 1 + x, none⟩ (.int .i64 t)).drew) (· = k) (· = k) from Chg.draws (chg_set (chg_set (Chg.refl w (· = k)) (105 + t) (.int .i64 x)) (1 + x) (.int .i64 t)) 1)
  generalize ((w.setCell ⟨k, 105 + t, none⟩ (.int .i64 x)).setCell ⟨k, 1 + x, none⟩ (.int .i64 t)).drew = W at *
  have wb := HW.out.cB (p := x) (by omega)
  have wa := HW.out.cA hr1
  have wf := HW.out.free
  clear tb xa fr
  go_upto_region 2 with fail
  go_region
  have HX := hid (show Sb (((W.setCell ⟨k, 105 + x, none⟩ (.int .i64 r)).setCell ⟨k, 1 + r, none⟩ (.int .i64 x)).drew) k S.length (upd (upd a x t) r x) (upd (upd b t x) x r) c from ((HW.out.setB (show x < 104 from by omega) (r : Int)).setA hr1 (x : Int)).draws 1)
  have HD := hid (show Chg w (((W.setCell ⟨k, 105 + x, none⟩ (.int .i64 r)).setCell ⟨k, 1 + r, none⟩ (.int .i64 x)).drew) (· = k) (· = k) from Chg.draws (chg_set (chg_set HC.out (105 + x) (.int .i64 r)) (1 + r) (.int .i64 x)) 1)
  generalize ((W.setCell ⟨k, 105 + x, none⟩ (.int .i64 r)).setCell ⟨k, 1 + r, none⟩ (.int .i64 x)).drew = V at *
  have vc := HX.out.cC hx
  have vf := HX.out.free
  clear wb wa wf
  go_upto_region 3 with fail
  go_region_with (go_at_call 145; refine (HCL.out _).mono ?_; rintro e w4 ⟨rfl, rfl⟩)
  all_goals
    have HY := (HX.out.setC (p := x) (64 + (i : Int))).draws 1
    exact bodyPost_end (results_none rfl _ _ _) rfl ⟨rfl, ⟨_, _, _, by rw [List.length_set]; exact HY, HI2.out⟩, Chg.draws (chg_set HD.out _ _) 1⟩
end
def okp (S : List (List Int)) (x y : Int) : Prop := isl S x ∧ vb y
instance (S : List (List Int)) (x y : Int) : Decidable (okp S x y) := inferInstanceAs (Decidable (_ ∧ _))
def putE (S : List (List Int)) (x y : Int) : Int := if okp S x y then 0 else 3
def frontS (S : List (List Int)) (x y : Int) : List (List Int) := if okp S x y then (woS y S).set x.toNat (y :: (woS y S).getD x.toNat []) else S
noncomputable def remE (S : List (List Int)) (y : Int) : Int := if vb y then if dec (inS S y) then 0 else 5 else 3
section
variable {w : World} {k : Nat} {S : List (List Int)}
theorem ok_at {x y : Int} (h : okp S x y) : ∃ (i p : Nat) (l : List Int), x = i ∧ y = p ∧ p < 64 ∧ (woS y S)[i]? = some l ∧ (woS y S).getD i [] = l := by
  obtain ⟨hx, hy⟩ := h
  obtain ⟨i, l, rfl, hl⟩ := isl_at hx
  have e : (woS y S)[i]? = some (wo y l) := by unfold woS; rw [List.getElem?_map, hl]; rfl
  exact ⟨i, y.toNat, _, rfl, by have := hy.1; omega, by have := hy.1; have := hy.2; omega, e, by rw [List.getD, e]; rfl⟩
set_option maxHeartbeats 400000 in
theorem front_any (h : Sq w k S) (x y : Int) : Calls Tryz.prog 207 #[.pointer (some ⟨k, 0, none⟩), .int .i64 x, .int .i64 y] w fun e w' => e = .returned (.int .i64 (putE S x y)) ∧ Sq w' k (frontS S x y) ∧ Chg w w' (· = k) (· = k) := by
  have HR := hid (refuses_any h x y)
  have e0 : (if isl S x ∧ vb y then (0 : Int) else 3) = putE S x y := rfl
  rw [e0] at HR
  clear e0
  by_cases ho : okp S x y
  · have e1 : putE S x y = 0 := if_pos ho
    have e2 : frontS S x y = (woS y S).set x.toNat (y :: (woS y S).getD x.toNat []) := if_pos ho
    obtain ⟨i, p, l, rfl, rfl, hp, hl, hd⟩ := ok_at ho
    rw [Int.toNat_natCast, hd] at e2
    rw [e1] at HR ⊢
    rw [e2]
    have HU := hid (unlink_any h p)
    have hi40 : i < 40 := by have := ho.1.2; have := h.wf.2.2; omega
    have HCL := hid (fun w => closing_any w i hi40)
    have HL := hid hl
    clear h ho e1 e2 hd hl
    go_enter Tryz.func207, Tryz.ntmps207
    go_upto_region 5 with (first | (go_at_call 213; refine HR.out.mono ?_; rintro e w' ⟨rfl, rfl⟩) | (go_at_call 214; refine HU.out.mono ?_; rintro e w2 ⟨rfl, ⟨a, b, c, hs, hi⟩, hc⟩; have HLK := hid (link_any hs hi (x := p) (t := 64 + i) (A := []) (B := l) (l' := p :: l) hp (woS_not _ _) HL.out (by simp) (by simp)); have HC := hid hc; clear hs hi hc))
    go_wp2_with (first | (go_at_call 145; refine (HCL.out _).mono ?_; rintro e w4 ⟨rfl, rfl⟩) | (go_at_call 215; refine HLK.out.mono ?_; rintro e w5 ⟨rfl, hq, hc2⟩; have HQ := hid hq; have HC2 := hid hc2; clear hq hc2))
    go_ret
    exact ⟨rfl, HQ.out, HC.out.trans HC2.out⟩
  · have e1 : putE S x y = 3 := if_neg ho
    have e2 : frontS S x y = S := if_neg ho
    rw [e1] at HR ⊢
    rw [e2]
    have H := hid h
    clear h ho e1 e2
    go_enter Tryz.func207, Tryz.ntmps207
    go_wp2_with (go_at_call 213; refine HR.out.mono ?_; rintro e w' ⟨rfl, rfl⟩)
    go_ret
    exact ⟨rfl, H.out, Chg.refl _ _⟩















































set_option maxHeartbeats 400000 in
theorem remove_any (h : Sq w k S) (y : Int) : Calls Tryz.prog 209 #[.pointer (some ⟨k, 0, none⟩), .int .i64 y] w fun e w' => e = .returned (.int .i64 (remE S y)) ∧ Sq w' k (woS y S) ∧ Chg w w' (· = k) (· = k) := by
  have HI := hid (isblock_any w y)
  have HH := hid (holds_any h y)
  have HU := hid (unlink_any h y)
  by_cases hy : vb y
  · rw [decide_eq_true hy] at HI
    by_cases hin : inS S y
    · rw [dec_true hin] at HH
      have e1 : remE S y = 0 := by unfold remE; rw [if_pos hy, dec_true hin]; rfl
      rw [e1]
      clear h hy hin e1
      go_enter Tryz.func209, Tryz.ntmps209
      go_wp2_with (first | (go_at_call 217; refine HI.out.mono ?_; rintro e w' ⟨rfl, rfl⟩) | (go_at_call 218; refine HH.out.mono ?_; rintro e w' ⟨rfl, rfl⟩) | (go_at_call 214; refine HU.out.mono ?_; rintro e w2 ⟨rfl, hq, hc⟩; have HQ := hid hq; have HC := hid hc; clear hq hc))
      go_ret
      exact ⟨rfl, HQ.out, HC.out⟩
    · rw [dec_false hin] at HH
      have e1 : remE S y = 5 := by unfold remE; rw [if_pos hy, dec_false hin]; rfl
      rw [e1, woS_out hin]
      have H := hid h
      clear h hy hin e1 HU
      go_enter Tryz.func209, Tryz.ntmps209
      go_wp2_with (first | (go_at_call 217; refine HI.out.mono ?_; rintro e w' ⟨rfl, rfl⟩) | (go_at_call 218; refine HH.out.mono ?_; rintro e w' ⟨rfl, rfl⟩))
      go_ret
      exact ⟨rfl, H.out, Chg.refl _ _⟩
  · rw [decide_eq_false hy] at HI
    have e1 : remE S y = 3 := if_neg hy
    rw [e1, woS_out fun hm => hy (inS_vb h hm)]
    have H := hid h
    clear h hy e1 HU HH
    go_enter Tryz.func209, Tryz.ntmps209
    go_wp2_with (go_at_call 217; refine HI.out.mono ?_; rintro e w' ⟨rfl, rfl⟩)
    go_ret
    exact ⟨rfl, H.out, Chg.refl _ _⟩
end
end Go.Proofs.YtbcejfonkehjgaaGreatDoor
namespace Go.Proofs.YtbcejfonkehjgaaGreatDoor
open Go.RowKit

theorem infoInt : (Tryz.prog.info? 3).map (fun i => (i.zero, i.size, i.bytes)) = some (some (.int .i64 0), 1, 8) := by kernel_rfl
theorem elt_int : Elt Tryz.prog 48 3 (.int .i64 0) 1 8 := ⟨Tryz.underlying48, infoInt, rfl, by decide⟩
end Go.Proofs.YtbcejfonkehjgaaGreatDoor
