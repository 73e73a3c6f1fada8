/-
  What is proved: small facts on memory that the walks below lean on: a list of bytes that is read at an address, kept over draws, new blocks and whatever leaves old blocks alone. No condition on a program.
-/
import Derived.Test.YtbcejfonkehjgaaGreatDoorK02
import Derived.WalkKit
import Derived.Deep.AppendLies
import Derived.Deep.Draws
import Derived.Maps.AppendAt
import Derived.Test.YtbcejfonkehjgaaGreatDoorK09
import Derived.Deep.RegionWith
namespace Go.Proofs.YtbcejfonkehjgaaGreatDoor
open Go.RowKit

def Rd (w : World) (B : Nat) (A : Option Addr) (l : List Int) : Prop :=
  ∀ j x, l[j]? = some x → ∃ ad, A = some ad ∧ ad.block < B ∧ w.cell? (ad.add j) = some (.int .u8 x)

theorem addBlock (a : Addr) (n : Nat) : (a.add n).block = a.block := by unfold Addr.add; split <;> rfl
theorem addAdd (a : Addr) (i j : Nat) : (a.add i).add j = a.add (i + j) := by
  unfold Addr.add
  by_cases hi : i = 0 <;> by_cases hj : j = 0 <;> simp [hi, hj, Nat.add_assoc]

section
variable {w w' : World} {B C : Nat} {A : Option Addr} {l : List Int}
theorem Rd.nil (w : World) (B : Nat) (A : Option Addr) : Rd w B A [] := fun j x h => by simp at h
theorem Rd.get (h : Rd w B A l) {k : Nat} (hk : k < l.length) : ∃ ad, A = some ad ∧ ad.block < B ∧ w.cell? (ad.add k) = some (.int .u8 (l[k]'hk)) :=
  h k _ (List.getElem?_eq_getElem hk)
theorem Rd.keep (h : Rd w B A l) (hk : ∀ p : Addr, p.block < B → w'.cell? p = w.cell? p) : Rd w' B A l := fun j x hx => by
  obtain ⟨ad, e, hb, hc⟩ := h j x hx
  exact ⟨ad, e, hb, (hk _ (by rw [addBlock]; exact hb)).trans hc⟩
theorem Rd.more (h : Rd w B A l) (hB : B ≤ C) : Rd w C A l := fun j x hx => by
  obtain ⟨ad, e, hb, hc⟩ := h j x hx
  exact ⟨ad, e, by omega, hc⟩
theorem Rd.below (h : Rd w B A l) (hb : Below C w w') (hB : B ≤ C) : Rd w' B A l := h.keep fun _ hp => hb.cell (Nat.lt_of_lt_of_le hp hB)
theorem Rd.drewN (h : Rd w B A l) (k : Nat) : Rd (w.drewN k) B A l := h
theorem Rd.alloc (h : Rd w B A l) (hB : B ≤ w.heap.size) (o : Obj) : Rd (w.alloc o) B A l := h.keep fun p hp => World.cell?_alloc_lt w o p (by omega)
theorem Rd.cut (h : Rd w B A l) (i n : Nat) (A' : Option Addr) (hA : n ≠ 0 → A' = A.map (·.add i)) : Rd w B A' ((l.drop i).take n) := fun j x hx => by
  have hj : j < n := by
    rcases Nat.lt_or_ge j n with hj | hj
    · exact hj
    · rw [List.getElem?_eq_none (by rw [List.length_take]; omega)] at hx
      cases hx
  rw [List.getElem?_take, if_pos hj, List.getElem?_drop] at hx
  obtain ⟨ad, e, hb, hc⟩ := h _ x hx
  subst e
  refine ⟨ad.add i, by rw [hA (by omega)]; rfl, by rw [addBlock]; exact hb, ?_⟩
  rw [addAdd]
  exact hc
end

theorem Rd.front {w : World} {B : Nat} {A : Option Addr} {l t r : List Int} (h : Rd w B A l) (e : l = t ++ r) : Rd w B A t := fun j x hx => by
  refine h j x ?_
  rw [e, List.getElem?_append_left]
  · exact hx
  · rcases Nat.lt_or_ge j t.length with hj | hj
    · exact hj
    · rw [List.getElem?_eq_none hj] at hx; cases hx
def bytes (l : List Int) : List Value := l.map (Value.int .u8)
theorem bytes_length (l : List Int) : (bytes l).length = l.length := List.length_map _
theorem bytes_one (l : List Int) : ∀ u ∈ bytes l, u.oneCell' = true := ints_oneCell .u8 l

def Own (w : World) (b : Nat) (v : Value) (l : List Int) : Prop := w.ownsRow b 5 1 v l.length (bytes l)

section
variable {w w' : World} {b : Nat} {v : Value} {l : List Int}
theorem Own.shape (h : Own w b v l) : ∃ A c, v = .slice A l.length c ∧ Rd w w.heap.size A l ∧ l.length ≤ c ∧ c ≤ maxLen := by
  rcases h.2 with ⟨hv, h0⟩ | ⟨g, cap, cur, hv, hb, hh, hnc, hm, hs, ht⟩
  · have hl : l = [] := List.eq_nil_of_length_eq_zero h0
    subst hl
    exact ⟨none, 0, hv, Rd.nil _ _ _, Nat.le_refl _, by unfold maxLen; omega⟩
  · subst hv
    refine ⟨_, cap, rfl, ?_, hnc, hm⟩
    intro j x hx
    have hg : g < w.heap.size := (World.ownsRow.lt h g rfl).2
    exact ⟨_, rfl, hg, World.ownsRow.cells h (g := g) rfl j _ (by simp [bytes, hx])⟩
theorem Own.below (h : Own w b v l) (hb : Below w.heap.size w w') : Own w' b v l :=
  World.ownsRow.kept (row := none) h ⟨hb.os, hb.tape, hb.output, hb.size, fun k hk _ => hb.block k hk⟩ (by
    cases v.ownBlock with
    | none => exact .inl rfl
    | some k => exact .inr (by simp))
theorem Own.drewN (h : Own w b v l) (k : Nat) : Own (w.drewN k) b v l := h
theorem Own.alloc (h : Own w b v l) (o : Obj) : Own (w.alloc o) b v l := World.ownsRow.alloc h o
end
def Rn (w : World) (A : Option Addr) (l : List Int) : Prop := Rd w w.heap.size A l
section
variable {w w' : World} {A : Option Addr} {l : List Int}
theorem Rn.front {t r : List Int} (h : Rn w A l) (e : l = t ++ r) : Rn w A t := Rd.front h e
theorem Rn.now (h : Rn w A l) (hb : Below w.heap.size w w') : Rn w' A l := (Rd.below h hb (Nat.le_refl _)).more hb.size
theorem Rn.drewN (h : Rn w A l) (k : Nat) : Rn (w.drewN k) A l := h
theorem Rn.alloc (h : Rn w A l) (o : Obj) : Rn (w.alloc o) A l := h.now ((Below.refl w.heap.size w).alloc (Nat.le_refl _) o)
theorem Own.read {b : Nat} {v : Value} (h : Own w b v l) : ∃ A c, v = .slice A l.length c ∧ Rn w A l := by
  obtain ⟨A, c, e, hr, _⟩ := h.shape
  exact ⟨A, c, e, hr⟩
end
theorem below_drewN {B : Nat} {a w : World} (h : Below B a w) (n : Nat) : Below B a (w.drewN n) := ⟨h.os, h.tape, h.output, h.size, h.block⟩

end Go.Proofs.YtbcejfonkehjgaaGreatDoor
namespace Go.Proofs.YtbcejfonkehjgaaGreatDoor
open Go.RowKit

def plain (x : Int) : Prop := 0 ≤ x ∧ x ≤ 2147483647
instance (x : Int) : Decidable (plain x) := inferInstanceAs (Decidable (_ ∧ _))
def okF (t b : Int) : Prop := plain t ∧ plain b ∧ 0 < b
instance (t b : Int) : Decidable (okF t b) := inferInstanceAs (Decidable (_ ∧ _))

def two (w : World) (t : TypeId) (a b c d : Value) : World := (w.alloc (.cells #[a, b] t)).alloc (.cells #[c, d] t)
theorem two_below (w : World) (t : TypeId) (a b c d : Value) : Below w.heap.size w (two w t a b c d) :=
  ((Below.refl w.heap.size w).alloc (Nat.le_refl _) _).alloc (by rw [World.size_alloc]; omega) _
theorem wright_any (w : World) (t b : Int) :
    Calls Tryz.prog 164 #[.agg #[.int .i64 t, .int .i64 b]] w fun e w' => e = .returned (.bool (decide (okF t b))) ∧ Below w.heap.size w w' := by
  have hbel := fun o => (Below.refl w.heap.size w).alloc (Nat.le_refl _) o
  by_cases ht : 0 ≤ t ∧ t ≤ 2147483647
  · by_cases hb : 0 ≤ b ∧ b ≤ 2147483647
    · by_cases h0 : b > 0
      · go_enter Tryz.func164, Tryz.ntmps164
        go_wp2_with fail
        refine (factor_any _ t).mono ?_
        rintro e w1 ⟨rfl, rfl⟩
        rw [decide_eq_true ht]
        go_wp2_with fail
        refine (factor_any _ b).mono ?_
        rintro e w1 ⟨rfl, rfl⟩
        rw [decide_eq_true hb]
        go_wp2
        go_ret
        exact ⟨(decide_eq_true (show okF t b from ⟨ht, hb, h0⟩)).symm ▸ rfl, hbel _⟩
      · have hd : decide (b > 0) = false := decide_eq_false h0
        go_enter Tryz.func164, Tryz.ntmps164
        go_wp2_with fail
        refine (factor_any _ t).mono ?_
        rintro e w1 ⟨rfl, rfl⟩
        rw [decide_eq_true ht]
        go_wp2_with fail
        refine (factor_any _ b).mono ?_
        rintro e w1 ⟨rfl, rfl⟩
        rw [decide_eq_true hb]
        go_wp2
        go_ret
        exact ⟨(decide_eq_false (show ¬ okF t b from fun h => absurd h.2.2 (by omega))).symm ▸ rfl, hbel _⟩
    · go_enter Tryz.func164, Tryz.ntmps164
      go_wp2_with fail
      refine (factor_any _ t).mono ?_
      rintro e w1 ⟨rfl, rfl⟩
      rw [decide_eq_true ht]
      go_wp2_with fail
      refine (factor_any _ b).mono ?_
      rintro e w1 ⟨rfl, rfl⟩
      rw [decide_eq_false hb]
      go_wp2
      go_ret
      exact ⟨(decide_eq_false (show ¬ okF t b from fun h => hb h.2.1)).symm ▸ rfl, hbel _⟩
  · go_enter Tryz.func164, Tryz.ntmps164
    go_wp2_with fail
    refine (factor_any _ t).mono ?_
    rintro e w1 ⟨rfl, rfl⟩
    rw [decide_eq_false ht]
    go_wp2
    go_ret
    exact ⟨(decide_eq_false (show ¬ okF t b from fun h => ht h.1)).symm ▸ rfl, hbel _⟩

def cmpI (x y : Nat) : Int := if x < y then -1 else if y < x then 1 else 0

theorem cmpcmp_any (w : World) (x y : Nat) :
    Calls Tryz.prog 126 #[.int .i64 x, .int .i64 y] w fun e w' => e = .returned (.int .i64 (cmpI x y)) ∧ w' = w := by
  have hn : ∀ (w : World) (z : Int), Calls Tryz.prog 154 #[.int .i64 z] w fun e w' => e = .returned (.bool false) ∧ w' = w := by
    intro w z
    go_enter Tryz.func154, Tryz.ntmps154
    go_wp2
    go_ret
    exact ⟨rfl, rfl⟩
  unfold cmpI
  by_cases h : x < y
  · rw [if_pos h]
    have h' : (x : Int) < (y : Int) := by omega
    go_enter Tryz.func126, Tryz.ntmps126
    go_wp2_with fail
    refine (hn _ _).mono ?_
    rintro e w1 ⟨rfl, rfl⟩
    go_wp2_with fail
    refine (hn _ _).mono ?_
    rintro e w1 ⟨rfl, rfl⟩
    go_wp2
    go_ret
    exact ⟨rfl, rfl⟩
  · rw [if_neg h]
    have h' : ¬ (x : Int) < (y : Int) := by omega
    by_cases g : y < x
    · rw [if_pos g]
      have g' : (x : Int) > (y : Int) := by omega
      go_enter Tryz.func126, Tryz.ntmps126
      go_wp2_with fail
      refine (hn _ _).mono ?_
      rintro e w1 ⟨rfl, rfl⟩
      go_wp2_with fail
      refine (hn _ _).mono ?_
      rintro e w1 ⟨rfl, rfl⟩
      go_wp2
      go_ret
      exact ⟨rfl, rfl⟩
    · rw [if_neg g]
      have g' : ¬ (x : Int) > (y : Int) := by omega
      go_enter Tryz.func126, Tryz.ntmps126
      go_wp2_with fail
      refine (hn _ _).mono ?_
      rintro e w1 ⟨rfl, rfl⟩
      go_wp2_with fail
      refine (hn _ _).mono ?_
      rintro e w1 ⟨rfl, rfl⟩
      go_wp2
      go_ret
      exact ⟨rfl, rfl⟩

theorem lcompare_any (w : World) (t b s c : Nat) (ht : t ≤ 2147483647) (hb : b ≤ 2147483647) (hs : s ≤ 2147483647) (hc : c ≤ 2147483647) :
    Calls Tryz.prog 167 #[.agg #[.int .i64 t, .int .i64 b], .agg #[.int .i64 s, .int .i64 c]] w fun e w' => e = .returned (.int .i64 (cmpI (t * c) (s * b))) ∧ Below w.heap.size w w' := by
  go_enter Tryz.func167, Tryz.ntmps167
  go_wp2_with fail
  refine (mul_yes _ t c ht hc).mono ?_
  rintro e w1 ⟨rfl, rfl⟩
  go_wp2_with fail
  refine (mul_yes _ s b hs hb).mono ?_
  rintro e w1 ⟨rfl, rfl⟩
  go_wp2_with fail
  refine (cmpcmp_any _ (t * c) (s * b)).mono ?_
  rintro e w1 ⟨rfl, rfl⟩
  go_wp2
  go_ret
  exact ⟨rfl, two_below _ _ _ _ _ _⟩

























































end Go.Proofs.YtbcejfonkehjgaaGreatDoor
namespace Go.Proofs.YtbcejfonkehjgaaGreatDoor
open Go.RowKit

end Go.Proofs.YtbcejfonkehjgaaGreatDoor
namespace Go.Proofs.YtbcejfonkehjgaaGreatDoor
open Go.RowKit



























































































end Go.Proofs.YtbcejfonkehjgaaGreatDoor
