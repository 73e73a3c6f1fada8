/-
  What is proved: wide's Parts answers the three parts of two words' product, or an error; Mul answers the product of two numbers that it takes, or an error. No condition.
-/
import Derived.Test.YtmfdlkkligjcbaaGreatJ11
import Derived.Test.YtmfdlkkligjcbaaGreatJ02
import Derived.WalkKit
import Derived.Deep.AppendLies
import Derived.Deep.Draws
import Derived.Maps.AppendAt
import Derived.Deep.RegionWith
namespace Go.Proofs.YtmfdlkkligjcbaaGreat
open Go.RowKit

theorem mul_lt (a b : Nat) (ha : a < 65536) (hb : b < 65536) : a * b < 4294967296 := by
  have := Nat.mul_le_mul (show a ≤ 65535 by omega) (show b ≤ 65535 by omega)
  omega

theorem small_prod (a b : Nat) (ha : a < 65536) (hb : b < 65536) : ((a : Int) * (b : Int)).natAbs < 2 ^ 52 := by
  rw [Int.natAbs_mul, Int.natAbs_natCast, Int.natAbs_natCast]
  have := mul_lt a b ha hb
  simp only [Nat.reducePow]
  omega

set_option maxHeartbeats 400000 in
theorem parts_of (w : World) (x y a b c d p1 p2 p3 p4 : Nat) (hx : x ≤ 4294967295) (hy : y ≤ 4294967295)
    (hae : x / 65536 = a) (hbe : x % 65536 = b) (hce : y / 65536 = c) (hde : y % 65536 = d) (hp1 : a * c = p1) (hp2 : b * d = p2) (hp3 : a * d = p3) (hp4 : b * c = p4) :
    Calls Tryz.prog 105 #[.int .i64 x, .int .i64 y] w fun e w' =>
      e = .returned (.tuple #[.int .i64 (p1 : Nat), .int .i64 (p3 + p4 : Nat), .int .i64 (p2 : Nat), .int .i64 0]) ∧ w' = w := by
  go_enter Tryz.func105, Tryz.ntmps105
  go_wp2_with fail
  refine (point_yes w x hx).mono ?_
  rintro e w1 ⟨⟨x1, x2, rfl, t1, t2⟩, rfl⟩
  go_wp2_with fail
  refine (point_yes w1 y hy).mono ?_
  rintro e w1 ⟨⟨y1, y2, rfl, u1, u2⟩, rfl⟩
  have ha : a < 65536 := by omega
  have hb : b < 65536 := by omega
  have hc : c < 65536 := by omega
  have hd : d < 65536 := by omega
  rw [hae] at t1
  rw [hbe] at t2
  rw [hce] at u1
  rw [hde] at u2
  have s1 := small_prod a c ha hc
  have s2 := small_prod b d hb hd
  have s3 := small_prod a d ha hd
  have s4 := small_prod b c hb hc
  have s5 : ((b : Int) * -(d : Int)).natAbs < 2 ^ 52 := by rw [Int.mul_neg, Int.natAbs_neg]; exact s2
  have s6 : ((a : Int) * -(d : Int)).natAbs < 2 ^ 52 := by rw [Int.mul_neg, Int.natAbs_neg]; exact s3
  have m1 := mul_lt a c ha hc
  have m2 := mul_lt b d hb hd
  have m3 := mul_lt a d ha hd
  have m4 := mul_lt b c hb hc
  obtain ⟨re, im, e1, v1, v2⟩ := t1.cmul t2 u1 u2 s1 s2 s3 s4
  obtain ⟨re', im', e2, v3, v4⟩ := t1.cmul t2 u1 u2.neg s1 s5 s6 s4
  rw [Int.mul_neg, Int.sub_neg] at v3
  simp only [← Int.natCast_mul, ← Int.natCast_add, hp1, hp2, hp3, hp4] at v1 v2 v3 m1 m2 m3 m4
  have c1 := v1.int (by omega) (by omega)
  have c2 := v2.int (by omega) (by omega)
  have c3 := v3.int (by omega) (by omega)
  have o1 := fun t w => run_complex_mul (P := Tryz.prog) w t _ _ _ _ _ _ e1
  have o2 := fun t w => run_complex_mul (P := Tryz.prog) w t _ _ _ _ _ _ e2
  have o3 : ∀ w, (convert 184 3 (.float .f64 re)).run Tryz.prog w = .ok (.int .i64 ((p1 : Int) - (p2 : Int))) w := fun w => run_convert_float_int w _ _ .f64 .i64 _ _ (by rw [Tryz.underlying184]; rfl) Tryz.underlying3 c1
  have o4 : ∀ w, (convert 184 3 (.float .f64 im)).run Tryz.prog w = .ok (.int .i64 ((p3 + p4 : Nat) : Int)) w := fun w => run_convert_float_int w _ _ .f64 .i64 _ _ (by rw [Tryz.underlying184]; rfl) Tryz.underlying3 c2
  have o5 : ∀ w, (convert 184 3 (.float .f64 re')).run Tryz.prog w = .ok (.int .i64 ((p1 + p2 : Nat) : Int)) w := fun w => run_convert_float_int w _ _ .f64 .i64 _ _ (by rw [Tryz.underlying184]; rfl) Tryz.underlying3 c3
  clear t1 t2 u1 u2 v1 v2 v3 v4 e1 e2 c1 c2 c3 s1 s2 s3 s4 s5 s6 hp1 hp2 hp3 hp4 hae hbe hce hde ha hb hc hd
  go_wp2_with fail
  refine (mirror_any w1 y1 y2).mono ?_
  rintro e w1 ⟨rfl, rfl⟩
  go_wp2_with fail
  (try simp only [Exit.inBlock, Exit.then])
  refine bodyPost_ret (results_tmp4 rfl _ _ _) rfl ?_
  refine ⟨?_, rfl⟩
  have q1 : ((p1 : Int) + p2 + (p1 - p2)) / 2 = p1 := by omega
  have q2 : ((p1 : Int) + p2 - (p1 - p2)) / 2 = p2 := by omega
  simp only [Array.getD_eq_getD_getElem?, List.getElem?_toArray, List.getElem?_cons_succ, List.getElem?_cons_zero, Option.getD_some, q1, q2, Int.natCast_add]

theorem parts_yes (w : World) (x y : Nat) (hx : x ≤ 4294967295) (hy : y ≤ 4294967295) :
    Calls Tryz.prog 105 #[.int .i64 x, .int .i64 y] w fun e w' =>
      e = .returned (.tuple #[.int .i64 (x / 65536 * (y / 65536) : Nat), .int .i64 (x / 65536 * (y % 65536) + x % 65536 * (y / 65536) : Nat), .int .i64 (x % 65536 * (y % 65536) : Nat), .int .i64 0]) ∧ w' = w :=
  parts_of w x y _ _ _ _ _ _ _ _ hx hy rfl rfl rfl rfl rfl rfl rfl rfl

theorem factor_any (w : World) (x : Int) :
    Calls Tryz.prog 99 #[.int .i64 x] w fun e w' => e = .returned (.bool (decide (0 ≤ x ∧ x ≤ 2147483647))) ∧ w' = w := by
  by_cases h : 0 ≤ x ∧ x ≤ 2147483647
  · obtain ⟨h0, h1⟩ := h
    go_enter Tryz.func99, Tryz.ntmps99
    go_wp2
    go_ret
    exact ⟨(decide_eq_true (And.intro h0 h1)).symm ▸ rfl, rfl⟩
  · rcases (show x < 0 ∨ (0 ≤ x ∧ x > 2147483647) by omega) with h0 | ⟨h0, h1⟩
    · go_enter Tryz.func99, Tryz.ntmps99
      go_wp2
      go_ret
      exact ⟨(decide_eq_false h).symm ▸ rfl, rfl⟩
    · go_enter Tryz.func99, Tryz.ntmps99
      go_wp2
      go_ret
      exact ⟨(decide_eq_false h).symm ▸ congrArg (fun b => Ending.returned (.bool b)) (decide_eq_false (show ¬ x ≤ 2147483647 by omega)), rfl⟩

theorem whole (x y : Nat) : x / 65536 * (y / 65536) * 4294967296 + (x / 65536 * (y % 65536) + x % 65536 * (y / 65536)) * 65536 + x % 65536 * (y % 65536) = x * y := by
  have e1 : x = 65536 * (x / 65536) + x % 65536 := by omega
  have e2 : y = 65536 * (y / 65536) + y % 65536 := by omega
  generalize x / 65536 = a at *
  generalize x % 65536 = b at *
  generalize y / 65536 = c at *
  generalize y % 65536 = d at *
  subst e1 e2
  simp only [Nat.add_mul, Nat.mul_add, Nat.mul_assoc, Nat.mul_comm, Nat.mul_left_comm, Nat.reduceMul]
  omega

theorem mul_yes (w : World) (x y : Nat) (hx : x ≤ 2147483647) (hy : y ≤ 2147483647) :
    Calls Tryz.prog 101 #[.int .i64 x, .int .i64 y] w fun e w' => e = .returned (.tuple #[.int .i64 (x * y : Nat), .int .i64 0]) ∧ w' = w := by
  have h0 : (0 : Int) ≤ (x : Int) ∧ (x : Int) ≤ 2147483647 := by omega
  have h1 : (0 : Int) ≤ (y : Int) ∧ (y : Int) ≤ 2147483647 := by omega
  have hw := whole x y
  have hb : x * y ≤ 4611686014132420609 := Nat.mul_le_mul hx hy
  go_enter Tryz.func101, Tryz.ntmps101
  go_wp2_with fail
  refine (factor_any w x).mono ?_
  rintro e w1 ⟨rfl, rfl⟩
  rw [decide_eq_true h0]
  go_wp2_with fail
  refine (factor_any w1 y).mono ?_
  rintro e w1 ⟨rfl, rfl⟩
  rw [decide_eq_true h1]
  go_wp2_with fail
  refine (parts_yes w1 x y (by omega) (by omega)).mono ?_
  rintro e w1 ⟨rfl, rfl⟩
  generalize x / 65536 * (y / 65536) = p1 at *
  generalize x / 65536 * (y % 65536) + x % 65536 * (y / 65536) = p2 at *
  generalize x % 65536 * (y % 65536) = p3 at *
  go_wp2_with fail
  go_ret2
  refine ⟨?_, rfl⟩
  show Ending.returned (.tuple #[.int .i64 ((p1 : Int) * 4294967296 + p2 * 65536 + p3), .int .i64 0]) = _
  rw [← hw]
  rfl
end Go.Proofs.YtmfdlkkligjcbaaGreat
namespace Go.Proofs.YtmfdlkkligjcbaaGreat
open Go.RowKit

/-- the bytes l are read from address A on, below block B: whatever place there is below l's length has its byte -/
def Rd (w : World) (B : Nat) (A : Option Addr) (l : List Int) : Prop :=
  ∀ j x, l[j]? = some x → ∃ ad, A = some ad ∧ ad.block < B ∧ w.cell? (ad.add j) = some (.int .u8 x)

theorem addBlock (a : Addr) (n : Nat) : (a.add n).block = a.block := by unfold Addr.add; split <;> rfl
theorem addAdd (a : Addr) (i j : Nat) : (a.add i).add j = a.add (i + j) := by
  unfold Addr.add
  by_cases hi : i = 0 <;> by_cases hj : j = 0 <;> simp [hi, hj, Nat.add_assoc]

section
variable {w w' : World} {B C : Nat} {A : Option Addr} {l : List Int}
theorem Rd.nil (w : World) (B : Nat) (A : Option Addr) : Rd w B A [] := fun j x h => by simp at h
theorem Rd.get (h : Rd w B A l) {k : Nat} (hk : k < l.length) : ∃ ad, A = some ad ∧ ad.block < B ∧ w.cell? (ad.add k) = some (.int .u8 (l[k]'hk)) :=
  h k _ (List.getElem?_eq_getElem hk)
theorem Rd.keep (h : Rd w B A l) (hk : ∀ p : Addr, p.block < B → w'.cell? p = w.cell? p) : Rd w' B A l := fun j x hx => by
  obtain ⟨ad, e, hb, hc⟩ := h j x hx
  exact ⟨ad, e, hb, (hk _ (by rw [addBlock]; exact hb)).trans hc⟩
theorem Rd.more (h : Rd w B A l) (hB : B ≤ C) : Rd w C A l := fun j x hx => by
  obtain ⟨ad, e, hb, hc⟩ := h j x hx
  exact ⟨ad, e, by omega, hc⟩
theorem Rd.below (h : Rd w B A l) (hb : Below C w w') (hB : B ≤ C) : Rd w' B A l := h.keep fun _ hp => hb.cell (Nat.lt_of_lt_of_le hp hB)
theorem Rd.drewN (h : Rd w B A l) (k : Nat) : Rd (w.drewN k) B A l := h
theorem Rd.alloc (h : Rd w B A l) (hB : B ≤ w.heap.size) (o : Obj) : Rd (w.alloc o) B A l := h.keep fun p hp => World.cell?_alloc_lt w o p (by omega)
theorem Rd.cut (h : Rd w B A l) (i n : Nat) (A' : Option Addr) (hA : n ≠ 0 → A' = A.map (·.add i)) : Rd w B A' ((l.drop i).take n) := fun j x hx => by
  have hj : j < n := by
    rcases Nat.lt_or_ge j n with hj | hj
    · exact hj
    · rw [List.getElem?_eq_none (by rw [List.length_take]; omega)] at hx
      cases hx
  rw [List.getElem?_take, if_pos hj, List.getElem?_drop] at hx
  obtain ⟨ad, e, hb, hc⟩ := h _ x hx
  subst e
  refine ⟨ad.add i, by rw [hA (by omega)]; rfl, by rw [addBlock]; exact hb, ?_⟩
  rw [addAdd]
  exact hc
end

theorem Rd.front {w : World} {B : Nat} {A : Option Addr} {l t r : List Int} (h : Rd w B A l) (e : l = t ++ r) : Rd w B A t := fun j x hx => by
  refine h j x ?_
  rw [e, List.getElem?_append_left]
  · exact hx
  · rcases Nat.lt_or_ge j t.length with hj | hj
    · exact hj
    · rw [List.getElem?_eq_none hj] at hx; cases hx
/-- a row of bytes of the call's own, as values -/
def bytes (l : List Int) : List Value := l.map (Value.int .u8)
theorem bytes_one (l : List Int) : ∀ u ∈ bytes l, u.oneCell' = true := ints_oneCell .u8 l

/-- the slice of n bytes at A with room c is a row of the call's own, from block b on, that holds l -/
def Own (w : World) (b : Nat) (v : Value) (l : List Int) : Prop := w.ownsRow b 5 1 v l.length (bytes l)

section
variable {w w' : World} {b : Nat} {v : Value} {l : List Int}
theorem Own.shape (h : Own w b v l) : ∃ A c, v = .slice A l.length c ∧ Rd w w.heap.size A l ∧ l.length ≤ c ∧ c ≤ maxLen := by
  rcases h.2 with ⟨hv, h0⟩ | ⟨g, cap, cur, hv, hb, hh, hnc, hm, hs, ht⟩
  · have hl : l = [] := List.eq_nil_of_length_eq_zero h0
    subst hl
    exact ⟨none, 0, hv, Rd.nil _ _ _, Nat.le_refl _, by unfold maxLen; omega⟩
  · subst hv
    refine ⟨_, cap, rfl, ?_, hnc, hm⟩
    intro j x hx
    have hg : g < w.heap.size := (World.ownsRow.lt h g rfl).2
    exact ⟨_, rfl, hg, World.ownsRow.cells h (g := g) rfl j _ (by simp [bytes, hx])⟩
theorem Own.below (h : Own w b v l) (hb : Below w.heap.size w w') : Own w' b v l :=
  World.ownsRow.kept (row := none) h ⟨hb.os, hb.tape, hb.output, hb.size, fun k hk _ => hb.block k hk⟩ (by
    cases v.ownBlock with
    | none => exact .inl rfl
    | some k => exact .inr (by simp))
theorem Own.drewN (h : Own w b v l) (k : Nat) : Own (w.drewN k) b v l := h
theorem Own.alloc (h : Own w b v l) (o : Obj) : Own (w.alloc o) b v l := World.ownsRow.alloc h o
end
/-- read now: below all that is there -/
def Rn (w : World) (A : Option Addr) (l : List Int) : Prop := Rd w w.heap.size A l
section
variable {w w' : World} {A : Option Addr} {l : List Int}
theorem Rn.front {t r : List Int} (h : Rn w A l) (e : l = t ++ r) : Rn w A t := Rd.front h e
theorem Rn.now (h : Rn w A l) (hb : Below w.heap.size w w') : Rn w' A l := (Rd.below h hb (Nat.le_refl _)).more hb.size
theorem Rn.drewN (h : Rn w A l) (k : Nat) : Rn (w.drewN k) A l := h
theorem Rn.alloc (h : Rn w A l) (o : Obj) : Rn (w.alloc o) A l := h.now ((Below.refl w.heap.size w).alloc (Nat.le_refl _) o)
theorem Own.read {b : Nat} {v : Value} (h : Own w b v l) : ∃ A c, v = .slice A l.length c ∧ Rn w A l := by
  obtain ⟨A, c, e, hr, _⟩ := h.shape
  exact ⟨A, c, e, hr⟩
end
end Go.Proofs.YtmfdlkkligjcbaaGreat
namespace Go.Proofs.YtmfdlkkligjcbaaGreat
open Go.RowKit

/-- a number that a fraction may have -/
def plain (x : Int) : Prop := 0 ≤ x ∧ x ≤ 2147483647
instance (x : Int) : Decidable (plain x) := inferInstanceAs (Decidable (_ ∧ _))
/-- a fraction that may be -/
def okF (t b : Int) : Prop := plain t ∧ plain b ∧ 0 < b
instance (t b : Int) : Decidable (okF t b) := inferInstanceAs (Decidable (_ ∧ _))

/-- two structs of two cells, each in a new block -/
def two (w : World) (t : TypeId) (a b c d : Value) : World := (w.alloc (.cells #[a, b] t)).alloc (.cells #[c, d] t)
theorem two_below (w : World) (t : TypeId) (a b c d : Value) : Below w.heap.size w (two w t a b c d) :=
  ((Below.refl w.heap.size w).alloc (Nat.le_refl _) _).alloc (by rw [World.size_alloc]; omega) _
theorem wright_any (w : World) (t b : Int) :
    Calls Tryz.prog 95 #[.agg #[.int .i64 t, .int .i64 b]] w fun e w' => e = .returned (.bool (decide (okF t b))) ∧ Below w.heap.size w w' := by
  have hbel := fun o => (Below.refl w.heap.size w).alloc (Nat.le_refl _) o
  by_cases ht : 0 ≤ t ∧ t ≤ 2147483647
  · by_cases hb : 0 ≤ b ∧ b ≤ 2147483647
    · by_cases h0 : b > 0
      · go_enter Tryz.func95, Tryz.ntmps95
        go_wp2_with fail
        refine (factor_any _ t).mono ?_
        rintro e w1 ⟨rfl, rfl⟩
        rw [decide_eq_true ht]
        go_wp2_with fail
        refine (factor_any _ b).mono ?_
        rintro e w1 ⟨rfl, rfl⟩
        rw [decide_eq_true hb]
        go_wp2
        go_ret
        exact ⟨(decide_eq_true (show okF t b from ⟨ht, hb, h0⟩)).symm ▸ rfl, hbel _⟩
      · have hd : decide (b > 0) = false := decide_eq_false h0
        go_enter Tryz.func95, Tryz.ntmps95
        go_wp2_with fail
        refine (factor_any _ t).mono ?_
        rintro e w1 ⟨rfl, rfl⟩
        rw [decide_eq_true ht]
        go_wp2_with fail
        refine (factor_any _ b).mono ?_
        rintro e w1 ⟨rfl, rfl⟩
        rw [decide_eq_true hb]
        go_wp2
        go_ret
        exact ⟨(decide_eq_false (show ¬ okF t b from fun h => absurd h.2.2 (by omega))).symm ▸ rfl, hbel _⟩
    · go_enter Tryz.func95, Tryz.ntmps95
      go_wp2_with fail
      refine (factor_any _ t).mono ?_
      rintro e w1 ⟨rfl, rfl⟩
      rw [decide_eq_true ht]
      go_wp2_with fail
      refine (factor_any _ b).mono ?_
      rintro e w1 ⟨rfl, rfl⟩
      rw [decide_eq_false hb]
      go_wp2
      go_ret
      exact ⟨(decide_eq_false (show ¬ okF t b from fun h => hb h.2.1)).symm ▸ rfl, hbel _⟩
  · go_enter Tryz.func95, Tryz.ntmps95
    go_wp2_with fail
    refine (factor_any _ t).mono ?_
    rintro e w1 ⟨rfl, rfl⟩
    rw [decide_eq_false ht]
    go_wp2
    go_ret
    exact ⟨(decide_eq_false (show ¬ okF t b from fun h => ht h.1)).symm ▸ rfl, hbel _⟩

/-- how two numbers compare: -1, 0, 1 -/
def cmpI (x y : Nat) : Int := if x < y then -1 else if y < x then 1 else 0

theorem cmpcmp_any (w : World) (x y : Nat) :
    Calls Tryz.prog 102 #[.int .i64 x, .int .i64 y] w fun e w' => e = .returned (.int .i64 (cmpI x y)) ∧ w' = w := by
  have hn : ∀ (w : World) (z : Int), Calls Tryz.prog 106 #[.int .i64 z] w fun e w' => e = .returned (.bool false) ∧ w' = w := by
    intro w z
    go_enter Tryz.func106, Tryz.ntmps106
    go_wp2
    go_ret
    exact ⟨rfl, rfl⟩
  unfold cmpI
  by_cases h : x < y
  · rw [if_pos h]
    have h' : (x : Int) < (y : Int) := by omega
    go_enter Tryz.func102, Tryz.ntmps102
    go_wp2_with fail
    refine (hn _ _).mono ?_
    rintro e w1 ⟨rfl, rfl⟩
    go_wp2_with fail
    refine (hn _ _).mono ?_
    rintro e w1 ⟨rfl, rfl⟩
    go_wp2
    go_ret
    exact ⟨rfl, rfl⟩
  · rw [if_neg h]
    have h' : ¬ (x : Int) < (y : Int) := by omega
    by_cases g : y < x
    · rw [if_pos g]
      have g' : (x : Int) > (y : Int) := by omega
      go_enter Tryz.func102, Tryz.ntmps102
      go_wp2_with fail
      refine (hn _ _).mono ?_
      rintro e w1 ⟨rfl, rfl⟩
      go_wp2_with fail
      refine (hn _ _).mono ?_
      rintro e w1 ⟨rfl, rfl⟩
      go_wp2
      go_ret
      exact ⟨rfl, rfl⟩
    · rw [if_neg g]
      have g' : ¬ (x : Int) > (y : Int) := by omega
      go_enter Tryz.func102, Tryz.ntmps102
      go_wp2_with fail
      refine (hn _ _).mono ?_
      rintro e w1 ⟨rfl, rfl⟩
      go_wp2_with fail
      refine (hn _ _).mono ?_
      rintro e w1 ⟨rfl, rfl⟩
      go_wp2
      go_ret
      exact ⟨rfl, rfl⟩

theorem lcompare_any (w : World) (t b s c : Nat) (ht : t ≤ 2147483647) (hb : b ≤ 2147483647) (hs : s ≤ 2147483647) (hc : c ≤ 2147483647) :
    Calls Tryz.prog 98 #[.agg #[.int .i64 t, .int .i64 b], .agg #[.int .i64 s, .int .i64 c]] w fun e w' => e = .returned (.int .i64 (cmpI (t * c) (s * b))) ∧ Below w.heap.size w w' := by
  go_enter Tryz.func98, Tryz.ntmps98
  go_wp2_with fail
  refine (mul_yes _ t c ht hc).mono ?_
  rintro e w1 ⟨rfl, rfl⟩
  go_wp2_with fail
  refine (mul_yes _ s b hs hb).mono ?_
  rintro e w1 ⟨rfl, rfl⟩
  go_wp2_with fail
  refine (cmpcmp_any _ (t * c) (s * b)).mono ?_
  rintro e w1 ⟨rfl, rfl⟩
  go_wp2
  go_ret
  exact ⟨rfl, two_below _ _ _ _ _ _⟩

























































end Go.Proofs.YtmfdlkkligjcbaaGreat
