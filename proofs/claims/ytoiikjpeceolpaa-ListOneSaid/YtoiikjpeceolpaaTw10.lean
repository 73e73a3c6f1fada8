/-
  What is proved: an act on the reference's space and on the program's; both side by side; a list's ends; the fixed fact that each statement of this layer asks first. Condition: both lie in memory, apart.
-/
import Derived.Test.YtoiikjpeceolpaaRd10
import Derived.Test.YtoiikjpeceolpaaNw10
import Derived.BigQuiet
namespace Go.Proofs.Ytoiikjpeceolpaa
open Go.RowKit

theorem rdo_any {w : World} {k : Nat} {v : Value} {us : List Value} {S : List (List Int)} (h : Lr w k v us S) (hw : Wf S) (κ x y : Int) (hκ : 0 ≤ κ ∧ κ ≤ 2) :
    Calls Try.prog 12 #[.pointer (some ⟨k, 0, none⟩), .int .i64 κ, .int .i64 x, .int .i64 y] w (RoP k v us S κ x y w) := by
  have h3 : κ = 0 ∨ κ = 1 ∨ κ = 2 := by omega
  rcases h3 with rfl | rfl | rfl
  · by_cases ho : okp S x y
    · exact (rdo_front h hw x y ho).mono fun e w' ⟨he, us', h1, h2⟩ => ⟨by rw [he]; unfold doE putE; rw [if_neg (by omega), if_pos ho], us', h1, h2⟩
    · have e1 : putE S x y = 3 := if_neg ho
      have e2 : frontS S x y = S := if_neg ho
      have key : Calls Try.prog 12 #[.pointer (some ⟨k, 0, none⟩), .int .i64 0, .int .i64 x, .int .i64 y] w (fun e w' => e = .returned (.int .i64 3) ∧ w = w') := by
        by_cases hy : vb y
        · exact rdo_out h 0 x y (by omega) hy fun hx => ho ⟨hx, hy⟩
        · exact rdo_bad 0 x y hy
      refine key.mono fun e w' ⟨he, hww⟩ => ⟨by rw [he]; unfold doE; rw [if_neg (by omega), e1], us, ?_, ?_⟩
      · unfold doS; rw [if_pos rfl, e2, ← hww]; exact h
      · rw [← hww]; exact Chg.refl _ _
  · by_cases ho : okp S x y
    · exact (rdo_back h hw x y ho).mono fun e w' ⟨he, us', h1, h2⟩ => ⟨by rw [he]; unfold doE putE; rw [if_neg (by omega), if_pos ho], us', h1, h2⟩
    · have e1 : putE S x y = 3 := if_neg ho
      have e2 : backS S x y = S := if_neg ho
      have key : Calls Try.prog 12 #[.pointer (some ⟨k, 0, none⟩), .int .i64 1, .int .i64 x, .int .i64 y] w (fun e w' => e = .returned (.int .i64 3) ∧ w = w') := by
        by_cases hy : vb y
        · exact rdo_out h 1 x y (by omega) hy fun hx => ho ⟨hx, hy⟩
        · exact rdo_bad 1 x y hy
      refine key.mono fun e w' ⟨he, hww⟩ => ⟨by rw [he]; unfold doE; rw [if_neg (by omega), e1], us, ?_, ?_⟩
      · unfold doS; rw [if_neg (by omega), if_pos rfl, e2, ← hww]; exact h
      · rw [← hww]; exact Chg.refl _ _
  · by_cases hy : vb y
    · by_cases hin : inS S y
      · have e1 : remE S y = 0 := by unfold remE; rw [if_pos hy, dec_true hin]; rfl
        obtain ⟨i, l, hi, hm⟩ := hin
        exact (rdo_rem h hw x y hy hi hm).mono fun e w' ⟨he, us', h1, h2⟩ => ⟨by rw [he]; unfold doE; rw [if_pos rfl, e1], us', by unfold doS; rw [if_neg (by omega), if_neg (by omega)]; exact h1, h2⟩
      · have e1 : remE S y = 5 := by unfold remE; rw [if_pos hy, dec_false hin]; rfl
        refine (rdo_none h x y hy hin).mono fun e w' ⟨he, hww⟩ => ⟨by rw [he]; unfold doE; rw [if_pos rfl, e1], us, ?_, ?_⟩
        · unfold doS; rw [if_neg (by omega), if_neg (by omega), woS_out hin, ← hww]; exact h
        · rw [← hww]; exact Chg.refl _ _
    · have e1 : remE S y = 3 := if_neg hy
      have hin : ¬ inS S y := fun ⟨i, l, hi, hm⟩ => hy (hw.lt i l y hi hm)
      refine (rdo_bad 2 x y hy).mono fun e w' ⟨he, hww⟩ => ⟨by rw [he]; unfold doE; rw [if_pos rfl, e1], us, ?_, ?_⟩
      · unfold doS; rw [if_neg (by omega), if_neg (by omega), woS_out hin, ← hww]; exact h
      · rw [← hww]; exact Chg.refl _ _

theorem chg_on {w w1 w2 : World} {k : Nat} (hb : Below w.heap.size w w1) (h : Chg w1 w2 (· = k) (· = k)) : Chg w w2 (· = k) (· = k) := (Chg.of hb _).trans h
section
variable {w : World} {k : Nat} {S : List (List Int)}
set_option maxHeartbeats 1000000 in
theorem ndo_any (h : Sq w k S) (κ x y : Int) (hκ : 0 ≤ κ ∧ κ ≤ 2) :
    Calls Try.prog 11 #[.pointer (some ⟨k, 0, none⟩), .agg #[.int .i64 κ, .int .i64 x, .int .i64 y]] w fun e w' => e = .returned (.int .i64 (doE κ x y S)) ∧ Sq w' k (doS κ x y S) ∧ Chg w w' (· = k) (· = k) := by
  have h3 : κ = 0 ∨ κ = 1 ∨ κ = 2 := by omega
  have B := below_alloc w (.cells #[.int .i64 κ, .int .i64 x, .int .i64 y] 29)
  have HW := hid (h.below B)
  have HB := hid B
  clear B h
  rcases h3 with rfl | rfl | rfl
  · have e1 : doE 0 x y S = putE S x y := if_neg (by omega)
    have e2 : doS 0 x y S = frontS S x y := if_pos rfl
    rw [e1, e2]
    have HF := hid (front_any HW.out x y)
    clear e1 e2 HW hκ
    generalize putE S x y = z at *
    go_enter Try.func11, Try.ntmps11
    go_wp2_with (go_at_call 25; refine HF.out.mono ?_; rintro e w2 ⟨rfl, hq, hc⟩; have HQ := hid hq; have HC := hid hc; clear hq hc)
    go_ret
    exact ⟨rfl, HQ.out, chg_on HB.out HC.out⟩
  · have e1 : doE 1 x y S = putE S x y := if_neg (by omega)
    have e2 : doS 1 x y S = backS S x y := by unfold doS; rw [if_neg (by omega), if_pos rfl]
    rw [e1, e2]
    have HF := hid (back_any HW.out x y)
    clear e1 e2 HW hκ
    generalize putE S x y = z at *
    go_enter Try.func11, Try.ntmps11
    go_wp2_with (go_at_call 24; refine HF.out.mono ?_; rintro e w2 ⟨rfl, hq, hc⟩; have HQ := hid hq; have HC := hid hc; clear hq hc)
    go_ret
    exact ⟨rfl, HQ.out, chg_on HB.out HC.out⟩
  · have e1 : doE 2 x y S = remE S y := if_pos rfl
    have e2 : doS 2 x y S = woS y S := by unfold doS; rw [if_neg (by omega), if_neg (by omega)]
    rw [e1, e2]
    have HF := hid (remove_any HW.out y)
    clear e1 e2 HW hκ
    generalize remE S y = z at *
    go_enter Try.func11, Try.ntmps11
    go_wp2_with (go_at_call 28; refine HF.out.mono ?_; rintro e w2 ⟨rfl, hq, hc⟩; have HQ := hid hq; have HC := hid hc; clear hq hc)
    go_ret
    exact ⟨rfl, HQ.out, chg_on HB.out HC.out⟩
set_option maxHeartbeats 1000000 in
theorem ndo_nil (w : World) (κ x y : Int) :
    Calls Try.prog 11 #[.pointer none, .agg #[.int .i64 κ, .int .i64 x, .int .i64 y]] w fun e w' => e = .returned (.int .i64 7) ∧ Below w.heap.size w w' := by
  have HB := hid (below_alloc w (.cells #[.int .i64 κ, .int .i64 x, .int .i64 y] 29))
  by_cases h0 : κ = 0
  · subst h0
    go_enter Try.func11, Try.ntmps11
    go_wp2_with (go_at_call 25; refine (front_nil _ _ _).mono ?_; rintro e w2 ⟨rfl, rfl⟩)
    go_ret
    exact ⟨rfl, HB.out⟩
  · by_cases h1 : κ = 1
    · subst h1
      go_enter Try.func11, Try.ntmps11
      go_wp2_with (go_at_call 24; refine (back_nil _ _ _).mono ?_; rintro e w2 ⟨rfl, rfl⟩)
      go_ret
      exact ⟨rfl, HB.out⟩
    · have d0 : (κ == 0) = false := by simpa using h0
      have d1 : (κ == 1) = false := by simpa using h1
      have e0 : decide (κ = 0) = false := by simpa using h0
      have e1 : decide (κ = 1) = false := by simpa using h1
      clear h0 h1
      go_enter Try.func11, Try.ntmps11
      go_wp2_with (go_at_call 28; refine (remove_nil _ _).mono ?_; rintro e w2 ⟨rfl, rfl⟩)
      go_ret
      exact ⟨rfl, HB.out⟩
set_option maxHeartbeats 1000000 in
theorem ends_yes (h : Sq w k S) {i : Nat} {l : List Int} (hl : S[i]? = some l) (A : Option Addr) (n c : Nat) (hn : l.length = n) (r : Rv w w.heap.size A (ints l)) :
    Calls Try.prog 16 #[.pointer (some ⟨k, 0, none⟩), .slice A n c, .int .i64 i] w fun e w' => e = .returned (.bool true) ∧ ∃ d, w' = w.drewN d := by
  have HF := hid (first_in h hl)
  have HL := hid (fun d => last_in (show Sq (w.drewN d) k S from h) hl)
  have h64 := h.wf.1.len hl
  cases l with
  | nil =>
    simp at hn
    subst hn
    have e1 : firstV ([] : List Int) = .tuple #[.int .i64 0, .bool false] := rfl
    have e2 : lastV ([] : List Int) = .tuple #[.int .i64 0, .bool false] := rfl
    rw [e1] at HF
    rw [e2] at HL
    clear h hl r e1 e2 h64
    go_enter Try.func16, Try.ntmps16
    go_wp2_with (first | (go_at_call 21; refine HF.out.mono ?_; rintro e w2 ⟨rfl, d1, rfl⟩) | (go_at_call 22; refine (HL.out _).mono ?_; rintro e w3 ⟨rfl, d2, rfl⟩))
    go_ret
    exact ⟨rfl, d1 + d2, rfl⟩
  | cons x t =>
    have e1 : firstV (x :: t) = .tuple #[.int .i64 x, .bool true] := rfl
    have e2 : lastV (x :: t) = .tuple #[.int .i64 ((x :: t).getLast (by simp)), .bool true] := dif_neg (by simp)
    rw [e1] at HF
    rw [e2] at HL
    have hp : 0 < n := by rw [← hn]; simp
    obtain ⟨a, rfl, _, c0⟩ := rv_at r (j := 0) (by simp)
    obtain ⟨a', ea, _, c1⟩ := rv_at r (j := n - 1) (by omega)
    injection ea with ea
    subst ea
    have e3 : (x :: t)[n - 1]'(by omega) = (x :: t).getLast (by simp) := by
      rw [List.getLast_eq_getElem]
      congr 1
      omega
    rw [e3] at c1
    have e4 : (x :: t)[0]'(by simp) = x := rfl
    rw [e4] at c0
    generalize (x :: t).getLast (by simp) = y at *
    have e5 : a.add 0 = a := by simp [Addr.add]
    rw [e5] at c0
    have hne : ((n : Int) == 0) = false := by simp; omega
    have hne2 : decide ((n : Int) = 0) = false := by simp; omega
    obtain ⟨m, rfl⟩ : ∃ m, n = m + 1 := ⟨n - 1, by omega⟩
    rw [show m + 1 - 1 = m from by omega] at c1
    have hxx : (x == x) = true := by simp
    have hyy : (y == y) = true := by simp
    have n0 : (0 : Int) < ((m + 1 : Nat) : Int) := by omega
    have hm64 : m ≤ 64 := by omega
    clear h hl r e1 e2 hp e3 e4 e5 hn h64
    go_enter Try.func16, Try.ntmps16
    go_wp2_with (first | (go_at_call 21; refine HF.out.mono ?_; rintro e w2 ⟨rfl, d1, rfl⟩) | (go_at_call 22; refine (HL.out _).mono ?_; rintro e w3 ⟨rfl, d2, rfl⟩))
    go_ret
    exact ⟨rfl, d1 + d2, rfl⟩
end

/-- the space and the reference's, side by side -/
structure Tw (w0 w : World) (k q : Nat) (u : Value) (vs : List Value) (S : List (List Int)) : Prop where
  a : Sq w k S
  r : Lr w q u vs S
  dis : ¬ Ft q u vs k
  la : w0.heap.size ≤ k
  lr : ∀ j, Ft q u vs j → w0.heap.size ≤ j
  bel : Below w0.heap.size w0 w
section
variable {w0 w w' w2 : World} {k q : Nat} {u : Value} {vs vs' : List Value} {S S' : List (List Int)}
theorem Tw.below (h : Tw w0 w k q u vs S) (hb : Below w.heap.size w w') : Tw w0 w' k q u vs S := ⟨h.a.below hb, h.r.below hb, h.dis, h.la, h.lr, on h.bel hb⟩
theorem Tw.draws (h : Tw w0 w k q u vs S) (n : Nat) : Tw w0 (w.drewN n) k q u vs S := h.below (below_draws (Below.refl _ _) n)
/-- an act is done to both -/
theorem Tw.step (h : Tw w0 w k q u vs S) (h1 : Sq w' k S') (c1 : Chg w w' (· = k) (· = k)) (h2 : Lr w2 q u vs' S') (c2 : Chg w' w2 (Ft q u vs) (Ft q u vs')) : Tw w0 w2 k q u vs' S' := by
  have hk := h.a.lt
  refine ⟨h1.same (c2.block k h1.lt h.dis), h2, fun hf => ?_, h.la, fun j hj => ?_, (h.bel.trans (c1.bel h.bel.size fun j e => by rw [e]; exact h.la)).trans (c2.bel (Nat.le_trans h.bel.size c1.size) h.lr)⟩
  · rcases c2.foot k hf with e | e
    · exact h.dis e
    · have := h1.lt; omega
  · rcases c2.foot j hj with e | e
    · exact h.lr j e
    · have := h.bel.size; have := c1.size; omega
theorem Tw.mid (h : Tw w0 w k q u vs S) (c1 : Chg w w' (· = k) (· = k)) : Lr w' q u vs S := h.r.other c1 fun _ hj e => h.dis (e ▸ hj)
end
end Go.Proofs.Ytoiikjpeceolpaa
