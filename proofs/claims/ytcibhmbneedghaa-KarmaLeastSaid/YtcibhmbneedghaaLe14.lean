/-
  What is proved: the reference's Least answers the least cost of all ways to lay the blocks of hints from one on. Condition: the hints are right, and read as such; the numbers are small.
-/
import Derived.Test.YtcibhmbneedghaaKl14
namespace Go.Proofs.Ytcibhmbneedghaa
open Go.RowKit

/-- a way to lay a hint's blocks that may be -/
def Fz (S l0 l1 l2 x y t : Nat) : Prop := x + y + t ≤ S ∧ x ≤ l0 ∧ y ≤ l1 ∧ t ≤ l2
/-- z is the least of those that were tried; -1: none was -/
def BestZ (fv : Nat → Nat → Nat → Nat) (z : Int) (V : Nat → Nat → Nat → Prop) : Prop :=
  (z = -1 ∧ ∀ x y t, ¬ V x y t) ∨ ∃ v : Nat, z = v ∧ (∃ x y t, V x y t ∧ fv x y t = v) ∧ ∀ x y t, V x y t → v ≤ fv x y t
section
variable {fv : Nat → Nat → Nat → Nat} {z : Int} {V V' : Nat → Nat → Nat → Prop} {a b c : Nat}
theorem BestZ.alike (h : BestZ fv z V) (e : ∀ x y t, V' x y t ↔ V x y t) : BestZ fv z V' := by
  rcases h with ⟨h1, h2⟩ | ⟨v, h1, ⟨x, y, t, h2, h3⟩, h4⟩
  · exact .inl ⟨h1, fun x y t h => h2 x y t ((e x y t).1 h)⟩
  · exact .inr ⟨v, h1, ⟨x, y, t, (e x y t).2 h2, h3⟩, fun x y t h => h4 x y t ((e x y t).1 h)⟩
theorem BestZ.take (h : BestZ fv z V) (e : ∀ x y t, V' x y t ↔ V x y t ∨ (x = a ∧ y = b ∧ t = c)) (hz : z < 0 ∨ (fv a b c : Int) < z) : BestZ fv (fv a b c : Nat) V' := by
  refine .inr ⟨_, rfl, ⟨a, b, c, (e a b c).2 (.inr ⟨rfl, rfl, rfl⟩), rfl⟩, fun x y t h1 => ?_⟩
  rcases (e x y t).1 h1 with h2 | ⟨rfl, rfl, rfl⟩
  · rcases h with ⟨h3, h4⟩ | ⟨v, h3, _, h4⟩
    · exact absurd h2 (h4 x y t)
    · have := h4 x y t h2
      omega
  · exact Nat.le_refl _
theorem BestZ.stay (h : BestZ fv z V) (e : ∀ x y t, V' x y t ↔ V x y t ∨ (x = a ∧ y = b ∧ t = c)) (hz : ¬ (z < 0 ∨ (fv a b c : Int) < z)) : BestZ fv z V' := by
  rcases h with ⟨h1, h2⟩ | ⟨v, h1, ⟨x, y, t, h2, h3⟩, h4⟩
  · omega
  · refine .inr ⟨v, h1, ⟨x, y, t, (e x y t).2 (.inl h2), h3⟩, fun x y t h => ?_⟩
    rcases (e x y t).1 h with h5 | ⟨rfl, rfl, rfl⟩
    · exact h4 x y t h5
    · omega
end
/-- what is kept while ways are tried -/
structure Lsw (w0 w : World) (g h : Nat) (l0 l1 l2 : Nat) (k : Nat → Nat) : Prop where
  bel : Below w0.heap.size w0 w
  lf : Bx w g 23 #[.int .i64 (l0 : Nat), .int .i64 (l1 : Nat), .int .i64 (l2 : Nat)]
  cs : Bx w h 50 #[.int .i64 (k 0 : Nat), .int .i64 (k 1 : Nat), .int .i64 (k 2 : Nat), .int .i64 (k 3 : Nat)]
theorem Lsw.below {w0 w w' : World} {g h l0 l1 l2 : Nat} {k : Nat → Nat} (hh : Lsw w0 w g h l0 l1 l2 k) (hb : Below w.heap.size w w') : Lsw w0 w' g h l0 l1 l2 k := ⟨on hh.bel hb, hh.lf.next hb, hh.cs.next hb⟩
theorem LV_cons {c0 c1 c2 c3 : Nat} {L : List (Nat × Nat)} {u S l0 l1 l2 v : Nat} (h : BestZ (fun x y t => u * (x * c0 + y * c1 + t * c2 + (S - x - y - t) * c3) + LV c0 c1 c2 c3 L (l0 - x) (l1 - y) (l2 - t)) (v : Int) (Fz S l0 l1 l2)) : LV c0 c1 c2 c3 ((u, S) :: L) l0 l1 l2 = v := by
  rcases h with ⟨h1, _⟩ | ⟨v', h1, ⟨x, y, t, h2, h3⟩, h4⟩
  · omega
  · have e : v' = v := by omega
    subst e
    refine (LV_spec c0 c1 c2 c3 ((u, S) :: L) l0 l1 l2).one (Lst.cons (fun x y t => LV c0 c1 c2 c3 L (l0 - x) (l1 - y) (l2 - t)) (fun x y t _ _ _ _ => LV_spec _ _ _ _ _ _ _ _) (fun x y t a1 a2 a3 a4 => h4 x y t ⟨a1, a2, a3, a4⟩) ⟨x, y, t, h2.1, h2.2.1, h2.2.2.1, h2.2.2.2, h3.symm⟩)
set_option maxRecDepth 20000 in
set_option maxHeartbeats 8000000 in
theorem least_any (A : Option Addr) (n c b : Nat) (hh : Nat → Hn) (k : Nat → Nat) (hP : HintsP hh n 32) (ho : ∀ i, i < n → oft hh i ≤ 100000) (hk : ∀ t, t < 4 → k t ≤ 1000) (hb : b ≤ 1048576) : ∀ (j p : Nat), p + j = n → ∀ (l0 l1 l2 : Nat), l0 ≤ 1000 → l1 ≤ 1000 → l2 ≤ 1000 → ∀ w, Rv w w.heap.size A (hvs hh n) →
    Calls Try.prog 25 #[.slice A n c, .int .i64 p, .agg #[.int .i64 l0, .int .i64 l1, .int .i64 l2], .agg #[.int .i64 (k 0 : Nat), .int .i64 (k 1 : Nat), .int .i64 (k 2 : Nat), .int .i64 (k 3 : Nat)], .int .i64 b] w fun e w' => e = .returned (.int .i64 (LV (k 0) (k 1) (k 2) (k 3) ((List.range' p j).map (un hh b)) l0 l1 l2 : Nat)) ∧ Below w.heap.size w w' := by
  intro j
  induction j with
  | zero =>
    intro p hp l0 l1 l2 m0 m1 m2 w hr
    obtain rfl : p = n := by omega
    have HB := hid (on (below_alloc w (.cells #[.int .i64 l0, .int .i64 l1, .int .i64 l2] 23)) (below_alloc (w.alloc (.cells #[.int .i64 l0, .int .i64 l1, .int .i64 l2] 23)) (.cells #[.int .i64 (k 0 : Nat), .int .i64 (k 1 : Nat), .int .i64 (k 2 : Nat), .int .i64 (k 3 : Nat)] 50)))
    have HE := hid (LV_nil (k 0) (k 1) (k 2) (k 3) l0 l1 l2)
    clear hr hP ho hk
    go_enter Try.func25, Try.ntmps25
    go_wp2
    go_ret
    exact ⟨by rw [show ((List.range' p 0).map (un hh b)) = [] from rfl, HE.out]; rfl, HB.out⟩
  | succ j ih =>
    intro p hp l0 l1 l2 m0 m1 m2 w hr
    have hpn : p < n := by omega
    have hn8 := hP.1
    have hj8 : j ≤ 8 := by omega
    have hRB := fun q (hq : q < n) => (show (un hh b q).1 * ((un hh b q).2 * 1000) ≤ 1048576 * 100000 * (32 * 1000) from by
      have h1 := hP.2.1 q hq
      unfold okH at h1
      refine Nat.mul_le_mul (Nat.mul_le_mul (Nat.le_trans (Nat.div_le_self _ _) hb) (ho q hq)) (Nat.mul_le_mul_right _ ?_)
      show sz hh q ≤ 32
      unfold sz
      omega)
    have hLB := fun a b' c' => LV_le (M := 1000) (B := 1048576 * 100000 * (32 * 1000)) (hk 0 (by omega)) (hk 1 (by omega)) (hk 2 (by omega)) (hk 3 (by omega)) (L := (List.range' (p + 1) j).map (un hh b)) (fun x hx => by
      obtain ⟨q, hq, rfl⟩ := List.mem_map.1 hx
      rw [List.mem_range'_1] at hq
      exact hRB q (by omega)) a b' c'
    have hlen : ((List.range' (p + 1) j).map (un hh b)).length ≤ 8 := Nat.le_trans (Nat.le_of_eq ((List.length_map _).trans List.length_range')) hj8
    have hih := fun a b' c' (h1 : a ≤ 1000) (h2 : b' ≤ 1000) (h3 : c' ≤ 1000) w hr => ih (p + 1) (by omega) a b' c' h1 h2 h3 w hr
    rw [show ((p + 1 : Nat) : Int) = (p : Int) + 1 from by omega] at hih
    have HIH := hid hih
    clear hih
    have hcons : (List.range' p (j + 1)).map (un hh b) = ((un hh b p).1, (un hh b p).2) :: (List.range' (p + 1) j).map (un hh b) := by rw [List.range'_succ, List.map_cons]
    rw [hcons]
    have hRp := hRB p hpn
    have hoP := hP.2.1 p hpn
    have hOp := ho p hpn
    obtain ⟨ad, rfl, hat⟩ := hr.hint hpn
    have HLB := hid (fun a b' c' => Nat.le_trans (hLB a b' c') (Nat.mul_le_mul_left _ hlen))
    clear ih hcons hRB hLB hlen
    generalize (List.range' (p + 1) j).map (un hh b) = L at *
    unfold okH at hoP
    have e2 : (hh p).s = (sz hh p : Nat) := by unfold sz; omega
    have e3 : (hh p).o = (oft hh p : Nat) := by unfold oft; omega
    have hS0 : 0 < sz hh p ∧ sz hh p ≤ 32 := by unfold sz; omega
    rw [show (un hh b p).2 = sz hh p from rfl] at hRp ⊢
    have eu : (un hh b p).1 = b / sz hh p * oft hh p := rfl
    rw [eu] at hRp ⊢
    have hb1 := below_alloc w (.cells #[.int .i64 l0, .int .i64 l1, .int .i64 l2] 23)
    have hx1 := Bx.new w 23 #[.int .i64 l0, .int .i64 l1, .int .i64 l2]
    have HG := hid (World.size_alloc w (.cells #[.int .i64 l0, .int .i64 l1, .int .i64 l2] 23))
    obtain ⟨g, hg⟩ : ∃ g, w.heap.size = g := ⟨_, rfl⟩
    obtain ⟨w1, hw1⟩ : ∃ w1, w.alloc (.cells #[.int .i64 l0, .int .i64 l1, .int .i64 l2] 23) = w1 := ⟨_, rfl⟩
    rw [hg] at hx1 HG
    have HGG := hid hg
    have HW1 := hid hw1
    rw [hw1] at hb1 hx1 HG
    have hb2 := below_alloc w1 (.cells #[.int .i64 (k 0 : Nat), .int .i64 (k 1 : Nat), .int .i64 (k 2 : Nat), .int .i64 (k 3 : Nat)] 50)
    have hx2 := Bx.new w1 50 #[.int .i64 (k 0 : Nat), .int .i64 (k 1 : Nat), .int .i64 (k 2 : Nat), .int .i64 (k 3 : Nat)]
    rw [HG.out] at hx2
    have HST := hid (show Lsw w _ g (g + 1) l0 l1 l2 k from ⟨on hb1 hb2, hx1.next hb2, hx2⟩)
    have HR := hid hr
    have HK := hid hk
    have c1 := (hat.next (on hb1 hb2)).s
    have c2 := (hat.next (on hb1 hb2)).o
    rw [e2] at c1
    rw [e3] at c2
    have hp1 : ((p : Int) == (n : Int)) = false := by simp; omega
    have hp2 : (p == n) = false := by simp; omega
    have hp3 : (p : Int) < (n : Int) := by omega
    generalize sz hh p = S at *
    generalize oft hh p = O at *
    have hdiv : (b : Int) / (S : Int) = ((b / S : Nat) : Int) := (Int.natCast_ediv b S).symm
    have hbq : b / S ≤ 1048576 := Nat.le_trans (Nat.div_le_self _ _) hb
    have hS1 : (S : Int) ≠ 0 := by omega
    have hul : b / S * O ≤ 1048576 * 100000 := Nat.mul_le_mul hbq hOp
    have hum : ((b / S : Nat) : Int) * (O : Int) = ((b / S * O : Nat) : Int) := (Int.natCast_mul _ _).symm
    generalize b / S * O = U at *
    generalize b / S = Q at *
    clear hb1 hx1 hb2 hx2 hw1 hg hr hk hat e2 e3 hP ho eu
    go_enter Try.func25, Try.ntmps25
    go_upto_region 1 with fail
    rw [HW1.out, HGG.out]
    generalize w1.alloc (.cells #[.int .i64 (k 0 : Nat), .int .i64 (k 1 : Nat), .int .i64 (k 2 : Nat), .int .i64 (k 3 : Nat)] 50) = w2 at *
    have HC1 := hid (fun w' (hb : Below w2.heap.size w2 w') => (hb.cell (World.block_lt_of_cell? w2 _ c1)).trans c1)
    go_upto_region 4 with fail
    go_quiet (fail)
    have HB0 := hid (show Below w2.heap.size w2 (w2.drewN nq) from below_draws (Below.refl _ _) nq)
    clear c1 c2 hp1 hp2 hdiv hum
    have hR2 : U * (S * 1000) ≤ 1048576 * 100000 * (32 * 1000) := hRp
    obtain ⟨fv, hfv⟩ : ∃ fv : Nat → Nat → Nat → Nat, fv = fun x y t => U * (x * k 0 + y * k 1 + t * k 2 + (S - x - y - t) * k 3) + LV (k 0) (k 1) (k 2) (k 3) L (l0 - x) (l1 - y) (l2 - t) := ⟨_, rfl⟩
    have HFV := hid hfv
    clear hfv hRp
    go_wp2
    go_loopg [11, 13] (S + 1) (fun gk t11 t13 wr => ∃ (a : Nat) (z : Int), a + gk = S + 1 ∧ t11 = .int .i64 z ∧ t13 = .int .i64 a ∧ BestZ fv z (fun x y t => Fz S l0 l1 l2 x y t ∧ x < a) ∧ Below w2.heap.size w2 wr)
    case atStart => exact ⟨0, -1, by omega, rfl, rfl, .inl ⟨rfl, fun x y t h => by omega⟩, HB0.out⟩
    case round =>
      clear HB0
      obtain ⟨a, z, ha, rfl, rfl, hbest, hb⟩ := hrel
      have HBE := hid hbest
      have HB := hid hb
      clear hbest hb
      have c1 := HC1.out _ HB.out
      have q0 : wr.cell? ⟨g, 0, none⟩ = some (.int .i64 l0) := (HST.out.below HB.out).lf.cell 0
      by_cases hfe : a ≤ S ∧ a ≤ l0
      · obtain ⟨h1, h2⟩ := hfe
        have h1' : (a : Int) ≤ (S : Int) := by omega
        have h2' : (a : Int) ≤ (l0 : Int) := by omega
        generalize gk = K0 at *
        go_wp2
        clear c1 q0
        go_loopg [11, 14] (S + 1) (fun gk t11 t14 wr => ∃ (y : Nat) (z : Int), y + gk = S + 1 ∧ t11 = .int .i64 z ∧ t14 = .int .i64 y ∧ BestZ fv z (fun x' y' t' => Fz S l0 l1 l2 x' y' t' ∧ (x' < a ∨ (x' = a ∧ y' < y))) ∧ Below w2.heap.size w2 wr)
        case atStart => exact ⟨0, z, by omega, rfl, rfl, HBE.out.alike fun x' y' t' => by unfold Fz; omega, HB.out⟩
        case round =>
          clear HBE HB
          obtain ⟨y, z, hy, rfl, rfl, hbest, hb⟩ := hrel
          have HBE := hid hbest
          have HB := hid hb
          clear hbest hb
          have c1 := HC1.out _ HB.out
          have q1 : wr.cell? ⟨g, 1, none⟩ = some (.int .i64 l1) := (HST.out.below HB.out).lf.cell 1
          by_cases hfe : a + y ≤ S ∧ y ≤ l1
          · obtain ⟨h3, h4⟩ := hfe
            have h3' : (a : Int) + (y : Int) ≤ (S : Int) := by omega
            have h4' : (y : Int) ≤ (l1 : Int) := by omega
            generalize gk = K1 at *
            go_wp2
            clear c1 q1
            go_loopg [11, 15] (S + 1) (fun gk t11 t15 wr => ∃ (t : Nat) (z : Int), t + gk = S + 1 ∧ t11 = .int .i64 z ∧ t15 = .int .i64 t ∧ BestZ fv z (fun x' y' t' => Fz S l0 l1 l2 x' y' t' ∧ (x' < a ∨ (x' = a ∧ (y' < y ∨ (y' = y ∧ t' < t))))) ∧ Below w2.heap.size w2 wr)
            case atStart => exact ⟨0, z, by omega, rfl, rfl, HBE.out.alike fun x' y' t' => by unfold Fz; omega, HB.out⟩
            case round =>
              clear HBE HB
              obtain ⟨t, z, ht, rfl, rfl, hbest, hb⟩ := hrel
              have HBE := hid hbest
              have HB := hid hb
              clear hbest hb
              have c1 := HC1.out _ HB.out
              have q2 : wr.cell? ⟨g, 2, none⟩ = some (.int .i64 l2) := (HST.out.below HB.out).lf.cell 2
              by_cases hfe : a + y + t ≤ S ∧ t ≤ l2
              · obtain ⟨h5, h6⟩ := hfe
                have h5' : (a : Int) + (y : Int) + (t : Int) ≤ (S : Int) := by omega
                have h6' : (t : Int) ≤ (l2 : Int) := by omega
                clear c1
                have hb0 := HB.out
                have HFZ := hid (fun x' y' t' => (show (Fz S l0 l1 l2 x' y' t' ∧ (x' < a ∨ (x' = a ∧ (y' < y ∨ (y' = y ∧ t' < t + 1))))) ↔ (Fz S l0 l1 l2 x' y' t' ∧ (x' < a ∨ (x' = a ∧ (y' < y ∨ (y' = y ∧ t' < t))))) ∨ (x' = a ∧ y' = y ∧ t' = t) from by unfold Fz; omega))
                obtain ⟨M0, hM0, iM0, bM0⟩ : ∃ M : Nat, l0 - a = M ∧ (l0 : Int) - (a : Int) = (M : Int) ∧ M ≤ 1000 := ⟨_, rfl, by omega, by omega⟩
                obtain ⟨M1, hM1, iM1, bM1⟩ : ∃ M : Nat, l1 - y = M ∧ (l1 : Int) - (y : Int) = (M : Int) ∧ M ≤ 1000 := ⟨_, rfl, by omega, by omega⟩
                obtain ⟨M2, hM2, iM2, bM2⟩ : ∃ M : Nat, l2 - t = M ∧ (l2 : Int) - (t : Int) = (M : Int) ∧ M ≤ 1000 := ⟨_, rfl, by omega, by omega⟩
                obtain ⟨D1, hD1, iD1⟩ : ∃ M : Nat, S - a = M ∧ (S : Int) - (a : Int) = (M : Int) := ⟨_, rfl, by omega⟩
                obtain ⟨D2, hD2, iD2⟩ : ∃ M : Nat, S - a - y = M ∧ (D1 : Int) - (y : Int) = (M : Int) := ⟨_, rfl, by omega⟩
                obtain ⟨D3, hD3, iD3⟩ : ∃ M : Nat, S - a - y - t = M ∧ (D2 : Int) - (t : Int) = (M : Int) := ⟨_, rfl, by omega⟩
                obtain ⟨X0, hX0, iX0⟩ : ∃ M : Nat, a * k 0 = M ∧ (a : Int) * ((k 0 : Nat) : Int) = (M : Int) := ⟨_, rfl, (Int.natCast_mul _ _).symm⟩
                obtain ⟨X1, hX1, iX1⟩ : ∃ M : Nat, y * k 1 = M ∧ (y : Int) * ((k 1 : Nat) : Int) = (M : Int) := ⟨_, rfl, (Int.natCast_mul _ _).symm⟩
                obtain ⟨X2, hX2, iX2⟩ : ∃ M : Nat, t * k 2 = M ∧ (t : Int) * ((k 2 : Nat) : Int) = (M : Int) := ⟨_, rfl, (Int.natCast_mul _ _).symm⟩
                obtain ⟨X3, hX3, iX3⟩ : ∃ M : Nat, D3 * k 3 = M ∧ (D3 : Int) * ((k 3 : Nat) : Int) = (M : Int) := ⟨_, rfl, (Int.natCast_mul _ _).symm⟩
                have f0 := Nat.mul_le_mul_left a (HK.out 0 (by omega))
                have f1 := Nat.mul_le_mul_left y (HK.out 1 (by omega))
                have f2 := Nat.mul_le_mul_left t (HK.out 2 (by omega))
                have f3 := Nat.mul_le_mul_left D3 (HK.out 3 (by omega))
                rw [hX0] at f0
                rw [hX1] at f1
                rw [hX2] at f2
                rw [hX3] at f3
                have hS32 := hS0.2
                have bX : X0 + X1 + X2 + X3 ≤ S * 1000 := by omega
                clear f0 f1 f2 f3
                obtain ⟨Y1, hY1, iY1⟩ : ∃ M : Nat, X0 + X1 = M ∧ (X0 : Int) + (X1 : Int) = (M : Int) := ⟨_, rfl, by omega⟩
                obtain ⟨Y2, hY2, iY2⟩ : ∃ M : Nat, Y1 + X2 = M ∧ (Y1 : Int) + (X2 : Int) = (M : Int) := ⟨_, rfl, by omega⟩
                obtain ⟨Y3, hY3, iY3⟩ : ∃ M : Nat, Y2 + X3 = M ∧ (Y2 : Int) + (X3 : Int) = (M : Int) := ⟨_, rfl, by omega⟩
                have bY : Y3 ≤ S * 1000 := by omega
                obtain ⟨UX, hUX, iUX⟩ : ∃ M : Nat, U * Y3 = M ∧ (U : Int) * (Y3 : Int) = (M : Int) := ⟨_, rfl, (Int.natCast_mul _ _).symm⟩
                have bUX : UX ≤ 1048576 * 100000 * (32 * 1000) := hUX ▸ Nat.le_trans (Nat.mul_le_mul_left U bY) hR2
                obtain ⟨lv, hlv⟩ : ∃ v, LV (k 0) (k 1) (k 2) (k 3) L M0 M1 M2 = v := ⟨_, rfl⟩
                have bLV := HLB.out M0 M1 M2
                rw [hlv] at bLV
                obtain ⟨FV, hFV, iFV⟩ : ∃ M : Nat, UX + lv = M ∧ (UX : Int) + (lv : Int) = (M : Int) := ⟨_, rfl, by omega⟩
                have HFA := hid (show fv a y t = FV from by
                  rw [HFV.out]
                  show U * (a * k 0 + y * k 1 + t * k 2 + (S - a - y - t) * k 3) + LV (k 0) (k 1) (k 2) (k 3) L (l0 - a) (l1 - y) (l2 - t) = FV
                  rw [hX0, hX1, hX2, hD3, hX3, hM0, hM1, hM2, hlv, hY1, hY2, hY3, hUX, hFV])
                have bX' : X0 ≤ 32000 ∧ X1 ≤ 32000 ∧ X2 ≤ 32000 ∧ X3 ≤ 32000 ∧ Y1 ≤ 32000 ∧ Y2 ≤ 32000 ∧ Y3 ≤ 32000 := by omega
                have bU' : UX ≤ 3355443200000000 := by omega
                have bL' : lv ≤ 26843545600000000 := by omega
                have bF' : FV ≤ 30198988800000000 := by omega
                obtain ⟨u0, u1, u2, u3, v1, v2, v3⟩ := bX'
                have HM := hid (⟨hM0, hM1, hM2, hlv⟩ : l0 - a = M0 ∧ l1 - y = M1 ∧ l2 - t = M2 ∧ LV (k 0) (k 1) (k 2) (k 3) L M0 M1 M2 = lv)
                clear hM0 hM1 hM2 hD1 hD2 hD3 hX0 hX1 hX2 hX3 hY1 hY2 hY3 hUX hlv hFV bX bY bUX bLV hR2
                have q0 : wr.cell? ⟨g, 0, none⟩ = some (.int .i64 l0) := (HST.out.below HB.out).lf.cell 0
                have q1 : wr.cell? ⟨g, 1, none⟩ = some (.int .i64 l1) := (HST.out.below HB.out).lf.cell 1
                have c1 := HC1.out _ HB.out
                have hb1 := on HB.out (below_alloc wr (.cells #[.int .i64 l0, .int .i64 l1, .int .i64 l2] 23))
                have hx1 := Bx.new wr 23 #[.int .i64 l0, .int .i64 l1, .int .i64 l2]
                have hxs := HB.out.size
                obtain ⟨xb, hxb⟩ : ∃ x, wr.heap.size = x := ⟨_, rfl⟩
                rw [hxb] at hx1 hxs
                have HXB := hid hxb
                have HXS := hid hxs
                have HB3 := hid hb1
                have HX3 := hid hx1
                clear hb1 hx1 hxs hxb hb0
                go_upto_region 15 with fail
                rw [HXB.out]
                generalize wr.alloc (.cells #[.int .i64 l0, .int .i64 l1, .int .i64 l2] 23) = w3 at *
                clear q0 q1 q2 c1
                have y0 : w3.cell? ⟨g, 0, none⟩ = some (.int .i64 l0) := (HST.out.below HB3.out).lf.cell 0
                have y1 : w3.cell? ⟨xb, 0, none⟩ = some (.int .i64 l0) := HX3.out.cell 0
                have y2 : w3.frozen? ⟨xb, 0, none⟩ = false := HX3.out.free 0
                go_upto_region 16 with fail
                have HB4 := hid (show Below w2.heap.size w2 (w3.setCell ⟨xb, 0, none⟩ (.int .i64 (M0 : Nat))) from below_set HB3.out _ _ HXS.out)
                have HX4 := hid (show Bx (w3.setCell ⟨xb, 0, none⟩ (.int .i64 (M0 : Nat))) xb 23 #[.int .i64 (M0 : Nat), .int .i64 l1, .int .i64 l2] from HX3.out.set 0 (.int .i64 (M0 : Nat)))
                generalize w3.setCell ⟨xb, 0, none⟩ (.int .i64 (M0 : Nat)) = w4 at *
                clear y0 y1 y2
                have y0 : w4.cell? ⟨g, 1, none⟩ = some (.int .i64 l1) := (HST.out.below HB4.out).lf.cell 1
                have y1 : w4.cell? ⟨xb, 1, none⟩ = some (.int .i64 l1) := HX4.out.cell 1
                have y2 : w4.frozen? ⟨xb, 1, none⟩ = false := HX4.out.free 1
                go_upto_region 17 with fail
                have HB5 := hid (show Below w2.heap.size w2 (w4.setCell ⟨xb, 1, none⟩ (.int .i64 (M1 : Nat))) from below_set HB4.out _ _ HXS.out)
                have HX5 := hid (show Bx (w4.setCell ⟨xb, 1, none⟩ (.int .i64 (M1 : Nat))) xb 23 #[.int .i64 (M0 : Nat), .int .i64 (M1 : Nat), .int .i64 l2] from HX4.out.set 1 (.int .i64 (M1 : Nat)))
                generalize w4.setCell ⟨xb, 1, none⟩ (.int .i64 (M1 : Nat)) = w5 at *
                clear y0 y1 y2
                have y0 : w5.cell? ⟨g, 2, none⟩ = some (.int .i64 l2) := (HST.out.below HB5.out).lf.cell 2
                have y1 : w5.cell? ⟨xb, 2, none⟩ = some (.int .i64 l2) := HX5.out.cell 2
                have y2 : w5.frozen? ⟨xb, 2, none⟩ = false := HX5.out.free 2
                go_upto_region 18 with fail
                have HB6 := hid (show Below w2.heap.size w2 (w5.setCell ⟨xb, 2, none⟩ (.int .i64 (M2 : Nat))) from below_set HB5.out _ _ HXS.out)
                have HX6 := hid (show Bx (w5.setCell ⟨xb, 2, none⟩ (.int .i64 (M2 : Nat))) xb 23 #[.int .i64 (M0 : Nat), .int .i64 (M1 : Nat), .int .i64 (M2 : Nat)] from HX5.out.set 2 (.int .i64 (M2 : Nat)))
                generalize w5.setCell ⟨xb, 2, none⟩ (.int .i64 (M2 : Nat)) = w6 at *
                clear y0 y1 y2
                have c1 := HC1.out _ HB6.out
                go_upto_region 19 with fail
                clear c1
                have hcall := fun s_ : Since w6 => HIH.out M0 M1 M2 bM0 bM1 bM2 s_.at_ (HR.out.now (on (HST.out.below HB6.out).bel s_.bel))
                rw [HM.out.2.2.2] at hcall
                have HCALL := hid hcall
                clear hcall
                have y0 : ∀ s_ : Since w6, s_.at_.cell? ⟨g + 1, 0, none⟩ = some (.int .i64 (k 0 : Nat)) := fun s_ => ((HST.out.below HB6.out).cs.next s_.bel).cell 0
                have y1 : ∀ s_ : Since w6, s_.at_.cell? ⟨g + 1, 1, none⟩ = some (.int .i64 (k 1 : Nat)) := fun s_ => ((HST.out.below HB6.out).cs.next s_.bel).cell 1
                have y2 : ∀ s_ : Since w6, s_.at_.cell? ⟨g + 1, 2, none⟩ = some (.int .i64 (k 2 : Nat)) := fun s_ => ((HST.out.below HB6.out).cs.next s_.bel).cell 2
                have y3 : ∀ s_ : Since w6, s_.at_.cell? ⟨g + 1, 3, none⟩ = some (.int .i64 (k 3 : Nat)) := fun s_ => ((HST.out.below HB6.out).cs.next s_.bel).cell 3
                have x0 : ∀ s_ : Since w6, s_.at_.cell? ⟨xb, 0, none⟩ = some (.int .i64 (M0 : Nat)) := fun s_ => (HX6.out.next s_.bel).cell 0
                have x1 : ∀ s_ : Since w6, s_.at_.cell? ⟨xb, 1, none⟩ = some (.int .i64 (M1 : Nat)) := fun s_ => (HX6.out.next s_.bel).cell 1
                have x2 : ∀ s_ : Since w6, s_.at_.cell? ⟨xb, 2, none⟩ = some (.int .i64 (M2 : Nat)) := fun s_ => (HX6.out.next s_.bel).cell 2
                refine wp_region_since (by kernel_rfl) (by kernel_rfl) ?_
                repeat (go_big_quiet_step ((go_at_call 25; exact Calls.since _ (HCALL.out _))))
                refine wpQuiet_nil ?_
                rintro _ ⟨s_, rfl⟩
                have HB7 := hid (on HB6.out s_.bel)
                clear y0 y1 y2 y3 x0 x1 x2
                generalize s_.at_ = w7 at *
                by_cases hz : z < 0 ∨ (FV : Int) < z
                · have HN := hid ((HBE.out.take (a := a) (b := y) (c := t) HFZ.out (by rw [HFA.out]; exact hz)))
                  rw [HFA.out] at HN
                  by_cases hz0 : z < 0
                  · clear hz
                    go_wp2
                    go_roundg (gk - 1)
                    case measure => omega
                    case rel => exact ⟨t + 1, FV, by omega, rfl, by go_num, HN.out, HB7.out⟩
                  · have hz1 : (FV : Int) < z := by omega
                    clear hz
                    go_wp2
                    go_roundg (gk - 1)
                    case measure => omega
                    case rel => exact ⟨t + 1, FV, by omega, rfl, by go_num, HN.out, HB7.out⟩
                · have HN := hid (HBE.out.stay (a := a) (b := y) (c := t) HFZ.out (by rw [HFA.out]; exact hz))
                  have hz0 : ¬ z < 0 := by omega
                  have hz1 : ¬ (FV : Int) < z := by omega
                  clear hz
                  go_wp2
                  go_roundg (gk - 1)
                  case measure => omega
                  case rel => exact ⟨t + 1, z, by omega, rfl, by go_num, HN.out, HB7.out⟩
              · have HN := hid (HBE.out.alike (V' := fun x' y' t' => Fz S l0 l1 l2 x' y' t' ∧ (x' < a ∨ (x' = a ∧ y' < y + 1))) fun x' y' t' => by unfold Fz; omega)
                by_cases h5 : a + y + t ≤ S
                · have h5' : (a : Int) + (y : Int) + (t : Int) ≤ (S : Int) := by omega
                  have h6' : ¬ (t : Int) ≤ (l2 : Int) := by omega
                  clear hfe
                  go_wp2
                  go_roundg (K1 - 1)
                  case measure => omega
                  case rel => exact ⟨y + 1, z, by omega, rfl, by go_num, HN.out, HB.out⟩
                · have h5' : ¬ (a : Int) + (y : Int) + (t : Int) ≤ (S : Int) := by omega
                  clear hfe
                  go_wp2
                  go_roundg (K1 - 1)
                  case measure => omega
                  case rel => exact ⟨y + 1, z, by omega, rfl, by go_num, HN.out, HB.out⟩
          · have HN := hid (HBE.out.alike (V' := fun x' y' t' => Fz S l0 l1 l2 x' y' t' ∧ x' < a + 1) fun x' y' t' => by unfold Fz; omega)
            by_cases h3 : a + y ≤ S
            · have h3' : (a : Int) + (y : Int) ≤ (S : Int) := by omega
              have h4' : ¬ (y : Int) ≤ (l1 : Int) := by omega
              clear hfe
              go_wp2
              go_roundg (K0 - 1)
              case measure => omega
              case rel => exact ⟨a + 1, z, by omega, rfl, by go_num, HN.out, HB.out⟩
            · have h3' : ¬ (a : Int) + (y : Int) ≤ (S : Int) := by omega
              clear hfe
              go_wp2
              go_roundg (K0 - 1)
              case measure => omega
              case rel => exact ⟨a + 1, z, by omega, rfl, by go_num, HN.out, HB.out⟩
      · have hall := HBE.out.alike (V' := Fz S l0 l1 l2) fun x' y' t' => by unfold Fz; omega
        obtain ⟨v, hv⟩ : ∃ v : Nat, z = v := by
          rcases hall with ⟨_, h⟩ | ⟨v, h, _⟩
          · exact absurd (show Fz S l0 l1 l2 0 0 0 from ⟨by omega, by omega, by omega, by omega⟩) (h 0 0 0)
          · exact ⟨v, h⟩
        subst hv
        rw [HFV.out] at hall
        have HLC := hid (LV_cons hall)
        have HEB := hid (HST.out.below HB.out).bel
        clear hall
        by_cases h1 : a ≤ S
        · have h1' : (a : Int) ≤ (S : Int) := by omega
          have h2' : ¬ (a : Int) ≤ (l0 : Int) := by omega
          clear hfe
          go_wp2
          go_ret
          exact ⟨by rw [HLC.out]; rfl, HEB.out⟩
        · have h1' : ¬ (a : Int) ≤ (S : Int) := by omega
          clear hfe
          go_wp2
          go_ret
          exact ⟨by rw [HLC.out]; rfl, HEB.out⟩
end Go.Proofs.Ytcibhmbneedghaa
