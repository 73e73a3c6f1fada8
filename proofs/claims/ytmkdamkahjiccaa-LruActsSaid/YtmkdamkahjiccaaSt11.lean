/-
  What is proved: the walk of LruStack: what a smaller cache has a greater one has, too, in the same order, whatever both are asked for. Condition: the numbers are read as such.
-/
import Derived.Test.YtmkdamkahjiccaaBo11
namespace Go.Proofs.Ytmkdamkahjiccaa
open Go.RowKit

theorem addL_take {C : Nat} {x : Int} {L : List Int} (hl : L.length ≤ C) : addL C x L = if vb x then (x :: wo x L).take C else L := by
  unfold addL
  have hle := wo_le x L
  by_cases hv : vb x
  · rw [if_pos hv, if_pos hv]
    by_cases hg : goes C x L
    · have h2 := hg.2
      rw [if_pos hg, List.dropLast_eq_take]
      congr 1
      rw [List.length_cons] at h2 ⊢
      omega
    · have h2 : ¬ C < (x :: wo x L).length := fun e => hg ⟨hv, e⟩
      rw [if_neg hg, List.take_of_length_le (by omega)]
  · rw [if_neg hv, if_neg hv, if_neg fun e => hv e.1]
/-- a smaller one's blocks are a greater one's first ones, behind Add too -/
theorem add_prefix {n m : Nat} {x : Int} {P Q : List Int} (h : P <+: Q) (hn : n ≤ m) (hp : P.length ≤ n) (hq : Q.length ≤ m) : addL n x P <+: addL m x Q := by
  rw [addL_take hp, addL_take hq]
  by_cases hv : vb x
  · rw [if_pos hv, if_pos hv]
    have h1 : x :: wo x P <+: x :: wo x Q := (List.cons_prefix_cons).2 ⟨rfl, h.filter _⟩
    refine List.IsPrefix.trans ?_ (List.take_prefix_take_left hn)
    obtain ⟨t, e⟩ := h1
    exact ⟨t.take (n - (x :: wo x P).length), by rw [← e, List.take_append]⟩
  · rw [if_neg hv, if_neg hv]
    exact h
/-- both, apart -/
structure Tl (w0 w : World) (g k n : Nat) (P : List Int) (g2 k2 m : Nat) (Q : List Int) : Prop where
  a : Lw w0 w g k n P
  b : Lw w0 w g2 k2 m Q
  d1 : g2 ≠ k
  d2 : k2 ≠ k
  d3 : g ≠ k2
  le : n ≤ m
  pre : P <+: Q
theorem Lw.chg {w0 w w' : World} {g k C j : Nat} {L : List Int} (h : Lw w0 w g k C L) (hc : Chg w w' (· = j) (· = j)) (hj : w0.heap.size ≤ j) (h1 : g ≠ j) (h2 : k ≠ j) : Lw w0 w' g k C L :=
  ⟨h.q.chg hc h1 h2, h.len, h.lg, h.lk, h.bel.trans (hc.bel h.bel.size fun i e => by rw [e]; exact hj)⟩
section
variable {w0 w w' w2 : World} {g k n g2 k2 m : Nat} {P Q : List Int} {x : Int}
theorem Tl.below (h : Tl w0 w g k n P g2 k2 m Q) (hb : Below w.heap.size w w') : Tl w0 w' g k n P g2 k2 m Q := ⟨h.a.below hb, h.b.below hb, h.d1, h.d2, h.d3, h.le, h.pre⟩
theorem Tl.mid (h : Tl w0 w g k n P g2 k2 m Q) (hc : Chg w w' (· = k) (· = k)) : Lw w0 w' g2 k2 m Q := h.b.chg hc h.a.lk h.d1 h.d2
theorem Tl.step (h : Tl w0 w g k n P g2 k2 m Q) (hq : Lq w' g k n (addL n x P)) (hc : Chg w w' (· = k) (· = k)) (hq2 : Lq w2 g2 k2 m (addL m x Q)) (hc2 : Chg w' w2 (· = k2) (· = k2)) :
    Tl w0 w2 g k n (addL n x P) g2 k2 m (addL m x Q) :=
  ⟨(h.a.step hq hc (addL_len h.a.len h.a.q.nd)).chg hc2 h.b.lk h.d3 (fun e => h.d2 e.symm), (h.mid hc).step hq2 hc2 (addL_len h.b.len h.b.q.nd), h.d1, h.d2, h.d3, h.le, add_prefix h.pre h.le h.a.len h.b.len⟩
end
set_option maxRecDepth 100000 in
set_option maxHeartbeats 2000000 in
theorem stack_walk (s t : Int) (A : Option Addr) (N c : Nat) (l : List Int) (w : World) (hs : 0 ≤ s ∧ s ≤ 255) (ht : 0 ≤ t ∧ t ≤ 255) (hl : l.length = N) (hn : N ≤ maxLen) (h : Ns w .i64 A l) :
    Calls Try.prog 5 #[.int .u8 s, .int .u8 t, .slice A N c] w fun e w' => e = .returned (.bool true) ∧ Below w.heap.size w w' := by
  have HA := hid h
  have HL := hid hl
  unfold maxLen at hn
  clear h hl
  go_enter Try.func5, Try.ntmps5
  go_upto_region 3 with (go_at_call 8; refine (wakes_any _).mono ?_; rintro e w1 ⟨rfl, hb⟩; have HB := hid hb; clear hb)
  by_cases h100 : 150 < N
  · have hd : decide ((150 : Int) < (N : Int)) = true := by simp; omega
    clear h100
    go_wp2
    go_ret
    exact ⟨rfl, HB.out⟩
  have hd : decide ((150 : Int) < (N : Int)) = false := by simp; omega
  go_upto_region 6 with fail
  obtain ⟨n, hn1⟩ : ∃ n : Nat, 1 + s % 8 = (n : Int) := ⟨(1 + s % 8).toNat, by omega⟩
  obtain ⟨m, hm1⟩ : ∃ m : Nat, t % 8 = (m : Int) := ⟨(t % 8).toNat, by omega⟩
  have hnm : 1 ≤ n ∧ n ≤ 8 ∧ m ≤ 7 := by omega
  have HC1 := hid (show cp n = n from by unfold cp; omega)
  have HC2 := hid (show cp ((n : Int) + (m : Int)) = n + m from by unfold cp; omega)
  rw [hn1]
  have HM := hid hm1
  have HS := hid hn1
  clear hn1 hm1
  have hs2 : 0 ≤ s ∧ s ≤ 255 := hs
  go_wp2_with (first
    | (go_at_call 9; (with_reducible refine (lru_new n _).mono ?_); rintro e w2 ⟨g, k, rfl, hq, hb, hg, hk⟩; rw [HC1.out] at hq; have HW1 := hid (show Lw w w2 g k n [] from ⟨hq, Nat.zero_le _, Nat.le_trans HB.out.size hg, Nat.le_trans HB.out.size hk, on HB.out hb⟩); clear hq hb hg hk)
    | (go_at_call 9; go_must (rw [HM.out]); go_must (refine (lru_new ((n : Int) + (m : Int)) _).mono ?_); rintro e w3 ⟨g2, k2, rfl, hq, hb, hg, hk⟩; rw [HC2.out] at hq; have HT0 := hid (show Tl w w3 g k n [] g2 k2 (n + m) [] from ⟨HW1.out.below hb, ⟨hq, Nat.zero_le _, Nat.le_trans HW1.out.bel.size hg, Nat.le_trans HW1.out.bel.size hk, on HW1.out.bel hb⟩, fun e => by have := HW1.out.q.sq.lt; omega, fun e => by have := HW1.out.q.sq.lt; omega, fun e => by have := HW1.out.q.box.lt; omega, by omega, List.prefix_refl _⟩); clear hq hb hg hk))
  clear HW1
  go_loopg [33] N (fun gk t wr => ∃ p : Nat, p + gk = N ∧ t = .int .i64 p ∧ ∃ P Q, Tl w wr g k n P g2 k2 (n + m) Q)
  case atStart => exact ⟨0, by omega, rfl, _, _, HT0.out⟩
  case round =>
    obtain ⟨p, hp, rfl, P, Q, hT⟩ := hrel
    have HT := hid hT
    clear hT HT0
    by_cases hlt : p < N
    · have hpl : p < l.length := by rw [HL.out]; exact hlt
      obtain ⟨ad, rfl, _, hca⟩ := rv_at (HA.out.below HT.out.a.bel).rv hpl
      generalize l[p] = x at *
      have hpn : (p : Int) < (N : Int) := by omega
      have H1 := hid (lru_add HT.out.a.q x)
      clear hpl
      go_wp2_with (first
        | (go_at_call 13; (with_reducible refine H1.out.mono ?_); rintro e w4 ⟨rfl, hq, hc⟩; have H2 := hid (lru_add (HT.out.mid hc).q x); have HQ4 := hid hq; have HC4 := hid hc; clear hq hc)
        | (go_at_call 13; (with_reducible refine H2.out.mono ?_); rintro e w5 ⟨rfl, hq, hc⟩; have HT5 := hid (HT.out.step HQ4.out HC4.out hq hc); clear hq hc)
        | (go_at_call 16; (with_reducible refine (lru_all HT5.out.a.q).mono ?_); rintro e w6 ⟨A6, c6, rfl, ho, hg⟩; have HR6 := hid (rw_told ho hg); have HT6 := hid (HT5.out.below hg.nilBelow); clear ho hg)
        | (go_at_call 16; (with_reducible refine (lru_all HT6.out.b.q).mono ?_); rintro e w7 ⟨A7, c7, rfl, ho, hg⟩; have HR7 := hid (rw_told ho hg); have HT7 := hid (HT6.out.below hg.nilBelow); have HR67 := hid (HR6.out.1.below hg.nilBelow); have hl7 := HT7.out.pre.length_le; have hc7 : (addL n x P).length ≤ c7 := Nat.le_trans hl7 HR7.out.2.2.1; clear ho hg)
        | (go_at_call 15; go_must (refine (sameints_yes A6 A7 _ _ c6 c7 (addL n x P) w7 _ _ rfl rfl (by have := HT7.out.a.len; unfold maxLen; omega) HR67.out.rd (by rw [List.prefix_iff_eq_take.1 HT7.out.pre]; exact HR7.out.1.rd.takeI _)).mono ?_); rintro e w8 ⟨rfl, d8, rfl⟩; have HT8 := hid (HT7.out.below (below_draws (Below.refl _ _) d8))))
      go_roundg (gk - 1)
      case measure => omega
      case rel => exact ⟨p + 1, by omega, by go_num, _, _, HT8.out⟩
    · obtain rfl : p = N := by omega
      clear hlt hp
      go_wp2
      go_ret
      exact ⟨rfl, HT.out.a.bel⟩
end Go.Proofs.Ytmkdamkahjiccaa
