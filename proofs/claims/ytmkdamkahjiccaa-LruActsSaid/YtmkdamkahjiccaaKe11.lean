/-
  What is proved: an LRU that a law works with; the walk of LruKeeps: with as many blocks as the capacity, used again and again in any order, none ever goes. Condition: the numbers are read as such.
-/
import Derived.Test.YtmkdamkahjiccaaWk11
import Derived.Test.YtmkdamkahjiccaaAr11
namespace Go.Proofs.Ytmkdamkahjiccaa
open Go.RowKit

/-- an LRU that a law has made -/
structure Lw (w0 w : World) (g k C : Nat) (L : List Int) : Prop where
  q : Lq w g k C L
  len : L.length ≤ C
  lg : w0.heap.size ≤ g
  lk : w0.heap.size ≤ k
  bel : Below w0.heap.size w0 w
section
variable {w0 w w' : World} {g k C : Nat} {L L' : List Int}
theorem Lw.below (h : Lw w0 w g k C L) (hb : Below w.heap.size w w') : Lw w0 w' g k C L := ⟨h.q.below hb, h.len, h.lg, h.lk, on h.bel hb⟩
theorem Lw.draws (h : Lw w0 w g k C L) (n : Nat) : Lw w0 (w.drewN n) g k C L := h.below (below_draws (Below.refl _ _) n)
theorem Lw.step (h : Lw w0 w g k C L) (hq : Lq w' g k C L') (hc : Chg w w' (· = k) (· = k)) (hl : L'.length ≤ C) : Lw w0 w' g k C L' :=
  ⟨hq, hl, h.lg, h.lk, h.bel.trans (hc.bel h.bel.size fun j e => by rw [e]; exact h.lk)⟩
theorem Lw.new {w1 : World} {m : Int} (hb1 : Below w0.heap.size w0 w1) (hq : Lq w g k (cp m) []) (hb : Below w1.heap.size w1 w) (hg : w1.heap.size ≤ g) (hk : w1.heap.size ≤ k) : Lw w0 w g k (cp m) [] :=
  ⟨hq, Nat.zero_le _, Nat.le_trans hb1.size hg, Nat.le_trans hb1.size hk, on hb1 hb⟩
end
theorem keeps_in {C : Nat} {x : Int} {L : List Int} (hx : 0 ≤ x ∧ x < C) (hC : C ≤ 16) (hd : L.Nodup) (hL : ∀ y ∈ L, 0 ≤ y ∧ y < C) : ¬ goes C x L ∧ addE x = 0 ∧ addL C x L = x :: wo x L ∧ ∀ y ∈ x :: wo x L, 0 ≤ y ∧ y < C := by
  have hv : vb x := ⟨hx.1, by omega⟩
  have hall : ∀ y ∈ x :: wo x L, 0 ≤ y ∧ y < C := fun y hy => by
    rcases List.mem_cons.1 hy with rfl | h
    · exact hx
    · exact hL y (mem_wo.1 h).1
  have hn : (x :: wo x L).Nodup := List.nodup_cons.2 ⟨fun h => (mem_wo.1 h).2 rfl, wo_nodup hd⟩
  have hg : ¬ goes C x L := fun e => by
    have := nodup_le C _ hn hall
    have := e.2
    omega
  refine ⟨hg, if_pos hv, ?_, hall⟩
  unfold addL
  rw [if_neg hg, if_pos hv]
set_option maxRecDepth 100000 in
set_option maxHeartbeats 2000000 in
theorem keeps_walk (m : Int) (A : Option Addr) (n c : Nat) (l : List Int) (w : World) (hm : 0 ≤ m ∧ m ≤ 255) (hl : l.length = n) (hn : n ≤ maxLen) (hb : ∀ x ∈ l, 0 ≤ x ∧ x ≤ 255) (h : Ns w .u8 A l) :
    Calls Try.prog 7 #[.int .u8 m, .slice A n c] w fun e w' => e = .returned (.bool true) ∧ Below w.heap.size w w' := by
  have HA := hid h
  have HL := hid hl
  have HBY := hid hb
  unfold maxLen at hn
  clear h hl hb
  go_enter Try.func7, Try.ntmps7
  go_upto_region 3 with (go_at_call 8; refine (wakes_any _).mono ?_; rintro e w1 ⟨rfl, hb⟩; have HB := hid hb; clear hb)
  by_cases h100 : 200 < n
  · have hd : decide ((200 : Int) < (n : Int)) = true := by simp; omega
    clear h100
    go_wp2
    go_ret
    exact ⟨rfl, HB.out⟩
  have hd : decide ((200 : Int) < (n : Int)) = false := by simp; omega
  go_upto_region 6 with fail
  obtain ⟨C, hC⟩ : ∃ C : Nat, 1 + m % 16 = (C : Int) := ⟨(1 + m % 16).toNat, by omega⟩
  have hC1 : 1 ≤ C ∧ C ≤ 16 := by omega
  have HCP := hid (show cp C = C from by unfold cp; omega)
  rw [hC]
  have HM := hid hC
  clear hC hm
  go_wp2_with (go_at_call 9; refine (lru_new C _).mono ?_; rintro e w2 ⟨g, k, rfl, hq, hb, hg, hk⟩; have HW0 := hid (Lw.new HB.out hq hb hg hk); rw [HCP.out] at HW0; clear hq hb hg hk)
  go_loopg [25] n (fun gk t wr => ∃ p : Nat, p + gk = n ∧ t = .int .i64 p ∧ ∃ L, Lw w wr g k C L ∧ ∀ y ∈ L, 0 ≤ y ∧ y < C)
  case atStart => exact ⟨0, by omega, rfl, [], HW0.out, fun y hy => by cases hy⟩
  case round =>
    obtain ⟨p, hp, rfl, L, hT, hY⟩ := hrel
    have HT := hid hT
    have HY := hid hY
    clear hT hY HW0
    by_cases hlt : p < n
    · have hpl : p < l.length := by rw [HL.out]; exact hlt
      obtain ⟨ad, rfl, _, hca⟩ := (HA.out.below HT.out.bel) p _ (List.getElem?_eq_getElem hpl)
      have hx := HBY.out _ (List.getElem_mem hpl)
      generalize l[p] = x at *
      obtain ⟨r, hr⟩ : ∃ r, x % (C : Int) = r := ⟨_, rfl⟩
      have hr2 : 0 ≤ r ∧ r < C := by rw [← hr]; exact ⟨Int.emod_nonneg _ (by omega), Int.emod_lt_of_pos _ (by omega)⟩
      obtain ⟨g1, g2, g3, g4⟩ := keeps_in hr2 hC1.2 HT.out.q.nd HY.out
      have e5 : vict C r L = 0 := if_neg g1
      have HD := hid (lru_add HT.out.q r)
      rw [e5, decide_eq_false g1, g2, g3] at HD
      have HLE := hid (show (r :: wo r L).length ≤ C from by have := addL_len (b := r) HT.out.len HT.out.q.nd; rw [g3] at this; exact this)
      have HG4 := hid g4
      have HR := hid hr
      have hpn : (p : Int) < (n : Int) := by omega
      have hCne : ((C : Int) == 0) = false := by simp; omega
      clear hr2 g1 g2 g3 g4 e5 hr hpl
      go_wp2_with (go_at_call 13; go_must (rw [HR.out]); go_must (refine HD.out.mono ?_); rintro e w3 ⟨rfl, hq, hc⟩; have HT3 := hid (HT.out.step hq hc HLE.out); clear hq hc)
      go_roundg (gk - 1)
      case measure => omega
      case rel => exact ⟨p + 1, by omega, by go_num, _, HT3.out, HG4.out⟩
    · obtain rfl : p = n := by omega
      have HN := hid (lru_len HT.out.q)
      have hle : (L.length : Int) ≤ (C : Int) := by have := HT.out.len; omega
      clear hlt hp
      go_wp2_with (go_at_call 17; refine HN.out.mono ?_; rintro e w3 ⟨rfl, hb⟩; have HT3 := hid (HT.out.below hb); clear hb)
      go_ret
      exact ⟨by simp [], HT3.out.bel⟩
end Go.Proofs.Ytmkdamkahjiccaa
