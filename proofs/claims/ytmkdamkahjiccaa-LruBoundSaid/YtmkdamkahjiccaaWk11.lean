/-
  What is proved: the reference's Do at every act that is one; the fixed fact that each statement of this layer asks first holds; LruNil's walk. Condition: the list is read.
-/
import Derived.Test.YtmkdamkahjiccaaRe11
namespace Go.Proofs.Ytmkdamkahjiccaa
open Go.RowKit

/-- behind an act: the list, the victim, whether one went, whether the block was there, the error -/
noncomputable def dL (C : Nat) (κ b : Int) (l : List Int) : List Int := if κ = 2 then wo b l else if κ = 0 then useL b l else addL C b l
def dV (C : Nat) (κ b : Int) (l : List Int) : Int := if κ = 1 then vict C b l else 0
def dG (C : Nat) (κ b : Int) (l : List Int) : Bool := decide (κ = 1 ∧ goes C b l)
def dE (κ b : Int) : Int := if κ = 1 then addE b else 0
section
variable {C : Nat} {b : Int} {l : List Int}
theorem wo_len_lt {l : List Int} (hd : l.Nodup) (h : b ∈ l) : (b :: wo b l).length = l.length := by
  obtain ⟨s, t, rfl⟩ := List.append_of_mem h
  rw [wo_split hd]
  simp
  omega
theorem goes_in (hd : l.Nodup) (hl : l.length ≤ C) (h : b ∈ l) : ¬ goes C b l := fun hg => by
  have := hg.2
  rw [wo_len_lt hd h] at this
  omega
/-- the reference's act -/
theorem rdo_any {w : World} {A : Option Addr} {n c : Nat} (hr : Rw w A l) (hn : l.length = n) (hc : n ≤ c ∧ c ≤ maxLen) (hC : C ≤ 16) (hl : l.length ≤ C) (hd : l.Nodup) (hv : ∀ x ∈ l, vb x) (κ : Int) (hκ : 0 ≤ κ ∧ κ ≤ 2) :
    Calls Try.prog 10 #[.slice A n c, .int .i64 C, .agg #[.int .i64 κ, .int .i64 b]] w (Wn w A (dL C κ b l) (dV C κ b l) (dG C κ b l) (dec (b ∈ l)) (dE κ b)) := by
  have h64 : n ≤ 64 := by omega
  have h3 : κ = 0 ∨ κ = 1 ∨ κ = 2 := by omega
  rcases h3 with rfl | rfl | rfl
  · have e2 : dV C 0 b l = 0 := if_neg (by omega)
    have e3 : dG C 0 b l = false := decide_eq_false fun h => by have := h.1; omega
    have e4 : dE 0 b = 0 := if_neg (by omega)
    have e1 : dL C 0 b l = useL b l := by unfold dL; rw [if_neg (by omega), if_pos rfl]
    rw [e1, e2, e3, e4]
    unfold useL
    by_cases hx : b ∈ l
    · rw [dec_true hx]
      exact rdo_was hr hn h64 hc C 0 rfl hx
    · rw [dec_false hx]
      exact rdo_miss hr hn h64 hc C hx
  · have e4 : dE 1 b = addE b := if_pos rfl
    have e2 : dV C 1 b l = vict C b l := if_pos rfl
    have e3 : dG C 1 b l = decide (goes C b l) := decide_eq_decide.2 ⟨fun h => h.2, fun h => ⟨rfl, h⟩⟩
    have e1 : dL C 1 b l = addL C b l := by unfold dL; rw [if_neg (by omega), if_neg (by omega)]
    rw [e1, e2, e3, e4]
    by_cases hx : b ∈ l
    · have hb := hv b hx
      have hg := goes_in hd hl hx
      have e5 : vict C b l = 0 := if_neg hg
      have e6 : addL C b l = b :: wo b l := by unfold addL; rw [if_neg hg, if_pos hb]
      have e7 : addE b = 0 := if_pos hb
      rw [e5, e6, e7, decide_eq_false hg, dec_true hx]
      exact rdo_was hr hn h64 hc C 1 rfl hx
    · rw [dec_false hx]
      by_cases hb : vb b
      · have e7 : addE b = 0 := if_pos hb
        rw [e7]
        by_cases hg : goes C b l
        · have e5 : vict C b l = (b :: wo b l).getLast (by simp) := if_pos hg
          have e6 : addL C b l = (b :: wo b l).dropLast := if_pos hg
          have hlt := hg.2
          rw [decide_eq_true hg, e5, e6]
          simp only [wo_out hx] at hlt ⊢
          exact rdo_over hr hn h64 hc C hb (by rw [List.length_cons, hn] at hlt; exact hlt) _ rfl hx
        · have e5 : vict C b l = 0 := if_neg hg
          have e6 : addL C b l = b :: wo b l := by unfold addL; rw [if_neg hg, if_pos hb]
          have hlt : ¬ C < (b :: wo b l).length := fun e => hg ⟨hb, e⟩
          rw [decide_eq_false hg, e5, e6]
          rw [wo_out hx] at hlt ⊢
          exact rdo_add hr hn h64 hc C hb (by rw [List.length_cons, hn] at hlt; exact hlt) hx
      · have hg : ¬ goes C b l := fun e => hb e.1
        have e5 : vict C b l = 0 := if_neg hg
        have e6 : addL C b l = l := by unfold addL; rw [if_neg hg, if_neg hb]
        have e7 : addE b = 3 := if_neg hb
        rw [e5, e6, e7, decide_eq_false hg]
        exact rdo_bad hr hn h64 hc C hb hx
  · have e2 : dV C 2 b l = 0 := if_neg (by omega)
    have e3 : dG C 2 b l = false := decide_eq_false fun h => by have := h.1; omega
    have e4 : dE 2 b = 0 := if_neg (by omega)
    have e1 : dL C 2 b l = wo b l := if_pos rfl
    rw [e1, e2, e3, e4]
    by_cases hx : b ∈ l
    · rw [dec_true hx]
      exact rdo_rem hr hn h64 hc C hx
    · rw [dec_false hx]
      exact rdo_rem0 hr hn h64 hc C hx
/-- no more than the capacity -/
theorem addL_len (hl : l.length ≤ C) (_ : l.Nodup) : (addL C b l).length ≤ C := by
  unfold addL
  have hle := wo_le b l
  split
  · rw [List.length_dropLast, List.length_cons]; omega
  · rename_i hg
    split
    · rename_i hv
      have : ¬ C < (b :: wo b l).length := fun e => hg ⟨hv, e⟩
      omega
    · exact hl
theorem useL_len (hl : l.length ≤ C) (hd : l.Nodup) : (useL b l).length ≤ C := by
  unfold useL
  by_cases hx : b ∈ l
  · rw [dec_true hx]
    rw [if_pos rfl, wo_len_lt hd hx]
    exact hl
  · rw [dec_false hx]
    exact hl
theorem dL_len (κ : Int) (hl : l.length ≤ C) (hd : l.Nodup) : (dL C κ b l).length ≤ C := by
  unfold dL
  split
  · exact Nat.le_trans (wo_le b l) hl
  · split
    · exact useL_len hl hd
    · exact addL_len hl hd
end
set_option maxRecDepth 10000 in
set_option maxHeartbeats 1000000 in
theorem wakes_any (w : World) : Calls Try.prog 8 #[] w fun e w' => e = .returned (.bool true) ∧ Below w.heap.size w w' := by
  go_enter Try.func8, Try.ntmps8
  go_upto_region 2 with (go_at_call 9; refine (lru_new 2 _).mono ?_; rintro e w1 ⟨g, k, rfl, hq, hb, hg, hk⟩; have HQ0 := hid hq; have HB0 := hid hb; have HG := hid hg; have HK := hid hk; clear hq hb hg hk)
  rw [show cp 2 = 2 from by decide] at HQ0
  have HF1 := hid (lru_add HQ0.out 1)
  rw [show vict 2 1 [] = 0 from by decide, show decide (goes 2 1 []) = false from by decide, show addE 1 = 0 from by decide, show addL 2 1 [] = [1] from by decide] at HF1
  go_wp2_with (first
    | (go_at_call 13; (with_reducible refine HF1.out.mono ?_); rintro e w2 ⟨rfl, hq, hc⟩; have HF2 := hid (lru_add hq 2); rw [show vict 2 2 [1] = 0 from by decide, show decide (goes 2 2 [1]) = false from by decide, show addE 2 = 0 from by decide, show addL 2 2 [1] = [2, 1] from by decide] at HF2; have HB1 := hid (HB0.out.trans (hc.bel HB0.out.size fun j e => by rw [e]; exact HK.out)); clear hq hc)
    | (go_at_call 13; (with_reducible refine HF2.out.mono ?_); rintro e w3 ⟨rfl, hq, hc⟩; have HF3 := hid (lru_use hq 1); have HB2 := hid (HB1.out.trans (hc.bel HB1.out.size fun j e => by rw [e]; exact HK.out)); rw [show useL 1 [2, 1] = [1, 2] from by unfold useL; rw [dec_true (by simp)]; decide] at HF3; clear hq hc)
    | (go_at_call 12; (with_reducible refine HF3.out.mono ?_); rintro e w4 ⟨rfl, hq, hc⟩; have HF4 := hid (lru_add hq 3); have HB3 := hid (HB2.out.trans (hc.bel HB2.out.size fun j e => by rw [e]; exact HK.out)); rw [show vict 2 3 [1, 2] = 2 from by decide, show decide (goes 2 3 [1, 2]) = true from by decide, show addE 3 = 0 from by decide] at HF4; clear hq hc)
    | (go_at_call 13; (with_reducible refine HF4.out.mono ?_); rintro e w5 ⟨rfl, hq, hc⟩; have HB4 := hid (HB3.out.trans (hc.bel HB3.out.size fun j e => by rw [e]; exact HK.out)); clear hq hc))
  go_ret
  exact ⟨rfl, HB4.out⟩
set_option maxRecDepth 10000 in
set_option maxHeartbeats 1000000 in
theorem nil_walk (b : Int) (w : World) : Calls Try.prog 6 #[.int .i64 b] w fun e w' => e = .returned (.bool true) ∧ Below w.heap.size w w' := by
  go_enter Try.func6, Try.ntmps6
  go_wp2_with (first
    | (go_at_call 8; refine (wakes_any _).mono ?_; rintro e w1 ⟨rfl, hb⟩; have HB := hid hb; clear hb)
    | (go_at_call 13; refine (lru_add_nil _ _).mono ?_; rintro e w2 ⟨rfl, rfl⟩)
    | (go_at_call 12; refine (lru_use_nil _ _).mono ?_; rintro e w2 ⟨rfl, rfl⟩)
    | (go_at_call 14; refine (lru_remove_nil _ _).mono ?_; rintro e w2 ⟨rfl, rfl⟩)
    | (go_at_call 18; refine (lru_has_nil _ _).mono ?_; rintro e w2 ⟨rfl, rfl⟩)
    | (go_at_call 16; refine (lru_all_nil _).mono ?_; rintro e w2 ⟨rfl, rfl⟩)
    | (go_at_call 17; refine (lru_len_nil _).mono ?_; rintro e w2 ⟨rfl, rfl⟩))
  go_ret
  exact ⟨rfl, HB.out⟩
end Go.Proofs.Ytmkdamkahjiccaa
