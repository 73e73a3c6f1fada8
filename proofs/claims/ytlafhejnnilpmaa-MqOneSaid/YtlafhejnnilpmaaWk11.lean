/-
  What is proved: the reference's Do at every act that is one; the fixed fact that each statement of this layer asks first holds; LruNil's walk. Condition: the list is read.
  (Left out here, as nothing of this law reaches it: wakes_any, nil_walk.) -/
import Derived.Test.YtlafhejnnilpmaaRe11
namespace Go.Proofs.Ytlafhejnnilpmaa
open Go.RowKit

/-- behind an act: the list, the victim, whether one went, whether the block was there, the error -/
noncomputable def dL (C : Nat) (κ b : Int) (l : List Int) : List Int := if κ = 2 then wo b l else if κ = 0 then useL b l else addL C b l
def dV (C : Nat) (κ b : Int) (l : List Int) : Int := if κ = 1 then vict C b l else 0
def dG (C : Nat) (κ b : Int) (l : List Int) : Bool := decide (κ = 1 ∧ goes C b l)
def dE (κ b : Int) : Int := if κ = 1 then addE b else 0
section
variable {C : Nat} {b : Int} {l : List Int}
theorem wo_len_lt {l : List Int} (hd : l.Nodup) (h : b ∈ l) : (b :: wo b l).length = l.length := by
  obtain ⟨s, t, rfl⟩ := List.append_of_mem h
  rw [wo_split hd]
  simp
  omega
theorem goes_in (hd : l.Nodup) (hl : l.length ≤ C) (h : b ∈ l) : ¬ goes C b l := fun hg => by
  have := hg.2
  rw [wo_len_lt hd h] at this
  omega
/-- the reference's act -/
theorem rdo_any {w : World} {A : Option Addr} {n c : Nat} (hr : Rw w A l) (hn : l.length = n) (hc : n ≤ c ∧ c ≤ maxLen) (hC : C ≤ 16) (hl : l.length ≤ C) (hd : l.Nodup) (hv : ∀ x ∈ l, vb x) (κ : Int) (hκ : 0 ≤ κ ∧ κ ≤ 2) :
    Calls Try.prog 23 #[.slice A n c, .int .i64 C, .agg #[.int .i64 κ, .int .i64 b]] w (Wn w A (dL C κ b l) (dV C κ b l) (dG C κ b l) (dec (b ∈ l)) (dE κ b)) := by
  have h64 : n ≤ 64 := by omega
  have h3 : κ = 0 ∨ κ = 1 ∨ κ = 2 := by omega
  rcases h3 with rfl | rfl | rfl
  · have e2 : dV C 0 b l = 0 := if_neg (by omega)
    have e3 : dG C 0 b l = false := decide_eq_false fun h => by have := h.1; omega
    have e4 : dE 0 b = 0 := if_neg (by omega)
    have e1 : dL C 0 b l = useL b l := by unfold dL; rw [if_neg (by omega), if_pos rfl]
    rw [e1, e2, e3, e4]
    unfold useL
    by_cases hx : b ∈ l
    · rw [dec_true hx]
      exact rdo_was hr hn h64 hc C 0 rfl hx
    · rw [dec_false hx]
      exact rdo_miss hr hn h64 hc C hx
  · have e4 : dE 1 b = addE b := if_pos rfl
    have e2 : dV C 1 b l = vict C b l := if_pos rfl
    have e3 : dG C 1 b l = decide (goes C b l) := decide_eq_decide.2 ⟨fun h => h.2, fun h => ⟨rfl, h⟩⟩
    have e1 : dL C 1 b l = addL C b l := by unfold dL; rw [if_neg (by omega), if_neg (by omega)]
    rw [e1, e2, e3, e4]
    by_cases hx : b ∈ l
    · have hb := hv b hx
      have hg := goes_in hd hl hx
      have e5 : vict C b l = 0 := if_neg hg
      have e6 : addL C b l = b :: wo b l := by unfold addL; rw [if_neg hg, if_pos hb]
      have e7 : addE b = 0 := if_pos hb
      rw [e5, e6, e7, decide_eq_false hg, dec_true hx]
      exact rdo_was hr hn h64 hc C 1 rfl hx
    · rw [dec_false hx]
      by_cases hb : vb b
      · have e7 : addE b = 0 := if_pos hb
        rw [e7]
        by_cases hg : goes C b l
        · have e5 : vict C b l = (b :: wo b l).getLast (by simp) := if_pos hg
          have e6 : addL C b l = (b :: wo b l).dropLast := if_pos hg
          have hlt := hg.2
          rw [decide_eq_true hg, e5, e6]
          simp only [wo_out hx] at hlt ⊢
          exact rdo_over hr hn h64 hc C hb (by rw [List.length_cons, hn] at hlt; exact hlt) _ rfl hx
        · have e5 : vict C b l = 0 := if_neg hg
          have e6 : addL C b l = b :: wo b l := by unfold addL; rw [if_neg hg, if_pos hb]
          have hlt : ¬ C < (b :: wo b l).length := fun e => hg ⟨hb, e⟩
          rw [decide_eq_false hg, e5, e6]
          rw [wo_out hx] at hlt ⊢
          exact rdo_add hr hn h64 hc C hb (by rw [List.length_cons, hn] at hlt; exact hlt) hx
      · have hg : ¬ goes C b l := fun e => hb e.1
        have e5 : vict C b l = 0 := if_neg hg
        have e6 : addL C b l = l := by unfold addL; rw [if_neg hg, if_neg hb]
        have e7 : addE b = 3 := if_neg hb
        rw [e5, e6, e7, decide_eq_false hg]
        exact rdo_bad hr hn h64 hc C hb hx
  · have e2 : dV C 2 b l = 0 := if_neg (by omega)
    have e3 : dG C 2 b l = false := decide_eq_false fun h => by have := h.1; omega
    have e4 : dE 2 b = 0 := if_neg (by omega)
    have e1 : dL C 2 b l = wo b l := if_pos rfl
    rw [e1, e2, e3, e4]
    by_cases hx : b ∈ l
    · rw [dec_true hx]
      exact rdo_rem hr hn h64 hc C hx
    · rw [dec_false hx]
      exact rdo_rem0 hr hn h64 hc C hx
/-- no more than the capacity -/
theorem addL_len (hl : l.length ≤ C) (_ : l.Nodup) : (addL C b l).length ≤ C := by
  unfold addL
  have hle := wo_le b l
  split
  · rw [List.length_dropLast, List.length_cons]; omega
  · rename_i hg
    split
    · rename_i hv
      have : ¬ C < (b :: wo b l).length := fun e => hg ⟨hv, e⟩
      omega
    · exact hl
theorem useL_len (hl : l.length ≤ C) (hd : l.Nodup) : (useL b l).length ≤ C := by
  unfold useL
  by_cases hx : b ∈ l
  · rw [dec_true hx]
    rw [if_pos rfl, wo_len_lt hd hx]
    exact hl
  · rw [dec_false hx]
    exact hl
theorem dL_len (κ : Int) (hl : l.length ≤ C) (hd : l.Nodup) : (dL C κ b l).length ≤ C := by
  unfold dL
  split
  · exact Nat.le_trans (wo_le b l) hl
  · split
    · exact useL_len hl hd
    · exact addL_len hl hd
end





























end Go.Proofs.Ytlafhejnnilpmaa
