/-
  What is proved: the walk of MsgLeast: the least message of each kind has a byte for the kind and one for each field that it names. Condition: the table of the kinds' fields lies where the program lays it.
-/
import Derived.Test.YtihldenljddmoaaDoorWake4
import Derived.Test.YtihldenljddmoaaDoorRefs4
namespace Go.Proofs.YtihldenljddmoaaDoor
open Go.RowKit

def cZ (k : Nat) : Nat → Int
  | 0 => k
  | _ => 0
theorem cZ_pos (k f : Nat) (h : 1 ≤ f) : cZ k f = 0 := by
  match f, h with
  | n + 1, _ => rfl
theorem right_least (k : Nat) (h : 1 ≤ k ∧ k ≤ 14) : RightM (cZ k) false 0 := by
  refine ⟨by show 1 ≤ ((k : Nat) : Int) ∧ ((k : Nat) : Int) ≤ 14; omega, fun f h1 h2 => ?_⟩
  have e : me (cZ k) false 0 f = 0 := by
    match f, h1, h2 with
    | 1, _, _ | 2, _, _ | 3, _, _ | 4, _, _ | 5, _, _ | 6, _, _ | 7, _, _ | 8, _, _ | 9, _, _ | 10, _, _ => rfl
    | n + 11, _, h => omega
  unfold okF
  rw [e]
  have := mo_pos f h1 h2
  split <;> omega
theorem fe_least (k f : Nat) (h : 1 ≤ f ∧ f ≤ 10) : fe (cZ k) false [] f = [0] := by
  by_cases a : f ≤ 8
  · rw [fe_num _ _ _ f a, cZ_pos k f h.1]; exact enc_small 0 (by omega)
  · by_cases b : f = 9
    · subst b; rfl
    · obtain rfl : f = 10 := by omega
      show enc 0 ++ [] = _
      rw [enc_small 0 (by omega)]; rfl
theorem fes_least (k : Nat) : ∀ l : List Nat, (∀ f ∈ l, 1 ≤ f ∧ f ≤ 10) → (fes (cZ k) false [] l).length = l.length
  | [], _ => rfl
  | f :: r, hl => by
    rw [fes, List.length_append, fe_least k f (hl f (by simp)), fes_least k r fun g hg => hl g (by simp [hg])]
    simp only [List.length_cons, List.length_nil]
    omega
theorem full_least (k : Nat) (h : 1 ≤ k ∧ k ≤ 14) : ∃ r, fullM (cZ k) false [] = (k : Int) :: r ∧ r.length = (fI k).length := by
  refine ⟨fes (cZ k) false [] (fl (mk k) 1), ?_, ?_⟩
  · unfold fullM
    rw [show (cZ k 0).toNat = k from Int.toNat_natCast k, enc_small k (by omega)]
    rfl
  · rw [fes_least k _ (fl_range _)]
    unfold fI
    rw [if_pos (by omega), List.length_map, Int.toNat_natCast]

set_option maxRecDepth 100000 in
set_option maxHeartbeats 400000 in
theorem least_walk (u : Nat) (hu : u ≤ 255) (w : World) (hN : Nm w) : Calls Tryd.prog 6 #[.int .u8 u] w fun e w' => e = .returned (.bool true) ∧ Below w.heap.size w w' := by
  obtain ⟨k, hk⟩ : ∃ k, u % 14 + 1 = k := ⟨_, rfl⟩
  have hk1 : 1 ≤ k ∧ k ≤ 14 := by omega
  have H := fun W hW => putm_yes (cZ k) false none 0 [] W hW (Rd.nil _ _ _) (right_least k hk1)
  obtain ⟨r, hr, hrl⟩ := full_least k hk1
  rw [hr] at H
  obtain ⟨m, hm⟩ : ∃ m, (fI k).length = m := ⟨_, rfl⟩
  have hm10 := fI_len k
  rw [hm] at hm10 hrl
  have HP := hid H
  have HM := hid hm
  have HRL := hid hrl
  have hku : (1 : Int) + (u : Int) % 14 = (k : Int) := by omega
  have HKU := hid hku
  have HN := hid hN
  clear H hN hr hm hk hrl hku
  go_enter Tryd.func6, Tryd.ntmps6
  go_wp2_with fail
  refine (wakes_any _ HN.out).mono ?_
  rintro e w1 ⟨rfl, hb1⟩
  have HB1 := hid hb1
  clear hb1
  go_wp2_with fail
  rw [HKU.out]
  refine (HP.out _ (HN.out.next HB1.out)).mono ?_
  rintro e w2 ⟨v, rfl, hs, hb2⟩
  obtain ⟨A, c, rfl, hr, _, _⟩ := hs
  obtain ⟨ad, rfl, hl, h0⟩ := hr 0 _ rfl
  have HB2 := hid (on HB1.out hb2)
  have HL := hid hl
  rw [show ((k : Int) :: r).length = m + 1 by rw [List.length_cons, HRL.out]]
  clear hr hb2 hl
  go_wp2_with fail
  refine (rfields_any k _).mono ?_
  rintro e w3 ⟨v3, rfl, hown3, hb3⟩
  obtain ⟨B, cb, rfl, _⟩ := OwnI.read hown3
  rw [HM.out]
  have h0 : w3.cell? ad = some (.int .u8 k) := (hb3.cell (p := ad) (by have := HL.out; exact this)).trans (by simpa [Addr.add] using h0)
  have HB3 := hid (on HB2.out hb3)
  clear hown3 hb3
  go_wp2_with fail
  go_ret
  refine ⟨?_, HB3.out⟩
  rfl
end Go.Proofs.YtihldenljddmoaaDoor
