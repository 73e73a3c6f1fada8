/-
  What is proved: the reference's MQ beside the lists that it stands for; its Of, Len, All, Times of these. Condition: its MQ lies in memory as one.
-/
import Derived.Test.YtlafhejnnilpmaaRa12
namespace Go.Proofs.Ytlafhejnnilpmaa
open Go.RowKit

theorem gd_take {S : List (List Int)} {N i : Nat} (h : i < N) : (S.take N).getD i [] = S.getD i [] := by
  rw [List.getD_eq_getElem?_getD, List.getD_eq_getElem?_getD, List.getElem?_take, if_pos h]
theorem alls_take {S : List (List Int)} {N : Nat} : ∀ {n : Nat}, n ≤ N → alls (S.take N) n = alls S n
  | 0, _ => rfl
  | n + 1, h => by
    show (S.take N).getD n [] ++ alls (S.take N) n = S.getD n [] ++ alls S n
    rw [gd_take (by omega), alls_take (by omega)]
/-- the reference's MQ is at these lists -/
def Rs (w : World) (X : Nat → Prop) (h a p e C N L H : Nat) (m : Ms) : Prop :=
  ∃ o' : Int → Int, Rq w X h a p e C N L H (m.S.take N) (m.S.getD 8 []) o' m.x m.t ∧ ∀ b, inS m.S b → o' b = m.o b
section
variable {w w' : World} {X : Nat → Prop} {h a p e C N L H : Nat} {m : Ms}
theorem Rs.below (r : Rs w X h a p e C N L H m) (hb : Below w.heap.size w w') : Rs w' X h a p e C N L H m := by
  obtain ⟨o', hq, ho⟩ := r
  exact ⟨o', hq.below hb, ho⟩
theorem Rs.draws (r : Rs w X h a p e C N L H m) (n : Nat) : Rs (w.drewN n) X h a p e C N L H m := r.below (below_draws (Below.refl _ _) n)
theorem Rs.chg {F F' : Nat → Prop} (r : Rs w X h a p e C N L H m) (hc : Chg w w' F F') (hF : ∀ j, F j → X j) (hn : ∀ j, F j → ¬ Fr h a p e j) : Rs w' X h a p e C N L H m := by
  obtain ⟨o', ⟨cv, us, ug, hm⟩, ho⟩ := r
  exact ⟨o', ⟨cv, us, ug, hm.chg hc hF hn⟩, ho⟩
theorem rs_of_yes (r : Rs w X h a p e C N L H m) (ok : Okm C N L H m) {b : Int} {i : Nat} (hi : i < N) (hb : b ∈ m.S.getD i []) :
    Calls Try.prog 20 #[.pointer (some ⟨h, 0, none⟩), .int .i64 b] w fun en w' => en = .returned (.int .i64 i) ∧ w = w' := by
  obtain ⟨o', hq, -⟩ := r
  have := rmq_of hq b i (by omega) (fun j hj hm => by rw [gd_take (by omega)] at hm; have := ok.wf.same hb hm; omega) (fun _ => by rw [gd_take hi]; exact hb)
  rw [if_pos hi] at this
  exact this
theorem rs_of_no (r : Rs w X h a p e C N L H m) {b : Int} (hb : b ∉ m.al) (ok : Okm C N L H m) :
    Calls Try.prog 20 #[.pointer (some ⟨h, 0, none⟩), .int .i64 b] w fun en w' => en = .returned (.int .i64 (-1)) ∧ w = w' := by
  obtain ⟨o', hq, -⟩ := r
  have := rmq_of hq b N (Nat.le_refl _) (fun j hj hm => by rw [gd_take hj] at hm; exact hb (mem_alls.2 ⟨j, by have := ok.n; omega, hm⟩)) (fun e => absurd e (Nat.lt_irrefl _))
  rw [if_neg (Nat.lt_irrefl _)] at this
  exact this
theorem rs_len (r : Rs w X h a p e C N L H m) (ok : Okm C N L H m) :
    Calls Try.prog 34 #[.pointer (some ⟨h, 0, none⟩)] w fun en w' => en = .returned (.int .i64 m.al.length) ∧ w = w' := by
  obtain ⟨o', hq, -⟩ := r
  have := rmq_len hq
  rw [alls_take (Nat.le_refl _), ok.allsN] at this
  exact this
theorem rs_all (r : Rs w X h a p e C N L H m) (ok : Okm C N L H m) :
    Calls Try.prog 39 #[.pointer (some ⟨h, 0, none⟩)] w (Told w m.al) := by
  obtain ⟨o', hq, -⟩ := r
  have := rmq_all hq (by rw [alls_take (Nat.le_refl _), ok.allsN]; have := ok.cap; have := ok.c; omega)
  rw [alls_take (Nat.le_refl _), ok.allsN] at this
  exact this
set_option maxHeartbeats 1000000 in
theorem rs_times (r : Rs w X h a p e C N L H m) (ok : Okm C N L H m) (b : Int) :
    Calls Try.prog 22 #[.pointer (some ⟨h, 0, none⟩), .int .i64 b] w fun en w' => en = .returned (.int .i64 (m.o b)) ∧ w = w' := by
  have HR := hid r
  by_cases hs : inS m.S b
  · obtain ⟨o', ⟨cv, us, ug, hm⟩, ho⟩ := r
    have hlt := ok.lt hs
    rw [← ho b hs]
    obtain ⟨q, rfl⟩ : ∃ q : Nat, b = q := ⟨b.toNat, by omega⟩
    have hq : q < 64 := by omega
    have hqq : (q : Int) < 64 := by omega
    have c4 := hm.c4
    have c5 := hm.c5
    have co := hm.co hq
    by_cases hb : (q : Int) ∈ m.al
    · obtain ⟨i, hi, hm2⟩ := ok.there hb
      have HO := hid (rs_of_yes HR.out ok hi hm2)
      have hi0 : (0 : Int) ≤ (i : Int) := by omega
      clear ok hs ho hlt hm hb hm2
      go_enter Try.func22, Try.ntmps22
      go_wp2_with (go_at_call 20; refine HO.out.mono ?_; rintro e w6 ⟨rfl, rfl⟩)
      go_ret
      exact ⟨rfl, rfl⟩
    · have HO := hid (rs_of_no HR.out hb ok)
      have hg : (q : Int) ∈ m.S.getD 8 [] := by
        rcases ok.split.1 hs with h1 | h1
        · exact absurd h1 hb
        · exact h1
      obtain ⟨A, c, rfl, hr, hc1, hc2, -⟩ := hm.gh
      have HH := hid (rhas_any A _ c (m.S.getD 8 []) (q : Int) w _ rfl (by have := hm.g64; unfold maxLen; omega) hr.rd)
      rw [dec_true hg] at HH
      generalize (m.S.getD 8 []).length = ng at *
      clear ok hs ho hlt hm hb hg hr hc1 hc2
      go_enter Try.func22, Try.ntmps22
      go_wp2_with (first | (go_at_call 20; refine HO.out.mono ?_; rintro e w6 ⟨rfl, rfl⟩) | (go_at_call 27; refine HH.out.mono ?_; rintro e w6 ⟨rfl, rfl⟩))
      go_ret
      exact ⟨rfl, rfl⟩
  · rw [ok.o0 b hs]
    have hb : b ∉ m.al := fun hb => hs (ok.in_al hb)
    have HO := hid (rs_of_no HR.out hb ok)
    have hg : b ∉ m.S.getD 8 [] := fun hg => hs (ok.split.2 (.inr hg))
    obtain ⟨o', ⟨cv, us, ug, hm⟩, ho⟩ := r
    have c4 := hm.c4
    obtain ⟨A, c, rfl, hr, hc1, hc2, -⟩ := hm.gh
    have HH := hid (rhas_any A _ c (m.S.getD 8 []) b w _ rfl (by have := hm.g64; unfold maxLen; omega) hr.rd)
    rw [dec_false hg] at HH
    generalize (m.S.getD 8 []).length = ng at *
    clear ok hs ho hm hb hg hr hc1 hc2
    go_enter Try.func22, Try.ntmps22
    go_wp2_with (first | (go_at_call 20; refine HO.out.mono ?_; rintro e w6 ⟨rfl, rfl⟩) | (go_at_call 27; refine HH.out.mono ?_; rintro e w6 ⟨rfl, rfl⟩))
    go_ret
    exact ⟨rfl, rfl⟩
end
end Go.Proofs.Ytlafhejnnilpmaa
