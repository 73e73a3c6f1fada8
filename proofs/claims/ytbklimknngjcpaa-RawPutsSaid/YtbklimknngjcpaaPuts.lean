/-
  What is proved: the walk of RawPuts: any number, text and truth is put as the document says, behind what is there, which stays as it was. No condition: longer lists than 300 are let by.
-/
import Derived.Test.YtbklimknngjcpaaWakes
import Derived.Test.YtbklimknngjcpaaJoin
namespace Go.Proofs.Ytbklimknngjcpaa
open Go.RowKit

theorem refput_bit (z x : Int) (w : World) (h1 : 0 < x → z = 1) (h0 : ¬ 0 < x → z = 0) :
    Calls Try.prog 11 #[.int .i64 z] w fun e w' => ∃ v, e = .returned v ∧ Own w' w.heap.size v [bit (decide (0 < x))] ∧ Below w.heap.size w w' := by
  have h : enc z.toNat = [bit (decide (0 < x))] := by
    by_cases hp : 0 < x
    · rw [h1 hp, enc_small _ (by decide)]; simp [bit, hp]
    · rw [h0 hp, enc_small _ (by decide)]; simp [bit, hp]
  rw [← h]
  exact refput_any z w (by by_cases hp : 0 < x <;> omega)

set_option maxRecDepth 100000 in
set_option maxHeartbeats 800000 in
theorem puts_short (A B : Option Addr) (n ca m cb : Nat) (x : Int) (xs ys : List Int) (w : World) (hn : xs.length = n) (hm : ys.length = m) (hn3 : n ≤ 300) (hm3 : m ≤ 300) (hx0 : -9223372036854775808 ≤ x) (hx : x ≤ 9223372036854775807)
    (rx : Rn w A xs) (ry : Rn w B ys) :
    Calls Try.prog 3 #[.slice A n ca, .slice B m cb, .int .i64 x] w fun e w' => e = .returned (.bool true) ∧ Below w.heap.size w w' := by
  subst hn
  subst hm
  go_enter Try.func3, Try.ntmps3
  go_wp2_with fail
  refine (wakes_any _).mono ?_
  rintro e w1 ⟨rfl, hbel⟩
  have rx1 := rx.now hbel
  have ry1 := ry.now hbel
  clear rx ry
  go_wp2_with (first
    | (at_builtin; refine wpList_app rfl (.tmp 20) (.tmp 21) rfl w1.heap.size _ [] (own_new w1 _ [] #[] 0 (Nat.le_refl _) rfl rfl (by unfold maxLen; omega)) rfl _ A _ ca xs rfl rfl (rx1.alloc _) (by simp; omega) (by simp) ?_; intro v2 w2 hown2 hg2; have hb2 := ((Below.refl w1.heap.size w1).alloc (Nat.le_refl _) _).trans (hg2.below (own_new w1 w1.heap.size [] #[] 0 (Nat.le_refl _) rfl rfl (by unfold maxLen; omega)) (by simp)))
    | (at_builtin; refine wpList_app rfl (.tmp 23) (.tmp 24) rfl w2.heap.size _ [] (own_new w2 _ [] #[] 0 (Nat.le_refl _) rfl rfl (by unfold maxLen; omega)) rfl _ B _ cb ys rfl rfl ((ry1.now hb2).alloc _) (by simp; omega) (by simp) ?_; intro v3 w3 hown3 hg3; have hb3 := ((Below.refl w2.heap.size w2).alloc (Nat.le_refl _) _).trans (hg3.below (own_new w2 w2.heap.size [] #[] 0 (Nat.le_refl _) rfl rfl (by unfold maxLen; omega)) (by simp))))
  simp only [List.nil_append] at hown2 hown3
  have rx3 := (rx1.now hb2).now hb3
  have ry3 := (ry1.now hb2).now hb3
  obtain ⟨A2, c2, rfl, r2⟩ := hown2.read
  obtain ⟨A3, c3, rfl, r3⟩ := hown3.read
  replace r2 := r2.now hb3
  have hbel3 := hbel.trans ((hb2.trans (hb3.mono hb2.size)).mono hbel.size)
  clear hown2 hown3 hg2 hg3 hb2 hb3 rx1 ry1 hbel
  have L9 := enc_len9 x.toNat (by omega)
  have M9 := enc_len9 ys.length (by omega)
  -- Put, and the reference's
  refine (put_any A2 _ c2 x xs _ _ (by simp) (by omega) hx r2 (Nat.le_refl _)).mono ?_
  rintro e w4 ⟨v4, rfl, hown4, hb4⟩
  obtain ⟨A4, c4, rfl, r4⟩ := hown4.read
  go_wp2_with fail
  refine (refput_any x _ hx).mono ?_
  rintro e w5 ⟨v5, rfl, hown5, hb5⟩
  obtain ⟨A5, c5, rfl, r5⟩ := hown5.read
  go_wp2_with fail
  refine (join_any A A5 _ ca _ c5 xs (enc x.toNat) _ _ _ (by simp) (by simp) (by omega) (by omega) ((rx3.now hb4).now hb5) r5 (Nat.le_refl _)).mono ?_
  rintro e w6 ⟨v6, rfl, hown6, hb6⟩
  obtain ⟨A6, c6, rfl, r6⟩ := hown6.read
  go_wp2_with fail
  refine (same_yes A4 A6 _ _ c4 c6 _ _ _ _ (by simp) (by simp) (by unfold maxLen; simp; omega) ((r4.now hb5).now hb6) r6).mono ?_
  rintro e w7 ⟨rfl, d7, rfl⟩
  have hb7 := below_drewN ((hb4.trans (hb5.mono hb4.size)).trans (hb6.mono (Nat.le_trans hb4.size hb5.size))) d7
  replace rx3 := rx3.now hb7
  replace ry3 := ry3.now hb7
  replace r2 := r2.now hb7
  replace r3 := r3.now hb7
  replace hbel3 := hbel3.trans (hb7.mono hbel3.size)
  clear hb7 hown4 hown5 hown6 r4 r5 r6 hb4 hb5 hb6
  -- PutText, and the reference's
  go_wp2_with fail
  refine (puttext_any A2 A3 _ c2 _ c3 xs ys _ _ _ (by simp) (by simp) (by omega) (by omega) r2 (Nat.le_refl _) r3 (Nat.le_refl _)).mono ?_
  rintro e w4 ⟨v4, rfl, hown4, hb4⟩
  obtain ⟨A4, c4, rfl, r4⟩ := hown4.read
  go_wp2_with fail
  refine (reftext_any B _ cb ys _ _ (by simp) (by omega) (ry3.now hb4) (Nat.le_refl _)).mono ?_
  rintro e w5 ⟨v5, rfl, hown5, hb5⟩
  obtain ⟨A5, c5, rfl, r5⟩ := hown5.read
  go_wp2_with fail
  refine (join_any A A5 _ ca _ c5 xs (enc ys.length ++ ys) _ _ _ (by simp) (by simp) (by omega) (by omega) ((rx3.now hb4).now hb5) r5 (Nat.le_refl _)).mono ?_
  rintro e w6 ⟨v6, rfl, hown6, hb6⟩
  rw [← List.append_assoc] at hown6
  obtain ⟨A6, c6, rfl, r6⟩ := hown6.read
  go_wp2_with fail
  refine (same_yes A4 A6 _ _ c4 c6 _ _ _ _ (by simp) (by simp) (by unfold maxLen; simp; omega) ((r4.now hb5).now hb6) r6).mono ?_
  rintro e w7 ⟨rfl, d7, rfl⟩
  have hb7 := below_drewN ((hb4.trans (hb5.mono hb4.size)).trans (hb6.mono (Nat.le_trans hb4.size hb5.size))) d7
  replace rx3 := rx3.now hb7
  replace ry3 := ry3.now hb7
  replace r2 := r2.now hb7
  replace r3 := r3.now hb7
  replace hbel3 := hbel3.trans (hb7.mono hbel3.size)
  clear hb7 hown4 hown5 hown6 r4 r5 r6 hb4 hb5 hb6
  -- PutTruth, and the reference's
  go_wp2_with fail
  refine (puttruth_any A2 _ c2 _ xs _ _ (by simp) (by omega) r2 (Nat.le_refl _)).mono ?_
  rintro e w4 ⟨v4, rfl, hown4, hb4⟩
  obtain ⟨A4, c4, rfl, r4⟩ := hown4.read
  go_wp2_with fail
  all_goals
    refine (refput_bit _ x _ (by omega) (by omega)).mono ?_
    rintro e w5 ⟨v5, rfl, hown5, hb5⟩
    obtain ⟨A5, c5, rfl, r5⟩ := hown5.read
    go_wp2_with fail
    refine (join_any A A5 _ ca _ c5 xs [bit (decide (0 < x))] _ _ _ (by simp) (by simp) (by omega) (by simp) ((rx3.now hb4).now hb5) r5 (Nat.le_refl _)).mono ?_
    rintro e w6 ⟨v6, rfl, hown6, hb6⟩
    obtain ⟨A6, c6, rfl, r6⟩ := hown6.read
    go_wp2_with fail
    refine (same_yes A4 A6 _ _ c4 c6 _ _ _ _ (by simp) (by simp) (by unfold maxLen; omega) ((r4.now hb5).now hb6) r6).mono ?_
    rintro e w7 ⟨rfl, d7, rfl⟩
    have hb7 := (hb4.trans (hb5.mono hb4.size)).trans (hb6.mono (Nat.le_trans hb4.size hb5.size))
    replace rx3 := rx3.now hb7
    replace ry3 := ry3.now hb7
    replace r2 := r2.now hb7
    replace r3 := r3.now hb7
    replace hbel3 := hbel3.trans (hb7.mono hbel3.size)
    clear hb7 hown4 hown5 hown6 r4 r5 r6 hb4 hb5 hb6
    go_wp2_with fail
    refine (same_yes A2 A _ _ c2 ca xs _ _ _ (by simp) (by simp) (by unfold maxLen; omega) (r2.drewN _) (rx3.drewN _)).mono ?_
    rintro e w8 ⟨rfl, d8, rfl⟩
    go_wp2_with fail
    refine (same_yes A3 B _ _ c3 cb ys _ _ _ (by simp) (by simp) (by unfold maxLen; omega) (r3.drewN _) (ry3.drewN _)).mono ?_
    rintro e w9 ⟨rfl, d9, rfl⟩
    go_wp2
    go_ret
    exact ⟨rfl, below_drewN hbel3 _⟩

set_option maxRecDepth 100000 in
set_option maxHeartbeats 800000 in
theorem puts_walk (A B : Option Addr) (n ca m cb : Nat) (x : Int) (xs ys : List Int) (w : World) (hn : xs.length = n) (hm : ys.length = m) (hnc : n ≤ maxLen) (hmc : m ≤ maxLen) (hx0 : -9223372036854775808 ≤ x) (hx : x ≤ 9223372036854775807)
    (rx : Rn w A xs) (ry : Rn w B ys) :
    Calls Try.prog 3 #[.slice A n ca, .slice B m cb, .int .i64 x] w fun e w' => e = .returned (.bool true) ∧ Below w.heap.size w w' := by
  unfold maxLen at hnc hmc
  by_cases h1 : n ≤ 300
  · by_cases h2 : m ≤ 300
    · exact puts_short A B n ca m cb x xs ys w hn hm h1 h2 hx0 hx rx ry
    · clear hn hm rx ry hx hx0
      go_enter Try.func3, Try.ntmps3
      go_wp2_with fail
      refine (wakes_any _).mono ?_
      rintro e w1 ⟨rfl, hbel⟩
      go_wp2
      go_ret
      exact ⟨rfl, hbel⟩
  · clear hn hm rx ry hx hx0
    go_enter Try.func3, Try.ntmps3
    go_wp2_with fail
    refine (wakes_any _).mono ?_
    rintro e w1 ⟨rfl, hbel⟩
    go_wp2
    go_ret
    exact ⟨rfl, hbel⟩
end Go.Proofs.Ytbklimknngjcpaa
