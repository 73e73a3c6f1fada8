/-
  What is proved: the walk of RawBack: a number, a text and a truth, one behind the other, are got again, each where the one ahead ends. No condition: longer texts than 1000 are let by.
-/
import Derived.Test.YtbklimknngjcpaaJoin
import Derived.Test.YtbklimknngjcpaaOne
namespace Go.Proofs.Ytbklimknngjcpaa
open Go.RowKit

theorem get_yes (A : Option Addr) (c : Nat) (x : Int) (m : Nat) (l r : List Int) (w : World) (C : Nat) (hlen : l.length ≤ 70368744177000) (h0 : 0 ≤ x) (hx : x ≤ l.length) (hb : Hid (∀ x ∈ l, 0 ≤ x ∧ x ≤ 255)) (ra : Rd w C A l)
    (hm : m ≤ 9223372036854775807) (hr : Hid (l.drop x.toNat = enc m ++ r)) :
    Calls Try.prog 15 #[.slice A l.length c, .int .i64 x] w fun e w' => e = .returned (.tuple #[.int .i64 (m : Nat), .int .i64 (x.toNat + (enc m).length : Nat), .int .i64 0]) ∧ ∃ k, w' = w.drewN k := by
  have hs := scan_enc 9 m r (by simp only [Nat.reducePow]; omega) (by omega)
  rw [← hr.out] at hs
  refine (get_at A c x l w C hlen h0 hx hb ra).mono ?_
  rintro e w' ⟨⟨t, ht, _, rfl⟩ | ⟨_, _, hno, _⟩, hd⟩
  · rw [hs] at ht
    cases ht
    rw [val_enc]
    exact ⟨rfl, hd⟩
  · exact absurd (enc_good m) (hno _ hs)

set_option maxRecDepth 100000 in
set_option maxHeartbeats 800000 in
theorem gettext_yes (A : Option Addr) (c : Nat) (x most : Int) (l ys r : List Int) (w : World) (C : Nat) (hc : l.length ≤ c) (hlen : l.length ≤ 35184372088832) (h0 : 0 ≤ x) (hx : x ≤ l.length) (hb : Hid (∀ x ∈ l, 0 ≤ x ∧ x ≤ 255)) (ra : Rd w C A l) (hC : C ≤ w.heap.size)
    (hmost : ys.length ≤ most) (hr : Hid (l.drop x.toNat = enc ys.length ++ (ys ++ r))) :
    Calls Try.prog 16 #[.slice A l.length c, .int .i64 x, .int .i64 most] w fun e w' => ∃ v, e = .returned (.tuple #[v, .int .i64 (x.toNat + (enc ys.length).length + ys.length : Nat), .int .i64 0]) ∧ Own w' w.heap.size v ys ∧ Below w.heap.size w w' := by
  obtain ⟨p, rfl⟩ := Int.eq_ofNat_of_zero_le h0
  rw [Int.toNat_natCast] at hr ⊢
  have hl : p + (enc ys.length).length + ys.length ≤ l.length := by
    have h := congrArg List.length hr.out
    simp only [List.length_drop, List.length_append] at h
    omega
  have ry : ∀ B, (ys.length ≠ 0 → B = A.map (·.add (p + (enc ys.length).length))) → Rd w C B ys := by
    intro B hB
    have h := ra.cut (p + (enc ys.length).length) ys.length B hB
    rw [← List.drop_drop, hr.out, List.drop_left, List.take_left] at h
    exact h
  have RY := hid ry
  clear ry
  go_enter Try.func16, Try.ntmps16
  go_wp2_with fail
  refine (get_yes A c p ys.length l _ _ C (by omega) h0 hx hb ra (by omega) (by rw [Int.toNat_natCast]; exact hr)).mono ?_
  rintro e w1 ⟨rfl, d, rfl⟩
  rw [Int.toNat_natCast]
  generalize hq : p + (enc ys.length).length = q at *
  have HQ := hid hq
  clear hr h0 hx hq
  go_wp2_with fail
  all_goals
    refine (room_any _ _ _ 0 ys _ C rfl (by omega) (by omega) (by omega) ((RY.out _ (by intro h; first | rfl | omega)).drewN d) hC).mono ?_
    rintro e w2 ⟨v, rfl, hown, hbel⟩
    go_wp2
    go_ret3
    exact ⟨v, by rw [HQ.out]; simp, hown, (below_drewN (Below.refl w.heap.size w) d).trans hbel⟩

set_option maxRecDepth 100000 in
set_option maxHeartbeats 400000 in
theorem gettruth_yes (A : Option Addr) (c : Nat) (x : Int) (l : List Int) (t : Bool) (w : World) (C : Nat) (hlen : l.length ≤ 35184372088832) (h0 : 0 ≤ x) (ra : Rd w C A l) (hr : Hid (l.drop x.toNat = [bit t])) :
    Calls Try.prog 17 #[.slice A l.length c, .int .i64 x] w fun e w' => e = .returned (.tuple #[.bool t, .int .i64 (x.toNat + 1 : Nat), .int .i64 0]) ∧ w' = w := by
  obtain ⟨p, rfl⟩ := Int.eq_ofNat_of_zero_le h0
  rw [Int.toNat_natCast] at hr ⊢
  have hl : p + 1 = l.length := by
    have h := congrArg List.length hr.out
    simp only [List.length_drop, List.length_singleton] at h
    omega
  have hx : l[p]? = some (bit t) := by
    have h := congrArg (·[0]?) hr.out
    simpa using h
  obtain ⟨a, rfl, _, hc⟩ := ra p _ hx
  have HL := hid hl
  have hlt : p < l.length := by omega
  clear hr hl hx h0
  cases t
  all_goals
    simp only [bit, if_true, if_false, Bool.false_eq_true] at hc
    go_enter Try.func17, Try.ntmps17
    go_wp2
    all_goals
      go_ret3
      exact ⟨by simp, rfl⟩

theorem enc_byte (n : Nat) : ∀ x ∈ enc n, 0 ≤ x ∧ x ≤ 255 := by
  induction n using Nat.strongRecOn with
  | _ n ih =>
    intro x hx
    by_cases h : n < 128
    · rw [enc_small n h] at hx; simp at hx; omega
    · rw [enc_big n h] at hx
      rcases List.mem_cons.1 hx with e | e
      · omega
      · exact ih (n / 128) (by omega) x e
theorem bit_byte (t : Bool) : 0 ≤ bit t ∧ bit t ≤ 255 := by cases t <;> simp [bit]
/-- what the statement puts, and where each of the three begins -/
theorem parts (k m : Nat) (ys : List Int) (t : Bool) (L : List Int) (h : L = [7] ++ enc k ++ enc m ++ ys ++ [bit t]) :
    L.drop 1 = enc k ++ (enc m ++ (ys ++ [bit t])) ∧ L.drop (1 + (enc k).length) = enc m ++ (ys ++ [bit t]) ∧ L.drop (1 + (enc k).length + (enc m).length + ys.length) = [bit t] ∧
    L.length = 2 + (enc k).length + (enc m).length + ys.length := by
  subst h
  have e : [7] ++ enc k ++ enc m ++ ys ++ [bit t] = (7 : Int) :: (enc k ++ (enc m ++ (ys ++ [bit t]))) := by simp
  rw [e]
  refine ⟨rfl, ?_, ?_, ?_⟩
  · rw [Nat.add_comm 1, List.drop_succ_cons, List.drop_left]
  · rw [show 1 + (enc k).length + (enc m).length + ys.length = ((enc k).length + ((enc m).length + ys.length)) + 1 from by omega, List.drop_succ_cons, ← List.drop_drop, List.drop_left, ← List.drop_drop, List.drop_left, List.drop_left]
  · simp only [List.length_cons, List.length_append, List.length_nil]; omega
theorem parts_byte (k m : Nat) (ys : List Int) (t : Bool) (L : List Int) (h : L = [7] ++ enc k ++ enc m ++ ys ++ [bit t]) (hy : ∀ x ∈ ys, 0 ≤ x ∧ x ≤ 255) : ∀ x ∈ L, 0 ≤ x ∧ x ≤ 255 := by
  subst h
  intro x hx
  simp only [List.mem_append, List.mem_singleton] at hx
  rcases hx with (((rfl | h) | h) | h) | rfl
  · omega
  · exact enc_byte _ _ h
  · exact enc_byte _ _ h
  · exact hy x h
  · exact bit_byte t

set_option maxRecDepth 100000 in
set_option maxHeartbeats 1600000 in
theorem back_short (B : Option Addr) (x : Int) (k cb : Nat) (t : Bool) (ys : List Int) (w : World) (hx : x = k ∨ (x < 0 ∧ k = 0)) (hx2 : x ≤ 9223372036854775807) (hlen : ys.length ≤ 1000) (hb : Hid (∀ x ∈ ys, 0 ≤ x ∧ x ≤ 255)) (ry : Rn w B ys) :
    Calls Try.prog 4 #[.int .i64 x, .slice B ys.length cb, .bool t] w fun e w' => e = .returned (.bool true) ∧ Below w.heap.size w w' := by
  have HK := hid (show x.toNat = k by omega)
  have K9 := enc_len9 k (by omega)
  have M9 := enc_len9 ys.length (by omega)
  go_enter Try.func4, Try.ntmps4
  go_wp2_with fail
  refine (wakes_any _).mono ?_
  rintro e w1 ⟨rfl, hbel⟩
  replace ry := ry.now hbel
  go_wp2_with fail
  refine (put_any _ 1 _ x [7] _ _ rfl (by omega) hx2 (rd_new w1 [7] _ rfl (by simp [maxLen])) (by simp)).mono ?_
  rintro e w2 ⟨v2, rfl, hown2, hb2⟩
  rw [HK.out] at hown2
  replace ry := (ry.alloc _).now hb2
  replace hbel := (hbel.alloc hbel.size _).trans (hb2.mono (Nat.le_trans hbel.size (by simp)))
  obtain ⟨A2, c2, rfl, r2⟩ := hown2.read
  go_wp2_with fail
  refine (puttext_any A2 B _ c2 _ cb ([7] ++ enc k) ys _ _ _ (by simp) (by simp) (by simp; omega) (by omega) r2 (Nat.le_refl _) ry (Nat.le_refl _)).mono ?_
  rintro e w3 ⟨v3, rfl, hown3, hb3⟩
  replace ry := ry.now hb3
  replace hbel := hbel.trans (hb3.mono hbel.size)
  obtain ⟨A3, c3, rfl, r3⟩ := hown3.read
  clear hown2 hb2 r2 hb3
  go_wp2_with fail
  refine (puttruth_any A3 _ c3 t _ _ _ (by simp) (by simp; omega) r3 (Nat.le_refl _)).mono ?_
  rintro e w4 ⟨v4, rfl, hown4, hb4⟩
  replace ry := ry.now hb4
  replace hbel := hbel.trans (hb4.mono hbel.size)
  clear hown3 r3 hb4
  generalize hL : [7] ++ enc k ++ enc ys.length ++ ys ++ [bit t] = L at hown4
  obtain ⟨p1, p2, p3, pl⟩ := parts k ys.length ys t L hL.symm
  have P1 := hid p1
  have P2 := hid p2
  have P3 := hid p3
  have PL := hid pl
  have PB := hid (parts_byte k ys.length ys t L hL.symm hb.out)
  have hLl : L.length ≤ 2000 := by omega
  clear p1 p2 p3 pl hL
  obtain ⟨A4, c4, rfl, r4, hc4, _⟩ := hown4.shape
  clear hown4
  go_wp2_with fail
  refine (get_yes A4 c4 1 k L _ _ _ (by omega) (by omega) (by have := PL.out; omega) PB r4 (by omega) P1).mono ?_
  rintro e w5 ⟨rfl, d5, rfl⟩
  obtain ⟨q1, hq1⟩ : ∃ q, q = (1 : Int).toNat + (enc k).length := ⟨_, rfl⟩
  rw [← hq1]
  have Q1 := hid (show q1 = 1 + (enc k).length from hq1)
  clear hq1
  go_wp2_with fail
  refine (gettext_yes A4 c4 q1 ys.length L ys [bit t] _ _ hc4 (by omega) (by omega) (by have := PL.out; have := Q1.out; omega) PB (r4.drewN d5) (Nat.le_refl _) (by omega) (by rw [Int.toNat_natCast, Q1.out]; exact P2)).mono ?_
  rintro e w6 ⟨v6, rfl, hown6, hb6⟩
  rw [Int.toNat_natCast]
  obtain ⟨q2, hq2⟩ : ∃ q, q = q1 + (enc ys.length).length + ys.length := ⟨_, rfl⟩
  rw [← hq2]
  have Q2 := hid (show q2 = 1 + (enc k).length + (enc ys.length).length + ys.length by have := Q1.out; omega)
  clear hq2
  obtain ⟨A6, c6, rfl, r6⟩ := hown6.read
  clear hown6
  go_wp2_with fail
  refine (gettruth_yes A4 c4 q2 L t _ _ (by omega) (by omega) (r4.keep fun p hp => hb6.cell hp) (by rw [Int.toNat_natCast, Q2.out]; exact P3)).mono ?_
  rintro e w7 ⟨rfl, hw7⟩
  subst hw7
  rw [Int.toNat_natCast]
  obtain ⟨q3, hq3⟩ : ∃ q, q = q2 + 1 := ⟨_, rfl⟩
  rw [← hq3]
  obtain rfl : q3 = L.length := by have := PL.out; have := Q2.out; omega
  clear hq3
  have ry6 : Rn _ B ys := (ry.drewN d5).now hb6
  have hbel6 := hbel.trans ((below_drewN (Below.refl w4.heap.size w4) d5).trans hb6 |>.mono hbel.size)
  clear ry hbel hb6 r4
  cases t
  all_goals
    rcases hx with rfl | ⟨hneg, rfl⟩
    all_goals
      go_wp2_with fail
  all_goals
    refine (same_yes A6 B _ _ c6 cb ys _ _ _ rfl rfl (by unfold maxLen; omega) r6 ry6).mono ?_
    rintro e w8 ⟨rfl, d8, rfl⟩
    go_wp2
    go_ret
    exact ⟨rfl, below_drewN hbel6 d8⟩

set_option maxRecDepth 100000 in
theorem back_walk (B : Option Addr) (x : Int) (n cb : Nat) (t : Bool) (ys : List Int) (w : World) (hn : ys.length = n) (hx2 : x ≤ 9223372036854775807) (hb : ∀ x ∈ ys, 0 ≤ x ∧ x ≤ 255) (ry : Rn w B ys) :
    Calls Try.prog 4 #[.int .i64 x, .slice B n cb, .bool t] w fun e w' => e = .returned (.bool true) ∧ Below w.heap.size w w' := by
  by_cases h : n ≤ 1000
  · subst hn
    exact back_short B x x.toNat cb t ys w (by omega) hx2 h (hid hb) ry
  · clear hn hb ry hx2
    go_enter Try.func4, Try.ntmps4
    go_wp2_with fail
    refine (wakes_any _).mono ?_
    rintro e w1 ⟨rfl, hbel⟩
    go_wp2
    go_ret
    exact ⟨rfl, hbel⟩
end Go.Proofs.Ytbklimknngjcpaa
