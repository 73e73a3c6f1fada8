/-
  What is proved: the walk of SectorFuse: with a fuse of n just n sectors are written, in order, and what was written is read. Condition: the places read as their bytes.
-/
import Derived.Test.YtfhejadlkooklaaWake5
namespace Go.Proofs.Ytfhejadlkooklaa
open Go.RowKit

theorem told_ok (s : St) (i : Int) (l : List Int) (hd : s.d = false) (h0 : 0 ≤ i) (h1 : i < s.L.length) (hl : l.length ≤ 64) (hf : 0 < s.f) : s.told i l = 0 ∧ s.write i l = ⟨s.L.set i.toNat l, s.f - 1, false⟩ := by
  obtain ⟨L, f, d⟩ := s
  simp only at hd h1 hf
  subst hd
  have n1 : ¬ (i < 0 ∨ (L.length : Int) ≤ i) := by omega
  have n2 : ¬ 64 < l.length := by omega
  have n3 : ¬ f = 0 := by omega
  constructor
  · unfold St.told; simp only; rw [if_neg (by simp), if_neg n1, if_neg n2, if_neg n3]
  · unfold St.write St.burn; simp only; rw [if_neg (by simp), if_neg n1, if_neg n2, if_neg n3, if_neg n3, if_pos hf]
theorem told_free (s : St) (i : Int) (l : List Int) (hd : s.d = false) (h0 : 0 ≤ i) (h1 : i < s.L.length) (hl : l.length ≤ 64) (hf : s.f < 0) : s.told i l = 0 ∧ s.write i l = ⟨s.L.set i.toNat l, s.f, false⟩ := by
  obtain ⟨L, f, d⟩ := s
  simp only at hd h1 hf
  subst hd
  have n1 : ¬ (i < 0 ∨ (L.length : Int) ≤ i) := by omega
  have n2 : ¬ 64 < l.length := by omega
  have n3 : ¬ f = 0 := by omega
  have n4 : ¬ 0 < f := by omega
  constructor
  · unfold St.told; simp only; rw [if_neg (by simp), if_neg n1, if_neg n2, if_neg n3]
  · unfold St.write St.burn; simp only; rw [if_neg (by simp), if_neg n1, if_neg n2, if_neg n3, if_neg n3, if_neg n4]
theorem told_last (s : St) (i : Int) (l : List Int) (hd : s.d = false) (h0 : 0 ≤ i) (h1 : i < s.L.length) (hl : l.length ≤ 64) (hf : s.f = 0) : s.told i l = 8 ∧ s.write i l = ⟨s.L, 0, true⟩ := by
  obtain ⟨L, f, d⟩ := s
  simp only at hd h1 hf
  subst hd hf
  have n1 : ¬ (i < 0 ∨ (L.length : Int) ≤ i) := by omega
  have n2 : ¬ 64 < l.length := by omega
  constructor
  · unfold St.told; simp only; rw [if_neg (by simp), if_neg n1, if_neg n2, if_pos trivial]
  · unfold St.write; simp only; rw [if_neg (by simp), if_neg n1, if_neg n2, if_pos trivial]
theorem told_down (s : St) (i : Int) (l : List Int) (hd : s.d = true) : s.told i l = 8 ∧ s.write i l = s := by
  constructor
  · unfold St.told; rw [if_pos hd]
  · unfold St.write; rw [if_pos hd]

/-- behind k writes with a fuse of m -/
def Left (w : World) (T : TypeId) (b k : Nat) (v : Value) (m i : Nat) : Prop :=
  ∃ L, L.length = 16 ∧ (∀ l ∈ L, l.length ≤ 64) ∧ Dk w T b k v ⟨L, ((m - i : Nat) : Int), decide (m < i)⟩
theorem set_short {L : List (List Int)} (h : ∀ l ∈ L, l.length ≤ 64) (i : Nat) (a : List Int) (ha : a.length ≤ 64) : ∀ l ∈ L.set i a, l.length ≤ 64 := fun l hl => by
  rcases List.mem_or_eq_of_mem_set hl with h1 | h1
  · exact h l h1
  · rw [h1]; exact ha

set_option maxHeartbeats 400000 in
theorem fuse_walk (m : Nat) (hm : m ≤ 255) (A : Option Addr) (n c : Nat) (ds : List Int) (w : World) (hn : ds.length = n) (hlen : n ≤ maxLen) (r : Rn w A ds) (hb : ∀ x ∈ ds, 0 ≤ x ∧ x ≤ 255) :
    Calls Try.prog 4 #[.int .u8 m, .slice A n c] w fun e w' => e = .returned (.bool true) ∧ Below w.heap.size w w' := by
  unfold maxLen at hlen
  have HN := hid hn
  have HR := hid r
  have HBY := hid hb
  clear hn r hb
  by_cases h100 : 100 < n
  · go_enter Try.func4, Try.ntmps4
    go_wp2_with (go_at_call 7; refine (wakes_any _).mono ?_; rintro e w1 ⟨rfl, hb⟩; have HB := hid hb; clear hb)
    go_ret
    exact ⟨rfl, HB.out⟩
  have h100' : n ≤ 100 := by omega
  clear h100
  go_enter Try.func4, Try.ntmps4
  go_wp2_with (first
    | (go_at_call 7; refine (wakes_any _).mono ?_; rintro e w1 ⟨rfl, hb⟩; have HB := hid hb; clear hb)
    | (go_at_call 9; refine (new_any 16 _).mono ?_; rintro e w2 ⟨k, v, rfl, hk, hb⟩; have HK := hid hk; have HB2 := hid hb; clear hk hb)
    | (go_at_call 14; refine (fuse_any HK.out m (by omega)).mono ?_; rintro e w3 ⟨rfl, hk, ho⟩; have HK3 := hid hk; have HO3 := hid ho; clear hk ho))
  have hz : w1.heap.size ≤ w2.heap.size := HB2.out.size
  have HB3 := hid ((HB.out.trans (HB2.out.mono HB.out.size)).trans ((HK.out.onlyBel HO3.out hz).mono HB.out.size))
  have HL := hid (show Left w3 49 w1.heap.size k v m 0 from by
    refine ⟨List.replicate 16 [], by simp, fun l hl => ?_, ?_⟩
    · rw [List.eq_of_mem_replicate hl]; simp
    · exact HK3.out)
  have hw1 : w.heap.size ≤ w1.heap.size := HB.out.size
  have hw3 : w1.heap.size ≤ w3.heap.size := Nat.le_trans HB2.out.size HO3.out.size
  clear HK HK3 HO3 hz HB2
  go_loopw [23] (fun t wr => ∃ p : Nat, p ≤ n ∧ t = .int .i64 p ∧ Left wr 49 w1.heap.size k v m p ∧ Below w.heap.size w wr ∧ w1.heap.size ≤ wr.heap.size) (fun t _ => n - (intOf t).toNat)
  case atStart => exact ⟨0, Nat.zero_le _, rfl, HL.out, HB3.out, hw3⟩
  case round =>
    obtain ⟨p, hp, rfl, hl, hbel, hsz⟩ := hrel
    have HBe := hid hbel
    by_cases hlt : p < n
    · obtain ⟨ad, rfl, _, hc⟩ := (HR.out.below HBe.out (Nat.le_refl _)).get (k := p) (by rw [HN.out]; exact hlt)
      have hx := HBY.out (ds[p]'(by rw [HN.out]; exact hlt)) (List.getElem_mem _)
      obtain ⟨x, hxx⟩ : ∃ x, ds[p]'(by rw [HN.out]; exact hlt) = x := ⟨_, rfl⟩
      rw [hxx] at hc hx
      obtain ⟨hx0, hx1⟩ := hx
      have q0 : 0 ≤ x % 16 := by omega
      have q1 : x % 16 < 16 := by omega
      have HLp := hid hl
      clear hl hbel hxx HL HB3
      obtain ⟨L, hL, h64, hk⟩ := HLp.out
      have HW := fun u => hid (write_any (hk.below (below_alloc wr (.cells #[.int .u8 u] 5))) (x % 16) _ 1 1 [u] rfl (by omega) (rn_one wr u))
      have HO := fun (u : Int) (w4 : World) (ho : Only (wr.alloc (.cells #[.int .u8 u] 5)) w4 k v) => (on HBe.out (below_alloc wr (.cells #[.int .u8 u] 5))).trans (((hk.below (below_alloc wr (.cells #[.int .u8 u] 5))).onlyBel ho (by rw [World.size_alloc]; omega)).mono hw1)
      have HO' := hid HO
      have H64 := hid h64
      have HLL := hid hL
      by_cases hpm : p < m
      · have T := told_ok ⟨L, ((m - p : Nat) : Int), decide (m < p)⟩ (x % 16) [(p : Int)] (by simp; omega) q0 (by show x % 16 < (L.length : Int); rw [hL]; omega) (by simp) (by show (0 : Int) < ((m - p : Nat) : Int); omega)
        have HT := hid T
        clear T hk hL h64 HO
        go_wp2_with fail
        refine ((HW p).out).mono ?_
        rintro e w4 ⟨rfl, hk4, ho4⟩
        rw [HT.out.1]
        rw [HT.out.2] at hk4
        have HK4 := hid hk4
        have HB4 := hid (HO'.out p w4 ho4)
        have hz4 : wr.heap.size < w4.heap.size := by have := ho4.size; rw [World.size_alloc] at this; omega
        clear hk4 ho4
        go_wp2_with fail
        refine (read_any HK4.out (set_short H64.out _ _ (by simp)) (x % 16)).mono ?_
        rintro e w5 ⟨u, l, c5, rfl, hu, hb5, hor⟩
        have hor' : [(p : Int)] = l ∧ c5 = 0 := by
          rcases hor with ⟨h1, _⟩ | ⟨_, h2, h3⟩
          · have h1' : x % 16 < 0 ∨ (((L.set (x % 16).toNat [(p : Int)]).length : Nat) : Int) ≤ x % 16 := h1
            rw [List.length_set, HLL.out] at h1'
            omega
          · have h2' : (L.set (x % 16).toNat [(p : Int)])[(x % 16).toNat]? = some l := h2
            rw [List.getElem?_set_self (by rw [HLL.out]; omega)] at h2'
            injection h2' with h2'
            exact ⟨h2', h3⟩
        obtain ⟨rfl, rfl⟩ := hor'
        obtain ⟨A5, cc5, rfl, hr5, _, _⟩ := hu
        have HR5 := hid hr5
        have HB5 := hid (on HB4.out hb5)
        have HK5 := hid (HK4.out.below hb5)
        have hz5 := hb5.size
        clear hor hb5 hr5 HK4
        go_wp2_with (go_at_call 13; refine (same_yes A5 _ 1 1 cc5 1 [(p : Int)] _ _ _ rfl rfl (by unfold maxLen; omega) (HR5.out.alloc _) (rn_one w5 p)).mono ?_; rintro e w6 ⟨rfl, d6, rfl⟩)
        go_roundw
        case rel =>
          refine ⟨p + 1, by omega, by go_num, ⟨L.set (x % 16).toNat [(p : Int)], by rw [List.length_set]; exact HLL.out, set_short H64.out _ _ (by simp), ?_⟩, below_draws (on HB5.out (below_alloc _ _)) d6, ?_⟩
          · have K := (HK5.out.below (below_alloc w5 (.cells #[.int .u8 (p : Int)] 5))).draws d6
            have e1 : ((m - p : Nat) : Int) - 1 = ((m - (p + 1) : Nat) : Int) := by omega
            have e2 : decide (m < p + 1) = false := by simp; omega
            rw [e2, ← e1]
            exact K
          · show w1.heap.size ≤ (w5.alloc (.cells #[.int .u8 (p : Int)] 5)).heap.size
            rw [World.size_alloc]; omega
        case measure => simp [intOf]; omega
      · have T : St.told ⟨L, ((m - p : Nat) : Int), decide (m < p)⟩ (x % 16) [(p : Int)] = 8 ∧ St.write ⟨L, ((m - p : Nat) : Int), decide (m < p)⟩ (x % 16) [(p : Int)] = ⟨L, 0, true⟩ := by
          by_cases e : p = m
          · have := told_last ⟨L, ((m - p : Nat) : Int), decide (m < p)⟩ (x % 16) [(p : Int)] (by simp; omega) q0 (by show x % 16 < (L.length : Int); rw [hL]; omega) (by simp) (by show ((m - p : Nat) : Int) = 0; omega)
            exact this
          · have e1 : decide (m < p) = true := by simp; omega
            have e2 : ((m - p : Nat) : Int) = 0 := by omega
            have := told_down ⟨L, ((m - p : Nat) : Int), decide (m < p)⟩ (x % 16) [(p : Int)] e1
            refine ⟨this.1, this.2.trans ?_⟩
            rw [e1, e2]
        have HT := hid T
        have hpm' : decide ((p : Int) < (m : Int)) = false := by simp; omega
        clear T hk hL h64 HO
        go_wp2_with fail
        refine ((HW p).out).mono ?_
        rintro e w4 ⟨rfl, hk4, ho4⟩
        rw [HT.out.1]
        rw [HT.out.2] at hk4
        have HK4 := hid hk4
        have HB4 := hid (HO'.out p w4 ho4)
        have hz4 : wr.heap.size < w4.heap.size := by have := ho4.size; rw [World.size_alloc] at this; omega
        clear hk4 ho4
        go_wp2_with fail
        refine (read_any HK4.out H64.out (x % 16)).mono ?_
        rintro e w5 ⟨u, l, c5, rfl, hu, hb5, hor⟩
        have HB5 := hid (on HB4.out hb5)
        have HK5 := hid (HK4.out.below hb5)
        have hz5 := hb5.size
        clear hor hb5 hu HK4
        go_wp2
        go_roundw
        case rel =>
          refine ⟨p + 1, by omega, by go_num, ⟨L, HLL.out, H64.out, ?_⟩, HB5.out, by omega⟩
          have e1 : ((m - (p + 1) : Nat) : Int) = 0 := by omega
          have e2 : decide (m < p + 1) = true := by simp; omega
          rw [e2, e1]
          exact HK5.out
        case measure => simp [intOf]; omega
    · obtain rfl : p = n := by omega
      obtain ⟨L, hL, h64, hk⟩ := hl
      have HKp := hid hk
      have HLL := hid hL
      clear hbel HL HB3 hk hL h64 hlt
      go_wp2_with (first
        | (go_at_call 15; refine (up_any HKp.out).mono ?_; rintro e w4 ⟨rfl, hk, ho⟩; have HK4 := hid hk; have HO4 := hid ho; clear hk ho)
        | (go_at_call 16; refine (down_any HK4.out).mono ?_; rintro e w' ⟨rfl, rfl⟩)
        | (go_at_call 11; refine (write_any HK4.out 3 none 0 0 [] rfl (by omega) (Rd.nil _ _ _)).mono ?_; rintro e w5 ⟨rfl, hk, ho⟩; rw [(told_free ⟨L, -1, false⟩ 3 [] rfl (by omega) (by rw [HLL.out]; omega) (by simp) (by show (-1 : Int) < 0; omega)).1]; have HK5 := hid hk; have HO5 := hid ho; clear hk ho))
      go_ret
      exact ⟨rfl, (HBe.out.trans ((HKp.out.onlyBel HO4.out hsz).mono hw1)).trans ((HK4.out.onlyBel HO5.out (Nat.le_trans hsz HO4.out.size)).mono hw1)⟩
end Go.Proofs.Ytfhejadlkooklaa
