/-
  What is proved: frame's Right, and the reference's, tell whether a packet may be; what they write lies in new memory. No condition.
-/
import Derived.Test.YtcamlbinakompaaMath7
import Derived.Test.YtcamlbinakompaaRawB7
import Derived.Test.YtcamlbinakompaaPut
namespace Go.Proofs.Ytcamlbinakompaa
open Go.RowKit

/-- a packet's cells -/
def pk (m y s a : Int) (A : Option Addr) (n cp : Nat) : Array Value := #[.int .i64 m, .int .i64 y, .int .i64 s, .int .i64 a, .slice A n cp]
theorem pk_one (m y s a : Int) (A : Option Addr) (n cp : Nat) : (pk m y s a A n cp).all (·.oneCell') = true := by
  simp [pk, Value.oneCell']
/-- a packet may be -/
def RightP (m y s a : Int) (n : Nat) : Prop := (1 ≤ m ∧ m ≤ 1099511627776) ∧ (0 ≤ y ∧ y ≤ 1099511627776) ∧ (0 ≤ s ∧ s ≤ 1099511627776) ∧ (0 ≤ a ∧ a ≤ 1099511627776) ∧ n ≤ 128 ∧ (s = 0 → n = 0)

def inB (n least : Int) : Bool := decide (least ≤ n ∧ n ≤ 1099511627776)
theorem inB_yes {n least : Int} (h : least ≤ n ∧ n ≤ 1099511627776) : inB n least = true := decide_eq_true h
theorem inB_no {n least : Int} (h : ¬ (least ≤ n ∧ n ≤ 1099511627776)) : inB n least = false := decide_eq_false h
theorem within_any (n least : Int) (w : World) : Calls Try.prog 20 #[.int .i64 n, .int .i64 least] w fun e w' => e = .returned (.bool (inB n least)) ∧ w = w' := by
  by_cases h1 : least ≤ n
  · by_cases h2 : n ≤ 1099511627776
    · have h := inB_yes ⟨h1, h2⟩
      have H := hid h
      clear h
      go_enter Try.func20, Try.ntmps20
      go_wp2
      go_ret
      exact ⟨by rw [H.out]; rfl, rfl⟩
    · have h := inB_no (n := n) (least := least) (fun x => h2 x.2)
      have H := hid h
      clear h
      go_enter Try.func20, Try.ntmps20
      go_wp2
      go_ret
      exact ⟨by rw [H.out]; rfl, rfl⟩
  · have h := inB_no (n := n) (least := least) (fun x => h1 x.1)
    have H := hid h
    clear h
    go_enter Try.func20, Try.ntmps20
    go_wp2
    go_ret
    exact ⟨by rw [H.out]; rfl, rfl⟩

set_option maxRecDepth 100000 in
set_option maxHeartbeats 1000000 in
theorem right_any (m y s a : Int) (A : Option Addr) (n cp : Nat) (w : World) (hnm : n ≤ maxLen) :
    Calls Try.prog 11 #[.agg (pk m y s a A n cp)] w fun e w' => e = .returned (.bool (dec (RightP m y s a n))) ∧ Below w.heap.size w w' := by
  have X0 := Bx.new w 24 (pk m y s a A n cp)
  have K0 := below_alloc w (.cells (pk m y s a A n cp) 24)
  obtain ⟨c0, c1, c2, c3, c4⟩ := X0.all5
  have HK := hid K0
  unfold maxLen at hnm
  clear X0 K0
  by_cases hs : s = 0
  · subst hs
    rcases Nat.eq_zero_or_pos n with hn | hn
    · subst hn
      have hss : (0 : Int) ≤ 0 ∧ (0 : Int) ≤ 1099511627776 := by omega
      have gs := inB_yes hss
      by_cases hm : 1 ≤ m ∧ m ≤ 1099511627776
      case neg =>
        have g := inB_no hm
        have HE := hid (dec_false (show ¬ RightP m y 0 a 0 from fun h => hm h.1))
        rw [HE.out]
        go_enter Try.func11, Try.ntmps11
        go_wp2_with (go_at_call 20; refine (within_any _ _ _).mono ?_; rintro e w' ⟨rfl, rfl⟩)
        go_ret
        exact ⟨rfl, HK.out⟩
      have gm := inB_yes hm
      by_cases hy : 0 ≤ y ∧ y ≤ 1099511627776
      case neg =>
        have g := inB_no hy
        have HE := hid (dec_false (show ¬ RightP m y 0 a 0 from fun h => hy h.2.1))
        rw [HE.out]
        go_enter Try.func11, Try.ntmps11
        go_wp2_with (go_at_call 20; refine (within_any _ _ _).mono ?_; rintro e w' ⟨rfl, rfl⟩)
        go_ret
        exact ⟨rfl, HK.out⟩
      have gy := inB_yes hy
      by_cases ha : 0 ≤ a ∧ a ≤ 1099511627776
      case neg =>
        have g := inB_no ha
        have HE := hid (dec_false (show ¬ RightP m y 0 a 0 from fun h => ha h.2.2.2.1))
        rw [HE.out]
        go_enter Try.func11, Try.ntmps11
        go_wp2_with (go_at_call 20; refine (within_any _ _ _).mono ?_; rintro e w' ⟨rfl, rfl⟩)
        go_ret
        exact ⟨rfl, HK.out⟩
      have ga := inB_yes ha
      have HE := hid (dec_true (show RightP m y 0 a 0 from ⟨hm, hy, hss, ha, by omega, fun h => by omega⟩))
      rw [HE.out]
      go_enter Try.func11, Try.ntmps11
      go_wp2_with (go_at_call 20; refine (within_any _ _ _).mono ?_; rintro e w' ⟨rfl, rfl⟩)
      go_ret
      exact ⟨rfl, HK.out⟩
    · have hn1 : decide ((n : Int) > 0) = true := decide_eq_true (by omega)
      have HE := hid (dec_false (show ¬ RightP m y 0 a n from fun h => by have := h.2.2.2.2.2 rfl; omega))
      rw [HE.out]
      go_enter Try.func11, Try.ntmps11
      go_wp2_with (go_at_call 20; refine (within_any _ _ _).mono ?_; rintro e w' ⟨rfl, rfl⟩)
      go_ret
      exact ⟨rfl, HK.out⟩
  · skip
    have hs0 : (s == 0) = false := by simp [hs]
    by_cases hm : 1 ≤ m ∧ m ≤ 1099511627776
    case neg =>
      have g := inB_no hm
      have HE := hid (dec_false (show ¬ RightP m y s a n from fun h => hm h.1))
      rw [HE.out]
      go_enter Try.func11, Try.ntmps11
      go_wp2_with (go_at_call 20; refine (within_any _ _ _).mono ?_; rintro e w' ⟨rfl, rfl⟩)
      go_ret
      exact ⟨rfl, HK.out⟩
    have gm := inB_yes hm
    by_cases hy : 0 ≤ y ∧ y ≤ 1099511627776
    case neg =>
      have g := inB_no hy
      have HE := hid (dec_false (show ¬ RightP m y s a n from fun h => hy h.2.1))
      rw [HE.out]
      go_enter Try.func11, Try.ntmps11
      go_wp2_with (go_at_call 20; refine (within_any _ _ _).mono ?_; rintro e w' ⟨rfl, rfl⟩)
      go_ret
      exact ⟨rfl, HK.out⟩
    have gy := inB_yes hy
    by_cases hss : 0 ≤ s ∧ s ≤ 1099511627776
    case neg =>
      have g := inB_no hss
      have HE := hid (dec_false (show ¬ RightP m y s a n from fun h => hss h.2.2.1))
      rw [HE.out]
      go_enter Try.func11, Try.ntmps11
      go_wp2_with (go_at_call 20; refine (within_any _ _ _).mono ?_; rintro e w' ⟨rfl, rfl⟩)
      go_ret
      exact ⟨rfl, HK.out⟩
    have gs := inB_yes hss
    by_cases ha : 0 ≤ a ∧ a ≤ 1099511627776
    case neg =>
      have g := inB_no ha
      have HE := hid (dec_false (show ¬ RightP m y s a n from fun h => ha h.2.2.2.1))
      rw [HE.out]
      go_enter Try.func11, Try.ntmps11
      go_wp2_with (go_at_call 20; refine (within_any _ _ _).mono ?_; rintro e w' ⟨rfl, rfl⟩)
      go_ret
      exact ⟨rfl, HK.out⟩
    have ga := inB_yes ha
    by_cases h128 : n ≤ 128
    · have g5 : decide ((n : Int) ≤ 128) = true := decide_eq_true (by omega)
      have HE := hid (dec_true (show RightP m y s a n from ⟨hm, hy, hss, ha, h128, fun h => by omega⟩))
      rw [HE.out]
      go_enter Try.func11, Try.ntmps11
      go_wp2_with (go_at_call 20; refine (within_any _ _ _).mono ?_; rintro e w' ⟨rfl, rfl⟩)
      go_ret
      exact ⟨rfl, HK.out⟩
    · have g5 : decide ((n : Int) ≤ 128) = false := decide_eq_false (by omega)
      have HE := hid (dec_false (show ¬ RightP m y s a n from fun h => h128 h.2.2.2.2.1))
      rw [HE.out]
      go_enter Try.func11, Try.ntmps11
      go_wp2_with (go_at_call 20; refine (within_any _ _ _).mono ?_; rintro e w' ⟨rfl, rfl⟩)
      go_ret
      exact ⟨rfl, HK.out⟩

set_option maxRecDepth 100000 in
set_option maxHeartbeats 1000000 in
theorem rright_any (m y s a : Int) (A : Option Addr) (n cp : Nat) (w : World) (hnm : n ≤ maxLen) :
    Calls Try.prog 12 #[.agg (pk m y s a A n cp)] w fun e w' => e = .returned (.bool (dec (RightP m y s a n))) ∧ Below w.heap.size w w' := by
  have X0 := Bx.new w 24 (pk m y s a A n cp)
  have K0 := below_alloc w (.cells (pk m y s a A n cp) 24)
  obtain ⟨c0, c1, c2, c3, c4⟩ := X0.all5
  have HK := hid K0
  unfold maxLen at hnm
  clear X0 K0
  by_cases lm : m < 1
  · have dm : decide (m < 1) = true := decide_eq_true lm
    have HE := hid (dec_false (show ¬ RightP m y s a n from fun h => by have := h.1; omega))
    rw [HE.out]
    go_enter Try.func12, Try.ntmps12
    go_wp2
    go_ret
    exact ⟨rfl, HK.out⟩
  have dm : decide (m < 1) = false := decide_eq_false lm
  by_cases um : m > 1099511627776
  · have em : decide (m > 1099511627776) = true := decide_eq_true um
    have HE := hid (dec_false (show ¬ RightP m y s a n from fun h => by have := h.1; omega))
    rw [HE.out]
    go_enter Try.func12, Try.ntmps12
    go_wp2
    go_ret
    exact ⟨rfl, HK.out⟩
  have em : decide (m > 1099511627776) = false := decide_eq_false um
  by_cases ly : y < 0
  · have dy : decide (y < 0) = true := decide_eq_true ly
    have HE := hid (dec_false (show ¬ RightP m y s a n from fun h => by have := h.2.1; omega))
    rw [HE.out]
    go_enter Try.func12, Try.ntmps12
    go_wp2
    go_ret
    exact ⟨rfl, HK.out⟩
  have dy : decide (y < 0) = false := decide_eq_false ly
  by_cases uy : y > 1099511627776
  · have ey : decide (y > 1099511627776) = true := decide_eq_true uy
    have HE := hid (dec_false (show ¬ RightP m y s a n from fun h => by have := h.2.1; omega))
    rw [HE.out]
    go_enter Try.func12, Try.ntmps12
    go_wp2
    go_ret
    exact ⟨rfl, HK.out⟩
  have ey : decide (y > 1099511627776) = false := decide_eq_false uy
  by_cases ls : s < 0
  · have ds : decide (s < 0) = true := decide_eq_true ls
    have HE := hid (dec_false (show ¬ RightP m y s a n from fun h => by have := h.2.2.1; omega))
    rw [HE.out]
    go_enter Try.func12, Try.ntmps12
    go_wp2
    go_ret
    exact ⟨rfl, HK.out⟩
  have ds : decide (s < 0) = false := decide_eq_false ls
  by_cases us : s > 1099511627776
  · have es : decide (s > 1099511627776) = true := decide_eq_true us
    have HE := hid (dec_false (show ¬ RightP m y s a n from fun h => by have := h.2.2.1; omega))
    rw [HE.out]
    go_enter Try.func12, Try.ntmps12
    go_wp2
    go_ret
    exact ⟨rfl, HK.out⟩
  have es : decide (s > 1099511627776) = false := decide_eq_false us
  by_cases la : a < 0
  · have da : decide (a < 0) = true := decide_eq_true la
    have HE := hid (dec_false (show ¬ RightP m y s a n from fun h => by have := h.2.2.2.1; omega))
    rw [HE.out]
    go_enter Try.func12, Try.ntmps12
    go_wp2
    go_ret
    exact ⟨rfl, HK.out⟩
  have da : decide (a < 0) = false := decide_eq_false la
  by_cases ua : a > 1099511627776
  · have ea : decide (a > 1099511627776) = true := decide_eq_true ua
    have HE := hid (dec_false (show ¬ RightP m y s a n from fun h => by have := h.2.2.2.1; omega))
    rw [HE.out]
    go_enter Try.func12, Try.ntmps12
    go_wp2
    go_ret
    exact ⟨rfl, HK.out⟩
  have ea : decide (a > 1099511627776) = false := decide_eq_false ua
  by_cases h128 : n ≤ 128
  case neg =>
    have g5 : decide ((n : Int) ≤ 128) = false := decide_eq_false (by omega)
    have HE := hid (dec_false (show ¬ RightP m y s a n from fun h => h128 h.2.2.2.2.1))
    rw [HE.out]
    go_enter Try.func12, Try.ntmps12
    go_wp2
    go_ret
    exact ⟨rfl, HK.out⟩
  have g5 : decide ((n : Int) ≤ 128) = true := decide_eq_true (by omega)
  by_cases hs : 0 < s
  · have g6 : decide (s > 0) = true := decide_eq_true hs
    have HE := hid (dec_true (show RightP m y s a n from ⟨by omega, by omega, by omega, by omega, h128, fun h => by omega⟩))
    rw [HE.out]
    go_enter Try.func12, Try.ntmps12
    go_wp2
    go_ret
    exact ⟨rfl, HK.out⟩
  have g6 : decide (s > 0) = false := decide_eq_false hs
  rcases Nat.eq_zero_or_pos n with hn | hn
  · subst hn
    have HE := hid (dec_true (show RightP m y s a 0 from ⟨by omega, by omega, by omega, by omega, h128, fun _ => rfl⟩))
    rw [HE.out]
    go_enter Try.func12, Try.ntmps12
    go_wp2
    go_ret
    exact ⟨rfl, HK.out⟩
  · have g7 : ((n : Int) == 0) = false := by simp; omega
    have HE := hid (dec_false (show ¬ RightP m y s a n from fun h => by have := h.2.2.2.2.2 (by omega); omega))
    rw [HE.out]
    go_enter Try.func12, Try.ntmps12
    go_wp2
    go_ret
    exact ⟨rfl, HK.out⟩
end Go.Proofs.Ytcamlbinakompaa
