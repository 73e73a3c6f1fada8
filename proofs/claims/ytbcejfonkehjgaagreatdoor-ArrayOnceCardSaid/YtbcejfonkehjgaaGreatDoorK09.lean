/-
  What is proved: slices.stableCmpFunc puts the places 0 .. n-1 into the order that the comparison tells, each once. Condition: there are no more than 1000 of them; the comparison answers one function of two places and writes new memory alone.
-/
import Derived.Test.YtbcejfonkehjgaaGreatDoorK08
import Derived.WalkLawsBesides
import Derived.Below
import Derived.Test.YtbcejfonkehjgaaGreatDoorRows
import Derived.WalkKit
import Derived.Deep.QuietTactic
import Derived.BigQuiet
namespace Go.Proofs.YtbcejfonkehjgaaGreatDoor
open Go.RowKit

section
variable {n : Nat} {cf : Nat → Nat → Int} {L : Nat → Nat → Prop} {d d' : Nat → Nat} {x y m : Nat}
def Blk (L : Nat → Nat → Prop) (d : Nat → Nat) (x y : Nat) : Prop := Sorted L d x y ∧ ∀ t, x ≤ t → t < y → x ≤ d t ∧ d t < y
theorem Blk.runs (h : Blk L d x m) (g : Blk L d m y) (h1 : x < m) (h2 : m < y) (h3 : y ≤ n) : Runs n L d x m y :=
  ⟨h1, h2, h3, h.1, g.1, fun i j i1 i2 j1 j2 => by have := h.2 i i1 i2; have := g.2 j j1 j2; omega, fun t t1 t2 => by
    by_cases c : t < m
    · have := h.2 t t1 c; omega
    · have := g.2 t (by omega) t2; omega⟩
theorem Blk.merged (h : Blk L d x m) (g : Blk L d m y) (h1 : x ≤ m) (h2 : m ≤ y) (D : Done L d' d x y) : Blk L d' x y :=
  ⟨D.1, fun t t1 t2 => by
    obtain ⟨j, j1, j2, e⟩ := D.2.1 t t1 t2
    rw [e]
    by_cases c : j < m
    · have := h.2 j j1 c; omega
    · have := g.2 j (by omega) j2; omega⟩
theorem Blk.kept (h : Blk L d x y) (D : Same d' d m n) (hd : y ≤ m ∨ n ≤ x) : Blk L d' x y :=
  ⟨fun i j i1 i2 i3 => by rw [D i (by omega), D j (by omega)]; exact h.1 i j i1 i2 i3, fun t t1 t2 => by rw [D t (by omega)]; exact h.2 t t1 t2⟩
theorem Blk.first (h : ∀ t, x ≤ t → t < y → d t = t) (D : Done L d' d x y) : Blk L d' x y :=
  ⟨D.1, fun t t1 t2 => by
    obtain ⟨j, j1, j2, e⟩ := D.2.1 t t1 t2
    rw [e, h j j1 j2]
    exact ⟨j1, j2⟩⟩
theorem val_done (h : ∀ t, t < n → d t < n) (D : Done L d' d x y) (hy : y ≤ n) : ∀ t, t < n → d' t < n := fun t ht => by
  by_cases c : x ≤ t ∧ t < y
  · obtain ⟨j, j1, j2, e⟩ := D.2.1 t c.1 c.2
    rw [e]; exact h j (by omega)
  · rw [D.2.2 t c]; exact h t ht
def Blocks (n : Nat) (L : Nat → Nat → Prop) (d : Nat → Nat) (z lo : Nat) : Prop := ∀ i, lo ≤ z * i → z * i < n → Blk L d (z * i) (min (z * i + z) n)
theorem blocks_at {z zz p q : Nat} (h : Blocks n L d z p) (hz : zz = 2 * z) (hp : p = zz * q) (hn : p < n) : Blk L d p (min (p + z) n) := by
  have e : z * (2 * q) = p := by rw [hp, hz, Nat.mul_comm 2 z, Nat.mul_assoc]
  have := h (2 * q) (by omega) (by omega)
  rwa [e] at this
theorem blocks_next {z zz p q : Nat} (h : Blocks n L d z p) (hz : zz = 2 * z) (hp : p = zz * q) (hn : p + z < n) : Blk L d (p + z) (min (p + zz) n) := by
  have e : z * (2 * q + 1) = p + z := by rw [hp, hz, Nat.mul_add, Nat.mul_one, Nat.mul_comm 2 z, Nat.mul_assoc]
  have := h (2 * q + 1) (by omega) (by omega)
  rwa [e, show p + z + z = p + zz by omega] at this
theorem blocks_end {zz p q : Nat} (hp : p = zz * q) (hpn : p ≤ n) (hb : n < p + zz) (h : ∀ i, i < q → Blk L d (zz * i) (zz * i + zz)) (g : p < n → Blk L d p n) : Blocks n L d zz 0 := fun i _ hi => by
  rcases Nat.lt_trichotomy i q with c | c | c
  · have e : zz * (i + 1) ≤ zz * q := Nat.mul_le_mul_left zz c
    rw [Nat.mul_add, Nat.mul_one] at e
    rw [Nat.min_eq_left (by omega)]
    exact h i c
  · subst c
    rw [← hp] at hi ⊢
    rw [Nat.min_eq_right (by omega)]
    exact g hi
  · have e : zz * (q + 1) ≤ zz * i := Nat.mul_le_mul_left zz c
    rw [Nat.mul_add, Nat.mul_one, ← hp] at e
    omega
theorem Blocks.kept {z lo hi m x : Nat} (h : Blocks n L d z lo) (D : Same d' d x m) (hm : m ≤ hi) (hl : lo ≤ hi) : Blocks n L d' z hi := fun i h1 h2 =>
  (h i (by omega) h2).kept D (by omega)
theorem Blocks.whole {z : Nat} (h : Blocks n L d z 0) (hz : n ≤ z) : Blk L d 0 n := by
  by_cases e : n = 0
  · subst e; exact ⟨fun i j _ _ h3 => absurd h3 (Nat.not_lt_zero j), fun t _ h2 => absurd h2 (Nat.not_lt_zero t)⟩
  · have := h 0 (Nat.zero_le _) (by omega)
    rwa [Nat.mul_zero, Nat.zero_add, Nat.min_eq_right hz] at this
end

set_option maxRecDepth 1000000 in
set_option maxHeartbeats 4000000 in
theorem stable_ok (w0 : World) (k n c : Nat) (cb : Addr) (cf : Nat → Nat → Int) (L : Nat → Nat → Prop) (hO : Ord n cf L) (hcmp : CmpOk w0 k n cb cf) (hn : n ≤ 1000)
    (w : World) (h : SoSt w0 k n id w) :
    Calls Tryz.prog 170 #[.slice (some ⟨k, 0, none⟩) n c, .int .i64 n, .func (.func 166) #[] #[.pointer (some cb)]] w fun e w' =>
      e = .returned (.tuple #[]) ∧ ∃ d', SoSt w0 k n d' w' ∧ Blk L d' 0 n := by
  have SO := hid (sym_ok w0 k n c cb cf L hO hcmp hn 2000)
  go_enter Tryz.func170, Tryz.ntmps170
  go_wp2
  go_loopw [7, 8] (fun i j wr => ∃ (p q : Nat) (d : Nat → Nat), i = .int .i64 p ∧ j = .int .i64 (p + 20 : Nat) ∧ p = 20 * q ∧ p ≤ n ∧ SoSt w0 k n d wr ∧ (∀ i, i < q → Blk L d (20 * i) (20 * i + 20)) ∧ (∀ t, p ≤ t → d t = t) ∧ ∀ t, t < n → d t < n) (fun i _ _ => n - (intOf i).toNat)
  case atStart => exact ⟨0, 0, id, rfl, rfl, rfl, Nat.zero_le _, h, fun i hi => absurd hi (Nat.not_lt_zero i), fun _ _ => rfl, fun _ ht => ht⟩
  case round =>
    obtain ⟨p, q, d, rfl, rfl, hpq, hp, hs, h1, h2, h3⟩ := hrel
    have H1 := hid h1
    have H2 := hid h2
    have H3 := hid h3
    have HS := hid hs
    have HPQ := hid hpq
    clear h1 h2 h3 h hs hpq
    by_cases hlt : p + 20 ≤ n
    · have hlt' : ((p + 20 : Nat) : Int) ≤ (n : Int) := by omega
      go_wp2_with fail
      refine (insertion_ok w0 k n c p (p + 20) cb cf L hO hcmp hn (by omega) (by omega) d H3.out (fun s t s1 s2 s3 => by rw [H2.out s s1, H2.out t (by omega)]; exact s2) wr HS.out).mono ?_
      rintro e w2 ⟨rfl, d2, S2, D2⟩
      have D2 : Done L d2 d p (p + 20) := D2
      have HD := hid D2
      have HS2 := hid S2
      clear D2 S2
      go_wp2
      go_roundw
      case rel =>
        have hpq := HPQ.out
        refine ⟨p + 20, q + 1, d2, rfl, rfl, by omega, hlt, HS2.out, fun i hi => ?_, fun t ht => ?_, val_done H3.out HD.out hlt⟩
        · by_cases e : i = q
          · subst e
            rw [← hpq]
            exact Blk.first (fun t t1 _ => H2.out t t1) HD.out
          · exact (H1.out i (by omega)).kept HD.out.2.2 (by omega)
        · rw [HD.out.2.2 t (by omega)]; exact H2.out t (by omega)
      case measure => simp [intOf]; omega
    · have hlt' : ¬ ((p + 20 : Nat) : Int) ≤ (n : Int) := by omega
      go_wp2_with fail
      refine (insertion_ok w0 k n c p n cb cf L hO hcmp hn hp (Nat.le_refl _) d H3.out (fun s t s1 s2 s3 => by rw [H2.out s s1, H2.out t (by omega)]; exact s2) wr HS.out).mono ?_
      rintro e w2 ⟨rfl, d2, S2, D2⟩
      have D2 : Done L d2 d p n := D2
      have B2 : Hid (Blocks n L d2 20 0) := fun i _ hi => by
        have hpq := HPQ.out
        by_cases e : i < q
        · rw [Nat.min_eq_left (by omega)]
          exact (H1.out i e).kept D2.2.2 (by omega)
        · have e2 : i = q := by omega
          subst e2
          rw [Nat.min_eq_right (by omega), ← hpq]
          exact Blk.first (fun t t1 _ => H2.out t t1) D2
      have HS2 := hid S2
      clear D2 S2 H1 H2 H3 HS HPQ
      go_wp2
      go_loopw [6, 7, 8] (fun s _ _ wr => ∃ (z : Nat) (d : Nat → Nat), s = .int .i64 z ∧ 20 ≤ z ∧ z ≤ 2000 ∧ SoSt w0 k n d wr ∧ Blocks n L d z 0) (fun s _ _ _ => n - (intOf s).toNat)
      case atStart => exact ⟨20, d2, rfl, Nat.le_refl _, by omega, HS2.out, B2.out⟩
      case round =>
        obtain ⟨z, d3, rfl, hz1, hz2, hs3, hb3⟩ := hrel
        have HS3 := hid hs3
        have HB3 := hid hb3
        clear hs3 hb3 HS2 B2
        by_cases hzn : z < n
        · have hzn' : (z : Int) < (n : Int) := by omega
          obtain ⟨zz, hzz⟩ : ∃ zz, zz = 2 * z := ⟨_, rfl⟩
          have g1 : 2 * (z : Int) = (zz : Int) := by omega
          have g2 : (z : Int) * 2 = (zz : Int) := by omega
          have hzb : zz < 2000 := by omega
          have hzl : 20 ≤ zz := by omega
          have HZ := hid hzz
          clear hzz
          go_wp2
          go_loopw [7, 8] (fun i j wr => ∃ (p q : Nat) (d : Nat → Nat), i = .int .i64 p ∧ j = .int .i64 (p + zz : Nat) ∧ p = zz * q ∧ p ≤ n ∧ SoSt w0 k n d wr ∧ (∀ i, i < q → Blk L d (zz * i) (zz * i + zz)) ∧ Blocks n L d z p) (fun i _ _ => n - (intOf i).toNat)
          case atStart => exact ⟨0, 0, d3, rfl, by rw [Nat.zero_add], (Nat.mul_zero zz).symm, Nat.zero_le _, HS3.out, fun i hi => absurd hi (Nat.not_lt_zero i), HB3.out⟩
          case round =>
            obtain ⟨p, q, d4, rfl, rfl, hpq, hp, hs4, h1, h2⟩ := hrel
            have H1 := hid h1
            have H2 := hid h2
            have HS4 := hid hs4
            have HPQ := hid hpq
            clear h1 h2 hs4 hpq HS3 HB3
            by_cases hlt : p + zz ≤ n
            · have hlt' : ((p + zz : Nat) : Int) ≤ (n : Int) := by omega
              have b1 : Blk L d4 p (p + z) := by
                have := blocks_at H2.out HZ.out HPQ.out (by omega)
                have hz := HZ.out
                rwa [Nat.min_eq_left (by omega)] at this
              have b2 : Blk L d4 (p + z) (p + zz) := by
                have hz := HZ.out
                have := blocks_next H2.out HZ.out HPQ.out (by omega)
                rwa [Nat.min_eq_left hlt] at this
              have B1 := hid b1
              have B2 := hid b2
              clear b1 b2
              go_wp2_with fail
              refine (SO.out p (p + z) (p + zz) d4 _ (by omega) (B1.out.runs B2.out (by omega) (by have := HZ.out; omega) hlt) HS4.out).mono ?_
              rintro e w5 ⟨rfl, d5, S5, D5⟩
              have HD := hid D5
              have HS5 := hid S5
              clear D5 S5
              go_wp2
              go_roundw
              case rel =>
                have hpq := HPQ.out
                have hz := HZ.out
                refine ⟨p + zz, q + 1, d5, rfl, rfl, by rw [Nat.mul_add, Nat.mul_one, ← hpq], hlt, HS5.out, fun i hi => ?_, H2.out.kept HD.out.2.2 (Nat.le_refl _) (by omega)⟩
                by_cases e : i = q
                · subst e
                  rw [← hpq]
                  exact B1.out.merged B2.out (by omega) (by omega) HD.out
                · have e2 : zz * (i + 1) ≤ zz * q := Nat.mul_le_mul_left zz (by omega)
                  rw [Nat.mul_add, Nat.mul_one, ← hpq] at e2
                  exact (H1.out i (by omega)).kept HD.out.2.2 (by omega)
              case measure => simp [intOf]; omega
            · have hlt' : ¬ ((p + zz : Nat) : Int) ≤ (n : Int) := by omega
              by_cases hm : p + z < n
              · have hm' : (p : Int) + (z : Int) < (n : Int) := by omega
                have b1 : Blk L d4 p (p + z) := by
                  have := blocks_at H2.out HZ.out HPQ.out (by omega)
                  rwa [Nat.min_eq_left (by omega)] at this
                have b2 : Blk L d4 (p + z) n := by
                  have := blocks_next H2.out HZ.out HPQ.out (by omega)
                  rwa [Nat.min_eq_right (by omega)] at this
                have B1 := hid b1
                have B2 := hid b2
                clear b1 b2
                go_wp2_with fail
                refine (SO.out p (p + z) n d4 _ (by omega) (B1.out.runs B2.out (by omega) hm (Nat.le_refl _)) HS4.out).mono ?_
                rintro e w5 ⟨rfl, d5, S5, D5⟩
                have HD := hid D5
                have HS5 := hid S5
                clear D5 S5
                go_wp2
                go_roundw
                case rel =>
                  have hpq := HPQ.out
                  refine ⟨zz, d5, rfl, hzl, by omega, HS5.out, blocks_end hpq hp (by omega) (fun i hi => ?_) fun _ => B1.out.merged B2.out (by omega) (by omega) HD.out⟩
                  have e2 : zz * (i + 1) ≤ zz * q := Nat.mul_le_mul_left zz hi
                  rw [Nat.mul_add, Nat.mul_one, ← hpq] at e2
                  exact (H1.out i hi).kept HD.out.2.2 (by omega)
                case measure => have := HZ.out; simp [intOf]; omega
              · have hm' : ¬ (p : Int) + (z : Int) < (n : Int) := by omega
                go_wp2
                go_roundw
                case rel =>
                  refine ⟨zz, d4, rfl, hzl, by omega, HS4.out, blocks_end HPQ.out hp (by omega) H1.out fun hpn => ?_⟩
                  have := blocks_at H2.out HZ.out HPQ.out hpn
                  rwa [Nat.min_eq_right (by omega)] at this
                case measure => have := HZ.out; simp [intOf]; omega
        · have hzn' : ¬ (z : Int) < (n : Int) := by omega
          go_wp2
          go_end0
          exact ⟨rfl, d3, HS3.out, HB3.out.whole (by omega)⟩
end Go.Proofs.YtbcejfonkehjgaaGreatDoor
namespace Go.Proofs.YtbcejfonkehjgaaGreatDoor
open Ieee

def Tells (b : Nat) (z : Int) : Prop :=
  ∃ (s : Bool) (a k : Nat), double.read b = .number s (a * 2 ^ k) (-(k : Int)) ∧ z = (if s then -(a : Int) else (a : Int)) ∧ a < 2 ^ 53

theorem log2_mul (a k : Nat) (h : a ≠ 0) : (a * 2 ^ k).log2 = a.log2 + k := by
  have hp : 0 < 2 ^ k := Nat.two_pow_pos _
  have h2 : a * 2 ^ k ≠ 0 := by
    intro e
    rcases Nat.mul_eq_zero.1 e with e | e <;> omega
  rw [Nat.log2_eq_iff h2]
  have h3 := (Nat.log2_eq_iff h).1 rfl
  refine ⟨?_, ?_⟩
  · rw [Nat.pow_add]; exact Nat.mul_le_mul_right _ h3.1
  · rw [show a.log2 + k + 1 = (a.log2 + 1) + k by omega, Nat.pow_add]
    exact (Nat.mul_lt_mul_right hp).2 h3.2

theorem cut_exact (way : Toward) (s : Bool) (a d : Nat) (h : a ≠ 0) : way.cut s (a * 2 ^ d) d = a := by
  have hm : min d ((a * 2 ^ d).log2 + 2) = d := by rw [log2_mul a d h]; omega
  have hp : 0 < 2 ^ d := Nat.two_pow_pos _
  unfold Toward.cut
  dsimp only
  rw [hm, Nat.shiftLeft_eq, Nat.one_mul, Nat.mul_div_cancel _ hp, Nat.mul_mod_left]
  have h0 : (2 ^ d == 0) = false := by simp
  cases way <;> simp [h0]
theorem cut_zero (way : Toward) (s : Bool) (d : Nat) : way.cut s 0 d = 0 := by
  unfold Toward.cut
  dsimp only
  have hp : ∀ k, 0 < 1 <<< k := fun k => by rw [Nat.shiftLeft_eq, Nat.one_mul]; exact Nat.two_pow_pos _
  have h0 := hp (min d (Nat.log2 0 + 2))
  rw [Nat.zero_div, Nat.zero_mod]
  have h1 : ((1 <<< min d (Nat.log2 0 + 2)) == 0) = false := by simp
  cases way <;> simp

theorem dLeast : double.leastPlace = -1074 := by decide
theorem dBinade : double.binade = 4503599627370496 := by decide
theorem dSign : double.signWeight = 9223372036854775808 := by decide
theorem dInf : double.infRung = 9218868437227405312 := by decide
theorem dFrac : double.fractionBits = 52 := rfl

theorem read_word (s : Bool) (r : Nat) (h1 : 4503599627370496 ≤ r) (h2 : r < 9218868437227405312) :
    double.read (double.word s r) = .number s (4503599627370496 + r % 4503599627370496) (-1074 + ((r / 4503599627370496 - 1 : Nat) : Int)) := by
  have hs : (double.word s r / 9223372036854775808 % 2 == 1) = s ∧ double.word s r % 9223372036854775808 = r := by
    unfold Format.word
    rw [dSign]
    cases s
    · simp only [Bool.false_eq_true, if_false]
      exact ⟨by rw [beq_eq_false_iff_ne]; omega, by omega⟩
    · simp only [if_true]
      exact ⟨by rw [beq_iff_eq]; omega, by omega⟩
  unfold Format.read
  rw [dSign, dBinade, dInf, dLeast, hs.1, hs.2]
  dsimp only
  rw [if_neg (by omega), if_pos h2]

theorem read_zero (s : Bool) : double.read (double.word s 0) = .number s 0 (-1074) := by
  cases s <;> decide

theorem nearest_kept (s : Bool) (a M K : Nat) (ha : a ≠ 0) (hK : a.log2 + K = 52) :
    double.nearest s (a * 2 ^ M) (-(M : Int)) = double.word s (min ((1074 - K) * 4503599627370496 + a * 2 ^ K) 9218868437227405312) := by
  have hmag : a * 2 ^ M ≠ 0 := by
    have := Nat.two_pow_pos M
    intro e
    rcases Nat.mul_eq_zero.1 e with e | e <;> omega
  have haK : a * 2 ^ K ≠ 0 := by
    have := Nat.two_pow_pos K
    intro e
    rcases Nat.mul_eq_zero.1 e with e | e <;> omega
  unfold Format.nearest
  rw [if_neg hmag, log2_mul a M ha, dFrac, dLeast, dBinade, dInf]
  dsimp only
  have e1 : max (-(M : Int) + ((a.log2 + M : Nat) : Int) - ((52 : Nat) : Int)) (-1074) = -(K : Int) := by omega
  rw [e1]
  have e2 : (-(K : Int) - -1074).toNat = 1074 - K := by omega
  rw [e2]
  congr 3
  rcases Nat.le_total M K with h | h
  · have e3 : (-(M : Int) - -(K : Int)).toNat = K - M := by omega
    have e4 : (-(K : Int) - -(M : Int)).toNat = 0 := by omega
    have e5 : (a * 2 ^ M) <<< (K - M) = a * 2 ^ K * 2 ^ 0 := by
      rw [Nat.shiftLeft_eq, Nat.mul_assoc, ← Nat.pow_add, show M + (K - M) = K by omega, Nat.pow_zero, Nat.mul_one]
    rw [e3, e4, e5, cut_exact _ _ _ _ haK]
  · have e3 : (-(M : Int) - -(K : Int)).toNat = 0 := by omega
    have e4 : (-(K : Int) - -(M : Int)).toNat = M - K := by omega
    have e5 : (a * 2 ^ M) <<< 0 = a * 2 ^ K * 2 ^ (M - K) := by
      rw [Nat.shiftLeft_zero, Nat.mul_assoc, ← Nat.pow_add, show K + (M - K) = M by omega]
    rw [e3, e4, e5, cut_exact _ _ _ _ haK]

theorem tells_nearest (s : Bool) (a M : Nat) (ha : a < 2 ^ 53) : Tells (double.nearest s (a * 2 ^ M) (-(M : Int))) (if s then -(a : Int) else (a : Int)) := by
  by_cases h0 : a = 0
  · subst h0
    have e : double.read (double.nearest s (0 * 2 ^ M) (-(M : Int))) = .number s 0 (-1074) := by
      unfold Format.nearest
      rw [if_pos (Nat.zero_mul _), read_zero]
    obtain ⟨K, hK⟩ : ∃ K : Nat, K = 1074 := ⟨_, rfl⟩
    refine ⟨s, 0, K, ?_, by cases s <;> rfl, ha⟩
    rw [e, Nat.zero_mul, hK]
    rfl
  · have hl := (Nat.log2_eq_iff h0).1 rfl
    have hl52 : a.log2 ≤ 52 := by
      have : a.log2 < 53 := (Nat.log2_lt h0).2 ha
      omega
    obtain ⟨K, hK⟩ : ∃ K, a.log2 + K = 52 := ⟨52 - a.log2, by omega⟩
    have b1 : 4503599627370496 ≤ a * 2 ^ K := by
      have := Nat.mul_le_mul_right (2 ^ K) hl.1
      rw [← Nat.pow_add, hK] at this
      simpa using this
    have b2 : a * 2 ^ K < 9007199254740992 := by
      have := (Nat.mul_lt_mul_right (Nat.two_pow_pos K)).2 hl.2
      rw [← Nat.pow_add, show a.log2 + 1 + K = 53 by omega] at this
      simpa using this
    refine ⟨s, a, K, ?_, rfl, ha⟩
    rw [nearest_kept s a M K h0 hK]
    generalize a * 2 ^ K = y at b1 b2
    have hK2 : K ≤ 52 := by omega
    rw [Nat.min_eq_left (by omega), read_word s _ (by omega) (by omega)]
    congr 1
    · omega
    · omega

theorem signed_of (s : Bool) (a k d : Nat) : signed s (a * 2 ^ k) d = (if s then -(a : Int) else (a : Int)) * 2 ^ (k + d) := by
  unfold signed
  rw [Nat.shiftLeft_eq, Nat.mul_assoc, ← Nat.pow_add]
  cases s <;> simp [Int.natCast_mul, Int.natCast_pow, Int.neg_mul]

theorem write_of (s : Bool) (a M : Nat) (z : Int) (hz : z = if s then -(a : Int) else (a : Int)) (ha : a < 2 ^ 53) : Tells (double.write (.number s (a * 2 ^ M) (-(M : Int)))) z := by
  rw [hz]; exact tells_nearest s a M ha

theorem Tells.add {x y : Nat} {z t : Int} (hx : Tells x z) (hy : Tells y t) (h : (z + t).natAbs < 2 ^ 53) : ∃ r, double.add x y = some r ∧ Tells r (z + t) := by
  obtain ⟨s, a, k, h1, hz, _⟩ := hx
  obtain ⟨u, b, l, h2, ht, _⟩ := hy
  unfold Format.add
  rw [h1, h2]
  simp only [Datum.sum, Option.map_some]
  refine ⟨_, rfl, ?_⟩
  have hbase : min (-(k : Int)) (-(l : Int)) = -((max k l : Nat) : Int) := by omega
  rw [hbase, signed_of, signed_of, ← hz, ← ht]
  have e1 : k + (-(k : Int) - -((max k l : Nat) : Int)).toNat = max k l := by omega
  have e2 : l + (-(l : Int) - -((max k l : Nat) : Int)).toNat = max k l := by omega
  rw [e1, e2, ← Int.add_mul]
  generalize max k l = M
  have hp : (0 : Int) < 2 ^ M := Int.pow_pos (by omega)
  have hn : ((z + t) * 2 ^ M).natAbs = (z + t).natAbs * 2 ^ M := by rw [Int.natAbs_mul]; congr 1
  rw [hn]
  by_cases h0 : z + t = 0
  · rw [h0]
    have := write_of (if (0 : Int) * 2 ^ M = 0 then s && u else decide ((0 : Int) * 2 ^ M < 0)) (0 : Int).natAbs M 0 (by simp) (by simp)
    exact this
  · have hne : ¬ (z + t) * 2 ^ M = 0 := by
      intro e
      rcases Int.mul_eq_zero.1 e with e | e <;> omega
    rw [if_neg hne]
    refine write_of _ _ M _ ?_ h
    by_cases hneg : z + t < 0
    · have : (z + t) * 2 ^ M < 0 := Int.mul_neg_of_neg_of_pos hneg hp
      simp only [this, decide_true, if_true]; omega
    · have : ¬ (z + t) * 2 ^ M < 0 := by
        have := Int.mul_nonneg (show 0 ≤ z + t by omega) (Int.le_of_lt hp)
        omega
      simp only [this, decide_false, Bool.false_eq_true, if_false]; omega

theorem Tells.opposite {y : Nat} {t : Int} (hy : Tells y t) : ∃ (s : Bool) (a k : Nat), (double.read y).opposite = .number s (a * 2 ^ k) (-(k : Int)) ∧ -t = (if s then -(a : Int) else (a : Int)) ∧ a < 2 ^ 53 := by
  obtain ⟨s, a, k, h1, hz, ha⟩ := hy
  refine ⟨!s, a, k, by rw [h1]; rfl, ?_, ha⟩
  rw [hz]; cases s <;> simp

theorem Tells.mul {x y : Nat} {z t : Int} (hx : Tells x z) (hy : Tells y t) (h : (z * t).natAbs < 2 ^ 53) : ∃ r, double.mul x y = some r ∧ Tells r (z * t) := by
  obtain ⟨s, a, k, h1, hz, _⟩ := hx
  obtain ⟨u, b, l, h2, ht, _⟩ := hy
  unfold Format.mul
  rw [h1, h2]
  simp only [Datum.product, Option.map_some]
  refine ⟨_, rfl, ?_⟩
  have e1 : a * 2 ^ k * (b * 2 ^ l) = (a * b) * 2 ^ (k + l) := by rw [Nat.pow_add, Nat.mul_mul_mul_comm]
  have e2 : -(k : Int) + -(l : Int) = -((k + l : Nat) : Int) := by omega
  rw [e1, e2]
  refine write_of _ _ _ _ ?_ ?_
  · rw [hz, ht]; cases s <;> cases u <;> simp [Int.natCast_mul, Int.neg_mul, Int.mul_neg]
  · rw [hz, ht] at h
    have : ((if s then -(a : Int) else (a : Int)) * (if u then -(b : Int) else (b : Int))).natAbs = a * b := by
      rw [Int.natAbs_mul]; cases s <;> cases u <;> simp
    rwa [this] at h

theorem Tells.toInt {x : Nat} {z : Int} (hx : Tells x z) : (double.read x).toInt .zero = some z := by
  obtain ⟨s, a, k, h1, hz, _⟩ := hx
  rw [h1]
  simp only [Datum.toInt, Datum.integral]
  have e1 : (-(k : Int)).toNat = 0 := by omega
  have e2 : (- -(k : Int)).toNat = k := by omega
  rw [e1, e2, Nat.shiftLeft_zero]
  by_cases h0 : a = 0
  · subst h0
    rw [Nat.zero_mul, cut_zero, hz]
    cases s <;> rfl
  · rw [cut_exact _ _ _ _ h0, hz]
    unfold signed
    rw [Nat.shiftLeft_zero]

theorem Tells.order {x y : Nat} {z t : Int} (hx : Tells x z) (hy : Tells y t) : double.order x y = some (compare z t) := by
  obtain ⟨s, a, k, h1, hz, _⟩ := hx
  obtain ⟨u, b, l, h2, ht, _⟩ := hy
  unfold Format.order
  rw [h1, h2]
  simp only [Datum.order]
  have hbase : min (-(k : Int)) (-(l : Int)) = -((max k l : Nat) : Int) := by omega
  rw [hbase, signed_of, signed_of, ← hz, ← ht]
  have e1 : k + (-(k : Int) - -((max k l : Nat) : Int)).toNat = max k l := by omega
  have e2 : l + (-(l : Int) - -((max k l : Nat) : Int)).toNat = max k l := by omega
  rw [e1, e2]
  generalize max k l = M
  have hp : (0 : Int) < 2 ^ M := Int.pow_pos (by omega)
  congr 1
  simp only [compare, compareOfLessAndEq]
  have hlt : z * 2 ^ M < t * 2 ^ M ↔ z < t := Int.mul_lt_mul_right hp
  simp only [hlt]
  by_cases e : z = t
  · subst e; simp
  · have : ¬ z * 2 ^ M = t * 2 ^ M := fun h => e (Int.eq_of_mul_eq_mul_right (by omega) h)
    simp [e, this]

theorem Tells.sub {x y : Nat} {z t : Int} (hx : Tells x z) (hy : Tells y t) (h : (z - t).natAbs < 2 ^ 53) : ∃ r, double.sub x y = some r ∧ Tells r (z - t) := by
  obtain ⟨u, b, l, h2, ht, hb⟩ := hy.opposite
  obtain ⟨y', hy'⟩ : ∃ y', Tells y' (-t) := ⟨_, by rw [ht]; exact tells_nearest u b 0 hb⟩
  obtain ⟨s, a, k, h1, hz, _⟩ := hx
  unfold Format.sub
  rw [h1, h2]
  simp only [Datum.sum, Option.map_some]
  refine ⟨_, rfl, ?_⟩
  have hbase : min (-(k : Int)) (-(l : Int)) = -((max k l : Nat) : Int) := by omega
  rw [hbase, signed_of, signed_of, ← hz, ← ht]
  have e1 : k + (-(k : Int) - -((max k l : Nat) : Int)).toNat = max k l := by omega
  have e2 : l + (-(l : Int) - -((max k l : Nat) : Int)).toNat = max k l := by omega
  rw [e1, e2, ← Int.add_mul, ← Int.sub_eq_add_neg]
  generalize max k l = M
  have hp : (0 : Int) < 2 ^ M := Int.pow_pos (by omega)
  have hn : ((z - t) * 2 ^ M).natAbs = (z - t).natAbs * 2 ^ M := by rw [Int.natAbs_mul]; congr 1
  rw [hn]
  by_cases h0 : z - t = 0
  · rw [h0]
    have := write_of (if (0 : Int) * 2 ^ M = 0 then s && u else decide ((0 : Int) * 2 ^ M < 0)) (0 : Int).natAbs M 0 (by simp) (by simp)
    exact this
  · have hne : ¬ (z - t) * 2 ^ M = 0 := by
      intro e
      rcases Int.mul_eq_zero.1 e with e | e <;> omega
    rw [if_neg hne]
    refine write_of _ _ M _ ?_ h
    by_cases hneg : z - t < 0
    · have : (z - t) * 2 ^ M < 0 := Int.mul_neg_of_neg_of_pos hneg hp
      simp only [this, decide_true, if_true]; omega
    · have : ¬ (z - t) * 2 ^ M < 0 := by
        have := Int.mul_nonneg (show 0 ≤ z - t by omega) (Int.le_of_lt hp)
        omega
      simp only [this, decide_false, Bool.false_eq_true, if_false]; omega

theorem tells_int (z : Int) (h : z.natAbs < 2 ^ 53) : Tells (floatOfInt .f64 z) z := by
  have := tells_nearest (decide (z < 0)) z.natAbs 0 h
  rw [Nat.pow_zero, Nat.mul_one] at this
  have e : (if decide (z < 0) = true then -(z.natAbs : Int) else (z.natAbs : Int)) = z := by
    by_cases hn : z < 0
    · simp only [hn, decide_true, if_true]; omega
    · simp only [hn, decide_false, Bool.false_eq_true, if_false]; omega
  rw [e] at this
  exact this

theorem Tells.addBits {x y : Nat} {z t : Int} (hx : Tells x z) (hy : Tells y t) (h : (z + t).natAbs < 2 ^ 53) : ∃ r, floatBits .add .f64 x y = some r ∧ Tells r (z + t) := hx.add hy h
theorem Tells.subBits {x y : Nat} {z t : Int} (hx : Tells x z) (hy : Tells y t) (h : (z - t).natAbs < 2 ^ 53) : ∃ r, floatBits .sub .f64 x y = some r ∧ Tells r (z - t) := hx.sub hy h
theorem Tells.mulBits {x y : Nat} {z t : Int} (hx : Tells x z) (hy : Tells y t) (h : (z * t).natAbs < 2 ^ 53) : ∃ r, floatBits .mul .f64 x y = some r ∧ Tells r (z * t) := hx.mul hy h

theorem Tells.cmul {a b c d : Nat} {za zb zc zd : Int} (ha : Tells a za) (hb : Tells b zb) (hc : Tells c zc) (hd : Tells d zd)
    (h1 : (za * zc).natAbs < 2 ^ 52) (h2 : (zb * zd).natAbs < 2 ^ 52) (h3 : (za * zd).natAbs < 2 ^ 52) (h4 : (zb * zc).natAbs < 2 ^ 52) :
    ∃ re im, cMulBits a b c d = some (re, im) ∧ Tells re (za * zc - zb * zd) ∧ Tells im (za * zd + zb * zc) := by
  have p52 : (2 : Nat) ^ 53 = 2 ^ 52 + 2 ^ 52 := by decide
  obtain ⟨ac, e1, t1⟩ := ha.mulBits hc (by omega)
  obtain ⟨bd, e2, t2⟩ := hb.mulBits hd (by omega)
  obtain ⟨ad, e3, t3⟩ := ha.mulBits hd (by omega)
  obtain ⟨bc, e4, t4⟩ := hb.mulBits hc (by omega)
  obtain ⟨re, e5, t5⟩ := t1.subBits t2 (by omega)
  obtain ⟨im, e6, t6⟩ := t3.addBits t4 (by omega)
  exact ⟨re, im, by simp [cMulBits, e1, e2, e3, e4, e5, e6], t5, t6⟩

theorem Tells.int {x : Nat} {z : Int} (hx : Tells x z) (h1 : -9223372036854775808 ≤ z) (h2 : z ≤ 9223372036854775807) : floatToIntVal .f64 x .i64 = some z := by
  unfold floatToIntVal
  have e : (FloatKind.f64.decode x).toInt .zero = some z := hx.toInt
  rw [e]
  exact if_pos ⟨h1, h2⟩
theorem Tells.eql {x y : Nat} {z t : Int} (hx : Tells x z) (hy : Tells y t) : (FloatKind.f64.format.order x y == some .eq) = decide (z = t) := by
  have e : FloatKind.f64.format.order x y = some (compare z t) := hx.order hy
  rw [e]
  by_cases h : z = t
  · subst h; simp
  · have : compare z t ≠ .eq := fun e => h (Int.compare_eq_eq.1 e)
    simp [h, this]
theorem Tells.neg {x : Nat} {z : Int} (hx : Tells x z) : Tells (Op.negFloat .f64 x) (-z) := by
  obtain ⟨s, a, k, h1, hz, ha⟩ := hx
  have e1 : (x ^^^ 9223372036854775808) % 9223372036854775808 = x % 9223372036854775808 := by
    have := @Nat.xor_mod_two_pow x (2 ^ 63) 63
    rw [Nat.mod_self, Nat.xor_zero] at this
    exact this
  have e2 : (x ^^^ 9223372036854775808) / 9223372036854775808 % 2 = 1 - x / 9223372036854775808 % 2 := by
    have h := @Nat.xor_div_two_pow x (2 ^ 63) 63
    rw [Nat.div_self (Nat.two_pow_pos 63)] at h
    have h' : (x ^^^ 9223372036854775808) / 9223372036854775808 = x / 9223372036854775808 ^^^ 1 := h
    have := @Nat.xor_mod_two_pow (x / 9223372036854775808) 1 1
    simp only [Nat.pow_one] at this
    rw [h', this]
    rcases Nat.mod_two_eq_zero_or_one (x / 9223372036854775808) with h0 | h0 <;> rw [h0] <;> rfl
  refine ⟨!s, a, k, ?_, by rw [hz]; cases s <;> simp, ha⟩
  have e3 : Op.negFloat .f64 x = x ^^^ 9223372036854775808 := rfl
  rw [e3]
  unfold Format.read at h1 ⊢
  rw [dSign] at h1 ⊢
  dsimp only at h1 ⊢
  rw [e1, e2]
  have e4 : ((1 - x / 9223372036854775808 % 2 : Nat) == 1) = !(x / 9223372036854775808 % 2 == 1) := by
    rcases Nat.mod_two_eq_zero_or_one (x / 9223372036854775808) with h0 | h0 <;> rw [h0] <;> rfl
  rw [e4]
  split at h1
  · rename_i hh
    rw [if_pos hh]
    injection h1 with q1 q2 q3
    rw [q1, q2, q3]
  · rename_i hh
    split at h1
    · rename_i hg
      rw [if_neg hh, if_pos hg]
      injection h1 with q1 q2 q3
      rw [q1, q2, q3]
    · split at h1 <;> cases h1
end Go.Proofs.YtbcejfonkehjgaaGreatDoor
namespace Go.Proofs.YtbcejfonkehjgaaGreatDoor
open Go.RowKit

theorem results_tmp4 {fn : Func} {t u v x : Tmp} (h : fn.results = #[.tmp t, .tmp u, .tmp v, .tmp x]) (tmps : Array Value) (P : Program) (w : World) :
    (results fn tmps).run P w = .ok (.tuple #[tmps.getD t undef, tmps.getD u undef, tmps.getD v undef, tmps.getD x undef]) w := by
  simp [results, h]

theorem and_low (n : Nat) (h : n ≤ 4294967295) : bits BinOp.and IntKind.i64 (n : Int) 65535 = ((n % 65536 : Nat) : Int) := by
  have e : (BitVec.ofInt 64 (n : Int)).toNat = n := by
    rw [BitVec.ofInt_natCast, BitVec.toNat_ofNat, Nat.mod_eq_of_lt]
    simp only [Nat.reducePow]
    omega
  have h2 : n &&& 65535 = n % 65536 := Nat.and_two_pow_sub_one_eq_mod n 16
  show IntKind.i64.wrap ((BitVec.ofInt 64 (n : Int) &&& BitVec.ofInt 64 65535).toNat : Int) = _
  rw [BitVec.toNat_and, e, IntKind.wrap_i64, show (BitVec.ofInt 64 65535).toNat = 65535 from rfl, h2]
  omega

theorem unary_neg_float (k : FloatKind) (b : Nat) : Op.unary .neg (.float k b) = pure (.float k (Op.negFloat k b)) := rfl
attribute [local go_sem] unary_neg_float

theorem point_yes (w : World) (n : Nat) (h : n ≤ 4294967295) :
    Calls Tryz.prog 176 #[.int .i64 n] w fun e w' => (∃ x y, e = .returned (.tuple #[.complex .f64 x y, .int .i64 0]) ∧ Tells x (n / 65536 : Nat) ∧ Tells y (n % 65536 : Nat)) ∧ w' = w := by
  have h0 : ¬ ((n : Int) < 0) := by omega
  have h1 : ¬ ((n : Int) > 4294967295) := by omega
  go_enter Tryz.func176, Tryz.ntmps176
  go_wp2
  go_ret2
  rw [show bits BinOp.and IntKind.i64 (n : Int) 65535 = ((n % 65536 : Nat) : Int) from and_low n h]
  exact ⟨⟨_, _, rfl, tells_int _ (by omega), tells_int _ (by omega)⟩, rfl⟩

theorem mirror_any (w : World) (x y : Nat) :
    Calls Tryz.prog 177 #[.complex .f64 x y] w fun e w' => e = .returned (.complex .f64 x (Op.negFloat .f64 y)) ∧ w' = w := by
  go_enter Tryz.func177, Tryz.ntmps177
  go_wp2
  go_ret
  exact ⟨rfl, rfl⟩
end Go.Proofs.YtbcejfonkehjgaaGreatDoor
namespace Go.Proofs.YtbcejfonkehjgaaGreatDoor
open Go.RowKit

theorem mul_lt (a b : Nat) (ha : a < 65536) (hb : b < 65536) : a * b < 4294967296 := by
  have := Nat.mul_le_mul (show a ≤ 65535 by omega) (show b ≤ 65535 by omega)
  omega

theorem small_prod (a b : Nat) (ha : a < 65536) (hb : b < 65536) : ((a : Int) * (b : Int)).natAbs < 2 ^ 52 := by
  rw [Int.natAbs_mul, Int.natAbs_natCast, Int.natAbs_natCast]
  have := mul_lt a b ha hb
  simp only [Nat.reducePow]
  omega

set_option maxHeartbeats 400000 in
theorem parts_of (w : World) (x y a b c d p1 p2 p3 p4 : Nat) (hx : x ≤ 4294967295) (hy : y ≤ 4294967295)
    (hae : x / 65536 = a) (hbe : x % 65536 = b) (hce : y / 65536 = c) (hde : y % 65536 = d) (hp1 : a * c = p1) (hp2 : b * d = p2) (hp3 : a * d = p3) (hp4 : b * c = p4) :
    Calls Tryz.prog 174 #[.int .i64 x, .int .i64 y] w fun e w' =>
      e = .returned (.tuple #[.int .i64 (p1 : Nat), .int .i64 (p3 + p4 : Nat), .int .i64 (p2 : Nat), .int .i64 0]) ∧ w' = w := by
  go_enter Tryz.func174, Tryz.ntmps174
  go_wp2_with fail
  refine (point_yes w x hx).mono ?_
  rintro e w1 ⟨⟨x1, x2, rfl, t1, t2⟩, rfl⟩
  go_wp2_with fail
  refine (point_yes w1 y hy).mono ?_
  rintro e w1 ⟨⟨y1, y2, rfl, u1, u2⟩, rfl⟩
  have ha : a < 65536 := by omega
  have hb : b < 65536 := by omega
  have hc : c < 65536 := by omega
  have hd : d < 65536 := by omega
  rw [hae] at t1
  rw [hbe] at t2
  rw [hce] at u1
  rw [hde] at u2
  have s1 := small_prod a c ha hc
  have s2 := small_prod b d hb hd
  have s3 := small_prod a d ha hd
  have s4 := small_prod b c hb hc
  have s5 : ((b : Int) * -(d : Int)).natAbs < 2 ^ 52 := by rw [Int.mul_neg, Int.natAbs_neg]; exact s2
  have s6 : ((a : Int) * -(d : Int)).natAbs < 2 ^ 52 := by rw [Int.mul_neg, Int.natAbs_neg]; exact s3
  have m1 := mul_lt a c ha hc
  have m2 := mul_lt b d hb hd
  have m3 := mul_lt a d ha hd
  have m4 := mul_lt b c hb hc
  obtain ⟨re, im, e1, v1, v2⟩ := t1.cmul t2 u1 u2 s1 s2 s3 s4
  obtain ⟨re', im', e2, v3, v4⟩ := t1.cmul t2 u1 u2.neg s1 s5 s6 s4
  rw [Int.mul_neg, Int.sub_neg] at v3
  simp only [← Int.natCast_mul, ← Int.natCast_add, hp1, hp2, hp3, hp4] at v1 v2 v3 m1 m2 m3 m4
  have c1 := v1.int (by omega) (by omega)
  have c2 := v2.int (by omega) (by omega)
  have c3 := v3.int (by omega) (by omega)
  have o1 := fun t w => run_complex_mul (P := Tryz.prog) w t _ _ _ _ _ _ e1
  have o2 := fun t w => run_complex_mul (P := Tryz.prog) w t _ _ _ _ _ _ e2
  have o3 : ∀ w, (convert 267 3 (.float .f64 re)).run Tryz.prog w = .ok (.int .i64 ((p1 : Int) - (p2 : Int))) w := fun w => run_convert_float_int w _ _ .f64 .i64 _ _ (by rw [Tryz.underlying267]; rfl) Tryz.underlying3 c1
  have o4 : ∀ w, (convert 267 3 (.float .f64 im)).run Tryz.prog w = .ok (.int .i64 ((p3 + p4 : Nat) : Int)) w := fun w => run_convert_float_int w _ _ .f64 .i64 _ _ (by rw [Tryz.underlying267]; rfl) Tryz.underlying3 c2
  have o5 : ∀ w, (convert 267 3 (.float .f64 re')).run Tryz.prog w = .ok (.int .i64 ((p1 + p2 : Nat) : Int)) w := fun w => run_convert_float_int w _ _ .f64 .i64 _ _ (by rw [Tryz.underlying267]; rfl) Tryz.underlying3 c3
  clear t1 t2 u1 u2 v1 v2 v3 v4 e1 e2 c1 c2 c3 s1 s2 s3 s4 s5 s6 hp1 hp2 hp3 hp4 hae hbe hce hde ha hb hc hd
  go_wp2_with fail
  refine (mirror_any w1 y1 y2).mono ?_
  rintro e w1 ⟨rfl, rfl⟩
  go_wp2_with fail
  (try simp only [Exit.inBlock, Exit.then])
  refine bodyPost_ret (results_tmp4 rfl _ _ _) rfl ?_
  refine ⟨?_, rfl⟩
  have q1 : ((p1 : Int) + p2 + (p1 - p2)) / 2 = p1 := by omega
  have q2 : ((p1 : Int) + p2 - (p1 - p2)) / 2 = p2 := by omega
  simp only [Array.getD_eq_getD_getElem?, List.getElem?_toArray, List.getElem?_cons_succ, List.getElem?_cons_zero, Option.getD_some, q1, q2, Int.natCast_add]

theorem parts_yes (w : World) (x y : Nat) (hx : x ≤ 4294967295) (hy : y ≤ 4294967295) :
    Calls Tryz.prog 174 #[.int .i64 x, .int .i64 y] w fun e w' =>
      e = .returned (.tuple #[.int .i64 (x / 65536 * (y / 65536) : Nat), .int .i64 (x / 65536 * (y % 65536) + x % 65536 * (y / 65536) : Nat), .int .i64 (x % 65536 * (y % 65536) : Nat), .int .i64 0]) ∧ w' = w :=
  parts_of w x y _ _ _ _ _ _ _ _ hx hy rfl rfl rfl rfl rfl rfl rfl rfl

theorem factor_any (w : World) (x : Int) :
    Calls Tryz.prog 169 #[.int .i64 x] w fun e w' => e = .returned (.bool (decide (0 ≤ x ∧ x ≤ 2147483647))) ∧ w' = w := by
  by_cases h : 0 ≤ x ∧ x ≤ 2147483647
  · obtain ⟨h0, h1⟩ := h
    go_enter Tryz.func169, Tryz.ntmps169
    go_wp2
    go_ret
    exact ⟨(decide_eq_true (And.intro h0 h1)).symm ▸ rfl, rfl⟩
  · rcases (show x < 0 ∨ (0 ≤ x ∧ x > 2147483647) by omega) with h0 | ⟨h0, h1⟩
    · go_enter Tryz.func169, Tryz.ntmps169
      go_wp2
      go_ret
      exact ⟨(decide_eq_false h).symm ▸ rfl, rfl⟩
    · go_enter Tryz.func169, Tryz.ntmps169
      go_wp2
      go_ret
      exact ⟨(decide_eq_false h).symm ▸ congrArg (fun b => Ending.returned (.bool b)) (decide_eq_false (show ¬ x ≤ 2147483647 by omega)), rfl⟩

theorem whole (x y : Nat) : x / 65536 * (y / 65536) * 4294967296 + (x / 65536 * (y % 65536) + x % 65536 * (y / 65536)) * 65536 + x % 65536 * (y % 65536) = x * y := by
  have e1 : x = 65536 * (x / 65536) + x % 65536 := by omega
  have e2 : y = 65536 * (y / 65536) + y % 65536 := by omega
  generalize x / 65536 = a at *
  generalize x % 65536 = b at *
  generalize y / 65536 = c at *
  generalize y % 65536 = d at *
  subst e1 e2
  simp only [Nat.add_mul, Nat.mul_add, Nat.mul_assoc, Nat.mul_comm, Nat.mul_left_comm, Nat.reduceMul]
  omega

theorem mul_yes (w : World) (x y : Nat) (hx : x ≤ 2147483647) (hy : y ≤ 2147483647) :
    Calls Tryz.prog 171 #[.int .i64 x, .int .i64 y] w fun e w' => e = .returned (.tuple #[.int .i64 (x * y : Nat), .int .i64 0]) ∧ w' = w := by
  have h0 : (0 : Int) ≤ (x : Int) ∧ (x : Int) ≤ 2147483647 := by omega
  have h1 : (0 : Int) ≤ (y : Int) ∧ (y : Int) ≤ 2147483647 := by omega
  have hw := whole x y
  have hb : x * y ≤ 4611686014132420609 := Nat.mul_le_mul hx hy
  go_enter Tryz.func171, Tryz.ntmps171
  go_wp2_with fail
  refine (factor_any w x).mono ?_
  rintro e w1 ⟨rfl, rfl⟩
  rw [decide_eq_true h0]
  go_wp2_with fail
  refine (factor_any w1 y).mono ?_
  rintro e w1 ⟨rfl, rfl⟩
  rw [decide_eq_true h1]
  go_wp2_with fail
  refine (parts_yes w1 x y (by omega) (by omega)).mono ?_
  rintro e w1 ⟨rfl, rfl⟩
  generalize x / 65536 * (y / 65536) = p1 at *
  generalize x / 65536 * (y % 65536) + x % 65536 * (y / 65536) = p2 at *
  generalize x % 65536 * (y % 65536) = p3 at *
  go_wp2_with fail
  go_ret2
  refine ⟨?_, rfl⟩
  show Ending.returned (.tuple #[.int .i64 ((p1 : Int) * 4294967296 + p2 * 65536 + p3), .int .i64 0]) = _
  rw [← hw]
  rfl
end Go.Proofs.YtbcejfonkehjgaaGreatDoor
