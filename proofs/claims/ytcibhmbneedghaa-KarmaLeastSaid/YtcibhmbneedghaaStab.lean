/-
  What is proved: slices.stableCmpFunc puts the places 0 .. n-1 into the order that the comparison tells, each once. Condition: there are no more than 1000 of them; the comparison answers one function of two places and writes new memory alone.
-/
import Derived.Test.YtcibhmbneedghaaSymC
namespace Go.Proofs.Ytcibhmbneedghaa
open Go.RowKit

section
variable {n : Nat} {cf : Nat → Nat → Int} {L : Nat → Nat → Prop} {d d' : Nat → Nat} {x y m : Nat}
/-- a run in order that holds the places of its own -/
def Blk (L : Nat → Nat → Prop) (d : Nat → Nat) (x y : Nat) : Prop := Sorted L d x y ∧ ∀ t, x ≤ t → t < y → x ≤ d t ∧ d t < y
theorem Blk.runs (h : Blk L d x m) (g : Blk L d m y) (h1 : x < m) (h2 : m < y) (h3 : y ≤ n) : Runs n L d x m y :=
  ⟨h1, h2, h3, h.1, g.1, fun i j i1 i2 j1 j2 => by have := h.2 i i1 i2; have := g.2 j j1 j2; omega, fun t t1 t2 => by
    by_cases c : t < m
    · have := h.2 t t1 c; omega
    · have := g.2 t (by omega) t2; omega⟩
theorem Blk.merged (h : Blk L d x m) (g : Blk L d m y) (h1 : x ≤ m) (h2 : m ≤ y) (D : Done L d' d x y) : Blk L d' x y :=
  ⟨D.1, fun t t1 t2 => by
    obtain ⟨j, j1, j2, e⟩ := D.2.1 t t1 t2
    rw [e]
    by_cases c : j < m
    · have := h.2 j j1 c; omega
    · have := g.2 j (by omega) j2; omega⟩
theorem Blk.kept (h : Blk L d x y) (D : Same d' d m n) (hd : y ≤ m ∨ n ≤ x) : Blk L d' x y :=
  ⟨fun i j i1 i2 i3 => by rw [D i (by omega), D j (by omega)]; exact h.1 i j i1 i2 i3, fun t t1 t2 => by rw [D t (by omega)]; exact h.2 t t1 t2⟩
theorem Blk.first (h : ∀ t, x ≤ t → t < y → d t = t) (D : Done L d' d x y) : Blk L d' x y :=
  ⟨D.1, fun t t1 t2 => by
    obtain ⟨j, j1, j2, e⟩ := D.2.1 t t1 t2
    rw [e, h j j1 j2]
    exact ⟨j1, j2⟩⟩
theorem val_done (h : ∀ t, t < n → d t < n) (D : Done L d' d x y) (hy : y ≤ n) : ∀ t, t < n → d' t < n := fun t ht => by
  by_cases c : x ≤ t ∧ t < y
  · obtain ⟨j, j1, j2, e⟩ := D.2.1 t c.1 c.2
    rw [e]; exact h j (by omega)
  · rw [D.2.2 t c]; exact h t ht
/-- runs of z places each, from 'lo' on -/
def Blocks (n : Nat) (L : Nat → Nat → Prop) (d : Nat → Nat) (z lo : Nat) : Prop := ∀ i, lo ≤ z * i → z * i < n → Blk L d (z * i) (min (z * i + z) n)
theorem blocks_at {z zz p q : Nat} (h : Blocks n L d z p) (hz : zz = 2 * z) (hp : p = zz * q) (hn : p < n) : Blk L d p (min (p + z) n) := by
  have e : z * (2 * q) = p := by rw [hp, hz, Nat.mul_comm 2 z, Nat.mul_assoc]
  have := h (2 * q) (by omega) (by omega)
  rwa [e] at this
theorem blocks_next {z zz p q : Nat} (h : Blocks n L d z p) (hz : zz = 2 * z) (hp : p = zz * q) (hn : p + z < n) : Blk L d (p + z) (min (p + zz) n) := by
  have e : z * (2 * q + 1) = p + z := by rw [hp, hz, Nat.mul_add, Nat.mul_one, Nat.mul_comm 2 z, Nat.mul_assoc]
  have := h (2 * q + 1) (by omega) (by omega)
  rwa [e, show p + z + z = p + zz by omega] at this
theorem blocks_end {zz p q : Nat} (hp : p = zz * q) (hpn : p ≤ n) (hb : n < p + zz) (h : ∀ i, i < q → Blk L d (zz * i) (zz * i + zz)) (g : p < n → Blk L d p n) : Blocks n L d zz 0 := fun i _ hi => by
  rcases Nat.lt_trichotomy i q with c | c | c
  · have e : zz * (i + 1) ≤ zz * q := Nat.mul_le_mul_left zz c
    rw [Nat.mul_add, Nat.mul_one] at e
    rw [Nat.min_eq_left (by omega)]
    exact h i c
  · subst c
    rw [← hp] at hi ⊢
    rw [Nat.min_eq_right (by omega)]
    exact g hi
  · have e : zz * (q + 1) ≤ zz * i := Nat.mul_le_mul_left zz c
    rw [Nat.mul_add, Nat.mul_one, ← hp] at e
    omega
theorem Blocks.kept {z lo hi m x : Nat} (h : Blocks n L d z lo) (D : Same d' d x m) (hm : m ≤ hi) (hl : lo ≤ hi) : Blocks n L d' z hi := fun i h1 h2 =>
  (h i (by omega) h2).kept D (by omega)
theorem Blocks.whole {z : Nat} (h : Blocks n L d z 0) (hz : n ≤ z) : Blk L d 0 n := by
  by_cases e : n = 0
  · subst e; exact ⟨fun i j _ _ h3 => absurd h3 (Nat.not_lt_zero j), fun t _ h2 => absurd h2 (Nat.not_lt_zero t)⟩
  · have := h 0 (Nat.zero_le _) (by omega)
    rwa [Nat.mul_zero, Nat.zero_add, Nat.min_eq_right hz] at this
end

set_option maxRecDepth 1000000 in
set_option maxHeartbeats 4000000 in
theorem stable_ok (w0 : World) (k n c : Nat) (cb : Addr) (cf : Nat → Nat → Int) (L : Nat → Nat → Prop) (hO : Ord n cf L) (hcmp : CmpOk w0 k n cb cf) (hn : n ≤ 1000)
    (w : World) (h : St w0 k n id w) :
    Calls Try.prog 55 #[.slice (some ⟨k, 0, none⟩) n c, .int .i64 n, .func (.func 52) #[] #[.pointer (some cb)]] w fun e w' =>
      e = .returned (.tuple #[]) ∧ ∃ d', St w0 k n d' w' ∧ Blk L d' 0 n := by
  have SO := hid (sym_ok w0 k n c cb cf L hO hcmp hn 2000)
  go_enter Try.func55, Try.ntmps55
  go_wp2
  go_loopw [7, 8] (fun i j wr => ∃ (p q : Nat) (d : Nat → Nat), i = .int .i64 p ∧ j = .int .i64 (p + 20 : Nat) ∧ p = 20 * q ∧ p ≤ n ∧ St w0 k n d wr ∧ (∀ i, i < q → Blk L d (20 * i) (20 * i + 20)) ∧ (∀ t, p ≤ t → d t = t) ∧ ∀ t, t < n → d t < n) (fun i _ _ => n - (intOf i).toNat)
  case atStart => exact ⟨0, 0, id, rfl, rfl, rfl, Nat.zero_le _, h, fun i hi => absurd hi (Nat.not_lt_zero i), fun _ _ => rfl, fun _ ht => ht⟩
  case round =>
    obtain ⟨p, q, d, rfl, rfl, hpq, hp, hs, h1, h2, h3⟩ := hrel
    have H1 := hid h1
    have H2 := hid h2
    have H3 := hid h3
    have HS := hid hs
    have HPQ := hid hpq
    clear h1 h2 h3 h hs hpq
    by_cases hlt : p + 20 ≤ n
    · have hlt' : ((p + 20 : Nat) : Int) ≤ (n : Int) := by omega
      go_wp2_with fail
      refine (insertion_ok w0 k n c p (p + 20) cb cf L hO hcmp hn (by omega) (by omega) d H3.out (fun s t s1 s2 s3 => by rw [H2.out s s1, H2.out t (by omega)]; exact s2) wr HS.out).mono ?_
      rintro e w2 ⟨rfl, d2, S2, D2⟩
      have D2 : Done L d2 d p (p + 20) := D2
      have HD := hid D2
      have HS2 := hid S2
      clear D2 S2
      go_wp2
      go_roundw
      case rel =>
        have hpq := HPQ.out
        refine ⟨p + 20, q + 1, d2, rfl, rfl, by omega, hlt, HS2.out, fun i hi => ?_, fun t ht => ?_, val_done H3.out HD.out hlt⟩
        · by_cases e : i = q
          · subst e
            rw [← hpq]
            exact Blk.first (fun t t1 _ => H2.out t t1) HD.out
          · exact (H1.out i (by omega)).kept HD.out.2.2 (by omega)
        · rw [HD.out.2.2 t (by omega)]; exact H2.out t (by omega)
      case measure => simp [intOf]; omega
    · have hlt' : ¬ ((p + 20 : Nat) : Int) ≤ (n : Int) := by omega
      go_wp2_with fail
      refine (insertion_ok w0 k n c p n cb cf L hO hcmp hn hp (Nat.le_refl _) d H3.out (fun s t s1 s2 s3 => by rw [H2.out s s1, H2.out t (by omega)]; exact s2) wr HS.out).mono ?_
      rintro e w2 ⟨rfl, d2, S2, D2⟩
      have D2 : Done L d2 d p n := D2
      have B2 : Hid (Blocks n L d2 20 0) := fun i _ hi => by
        have hpq := HPQ.out
        by_cases e : i < q
        · rw [Nat.min_eq_left (by omega)]
          exact (H1.out i e).kept D2.2.2 (by omega)
        · have e2 : i = q := by omega
          subst e2
          rw [Nat.min_eq_right (by omega), ← hpq]
          exact Blk.first (fun t t1 _ => H2.out t t1) D2
      have HS2 := hid S2
      clear D2 S2 H1 H2 H3 HS HPQ
      go_wp2
      go_loopw [6, 7, 8] (fun s _ _ wr => ∃ (z : Nat) (d : Nat → Nat), s = .int .i64 z ∧ 20 ≤ z ∧ z ≤ 2000 ∧ St w0 k n d wr ∧ Blocks n L d z 0) (fun s _ _ _ => n - (intOf s).toNat)
      case atStart => exact ⟨20, d2, rfl, Nat.le_refl _, by omega, HS2.out, B2.out⟩
      case round =>
        obtain ⟨z, d3, rfl, hz1, hz2, hs3, hb3⟩ := hrel
        have HS3 := hid hs3
        have HB3 := hid hb3
        clear hs3 hb3 HS2 B2
        by_cases hzn : z < n
        · have hzn' : (z : Int) < (n : Int) := by omega
          obtain ⟨zz, hzz⟩ : ∃ zz, zz = 2 * z := ⟨_, rfl⟩
          have g1 : 2 * (z : Int) = (zz : Int) := by omega
          have g2 : (z : Int) * 2 = (zz : Int) := by omega
          have hzb : zz < 2000 := by omega
          have hzl : 20 ≤ zz := by omega
          have HZ := hid hzz
          clear hzz
          go_wp2
          go_loopw [7, 8] (fun i j wr => ∃ (p q : Nat) (d : Nat → Nat), i = .int .i64 p ∧ j = .int .i64 (p + zz : Nat) ∧ p = zz * q ∧ p ≤ n ∧ St w0 k n d wr ∧ (∀ i, i < q → Blk L d (zz * i) (zz * i + zz)) ∧ Blocks n L d z p) (fun i _ _ => n - (intOf i).toNat)
          case atStart => exact ⟨0, 0, d3, rfl, by rw [Nat.zero_add], (Nat.mul_zero zz).symm, Nat.zero_le _, HS3.out, fun i hi => absurd hi (Nat.not_lt_zero i), HB3.out⟩
          case round =>
            obtain ⟨p, q, d4, rfl, rfl, hpq, hp, hs4, h1, h2⟩ := hrel
            have H1 := hid h1
            have H2 := hid h2
            have HS4 := hid hs4
            have HPQ := hid hpq
            clear h1 h2 hs4 hpq HS3 HB3
            by_cases hlt : p + zz ≤ n
            · have hlt' : ((p + zz : Nat) : Int) ≤ (n : Int) := by omega
              have b1 : Blk L d4 p (p + z) := by
                have := blocks_at H2.out HZ.out HPQ.out (by omega)
                have hz := HZ.out
                rwa [Nat.min_eq_left (by omega)] at this
              have b2 : Blk L d4 (p + z) (p + zz) := by
                have hz := HZ.out
                have := blocks_next H2.out HZ.out HPQ.out (by omega)
                rwa [Nat.min_eq_left hlt] at this
              have B1 := hid b1
              have B2 := hid b2
              clear b1 b2
              go_wp2_with fail
              refine (SO.out p (p + z) (p + zz) d4 _ (by omega) (B1.out.runs B2.out (by omega) (by have := HZ.out; omega) hlt) HS4.out).mono ?_
              rintro e w5 ⟨rfl, d5, S5, D5⟩
              have HD := hid D5
              have HS5 := hid S5
              clear D5 S5
              go_wp2
              go_roundw
              case rel =>
                have hpq := HPQ.out
                have hz := HZ.out
                refine ⟨p + zz, q + 1, d5, rfl, rfl, by rw [Nat.mul_add, Nat.mul_one, ← hpq], hlt, HS5.out, fun i hi => ?_, H2.out.kept HD.out.2.2 (Nat.le_refl _) (by omega)⟩
                by_cases e : i = q
                · subst e
                  rw [← hpq]
                  exact B1.out.merged B2.out (by omega) (by omega) HD.out
                · have e2 : zz * (i + 1) ≤ zz * q := Nat.mul_le_mul_left zz (by omega)
                  rw [Nat.mul_add, Nat.mul_one, ← hpq] at e2
                  exact (H1.out i (by omega)).kept HD.out.2.2 (by omega)
              case measure => simp [intOf]; omega
            · have hlt' : ¬ ((p + zz : Nat) : Int) ≤ (n : Int) := by omega
              by_cases hm : p + z < n
              · have hm' : (p : Int) + (z : Int) < (n : Int) := by omega
                have b1 : Blk L d4 p (p + z) := by
                  have := blocks_at H2.out HZ.out HPQ.out (by omega)
                  rwa [Nat.min_eq_left (by omega)] at this
                have b2 : Blk L d4 (p + z) n := by
                  have := blocks_next H2.out HZ.out HPQ.out (by omega)
                  rwa [Nat.min_eq_right (by omega)] at this
                have B1 := hid b1
                have B2 := hid b2
                clear b1 b2
                go_wp2_with fail
                refine (SO.out p (p + z) n d4 _ (by omega) (B1.out.runs B2.out (by omega) hm (Nat.le_refl _)) HS4.out).mono ?_
                rintro e w5 ⟨rfl, d5, S5, D5⟩
                have HD := hid D5
                have HS5 := hid S5
                clear D5 S5
                go_wp2
                go_roundw
                case rel =>
                  have hpq := HPQ.out
                  refine ⟨zz, d5, rfl, hzl, by omega, HS5.out, blocks_end hpq hp (by omega) (fun i hi => ?_) fun _ => B1.out.merged B2.out (by omega) (by omega) HD.out⟩
                  have e2 : zz * (i + 1) ≤ zz * q := Nat.mul_le_mul_left zz hi
                  rw [Nat.mul_add, Nat.mul_one, ← hpq] at e2
                  exact (H1.out i hi).kept HD.out.2.2 (by omega)
                case measure => have := HZ.out; simp [intOf]; omega
              · have hm' : ¬ (p : Int) + (z : Int) < (n : Int) := by omega
                go_wp2
                go_roundw
                case rel =>
                  refine ⟨zz, d4, rfl, hzl, by omega, HS4.out, blocks_end HPQ.out hp (by omega) H1.out fun hpn => ?_⟩
                  have := blocks_at H2.out HZ.out HPQ.out hpn
                  rwa [Nat.min_eq_right (by omega)] at this
                case measure => have := HZ.out; simp [intOf]; omega
        · have hzn' : ¬ (z : Int) < (n : Int) := by omega
          go_wp2
          go_end0
          exact ⟨rfl, d3, HS3.out, HB3.out.whole (by omega)⟩
end Go.Proofs.Ytcibhmbneedghaa
