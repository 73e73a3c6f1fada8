/-
  What is proved: plain facts on two runs that are merged where they lie: one of one place put in, and a cut with a turn in the middle. No program is in it.
-/
import Derived.Test.YtcibhmbneedghaaSortC
namespace Go.Proofs.Ytcibhmbneedghaa
open Go.RowKit

/-- the number at a, moved up to q: what stood in between moves down by one -/
def up (d : Nat → Nat) (a q : Nat) : Nat → Nat := fun t => if t < a then d t else if t < q then d (t + 1) else if t = q then d a else d t
theorem up_out (d : Nat → Nat) (a q t : Nat) (hq : a ≤ q) (h : t < a ∨ q < t) : up d a q t = d t := by
  unfold up
  rcases h with h | h
  · rw [if_pos h]
  · rw [if_neg (show ¬ t < a by omega), if_neg (show ¬ t < q by omega), if_neg (show ¬ t = q by omega)]
theorem up_in (d : Nat → Nat) (a q t : Nat) (h : a ≤ t) (g : t < q) : up d a q t = d (t + 1) := by
  unfold up; rw [if_neg (show ¬ t < a by omega), if_pos g]
theorem up_at (d : Nat → Nat) (a q : Nat) (h : a ≤ q) : up d a q q = d a := by
  unfold up; rw [if_neg (show ¬ q < a by omega), if_neg (Nat.lt_irrefl q), if_pos rfl]
theorem up_here (d : Nat → Nat) (a t : Nat) : up d a a t = d t := by
  by_cases h : t = a
  · rw [h]; exact up_at d a a (Nat.le_refl _)
  · exact up_out d a a t (Nat.le_refl _) (by omega)
theorem up_step (d : Nat → Nat) (a q : Nat) (hq : a ≤ q) (t : Nat) : swp (up d a q) q (q + 1) t = up d a (q + 1) t := by
  unfold swp up
  by_cases h1 : t = q + 1
  · rw [if_pos h1, if_neg (by omega), if_neg (by omega), if_pos rfl, if_neg (by omega), if_neg (by omega), if_pos h1]
  · rw [if_neg h1]
    by_cases h2 : t = q
    · rw [if_pos h2, if_neg (by omega), if_neg (by omega), if_neg (by omega), if_neg (by omega), if_pos (by omega), h2]
    · rw [if_neg h2]
      by_cases h3 : t < a
      · rw [if_pos h3, if_pos h3]
      · rw [if_neg h3, if_neg h3]
        by_cases h4 : t < q
        · rw [if_pos h4, if_pos (by omega)]
        · rw [if_neg h4, if_neg h2, if_neg (by omega), if_neg h1]

section
variable {n : Nat} {cf : Nat → Nat → Int} {L : Nat → Nat → Prop} {d d2 d3 d4 : Nat → Nat} {a b m : Nat}

/-- the first of all is put in where it belongs -/
theorem up_done (hO : Ord n cf L) {i : Nat} (hi : a + 1 ≤ i) (hib : i ≤ b) (hv : ∀ t, a ≤ t → t < b → d t < n) (hs : Sorted L d (a + 1) b) (h1 : ∀ t, a + 1 ≤ t → t < i → L (d t) (d a)) (h2 : ∀ t, i ≤ t → t < b → L (d a) (d t))
    (hd : ∀ t, d2 t = up d a (i - 1) t) : Sorted L d2 a b ∧ From d2 d a b ∧ Same d2 d a b := by
  have _ := hO
  have _ := hv
  refine ⟨fun x y hx hxy hy => ?_, fun x hx hxb => ?_, fun x hx => ?_⟩
  · rw [hd x, hd y]
    by_cases c1 : x < i - 1
    · rw [up_in d a _ x hx c1]
      by_cases c2 : y < i - 1
      · rw [up_in d a _ y (by omega) c2]; exact hs _ _ (by omega) (by omega) (by omega)
      · by_cases c3 : y = i - 1
        · rw [c3, up_at d a _ (by omega)]; exact h1 _ (by omega) (by omega)
        · rw [up_out d a _ y (by omega) (by omega)]; exact hs _ _ (by omega) (by omega) hy
    · rw [up_out d a _ y (by omega) (by omega)]
      by_cases c3 : x = i - 1
      · rw [c3, up_at d a _ (by omega)]; exact h2 _ (by omega) hy
      · rw [up_out d a _ x (by omega) (by omega)]; exact hs _ _ (by omega) hxy hy
  · rw [hd x]
    by_cases c1 : x < i - 1
    · rw [up_in d a _ x hx c1]; exact ⟨x + 1, by omega, by omega, rfl⟩
    · by_cases c3 : x = i - 1
      · rw [c3, up_at d a _ (by omega)]; exact ⟨a, by omega, by omega, rfl⟩
      · rw [up_out d a _ x (by omega) (by omega)]; exact ⟨x, hx, hxb, rfl⟩
  · rw [hd x]
    exact up_out d a _ x (by omega) (by omega)

/-- what holds behind the turn in the middle -/
structure Mid (L : Nat → Nat → Prop) (d d2 : Nat → Nat) (a s mid e b : Nat) : Prop where
  s1 : Sorted L d2 a s
  s2 : Sorted L d2 s mid
  s3 : Sorted L d2 mid e
  s4 : Sorted L d2 e b
  cross : ∀ i j, a ≤ i → i < mid → mid ≤ j → j < b → L (d2 i) (d2 j)
  up1 : ∀ i j, a ≤ i → i < s → s ≤ j → j < mid → d2 i < d2 j
  up2 : ∀ i j, mid ≤ i → i < e → e ≤ j → j < b → d2 i < d2 j
  src : From d2 d a b
  same : Same d2 d a b

theorem mid_of (hO : Ord n cf L) {s mid e s0 r0 : Nat} (ham : a < m) (hmb : m < b) (has : a ≤ s0) (hs0 : s0 ≤ s) (hr0 : s ≤ r0) (hrm : r0 ≤ m) (hrd : r0 ≤ mid) (hmid : mid ≤ b) (hend : mid + m ≤ b + s0) (hse : s0 = a ∨ mid + m = b + s0) (hre : r0 = m ∨ r0 = mid)
    (he : e = mid + m - s) (hv : ∀ t, a ≤ t → t < b → d t < n) (h1 : Sorted L d a m) (h2 : Sorted L d m b) (hup : ∀ i j, a ≤ i → i < m → m ≤ j → j < b → d i < d j)
    (lo : ∀ c, s0 ≤ c → c < s → L (d c) (d (mid + m - 1 - c))) (hi : ∀ c, s ≤ c → c < r0 → L (d (mid + m - 1 - c)) (d c)) : Mid L d (rotF d s m e) a s mid e b := by
  have p1 : ∀ t, t < s → rotF d s m e t = d t := fun t ht => by unfold rotF; rw [if_neg (by omega), if_neg (by omega)]
  have p2 : ∀ t, s ≤ t → t < mid → rotF d s m e t = d (t + (m - s)) := fun t h3 h4 => by unfold rotF; rw [if_pos (by omega)]
  have p3 : ∀ t, mid ≤ t → t < e → rotF d s m e t = d (t - (mid - s)) := fun t h3 h4 => by
    unfold rotF; rw [if_neg (by omega), if_pos (by omega)]; congr 1; omega
  have p4 : ∀ t, e ≤ t → rotF d s m e t = d t := fun t ht => by unfold rotF; rw [if_neg (by omega), if_neg (by omega)]
  have low : ∀ i j, a ≤ i → i < s → e ≤ j → j < b → L (d i) (d j) := fun i j g1 g2 g3 g4 => by
    by_cases c : s0 < s
    · have k := lo (s - 1) (by omega) (by omega)
      have e1 : mid + m - 1 - (s - 1) = e := by omega
      rw [e1] at k
      have k2 : L (d i) (d e) := by
        by_cases c2 : i = s - 1
        · rw [c2]; exact k
        · exact hO.trans _ _ _ (hv _ g1 (by omega)) (hv _ (by omega) (by omega)) (hv _ (by omega) (by omega)) (h1 i (s - 1) g1 (by omega) (by omega)) k
      by_cases c3 : j = e
      · rw [c3]; exact k2
      · exact hO.trans _ _ _ (hv _ g1 (by omega)) (hv _ (by omega) (by omega)) (hv _ (by omega) g4) k2 (h2 e j (by omega) (by omega) g4)
    · omega
  have high : ∀ i j, m ≤ i → i < e → s ≤ j → j < m → L (d i) (d j) := fun i j g1 g2 g3 g4 => by
    by_cases c : s < r0
    · have k := hi s (Nat.le_refl _) c
      have e1 : mid + m - 1 - s = e - 1 := by omega
      rw [e1] at k
      have k2 : L (d i) (d s) := by
        by_cases c2 : i = e - 1
        · rw [c2]; exact k
        · exact hO.trans _ _ _ (hv _ (by omega) (by omega)) (hv _ (by omega) (by omega)) (hv _ (by omega) (by omega)) (h2 i (e - 1) g1 (by omega) (by omega)) k
      by_cases c3 : j = s
      · rw [c3]; exact k2
      · exact hO.trans _ _ _ (hv _ (by omega) (by omega)) (hv _ (by omega) (by omega)) (hv _ (by omega) (by omega)) k2 (h1 s j (by omega) (by omega) g4)
    · omega
  refine ⟨fun i j g1 g2 g3 => ?_, fun i j g1 g2 g3 => ?_, fun i j g1 g2 g3 => ?_, fun i j g1 g2 g3 => ?_, fun i j g1 g2 g3 g4 => ?_, fun i j g1 g2 g3 g4 => ?_, fun i j g1 g2 g3 g4 => ?_, fun i g1 g2 => ?_, fun i g1 => ?_⟩
  · rw [p1 i (by omega), p1 j g3]; exact h1 i j g1 g2 (by omega)
  · rw [p2 i g1 (by omega), p2 j (by omega) g3]; exact h2 _ _ (by omega) (by omega) (by omega)
  · rw [p3 i g1 (by omega), p3 j (by omega) g3]; exact h1 _ _ (by omega) (by omega) (by omega)
  · rw [p4 i g1, p4 j (by omega)]; exact h2 i j (by omega) g2 g3
  · by_cases c1 : i < s
    · rw [p1 i c1]
      by_cases c2 : j < e
      · rw [p3 j g3 c2]; exact h1 _ _ g1 (by omega) (by omega)
      · rw [p4 j (by omega)]; exact low i j g1 c1 (by omega) g4
    · rw [p2 i (by omega) g2]
      by_cases c2 : j < e
      · rw [p3 j g3 c2]; exact high _ _ (by omega) (by omega) (by omega) (by omega)
      · rw [p4 j (by omega)]; exact h2 _ _ (by omega) (by omega) g4
  · rw [p1 i g2, p2 j g3 g4]; exact hup _ _ g1 (by omega) (by omega) (by omega)
  · rw [p3 i g1 g2, p4 j g3]; exact hup _ _ (by omega) (by omega) (by omega) g4
  · by_cases c1 : i < s
    · exact ⟨i, g1, g2, p1 i c1⟩
    by_cases c2 : i < mid
    · exact ⟨_, by omega, by omega, p2 i (by omega) c2⟩
    by_cases c3 : i < e
    · exact ⟨_, by omega, by omega, p3 i (by omega) c3⟩
    · exact ⟨i, g1, g2, p4 i (by omega)⟩
  · by_cases c1 : i < s
    · exact p1 i c1
    · exact p4 i (by omega)

/-- nothing to turn: as it was -/
theorem rot_same {s e : Nat} (hs : s ≤ m) (he : m ≤ e) (h : s = m ∨ m = e) (t : Nat) : rotF d s m e t = d t := by
  unfold rotF
  by_cases c1 : s ≤ t ∧ t < s + (e - m)
  · rw [if_pos c1]; congr 1; omega
  · rw [if_neg c1]
    by_cases c2 : s + (e - m) ≤ t ∧ t < e
    · rw [if_pos c2]; congr 1; omega
    · rw [if_neg c2]

/-- a run is in order, with what it had -/
def Done (L : Nat → Nat → Prop) (d' d : Nat → Nat) (a b : Nat) : Prop := Sorted L d' a b ∧ From d' d a b ∧ Same d' d a b
theorem done_refl (h : Sorted L d a b) : Done L d d a b := ⟨h, fun i h1 h2 => ⟨i, h1, h2, rfl⟩, fun _ _ => rfl⟩

theorem left_done {s mid e : Nat} (M : Mid L d d2 a s mid e b) (has : a ≤ s) (hs : s ≤ mid) (h : ¬ (a < s ∧ s < mid)) : Done L d2 d2 a mid := by
  refine done_refl fun i j g1 g2 g3 => ?_
  by_cases c : a < s
  · exact M.s1 i j g1 g2 (by omega)
  · exact M.s2 i j (by omega) g2 g3
theorem right_done {s mid e : Nat} (M : Mid L d d2 a s mid e b) (D : Done L d3 d2 a mid) (hme : mid ≤ e) (heb : e ≤ b) (h : ¬ (mid < e ∧ e < b)) : Done L d3 d3 mid b := by
  refine done_refl fun i j g1 g2 g3 => ?_
  rw [D.2.2 i (by omega), D.2.2 j (by omega)]
  by_cases c : mid < e
  · exact M.s3 i j g1 g2 (by omega)
  · exact M.s4 i j (by omega) g2 g3
theorem sym_done {s mid e : Nat} (M : Mid L d d2 a s mid e b) (D : Done L d3 d2 a mid) (E : Done L d4 d3 mid b) (h1 : a ≤ mid) (h2 : mid ≤ b) : Done L d4 d a b := by
  refine ⟨fun i j g1 g2 g3 => ?_, fun i g1 g2 => ?_, fun i g1 => ?_⟩
  · by_cases c1 : j < mid
    · rw [E.2.2 i (by omega), E.2.2 j (by omega)]; exact D.1 i j g1 g2 c1
    by_cases c2 : mid ≤ i
    · exact E.1 i j c2 g2 g3
    · rw [E.2.2 i (by omega)]
      obtain ⟨x, x1, x2, ex⟩ := D.2.1 i g1 (by omega)
      obtain ⟨y, y1, y2, ey⟩ := E.2.1 j (by omega) g3
      rw [ex, ey, D.2.2 y (by omega)]
      exact M.cross x y x1 x2 y1 y2
  · by_cases c1 : i < mid
    · rw [E.2.2 i (by omega)]
      obtain ⟨x, x1, x2, ex⟩ := D.2.1 i g1 c1
      obtain ⟨y, y1, y2, ey⟩ := M.src x x1 (by omega)
      exact ⟨y, y1, y2, ex.trans ey⟩
    · obtain ⟨x, x1, x2, ex⟩ := E.2.1 i (by omega) g2
      obtain ⟨y, y1, y2, ey⟩ := M.src x (by omega) x2
      exact ⟨y, y1, y2, by rw [ex, D.2.2 x (by omega), ey]⟩
  · rw [E.2.2 i (by omega), D.2.2 i (by omega), M.same i g1]
end
end Go.Proofs.Ytcibhmbneedghaa
