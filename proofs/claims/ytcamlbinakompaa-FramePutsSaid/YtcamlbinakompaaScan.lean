/-
  What is proved: plain facts on a list's first bytes up to the first one below 128: what is told so is a number's bytes, and a number's bytes are found so. Nothing of the program is in it. No condition.
-/
import Derived.Test.YtcamlbinakompaaNum
namespace Go.Proofs.Ytcamlbinakompaa

/-- the bytes up to the first one below 128, if it is among the first k -/
def scan : Nat → List Int → Option (List Int)
  | 0, _ => none
  | _ + 1, [] => none
  | k + 1, c :: r => if c < 128 then some [c] else (scan k r).map (c :: ·)
/-- the number that bytes tell, seven bits a byte -/
def val : List Int → Nat
  | [] => 0
  | c :: r => c.toNat % 128 + 128 * val r
/-- no 0 at the end of more than one -/
def Good (t : List Int) : Prop := t.length = 1 ∨ t.getLast? ≠ some 0

theorem enc_ne (m : Nat) : enc m ≠ [] := by
  intro h
  have := enc_len_pos m
  rw [h] at this
  simp at this

theorem scan_enc : ∀ (k m : Nat) (r : List Int), m < 128 ^ k → 0 < k → scan k (enc m ++ r) = some (enc m) := by
  intro k
  induction k with
  | zero => intro m r _ h; omega
  | succ k ih =>
    intro m r hm _
    by_cases h : m < 128
    · rw [enc_small m h]
      have : ((m : Nat) : Int) < 128 := by omega
      simp [scan, this]
    · rw [enc_big m h]
      have hk : 0 < k := by
        rcases Nat.eq_zero_or_pos k with h0 | h0
        · subst h0; simp at hm; omega
        · exact h0
      have h2 := ih (m / 128) r (by rw [Nat.pow_succ] at hm; exact Nat.div_lt_of_lt_mul (by rw [Nat.mul_comm]; exact hm)) hk
      have h3 : ¬ (((m % 128 + 128 : Nat) : Int) < 128) := by omega
      simp only [List.cons_append, scan, h3, if_false, h2, Option.map_some]

theorem enc_last (m : Nat) : m ≠ 0 → (enc m).getLast? ≠ some 0 := by
  induction m using Nat.strongRecOn with
  | _ m ih =>
    intro h0
    by_cases h : m < 128
    · rw [enc_small m h]; simp; omega
    · rw [enc_big m h]
      have := ih (m / 128) (by omega) (by omega)
      rw [List.getLast?_cons_of_ne_nil (enc_ne _)]
      exact this
theorem enc_good (m : Nat) : Good (enc m) := by
  by_cases h : m = 0
  · subst h; left; rw [enc_small 0 (by omega)]; rfl
  · exact .inr (enc_last m h)
theorem val_enc (m : Nat) : val (enc m) = m := by
  induction m using Nat.strongRecOn with
  | _ m ih =>
    by_cases h : m < 128
    · rw [enc_small m h]; simp [val]; omega
    · rw [enc_big m h]
      simp only [val]
      rw [ih (m / 128) (by omega)]
      simp
      omega

theorem scan_ne {k : Nat} {l t : List Int} (h : scan k l = some t) : t ≠ [] := by
  cases k with
  | zero => simp [scan] at h
  | succ k =>
    cases l with
    | nil => simp [scan] at h
    | cons c r =>
      simp only [scan] at h
      by_cases hc : c < 128
      · rw [if_pos hc] at h; cases h; simp
      · rw [if_neg hc] at h
        obtain ⟨u, _, e⟩ := Option.map_eq_some_iff.1 h
        subst e; simp
theorem scan_prefix : ∀ (k : Nat) (l t : List Int), scan k l = some t → ∃ r, l = t ++ r := by
  intro k
  induction k with
  | zero => intro l t h; simp [scan] at h
  | succ k ih =>
    intro l t h
    cases l with
    | nil => simp [scan] at h
    | cons c r =>
      simp only [scan] at h
      by_cases hc : c < 128
      · rw [if_pos hc] at h; cases h; exact ⟨r, rfl⟩
      · rw [if_neg hc] at h
        obtain ⟨u, hu, e⟩ := Option.map_eq_some_iff.1 h
        subst e
        obtain ⟨r', e'⟩ := ih r u hu
        exact ⟨r', by rw [e']; rfl⟩
/-- what is told as shortly as can be is a number's bytes -/
theorem scan_sound : ∀ (k : Nat) (l t : List Int), (∀ x ∈ l, 0 ≤ x ∧ x ≤ 255) → scan k l = some t → Good t → t = enc (val t) ∧ val t < 128 ^ k ∧ (1 < t.length → 0 < val t) := by
  intro k
  induction k with
  | zero => intro l t _ h; simp [scan] at h
  | succ k ih =>
    intro l t hb h hg
    cases l with
    | nil => simp [scan] at h
    | cons c r =>
      have hc0 := hb c (by simp)
      simp only [scan] at h
      by_cases hc : c < 128
      · rw [if_pos hc] at h
        cases h
        have hv : val [c] = c.toNat := by simp [val]; omega
        refine ⟨?_, ?_, by simp⟩
        · rw [hv, enc_small _ (by omega)]; congr 1; omega
        · rw [hv, Nat.pow_succ]
          have : 0 < 128 ^ k := Nat.pow_pos (by omega)
          omega
      · rw [if_neg hc] at h
        obtain ⟨u, hu, e⟩ := Option.map_eq_some_iff.1 h
        subst e
        have hne := scan_ne hu
        have hgu : Good u := by
          rcases hg with hg | hg
          · simp at hg; exact absurd hg hne
          · rw [List.getLast?_cons_of_ne_nil hne] at hg; exact .inr hg
        obtain ⟨h1, h2, h3⟩ := ih r u (fun x hx => hb x (by simp [hx])) hu hgu
        have hpos : 0 < val u := by
          rcases Nat.eq_zero_or_pos (val u) with h0 | h0
          · exfalso
            have hl1 : u.length = 1 := by
              have : u.length ≠ 0 := fun h => hne (List.eq_nil_of_length_eq_zero h)
              rcases Nat.lt_or_ge 1 u.length with h | h
              · have := h3 h; omega
              · omega
            rw [h0, enc_small 0 (by omega)] at h1
            rcases hg with hg | hg
            · simp at hg; exact hne hg
            · rw [h1] at hg; simp at hg
          · exact h0
        have hv : val (c :: u) = c.toNat % 128 + 128 * val u := rfl
        refine ⟨?_, ?_, fun _ => by rw [hv]; omega⟩
        · rw [enc_big _ (by rw [hv]; omega)]
          congr 1
          · rw [hv]; omega
          · rw [h1]; congr 1; rw [← h1, hv]; omega
        · rw [hv, Nat.pow_succ]; omega

theorem val_snoc (t : List Int) (c : Int) : val (t ++ [c]) = val t + (c.toNat % 128) * 128 ^ t.length := by
  induction t with
  | nil => simp [val]
  | cons d t ih =>
    simp only [List.cons_append, val, ih, List.length_cons, Nat.pow_succ]
    rw [Nat.mul_add, Nat.add_assoc, Nat.mul_left_comm, Nat.mul_comm 128 (128 ^ t.length)]
theorem val_lt (t : List Int) : val t < 128 ^ t.length := by
  induction t with
  | nil => simp [val]
  | cons d t ih => simp only [val, List.length_cons, Nat.pow_succ]; omega

/-- i bytes from p on have been gone through, all of them 128 or more; m is what they tell -/
def Gone (l : List Int) (p i m : Nat) : Prop :=
  i ≤ 9 ∧ p + i ≤ l.length ∧ m = val ((l.drop p).take i) ∧ scan 9 (l.drop p) = (scan (9 - i) (l.drop (p + i))).map ((l.drop p).take i ++ ·)

theorem Gone.first (l : List Int) (p : Nat) (hp : p ≤ l.length) : Gone l p 0 0 := by
  refine ⟨by omega, by omega, by simp [val], ?_⟩
  simp
theorem Gone.lt {l : List Int} {p i m : Nat} (h : Gone l p i m) : m < 128 ^ i := by
  have := val_lt ((l.drop p).take i)
  rw [← h.2.2.1, List.length_take, List.length_drop] at this
  exact Nat.lt_of_lt_of_le this (Nat.pow_le_pow_right (by omega) (Nat.min_le_left _ _))
theorem take_next (l : List Int) (p i : Nat) (h : p + i < l.length) : (l.drop p).take (i + 1) = (l.drop p).take i ++ [l[p + i]] := by
  rw [List.take_add_one, List.getElem?_drop, List.getElem?_eq_getElem h]; rfl
theorem drop_next (l : List Int) (p i : Nat) (h : p + i < l.length) : l.drop (p + i) = l[p + i] :: l.drop (p + (i + 1)) := by
  rw [List.drop_eq_getElem_cons h]; rfl
theorem len_take (l : List Int) (p i : Nat) (h : p + i ≤ l.length) : ((l.drop p).take i).length = i := by
  rw [List.length_take, List.length_drop]; omega
theorem Gone.on {l : List Int} {p i m : Nat} (h : Gone l p i m) (hi : i < 9) (hp : p + i < l.length) (hc : ¬ l[p + i] < 128) : Gone l p (i + 1) (m + (l[p + i].toNat % 128) * 128 ^ i) := by
  obtain ⟨_, _, h1, h2⟩ := h
  refine ⟨by omega, by omega, ?_, ?_⟩
  · rw [take_next l p i hp, val_snoc, ← h1, len_take l p i (by omega)]
  · rw [h2, drop_next l p i hp, show 9 - i = (9 - (i + 1)) + 1 from by omega]
    simp only [scan, if_neg hc, Option.map_map, take_next l p i hp]
    congr 1
    funext t
    simp
theorem Gone.short {l : List Int} {p i m : Nat} (h : Gone l p i m) (hi : i < 9) (hp : p + i = l.length) : scan 9 (l.drop p) = none := by
  rw [h.2.2.2, List.drop_eq_nil_of_le (show l.length ≤ p + i by omega), show 9 - i = (8 - i) + 1 from by omega]
  rfl
theorem Gone.long {l : List Int} {p m : Nat} (h : Gone l p 9 m) : scan 9 (l.drop p) = none := by
  rw [h.2.2.2]; rfl
theorem Gone.last {l : List Int} {p i m : Nat} (h : Gone l p i m) (hi : i < 9) (hp : p + i < l.length) (hc : l[p + i] < 128) :
    ∃ t, scan 9 (l.drop p) = some t ∧ val t = m + (l[p + i].toNat % 128) * 128 ^ i ∧ t.length = i + 1 ∧ t.getLast? = some l[p + i] := by
  obtain ⟨_, _, h1, h2⟩ := h
  refine ⟨(l.drop p).take i ++ [l[p + i]], ?_, ?_, ?_, by simp⟩
  · rw [h2, drop_next l p i hp, show 9 - i = (8 - i) + 1 from by omega]
    simp only [scan, if_pos hc, Option.map_some]
  · rw [val_snoc, ← h1, len_take l p i (by omega)]
  · rw [List.length_append, len_take l p i (by omega)]; rfl
end Go.Proofs.Ytcamlbinakompaa
