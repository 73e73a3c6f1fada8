/-
  What is proved: plain facts on the bytes of a configuration: how many there are, that they are bytes. Nothing of the program is in it. No condition.
-/
import Derived.Test.YtehmcnghincakaaRight
import Derived.Test.YtehmcnghincakaaGetQ
namespace Go.Proofs.Ytehmcnghincakaa
open Go.RowKit

/-- the numbers that a configuration's bytes tell first -/
def nums (c : Nat → Int) (n : Nat) (i : Nat) : Nat := if i < 16 then (c i).toNat else n
def encN (f : Nat → Nat) : Nat → List Int
  | 0 => []
  | k + 1 => encN f k ++ enc (f k)
def encH (p : Hn) : List Int := enc p.f.toNat ++ (enc p.s.toNat ++ (enc p.o.toNat ++ [bit p.l]))
def encHs (hh : Nat → Hn) : Nat → List Int
  | 0 => []
  | k + 1 => encHs hh k ++ encH (hh k)
def full (c : Nat → Int) (hh : Nat → Hn) (n : Nat) : List Int := encN (nums c n) 17 ++ encHs hh n

def smallH (p : Hn) : Prop := 0 ≤ p.f ∧ p.f ≤ 2147483647 ∧ 0 ≤ p.s ∧ p.s ≤ 2147483647 ∧ 0 ≤ p.o ∧ p.o ≤ 2147483647
theorem okH.small {p : Hn} {b : Int} (h : okH p b) : smallH p := by unfold okH at h; unfold smallH; omega

theorem encN_len {f : Nat → Nat} : ∀ k, (∀ i, i < k → f i < 9223372036854775808) → (encN f k).length ≤ k * 9
  | 0, _ => Nat.le_refl _
  | k + 1, h => by
    have h1 := encN_len k fun i hi => h i (by omega)
    have h2 := enc_len9 (f k) (h k (by omega))
    rw [encN, List.length_append]
    omega
theorem encH_len {p : Hn} (h : smallH p) : (encH p).length ≤ 28 := by
  unfold smallH at h
  have h1 := enc_len9 p.f.toNat (by omega)
  have h2 := enc_len9 p.s.toNat (by omega)
  have h3 := enc_len9 p.o.toNat (by omega)
  unfold encH
  simp only [List.length_append, List.length_singleton]
  omega
theorem encHs_len {hh : Nat → Hn} : ∀ k, (∀ i, i < k → smallH (hh i)) → (encHs hh k).length ≤ k * 28
  | 0, _ => Nat.le_refl _
  | k + 1, h => by
    have h1 := encHs_len k fun i hi => h i (by omega)
    have h2 := encH_len (h k (by omega))
    rw [encHs, List.length_append]
    omega
theorem enc_byte (n : Nat) : ∀ x ∈ enc n, 0 ≤ x ∧ x ≤ 255 := by
  induction n using Nat.strongRecOn with
  | _ n ih =>
    intro x hx
    by_cases h : n < 128
    · rw [enc_small n h] at hx; simp at hx; omega
    · rw [enc_big n h] at hx
      rcases List.mem_cons.1 hx with e | e
      · omega
      · exact ih (n / 128) (by omega) x e
theorem bit_byte (t : Bool) : 0 ≤ bit t ∧ bit t ≤ 255 := by cases t <;> simp [bit]
theorem encN_byte {f : Nat → Nat} : ∀ k, ∀ x ∈ encN f k, 0 ≤ x ∧ x ≤ 255
  | 0, x, hx => by simp [encN] at hx
  | k + 1, x, hx => by
    rw [encN, List.mem_append] at hx
    rcases hx with hx | hx
    · exact encN_byte k x hx
    · exact enc_byte _ x hx
theorem encH_byte (p : Hn) : ∀ x ∈ encH p, 0 ≤ x ∧ x ≤ 255 := by
  intro x hx
  unfold encH at hx
  simp only [List.mem_append, List.mem_singleton] at hx
  rcases hx with h | h | h | rfl
  · exact enc_byte _ _ h
  · exact enc_byte _ _ h
  · exact enc_byte _ _ h
  · exact bit_byte _
theorem encHs_byte {hh : Nat → Hn} : ∀ k, ∀ x ∈ encHs hh k, 0 ≤ x ∧ x ≤ 255
  | 0, x, hx => by simp [encHs] at hx
  | k + 1, x, hx => by
    rw [encHs, List.mem_append] at hx
    rcases hx with hx | hx
    · exact encHs_byte k x hx
    · exact encH_byte _ x hx
theorem full_byte {c : Nat → Int} {hh : Nat → Hn} {n : Nat} : ∀ x ∈ full c hh n, 0 ≤ x ∧ x ≤ 255 := fun x hx => by
  unfold full at hx
  rcases List.mem_append.1 hx with h | h
  · exact encN_byte _ _ h
  · exact encHs_byte _ _ h

/-- what a right configuration's numbers are below -/
theorem RightP.num {c : Nat → Int} {hh : Nat → Hn} {n : Nat} (h : RightP c hh n) : ∀ i, i < 16 → 0 ≤ c i ∧ c i ≤ 100 := fun i hi => by
  have := h.1 i hi
  have e : 0 ≤ lo i ∧ Go.Proofs.Ytehmcnghincakaa.hi i ≤ 100 := by
    match i, hi with
    | 0, _ | 1, _ | 2, _ | 3, _ | 4, _ | 5, _ | 6, _ | 7, _ | 8, _ | 9, _ | 10, _ | 11, _ | 12, _ | 13, _ | 14, _ | 15, _ => simp [lo, Go.Proofs.Ytehmcnghincakaa.hi]
    | n + 16, h => omega
  omega
theorem RightP.nums_lt {c : Nat → Int} {hh : Nat → Hn} {n : Nat} (h : RightP c hh n) : ∀ i, nums c n i < 9223372036854775808 := fun i => by
  unfold nums
  by_cases hi : i < 16
  · rw [if_pos hi]; have := h.num i hi; omega
  · rw [if_neg hi]; have := h.2.2.2.1; omega
theorem RightP.small {c : Nat → Int} {hh : Nat → Hn} {n : Nat} (h : RightP c hh n) : ∀ i, i < n → smallH (hh i) := fun i hi => (h.2.2.2.2.1 i hi).small
theorem RightP.len {c : Nat → Int} {hh : Nat → Hn} {n : Nat} (h : RightP c hh n) : (full c hh n).length ≤ 400 := by
  unfold full
  have h1 := encN_len 17 fun i _ => h.nums_lt i
  have h2 := encHs_len n h.small
  have := h.2.2.2.1
  rw [List.length_append]
  omega
end Go.Proofs.Ytehmcnghincakaa
