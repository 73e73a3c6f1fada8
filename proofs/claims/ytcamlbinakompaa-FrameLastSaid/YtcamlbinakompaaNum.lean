/-
  What is proved: plain facts on numbers told seven bits a byte: how the list begins, how long it is. Nothing of the program is in it. No condition.
-/
import Derived.Below
namespace Go.Proofs.Ytcamlbinakompaa

/-- the bytes of a number, seven bits a byte, the lowest first; the first word is fuel -/
def encF : Nat → Nat → List Int
  | 0, n => [(n : Int)]
  | f + 1, n => if n < 128 then [(n : Int)] else ((n % 128 + 128 : Nat) : Int) :: encF f (n / 128)
def enc (n : Nat) : List Int := encF n n

theorem encF_eq : ∀ (f g n : Nat), n ≤ f → n ≤ g → encF f n = encF g n := by
  intro f
  induction f with
  | zero => intro g n hf hg; have : n = 0 := by omega
            subst this; cases g <;> simp [encF]
  | succ f ih =>
    intro g n hf hg
    cases g with
    | zero => have : n = 0 := by omega
              subst this; simp [encF]
    | succ g =>
      simp only [encF]
      by_cases h : n < 128
      · simp [h]
      · simp only [h, if_false]
        rw [ih g (n / 128) (by omega) (by omega)]

theorem enc_small (n : Nat) (h : n < 128) : enc n = [(n : Int)] := by
  unfold enc
  cases n with
  | zero => rfl
  | succ n => simp [encF, h]
theorem enc_big (n : Nat) (h : ¬ n < 128) : enc n = ((n % 128 + 128 : Nat) : Int) :: enc (n / 128) := by
  unfold enc
  cases n with
  | zero => omega
  | succ n =>
    simp only [encF, h, if_false]
    rw [encF_eq n ((n + 1) / 128) _ (by omega) (by omega)]

theorem enc_len_le : ∀ (k n : Nat), n < 128 ^ (k + 1) → (enc n).length ≤ k + 1 := by
  intro k
  induction k with
  | zero => intro n h; rw [enc_small n (by simpa using h)]; simp
  | succ k ih =>
    intro n h
    by_cases hn : n < 128
    · rw [enc_small n hn]; simp
    · rw [enc_big n hn]
      have := ih (n / 128) (by rw [Nat.pow_succ] at h; exact Nat.div_lt_of_lt_mul (by rw [Nat.mul_comm]; exact h))
      simp only [List.length_cons]
      omega
theorem enc_len_pos (n : Nat) : 0 < (enc n).length := by
  by_cases h : n < 128
  · rw [enc_small n h]; simp
  · rw [enc_big n h]; simp
theorem enc_len9 (n : Nat) (h : n < 9223372036854775808) : (enc n).length ≤ 9 := enc_len_le 8 n (by simpa using h)

theorem or128 (m : Nat) : bits BinOp.or IntKind.u8 ((m : Int) % 256) 128 = ((m % 128 + 128 : Nat) : Int) := by
  have key : ∀ k : Fin 256, bits BinOp.or IntKind.u8 ((k.val : Nat) : Int) 128 = ((k.val % 128 + 128 : Nat) : Int) := by decide +kernel
  have h := key ⟨m % 256, Nat.mod_lt _ (by omega)⟩
  simp only [Nat.mod_mod_of_dvd m (show 128 ∣ 256 by decide)] at h
  rw [← h]
  congr 1
end Go.Proofs.Ytcamlbinakompaa
