/-
  What is proved: plain facts on a packet's bytes and their sum: how it grows by a byte, how far one changed byte moves it. Nothing of the program is in it. No condition.
-/
import Derived.Test.YtcamlbinakompaaNum
namespace Go.Proofs.Ytcamlbinakompaa

/-- the sum of these bytes, each times its place, the first of which is j + 1 -/
def wsF : Nat → List Int → Nat
  | _, [] => 0
  | j, x :: xs => (j + 1) * x.toNat + wsF (j + 1) xs
def ws (l : List Int) : Nat := wsF 0 l
/-- the sum as a byte -/
def sm (l : List Int) : Int := ((ws l % 251 : Nat) : Int)
theorem sm_byte (l : List Int) : 0 ≤ sm l ∧ sm l < 251 := by unfold sm; omega

theorem wsF_append : ∀ (l r : List Int) (j : Nat), wsF j (l ++ r) = wsF j l + wsF (j + l.length) r := by
  intro l
  induction l with
  | nil => intro r j; simp [wsF]
  | cons x l ih =>
    intro r j
    simp only [List.cons_append, wsF, ih, List.length_cons]
    rw [show j + 1 + l.length = j + (l.length + 1) by omega]
    omega
theorem ws_snoc (l : List Int) (x : Int) : ws (l ++ [x]) = ws l + (l.length + 1) * x.toNat := by
  unfold ws
  rw [wsF_append]
  simp [wsF]
theorem take_snoc7 (l : List Int) (k : Nat) (h : k < l.length) : l.take (k + 1) = l.take k ++ [l[k]] := by
  rw [List.take_add_one, List.getElem?_eq_getElem h]; rfl
theorem ws_take (l : List Int) (k : Nat) (h : k < l.length) (c : Nat) (hc : l[k] = c) : ws (l.take (k + 1)) = ws (l.take k) + (k + 1) * c := by
  rw [take_snoc7 l k h, ws_snoc, List.length_take, Nat.min_eq_left (by omega), hc, Int.toNat_natCast]
theorem mul_le7 (k c L : Nat) (hk : k < L) (hc : c ≤ 255) : (k + 1) * c ≤ L * 255 := Nat.mul_le_mul (by omega) hc
theorem ws_le (l : List Int) (hb : ∀ x ∈ l, 0 ≤ x ∧ x ≤ 255) : ∀ k, k ≤ l.length → ws (l.take k) ≤ k * (l.length * 255) := by
  intro k
  induction k with
  | zero => intro _; simp [ws, wsF]
  | succ k ih =>
    intro hk
    have h := ih (by omega)
    obtain ⟨h1, h2⟩ := hb _ (List.getElem_mem (show k < l.length by omega))
    rw [ws_take l k (by omega) (l[k]'(by omega)).toNat (by omega), Nat.succ_mul k (l.length * 255)]
    have := mul_le7 k (l[k]'(by omega)).toNat l.length (by omega) (by omega)
    omega
/-- the program's round: what was there, and a byte more, is the sum of one more -/
theorem sm_step (a c k : Nat) : ((((a % 251 : Nat) : Int) + (c : Int) * ((k : Int) + 1)) % 251) = (((a + (k + 1) * c) % 251 : Nat) : Int) := by
  rw [show (c : Int) * ((k : Int) + 1) = (((k + 1) * c : Nat) : Int) by rw [Nat.mul_comm]; simp]
  omega
theorem rs_step (a c k : Nat) : (a : Int) + ((k : Int) + 1) * (c : Int) = ((a + (k + 1) * c : Nat) : Int) := by simp

/-- one byte is another one -/
theorem wsF_set : ∀ (l : List Int) (j i : Nat) (h : i < l.length) (x : Int), wsF j (l.set i x) + (j + i + 1) * (l[i]'h).toNat = wsF j l + (j + i + 1) * x.toNat := by
  intro l
  induction l with
  | nil => intro j i h; simp at h
  | cons y l ih =>
    intro j i h x
    cases i with
    | zero => simp only [List.set_cons_zero, wsF, List.getElem_cons_zero, Nat.add_zero]; omega
    | succ i =>
      have := ih (j + 1) i (by simpa using h) x
      simp only [List.set_cons_succ, wsF, List.getElem_cons_succ]
      rw [show j + (i + 1) + 1 = j + 1 + i + 1 by omega]
      omega

theorem prime251 (a b : Nat) (h : (a * b) % 251 = 0) : a % 251 = 0 ∨ b % 251 = 0 := by
  have key : ∀ x : Fin 251, x.val = 0 ∨ Nat.gcd x.val 251 = 1 := by decide +kernel
  rcases key ⟨a % 251, Nat.mod_lt _ (by omega)⟩ with h1 | h1
  · exact .inl h1
  · right
    have h2 : Nat.Coprime 251 (a % 251) := by unfold Nat.Coprime; rw [Nat.gcd_comm]; exact h1
    have h3 : 251 ∣ (a % 251) * b := Nat.dvd_of_mod_eq_zero (by rw [Nat.mod_mul_mod]; exact h)
    exact Nat.mod_eq_zero_of_dvd (h2.dvd_of_dvd_mul_left h3)

/-- a byte that is another one, but by 251, moves the sum, if its place is no multiple of 251 -/
theorem sm_moves (l : List Int) (i : Nat) (h : i < l.length) (hl : l.length ≤ 250) (x : Int) (h0 : 0 ≤ l[i] ∧ l[i] ≤ 255) (hx : 0 ≤ x ∧ x ≤ 255) (hne : x ≠ l[i]) (h1 : x - l[i] ≠ 251) (h2 : x - l[i] ≠ -251) : sm (l.set i x) ≠ sm l := by
  intro e
  unfold sm at e
  have hs := wsF_set l 0 i h x
  change ws (l.set i x) + (0 + i + 1) * (l[i]'h).toNat = ws l + (0 + i + 1) * x.toNat at hs
  rw [Nat.zero_add] at hs
  have e' : ws (l.set i x) % 251 = ws l % 251 := by omega
  obtain ⟨p, hp⟩ : ∃ p : Nat, l[i] = p := ⟨(l[i]).toNat, by omega⟩
  obtain ⟨q, rfl⟩ : ∃ q : Nat, x = q := ⟨x.toNat, by omega⟩
  rw [hp] at hs h0 hne h1 h2
  simp only [Int.toNat_natCast] at hs
  generalize ws (l.set i (q : Int)) = A at hs e'
  generalize ws l = B at hs e'
  rcases Nat.lt_or_ge p q with hpq | hpq
  · obtain ⟨d, rfl⟩ : ∃ d, q = p + d := ⟨q - p, by omega⟩
    rw [Nat.mul_add] at hs
    have hd : ((i + 1) * d) % 251 = 0 := by omega
    rcases prime251 _ _ hd with h | h <;> omega
  · obtain ⟨d, rfl⟩ : ∃ d, p = q + d := ⟨p - q, by omega⟩
    rw [Nat.mul_add] at hs
    have hd : ((i + 1) * d) % 251 = 0 := by omega
    rcases prime251 _ _ hd with h | h <;> omega

/-- the numbers' bytes, so many of them -/
def pre (m y s a : Nat) : Nat → List Int
  | 0 => []
  | 1 => enc m
  | 2 => enc m ++ enc y
  | 3 => enc m ++ enc y ++ enc s
  | _ => enc m ++ enc y ++ enc s ++ enc a
/-- a packet's bytes, but for the sum -/
def body (m y s a : Nat) (ds : List Int) : List Int := pre m y s a 4 ++ enc ds.length ++ ds
/-- its bytes -/
def full (m y s a : Nat) (ds : List Int) : List Int := body m y s a ds ++ [sm (body m y s a ds)]
theorem enc_len6 (n : Nat) (h : n ≤ 1099511627776) : (enc n).length ≤ 6 := enc_len_le 5 n (by simp only [Nat.reducePow, Nat.reduceAdd]; omega)
theorem body_len {m y s a : Nat} {ds : List Int} (hm : m ≤ 1099511627776) (hy : y ≤ 1099511627776) (hs : s ≤ 1099511627776) (ha : a ≤ 1099511627776) (hd : ds.length ≤ 128) : (body m y s a ds).length ≤ 161 := by
  have h1 := enc_len6 m hm
  have h2 := enc_len6 y hy
  have h3 := enc_len6 s hs
  have h4 := enc_len6 a ha
  have h5 := enc_len9 ds.length (by omega)
  simp only [body, pre, List.length_append]
  omega
theorem pre_len {m y s a : Nat} (hm : m ≤ 1099511627776) (hy : y ≤ 1099511627776) (hs : s ≤ 1099511627776) (ha : a ≤ 1099511627776) (q : Nat) : (pre m y s a q).length ≤ 24 := by
  have h1 := enc_len6 m hm
  have h2 := enc_len6 y hy
  have h3 := enc_len6 s hs
  have h4 := enc_len6 a ha
  unfold pre
  split
  · simp
  all_goals (try simp only [List.length_append]) <;> omega
end Go.Proofs.Ytcamlbinakompaa
