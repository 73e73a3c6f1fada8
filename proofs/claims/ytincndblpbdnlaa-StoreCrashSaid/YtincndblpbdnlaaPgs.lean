/-
  What is proved: the bytes of an entry's sectors are bytes, and fit a sector. Conditions: the numbers are as a shape's; a journal's are below 2^63.
-/
import Derived.Test.YtincndblpbdnlaaWtr
import Derived.Test.YtincndblpbdnlaaPnd
namespace Go.Proofs.Ytincndblpbdnlaa
open Go.RowKit

theorem enc_byte (n : Nat) : ∀ x ∈ enc n, 0 ≤ x ∧ x ≤ 255 := by
  induction n using Nat.strongRecOn with
  | _ n ih =>
    intro x hx
    by_cases h : n < 128
    · rw [enc_small n h] at hx; simp at hx; omega
    · rw [enc_big n h] at hx
      rcases List.mem_cons.1 hx with e | e
      · omega
      · exact ih (n / 128) (by omega) x e
theorem encs_byte (ns : List Nat) : ∀ x ∈ encs ns, 0 ≤ x ∧ x ≤ 255 := by
  induction ns with
  | nil => intro x hx; cases hx
  | cons m r ih =>
    intro x hx
    simp only [encs, List.mem_append] at hx
    rcases hx with h | h
    · exact enc_byte m x h
    · exact ih x h
def Byt (l : List Int) : Prop := ∀ x ∈ l, 0 ≤ x ∧ x ≤ 255
theorem Byt.app {l m : List Int} (h : Byt l) (k : Byt m) : Byt (l ++ m) := fun x hx => by
  rcases List.mem_append.1 hx with e | e
  · exact h x e
  · exact k x e
theorem pgs_byte (c s b o k v x : Nat) (l : List Int) (hl : Byt l) : ∀ i, Byt (pgs c s b o k v x l i)
  | 0 => (Byt.app (Byt.app (encs_byte _) (enc_byte _)) hl)
  | 1 => (Byt.app (Byt.app (encs_byte _) (enc_byte _)) hl)
  | 2 => encs_byte _
  | _ + 3 => fun x hx => by cases hx
theorem pgs_ok (c s b o k v x : Nat) (l : List Int) (hl : Byt l) (h16 : l.length ≤ 16) (hb : b < 9223372036854775808) (ho : o < 9223372036854775808) (hv : v < 9223372036854775808) (hx : x < 9223372036854775808) : ∀ i, 1 ≤ i → i < 4 → Ok1 (pgs c s b o k v x l i)
  | 0, h, _ => by omega
  | 1, _, _ => ⟨by
    have h1 := encs_len [v] (by simpa using hv)
    have h2 := enc_len_le 0 l.length (by omega)
    simp only [pgs, List.length_append, List.length_cons, List.length_nil] at h1 ⊢
    omega, pgs_byte c s b o k v x l hl 1⟩
  | 2, _, _ => ⟨by
    have h1 := encs_len [b, o, x] (by simp [hb, ho, hx])
    simp only [pgs, List.length_cons, List.length_nil] at h1 ⊢
    omega, pgs_byte c s b o k v x l hl 2⟩
  | 3, _, _ => ⟨by simp [pgs], fun x hx => by cases hx⟩
  | n + 4, _, h => by omega
theorem pgs_ok0 (c s b o k v x : Nat) (l : List Int) (hl : Byt l) (h16 : l.length ≤ 16) (hc : c < 4) (hs : s < 4) (hk : k < 32) (hb : b ≤ great) (ho : o ≤ great) (hv : v ≤ 1000) : Ok1 (pgs c s b o k v x l 0) := ⟨by
    have h0 := enc_len_le 0 c (by omega)
    have h1 := enc_len_le 0 s (by omega)
    have h2 := enc_len_le 5 b (by unfold great at hb; omega)
    have h3 := enc_len_le 5 o (by unfold great at ho; omega)
    have h4 := enc_len_le 0 k (by omega)
    have h5 := enc_len_le 1 v (by omega)
    have h6 := enc_len_le 0 l.length (by omega)
    simp only [pgs, encs, List.length_append, List.length_nil]
    omega, pgs_byte c s b o k v x l hl 0⟩
theorem tx_byte {l : List Int} (h : Byt l) (o : Option Nat) : Byt (tx l o).1 := by
  unfold tx
  split
  · exact fun x hx => by cases hx
  · split
    · exact fun x hx => by cases hx
    · rename_i hg
      unfold gtext at hg
      split at hg
      · split at hg
        · cases hg
        · split at hg
          · cases hg
          · injection hg with hg
            injection hg with hg _
            rw [← hg]
            exact fun x hx => h x (List.mem_of_mem_drop (List.mem_of_mem_take hx))
      · cases hg
theorem blk_byte {l : List Int} (h : Byt l) (Z : Nat) : Byt (blk Z l).2 := by
  unfold blk
  simp only
  split
  · exact tx_byte h _
  · intro x hx
    have := (List.mem_replicate.1 hx).2
    omega
end Go.Proofs.Ytincndblpbdnlaa
