/-
  What is proved: a plain reading of what sectors hold: numbers and a text one behind the other; what the store puts is read so again. Nothing of the program is in it. No condition.
-/
import Derived.Test.YtincndblpbdnlaaGnum
namespace Go.Proofs.Ytincndblpbdnlaa

/-- bytes, no more than a sector has -/
def Ok1 (l : List Int) : Prop := l.length ≤ 64 ∧ ∀ x ∈ l, 0 ≤ x ∧ x ≤ 255
/-- the next number, and where the reader stands then -/
def nx (l : List Int) : Option Nat → Nat × Option Nat
  | none => (0, none)
  | some p => match gnum l p with
    | none => (0, none)
    | some (n, q) => (n, some q)
/-- the next text -/
def tx (l : List Int) : Option Nat → List Int × Option Nat
  | none => ([], none)
  | some p => match gtext l p 16 with
    | none => ([], none)
    | some (t, q) => (t, some q)
/-- where the reader stands behind i numbers, and the i-th number -/
def stt (l : List Int) (o : Option Nat) : Nat → Option Nat
  | 0 => o
  | i + 1 => (nx l (stt l o i)).2
def nth (l : List Int) (o : Option Nat) (i : Nat) : Nat := (nx l (stt l o i)).1
def endd (l : List Int) (o : Option Nat) : Bool := decide (o = some l.length)

theorem nx_enc {l r : List Int} {p m : Nat} (hm : m < 9223372036854775808) (h : l.drop p = enc m ++ r) : nx l (some p) = (m, some (p + (enc m).length)) := by
  simp only [nx, gnum_enc hm h]
theorem tx_enc {l t r : List Int} {p : Nat} (hm : t.length ≤ 16) (h : l.drop p = enc t.length ++ (t ++ r)) : tx l (some p) = (t, some (p + (enc t.length).length + t.length)) := by
  simp only [tx, gtext_enc hm (by omega : 16 ≤ 64) h]
theorem nx_bnd {l : List Int} {o : Option Nat} (hb : Ok1 l) : (nx l o).1 < 9223372036854775808 ∧ ∀ q, (nx l o).2 = some q → q ≤ l.length := by
  cases o with
  | none => exact ⟨by simp [nx], fun q h => by cases h⟩
  | some p =>
    cases h : gnum l p with
    | none => simp [nx, h]
    | some nq =>
      obtain ⟨n, q⟩ := nq
      obtain ⟨h1, h2, _⟩ := gnum_bnd hb.2 h
      simp only [nx, h]
      exact ⟨h1, fun q' e => by cases e; exact h2⟩
theorem stt_bnd {l : List Int} {o : Option Nat} (hb : Ok1 l) (ho : ∀ q, o = some q → q ≤ l.length) : ∀ i q, stt l o i = some q → q ≤ l.length
  | 0 => ho
  | _ + 1 => (nx_bnd hb).2
theorem nth_bnd {l : List Int} {o : Option Nat} (hb : Ok1 l) (i : Nat) : nth l o i < 9223372036854775808 := (nx_bnd hb).1
theorem tx_bnd {l : List Int} {o : Option Nat} (hb : Ok1 l) : (∀ q, (tx l o).2 = some q → q ≤ l.length) ∧ (tx l o).1.length ≤ 16 := by
  cases o with
  | none => exact ⟨fun q h => (by cases h), by simp [tx]⟩
  | some p =>
    cases h : gtext l p 16 with
    | none => simp [tx, h]
    | some nq =>
      obtain ⟨n, q⟩ := nq
      obtain ⟨h1, h2⟩ := gtext_bnd hb.2 h
      simp only [tx, h]
      exact ⟨fun q' e => by cases e; exact h1, h2⟩
/-- numbers one behind the other -/
def encs : List Nat → List Int
  | [] => []
  | m :: r => enc m ++ encs r
theorem encs_append (a b : List Nat) : encs (a ++ b) = encs a ++ encs b := by
  induction a with
  | nil => rfl
  | cons m r ih => simp [encs, ih]
theorem stt_encs {l r : List Int} : ∀ (ms : List Nat) (p : Nat), (∀ m ∈ ms, m < 9223372036854775808) → l.drop p = encs ms ++ r →
    stt l (some p) ms.length = some (p + (encs ms).length) ∧ ∀ i m, ms[i]? = some m → nth l (some p) i = m := by
  have key : ∀ (i : Nat) (o : Option Nat), stt l (nx l o).2 i = stt l o (i + 1) := by
    intro i
    induction i with
    | zero => intro o; rfl
    | succ i ih => intro o; show (nx l (stt l (nx l o).2 i)).2 = _; rw [ih]; rfl
  intro ms
  induction ms with
  | nil => intro p _ _; exact ⟨rfl, fun i m h => by simp at h⟩
  | cons m ms ih =>
    intro p hb h
    have h0 : l.drop p = enc m ++ (encs ms ++ r) := by rw [h]; simp [encs]
    have hn := nx_enc (hb m (by simp)) h0
    have h1 : l.drop (p + (enc m).length) = encs ms ++ r := by rw [← List.drop_drop, h0, List.drop_left]
    obtain ⟨i1, i2⟩ := ih _ (fun x hx => hb x (by simp [hx])) h1
    refine ⟨?_, fun i m' hm => ?_⟩
    · show stt l (some p) (ms.length + 1) = _
      rw [← key, hn, i1]
      simp [encs, Nat.add_assoc]
    · cases i with
      | zero =>
        simp at hm
        subst hm
        show (nx l (some p)).1 = m
        rw [hn]
      | succ i =>
        simp at hm
        have := i2 i m' hm
        unfold nth at this ⊢
        rw [← key, hn]
        exact this

/-- 2^40 -/
def great : Nat := 1099511627776
/-- what a block's sector tells -/
def blk (Z : Nat) (l : List Int) : Nat × List Int :=
  let o := stt l (some 0) 1
  if endd l (tx l o).2 = true ∧ nth l (some 0) 0 ≤ 1000 ∧ (tx l o).1.length = Z then (nth l (some 0) 0, (tx l o).1) else (0, List.replicate Z 0)
/-- what a slot's sector tells -/
def slt (l : List Int) : Nat × Nat × Nat :=
  if endd l (stt l (some 0) 3) = true ∧ nth l (some 0) 0 ≤ great ∧ nth l (some 0) 1 ≤ great ∧ nth l (some 0) 2 ≤ 16 then (nth l (some 0) 0, nth l (some 0) 1, nth l (some 0) 2) else (0, 0, 0)
theorem blk_len (Z : Nat) (l : List Int) : (blk Z l).2.length = Z ∧ (blk Z l).1 ≤ 1000 := by
  unfold blk
  simp only
  split
  · rename_i h; exact ⟨h.2.2, h.2.1⟩
  · simp
theorem slt_bnd (l : List Int) : (slt l).1 ≤ great ∧ (slt l).2.1 ≤ great ∧ (slt l).2.2 ≤ 16 := by
  unfold slt
  split
  · rename_i h; exact h.2
  · simp
theorem blk_put (v : Nat) (t : List Int) (hv : v ≤ 1000) (ht : t.length ≤ 16) : blk t.length (enc v ++ (enc t.length ++ t)) = (v, t) := by
  obtain ⟨h1, h2⟩ := stt_encs (l := enc v ++ (enc t.length ++ t)) (r := enc t.length ++ t) [v] 0 (by intro m hm; simp at hm; omega) (by simp [encs])
  have h3 := h2 0 v rfl
  have h1' : stt (enc v ++ (enc t.length ++ t)) (some 0) 1 = some (enc v).length := by have := h1; simpa [encs] using this
  have h4 := tx_enc (l := enc v ++ (enc t.length ++ t)) (t := t) (r := []) (p := (enc v).length) ht (by rw [List.drop_left]; simp)
  unfold blk
  simp only
  rw [h1', h4, h3]
  rw [if_pos]
  refine ⟨?_, hv, rfl⟩
  simp [endd]
  omega
theorem slt_put (b o k : Nat) (hb : b ≤ great) (ho : o ≤ great) (hk : k ≤ 16) : slt (encs [b, o, k]) = (b, o, k) := by
  obtain ⟨h1, h2⟩ := stt_encs (l := encs [b, o, k]) (r := []) [b, o, k] 0 (by intro m hm; simp [great] at *; omega) (by simp)
  have e0 := h2 0 b rfl
  have e1 := h2 1 o rfl
  have e2 := h2 2 k rfl
  have h1' : stt (encs [b, o, k]) (some 0) 3 = some (encs [b, o, k]).length := by simpa using h1
  unfold slt
  rw [h1', e0, e1, e2, if_pos]
  exact ⟨by simp [endd], hb, ho, hk⟩
end Go.Proofs.Ytincndblpbdnlaa
