/-
  What is proved: who shares which block, as truths of clients and blocks: as bits of words, as a row of truths, who shares, what is shared, how many pairs there are. No program's function is in it.
-/
import Derived.Test.YtdpniggabidmbaaBase
namespace Go.Proofs.Ytdpniggabidmbaa
open Go.RowKit

/-- of each client and block: does it share it -/
abbrev DrS := Int → Int → Bool
/-- so many clients and blocks; nobody else shares, nothing else is shared -/
structure Dok (C B : Nat) (s : DrS) : Prop where
  c : 1 ≤ C ∧ C ≤ 4
  b : 1 ≤ B ∧ B ≤ 32
  inn : ∀ x y, s x y = true → 0 ≤ x ∧ x < C ∧ 0 ≤ y ∧ y < B
/-- is there such a client and block -/
def drIn (C B : Nat) (x y : Int) : Prop := 0 ≤ x ∧ x < C ∧ 0 ≤ y ∧ y < B
instance (C B : Nat) (x y : Int) : Decidable (drIn C B x y) := inferInstanceAs (Decidable (_ ∧ _ ∧ _ ∧ _))
def drSet (s : DrS) (x y : Int) (t : Bool) : DrS := fun a b => if a = x ∧ b = y then t else s a b
def drSum (f : Nat → Nat) : Nat → Nat
  | 0 => 0
  | n + 1 => drSum f n + f n
def drIdx (p : Int → Bool) : Nat → List Int
  | 0 => []
  | n + 1 => if p n then drIdx p n ++ [(n : Int)] else drIdx p n
/-- a block's word -/
def drWord (s : DrS) (y : Int) : Nat := (s 0 y).toNat + 2 * (s 1 y).toNat + 4 * (s 2 y).toNat + 8 * (s 3 y).toNat
def drSh (s : DrS) (y : Int) : List Int := drIdx (fun x => s x y) 4
def drOf (s : DrS) (x : Int) : List Int := drIdx (s x) 32
def drLen (s : DrS) : Nat := drSum (fun y => drSum (fun x => (s x y).toNat) 4) 32
/-- the client shares nothing any more -/
def drNo (s : DrS) (x : Int) : DrS := fun a b => if a = x then false else s a b
def drFg (s : DrS) (x : Int) (j : Nat) : DrS := fun a b => if a = x ∧ 0 ≤ b ∧ b < j then false else s a b
def drCl (s : DrS) (x : Int) (M : List Int) : DrS := fun a b => if a = x ∧ b ∈ M then false else s a b
abbrev dr0 : DrS := fun _ _ => false
/-- a directory's cells -/
def drCells (C B : Nat) (s : DrS) : Array Value := Array.ofFn (n := 34) fun i => if i.1 = 0 then .int .i64 C else if i.1 = 1 then .int .i64 B else .int .u64 (drWord s ((i.1 - 2 : Nat) : Int))
/-- the reference's truths -/
def drRow (C B : Nat) (s : DrS) : Array Value := Array.ofFn (n := C * B) fun i => .bool (s ((i.1 / B : Nat) : Int) ((i.1 % B : Nat) : Int))

section
variable {C B : Nat} {s : DrS}
theorem drIn_of (ok : Dok C B s) {x y : Int} (h : s x y = true) : drIn C B x y := ok.inn x y h
theorem dr_out (ok : Dok C B s) {x y : Int} (h : ¬ drIn C B x y) : s x y = false := by
  cases e : s x y
  · rfl
  · exact absurd (ok.inn x y e) h
theorem Dok.set (ok : Dok C B s) {x y : Int} (h : drIn C B x y) (t : Bool) : Dok C B (drSet s x y t) := by
  refine ⟨ok.c, ok.b, fun a b e => ?_⟩
  unfold drSet at e
  split at e
  · rename_i he; rw [he.1, he.2]; exact h
  · exact ok.inn a b e
theorem Dok.no (ok : Dok C B s) (x : Int) : Dok C B (drNo s x) := by
  refine ⟨ok.c, ok.b, fun a b e => ?_⟩
  unfold drNo at e
  split at e
  · cases e
  · exact ok.inn a b e
theorem Dok.fg (ok : Dok C B s) (x : Int) (j : Nat) : Dok C B (drFg s x j) := by
  refine ⟨ok.c, ok.b, fun a b e => ?_⟩
  unfold drFg at e
  split at e
  · cases e
  · exact ok.inn a b e
theorem Dok.cl (ok : Dok C B s) (x : Int) (M : List Int) : Dok C B (drCl s x M) := by
  refine ⟨ok.c, ok.b, fun a b e => ?_⟩
  unfold drCl at e
  split at e
  · cases e
  · exact ok.inn a b e
theorem Dok.new (hc : 1 ≤ C ∧ C ≤ 4) (hb : 1 ≤ B ∧ B ≤ 32) : Dok C B dr0 := ⟨hc, hb, fun _ _ e => by cases e⟩
theorem drSet_same {t : Bool} (s : DrS) (x y : Int) (h : s x y = t) : drSet s x y t = s := by
  funext a b
  unfold drSet
  split
  · rename_i he; rw [he.1, he.2]; exact h.symm
  · rfl
end
section
variable (s : DrS)
theorem drWord_lt (y : Int) : drWord s y < 16 := by
  unfold drWord
  cases s 0 y <;> cases s 1 y <;> cases s 2 y <;> cases s 3 y <;> decide
theorem drWord_far {x y b : Int} (t : Bool) (h : b ≠ y) : drWord (drSet s x y t) b = drWord s b := by
  unfold drWord drSet
  rw [if_neg (fun e => h e.2), if_neg (fun e => h e.2), if_neg (fun e => h e.2), if_neg (fun e => h e.2)]
theorem dr_and (y : Int) (x : Nat) (hx : x < 4) : (bits BinOp.and IntKind.u64 (drWord s y : Nat) ((2 ^ x : Nat) : Int) != 0) = s x y := by
  have h : x = 0 ∨ x = 1 ∨ x = 2 ∨ x = 3 := by omega
  unfold drWord
  rcases h with rfl | rfl | rfl | rfl
  · show _ = s 0 y
    cases s 0 y <;> cases s 1 y <;> cases s 2 y <;> cases s 3 y <;> decide
  · show _ = s 1 y
    cases s 0 y <;> cases s 1 y <;> cases s 2 y <;> cases s 3 y <;> decide
  · show _ = s 2 y
    cases s 0 y <;> cases s 1 y <;> cases s 2 y <;> cases s 3 y <;> decide
  · show _ = s 3 y
    cases s 0 y <;> cases s 1 y <;> cases s 2 y <;> cases s 3 y <;> decide
theorem dr_or (y : Int) (x : Nat) (hx : x < 4) : bits BinOp.or IntKind.u64 (drWord s y : Nat) ((2 ^ x : Nat) : Int) = (drWord (drSet s x y true) y : Nat) := by
  have h : x = 0 ∨ x = 1 ∨ x = 2 ∨ x = 3 := by omega
  unfold drWord drSet
  rcases h with rfl | rfl | rfl | rfl
  all_goals
    simp
    cases s 0 y <;> cases s 1 y <;> cases s 2 y <;> cases s 3 y <;> decide
theorem dr_andNot (y : Int) (x : Nat) (hx : x < 4) : bits BinOp.andNot IntKind.u64 (drWord s y : Nat) ((2 ^ x : Nat) : Int) = (drWord (drSet s x y false) y : Nat) := by
  have h : x = 0 ∨ x = 1 ∨ x = 2 ∨ x = 3 := by omega
  unfold drWord drSet
  rcases h with rfl | rfl | rfl | rfl
  all_goals
    simp
    cases s 0 y <;> cases s 1 y <;> cases s 2 y <;> cases s 3 y <;> decide
end
section
variable (C B : Nat) (s : DrS)
theorem drCells_size : (drCells C B s).size = 34 := by simp [drCells]
theorem drCells_0 : (drCells C B s)[0]? = some (.int .i64 C) := by simp [drCells]
theorem drCells_1 : (drCells C B s)[1]? = some (.int .i64 B) := by simp [drCells]
theorem drCells_y {y : Nat} (h : y < 32) : (drCells C B s)[2 + y]? = some (.int .u64 (drWord s y)) := by
  simp [drCells, show 2 + y < 34 from by omega, show ¬ 2 + y = 1 from by omega]
theorem drCells_set {y : Nat} (x : Int) (t : Bool) : (drCells C B s).setIfInBounds (2 + y) (.int .u64 (drWord (drSet s x y t) y)) = drCells C B (drSet s x y t) := by
  refine Array.ext (by simp [drCells]) fun j h1 h2 => ?_
  rw [Array.getElem_setIfInBounds (by simpa using h1)]
  simp only [drCells, Array.getElem_ofFn]
  by_cases h0 : j = 0
  · rw [if_neg (by omega), if_pos h0, if_pos h0]
  by_cases h1 : j = 1
  · rw [if_neg (by omega), if_neg h0, if_pos h1, if_neg h0, if_pos h1]
  rw [if_neg h0, if_neg h1, if_neg h0, if_neg h1]
  by_cases hp : 2 + y = j
  · rw [if_pos hp, show j - 2 = y from by omega]
  · rw [if_neg hp, drWord_far _ _ (show ((j - 2 : Nat) : Int) ≠ (y : Int) from by omega)]
theorem drRow_size : (drRow C B s).size = C * B := by simp [drRow]
theorem dr_place {x y : Nat} (hx : x < C) (hy : y < B) : x * B + y < C * B ∧ (x * B + y) / B = x ∧ (x * B + y) % B = y := by
  have h1 : (x + 1) * B ≤ C * B := Nat.mul_le_mul_right _ hx
  rw [Nat.add_mul] at h1
  refine ⟨by omega, ?_, ?_⟩
  · rw [Nat.mul_comm, Nat.mul_add_div (by omega), Nat.div_eq_of_lt hy]; rfl
  · rw [Nat.mul_comm, Nat.mul_add_mod, Nat.mod_eq_of_lt hy]
theorem drRow_at {x y : Nat} (hx : x < C) (hy : y < B) : (drRow C B s)[x * B + y]? = some (.bool (s x y)) := by
  obtain ⟨h1, h2, h3⟩ := dr_place C B hx hy
  rw [drRow, Array.getElem?_ofFn, dif_pos h1]
  simp only [h2, h3]
theorem drRow_i {i : Nat} (h : i < C * B) : (drRow C B s)[i]? = some (.bool (s ((i / B : Nat) : Int) ((i % B : Nat) : Int))) := by
  simp [drRow, h]
theorem drRow_set {x y : Nat} (hx : x < C) (hy : y < B) (t : Bool) : (drRow C B s).setIfInBounds (x * B + y) (.bool t) = drRow C B (drSet s x y t) := by
  obtain ⟨h1, h2, h3⟩ := dr_place C B hx hy
  refine Array.ext (by simp [drRow]) fun j k1 k2 => ?_
  rw [Array.getElem_setIfInBounds (by simpa using k1)]
  simp only [drRow, Array.getElem_ofFn]
  unfold drSet
  by_cases hp : x * B + y = j
  · rw [if_pos hp, ← hp, h2, h3, if_pos ⟨rfl, rfl⟩]
  · rw [if_neg hp, if_neg]
    intro e
    have e1 : j / B = x := by omega
    have e2 : j % B = y := by omega
    apply hp
    rw [← e1, ← e2, Nat.mul_comm]
    exact Nat.div_add_mod j B
theorem drRow_new : drRow C B dr0 = (List.replicate (C * B) (Value.bool false)).toArray := by
  refine Array.ext (by simp [drRow]) fun j k1 k2 => ?_
  simp [drRow]
end
section
variable {p q : Int → Bool} {n m : Nat}
theorem drIdx_ext : ∀ {n : Nat}, (∀ i : Nat, i < n → p i = q i) → drIdx p n = drIdx q n
  | 0, _ => rfl
  | n + 1, h => by
    unfold drIdx
    rw [h n (by omega), drIdx_ext fun i hi => h i (by omega)]
theorem drIdx_more : ∀ (k : Nat), (∀ i : Nat, n ≤ i → p i = false) → drIdx p (n + k) = drIdx p n
  | 0, _ => rfl
  | k + 1, h => by
    show drIdx p (n + k + 1) = _
    rw [drIdx, h (n + k) (by omega), if_neg (by simp), drIdx_more k h]
theorem drIdx_to (hm : n ≤ m) (h : ∀ i : Nat, n ≤ i → p i = false) : drIdx p m = drIdx p n := by
  have := drIdx_more (m - n) h
  rwa [show n + (m - n) = m from by omega] at this
theorem drIdx_yes (h : p n = true) : drIdx p (n + 1) = drIdx p n ++ [(n : Int)] := by rw [drIdx, if_pos h]
theorem drIdx_no (h : p n = false) : drIdx p (n + 1) = drIdx p n := by rw [drIdx, if_neg (by rw [h]; simp)]
theorem drIdx_len : ∀ n : Nat, (drIdx p n).length = drSum (fun i => (p i).toNat) n
  | 0 => rfl
  | n + 1 => by
    rw [drIdx, drSum, ← drIdx_len n]
    cases p n <;> simp
theorem drIdx_le : ∀ n : Nat, (drIdx p n).length ≤ n
  | 0 => Nat.le_refl _
  | n + 1 => by
    have := drIdx_le n
    rw [drIdx]
    split
    · rw [List.length_append]; simpa using this
    · omega
theorem drIdx_mem : ∀ {n : Nat} {b : Int}, b ∈ drIdx p n ↔ 0 ≤ b ∧ b < n ∧ p b = true
  | 0, b => by simp [drIdx]; omega
  | n + 1, b => by
    rw [drIdx]
    have ih := drIdx_mem (n := n) (b := b)
    split
    · rename_i hp
      rw [List.mem_append, ih, List.mem_singleton]
      constructor
      · rintro (h | rfl)
        · exact ⟨h.1, by omega, h.2.2⟩
        · exact ⟨by omega, by omega, hp⟩
      · rintro ⟨h1, h2, h3⟩
        by_cases e : b = n
        · exact .inr e
        · exact .inl ⟨h1, by omega, h3⟩
    · rename_i hp
      rw [ih]
      constructor
      · rintro h
        exact ⟨h.1, by omega, h.2.2⟩
      · rintro ⟨h1, h2, h3⟩
        refine ⟨h1, ?_, h3⟩
        by_cases e : b = n
        · subst e; exact absurd h3 hp
        · omega
theorem drSum_ext {f g : Nat → Nat} : ∀ {n : Nat}, (∀ i : Nat, i < n → f i = g i) → drSum f n = drSum g n
  | 0, _ => rfl
  | n + 1, h => by rw [drSum, drSum, h n (by omega), drSum_ext fun i hi => h i (by omega)]
theorem drSum_0 : ∀ n : Nat, drSum (fun _ => 0) n = 0
  | 0 => rfl
  | n + 1 => by rw [drSum, drSum_0 n]
theorem drSum_plus {f g : Nat → Nat} : ∀ n : Nat, drSum (fun i => f i + g i) n = drSum f n + drSum g n
  | 0 => rfl
  | n + 1 => by rw [drSum, drSum_plus n, drSum, drSum]; omega
theorem drSum_add {f : Nat → Nat} (n : Nat) : ∀ m : Nat, drSum f (n + m) = drSum f n + drSum (fun i => f (n + i)) m
  | 0 => rfl
  | m + 1 => by rw [← Nat.add_assoc, drSum, drSum_add n m, drSum]; omega
theorem drSum_to {f : Nat → Nat} (hm : n ≤ m) (h : ∀ i : Nat, n ≤ i → f i = 0) : drSum f m = drSum f n := by
  obtain ⟨k, rfl⟩ : ∃ k, m = n + k := ⟨m - n, by omega⟩
  rw [drSum_add, drSum_ext (g := fun _ => 0) fun i _ => h (n + i) (by omega), drSum_0, Nat.add_zero]
theorem drSum_swap (F : Nat → Nat → Nat) (n : Nat) : ∀ m : Nat, drSum (fun i => drSum (F i) m) n = drSum (fun j => drSum (fun i => F i j) n) m
  | 0 => drSum_0 n
  | m + 1 => by
    rw [drSum, ← drSum_swap F n m, ← drSum_plus]
    rfl
theorem drSum_grid (F : Nat → Nat → Nat) (B : Nat) (hB : 0 < B) : ∀ C : Nat, drSum (fun i => F (i / B) (i % B)) (C * B) = drSum (fun c => drSum (F c) B) C
  | 0 => by rw [Nat.zero_mul]; rfl
  | C + 1 => by
    rw [Nat.add_mul, Nat.one_mul, drSum_add, drSum_grid F B hB C, drSum]
    congr 1
    refine drSum_ext fun i hi => ?_
    show F ((C * B + i) / B) ((C * B + i) % B) = F C i
    rw [Nat.mul_comm C B, Nat.mul_add_div hB, Nat.div_eq_of_lt hi, Nat.mul_add_mod, Nat.mod_eq_of_lt hi]
    rfl
theorem drSum_le {f : Nat → Nat} {k : Nat} (h : ∀ i, f i ≤ k) : ∀ n : Nat, drSum f n ≤ n * k
  | 0 => Nat.zero_le _
  | n + 1 => by
    have := drSum_le h n
    have := h n
    rw [drSum, Nat.add_mul]
    omega
end
section
variable {C B : Nat} {s : DrS}
theorem drSh_ref (ok : Dok C B s) (y : Int) : drIdx (fun x => s x y) C = drSh s y :=
  (drIdx_to (p := fun x => s x y) ok.c.2 fun i hi => dr_out (x := (i : Int)) (y := y) ok fun h => by have := h.2.1; omega).symm
theorem drOf_ref (ok : Dok C B s) (x : Int) : drIdx (s x) B = drOf s x :=
  (drIdx_to (p := s x) ok.b.2 fun i hi => dr_out (x := x) (y := (i : Int)) ok fun h => by have := h.2.2.2; omega).symm
theorem drSh_le (s : DrS) (y : Int) : (drSh s y).length ≤ 4 := drIdx_le _
theorem drOf_le (s : DrS) (x : Int) : (drOf s x).length ≤ 32 := drIdx_le _
theorem toNat_le (b : Bool) : b.toNat ≤ 1 := by cases b <;> decide
theorem drLen_by (ok : Dok C B s) : drSum (fun y => (drSh s y).length) B = drLen s := by
  unfold drLen
  rw [drSum_to (n := B) (m := 32) ok.b.2 fun i hi => ?_]
  · exact drSum_ext fun i _ => drIdx_len 4
  · rw [drSum_ext (g := fun _ => 0) fun j _ => ?_, drSum_0]
    rw [dr_out ok fun h => by have := h.2.2.2; omega]; rfl
theorem drLen_of (ok : Dok C B s) : drSum (fun x => (drOf s x).length) C = drLen s := by
  unfold drLen
  rw [← drSum_swap (fun x y => (s x y).toNat) 4 32, drSum_to (n := C) (m := 4) ok.c.2 fun i hi => ?_]
  · exact drSum_ext fun i _ => drIdx_len 32
  · rw [drSum_ext (g := fun _ => 0) fun j _ => ?_, drSum_0]
    rw [dr_out ok fun h => by have := h.2.1; omega]; rfl
theorem drLen_ref (ok : Dok C B s) : drSum (fun i => (s ((i / B : Nat) : Int) ((i % B : Nat) : Int)).toNat) (C * B) = drLen s := by
  rw [drSum_grid (fun c b => (s c b).toNat) B (by have := ok.b; omega) C, ← drLen_of ok]
  refine drSum_ext fun i _ => ?_
  rw [← drOf_ref ok, drIdx_len]
theorem drLen_lt (s : DrS) : drLen s ≤ 128 := drSum_le (k := 4) (fun _ => drSum_le (k := 1) (fun _ => toNat_le _) 4) 32
theorem drFg_0 (s : DrS) (x : Int) : drFg s x 0 = s := by
  funext a b
  unfold drFg
  rw [if_neg]
  omega
theorem drFg_at (s : DrS) (x : Int) (j : Nat) : drFg s x j x j = s x j := by
  unfold drFg
  rw [if_neg]
  omega
theorem drFg_yes (s : DrS) (x : Int) (j : Nat) : drFg s x (j + 1) = drSet (drFg s x j) x j false := by
  funext a b
  show (if a = x ∧ 0 ≤ b ∧ b < ((j + 1 : Nat) : Int) then false else s a b) = if a = x ∧ b = j then false else if a = x ∧ 0 ≤ b ∧ b < (j : Int) then false else s a b
  by_cases h : a = x ∧ b = j
  · rw [if_pos h, if_pos ⟨h.1, by omega, by omega⟩]
  · rw [if_neg h]
    by_cases h2 : a = x ∧ 0 ≤ b ∧ b < j
    · rw [if_pos h2, if_pos ⟨h2.1, h2.2.1, by omega⟩]
    · rw [if_neg h2, if_neg]
      intro e
      by_cases e3 : b = j
      · exact h ⟨e.1, e3⟩
      · exact h2 ⟨e.1, e.2.1, by omega⟩
theorem drFg_no (s : DrS) (x : Int) (j : Nat) (h : s x j = false) : drFg s x (j + 1) = drFg s x j := by
  rw [drFg_yes]
  exact drSet_same _ _ _ (by rw [drFg_at]; exact h)
theorem drFg_end (ok : Dok C B s) (x : Int) : drFg s x 32 = drNo s x := by
  funext a b
  unfold drFg drNo
  by_cases h : a = x
  · rw [if_pos h]
    split
    · rfl
    · rename_i h2
      exact dr_out ok fun e => h2 ⟨h, e.2.2.1, by have := e.2.2.2; have := ok.b; omega⟩
  · rw [if_neg h, if_neg fun e => h e.1]
theorem drCl_nil (s : DrS) (x : Int) : drCl s x [] = s := by
  funext a b
  unfold drCl
  rw [if_neg]
  simp
theorem drCl_step (s : DrS) (x : Int) {l : List Int} {j : Nat} (hj : j < l.length) : drCl s x (l.take (j + 1)) = drSet (drCl s x (l.take j)) x l[j] false := by
  funext a b
  show (if a = x ∧ b ∈ l.take (j + 1) then false else s a b) = if a = x ∧ b = l[j] then false else if a = x ∧ b ∈ l.take j then false else s a b
  rw [List.take_succ_eq_append_getElem hj]
  by_cases h : a = x ∧ b = l[j]
  · rw [if_pos h, if_pos ⟨h.1, List.mem_append_right _ (by rw [h.2]; exact List.mem_singleton.2 rfl)⟩]
  · rw [if_neg h]
    by_cases h2 : a = x ∧ b ∈ l.take j
    · rw [if_pos h2, if_pos ⟨h2.1, List.mem_append_left _ h2.2⟩]
    · rw [if_neg h2, if_neg]
      intro e
      rcases List.mem_append.1 e.2 with e2 | e2
      · exact h2 ⟨e.1, e2⟩
      · exact h ⟨e.1, by simpa using e2⟩
theorem drCl_end (ok : Dok C B s) (x : Int) : drCl s x (drOf s x) = drNo s x := by
  funext a b
  unfold drCl drNo
  by_cases h : a = x
  · rw [if_pos h]
    split
    · rfl
    · rename_i h2
      cases e : s a b
      · rfl
      · have h3 := ok.inn a b e
        exact absurd ⟨h, drIdx_mem.2 ⟨h3.2.2.1, by have := ok.b; omega, by rw [← h]; exact e⟩⟩ h2
  · rw [if_neg h, if_neg fun e => h e.1]
theorem drOf_no (s : DrS) (x : Int) : drOf (drNo s x) x = [] := by
  unfold drOf
  rw [drIdx_to (n := 0) (m := 32) (by omega) fun i _ => by unfold drNo; rw [if_pos rfl]]
  rfl
theorem drOf_far (s : DrS) {x z : Int} (h : z ≠ x) : drOf (drNo s x) z = drOf s z := by
  unfold drOf
  exact drIdx_ext fun i _ => by unfold drNo; rw [if_neg h]
theorem drOf_at (ok : Dok C B s) {x b : Int} (h : b ∈ drOf s x) : drIn C B x b := ok.inn x b (drIdx_mem.1 h).2.2
end
end Go.Proofs.Ytdpniggabidmbaa
