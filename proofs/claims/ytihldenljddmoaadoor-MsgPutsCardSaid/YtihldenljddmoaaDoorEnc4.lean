/-
  What is proved: plain facts on the bytes of a message: those of each field, of fields in a row; how many there are, that they are bytes. Nothing of the program's functions is in it. No condition.
-/
import Derived.Test.YtihldenljddmoaaDoorRight4
namespace Go.Proofs.YtihldenljddmoaaDoor
open Go.RowKit

/-- the bytes of a field -/
def fe (c : Nat → Int) (gr : Bool) (ds : List Int) : Nat → List Int
  | 9 => [bit gr]
  | 10 => enc ds.length ++ ds
  | f => enc (c f).toNat
def fes (c : Nat → Int) (gr : Bool) (ds : List Int) : List Nat → List Int
  | [] => []
  | f :: r => fe c gr ds f ++ fes c gr ds r
theorem fes_app (c : Nat → Int) (gr : Bool) (ds : List Int) : ∀ a b : List Nat, fes c gr ds (a ++ b) = fes c gr ds a ++ fes c gr ds b
  | [], _ => rfl
  | f :: r, b => by rw [List.cons_append, fes, fes_app c gr ds r b, fes, List.append_assoc]
theorem fes_snoc (c : Nat → Int) (gr : Bool) (ds : List Int) (l : List Nat) (q : Nat) (h : q < l.length) : fes c gr ds (l.take (q + 1)) = fes c gr ds (l.take q) ++ fe c gr ds (l[q]'h) := by
  rw [List.take_add_one, List.getElem?_eq_getElem h, fes_app]
  show _ ++ fes c gr ds [l[q]'h] = _
  rw [fes, fes, List.append_nil]
/-- a message's bytes -/
def fullM (c : Nat → Int) (gr : Bool) (ds : List Int) : List Int := enc (c 0).toNat ++ fes c gr ds (fl (mk (c 0).toNat) 1)

/-- a message's numbers are small enough -/
def SmallM (c : Nat → Int) (ds : List Int) : Prop := (1 ≤ c 0 ∧ c 0 ≤ 14) ∧ (∀ f, 1 ≤ f → f ≤ 8 → 0 ≤ c f ∧ c f ≤ 1099511627776) ∧ ds.length ≤ 64
theorem RightM.small {c : Nat → Int} {gr : Bool} {ds : List Int} (h : RightM c gr ds.length) : SmallM c ds := by
  have key : ∀ f, 1 ≤ f → f ≤ 10 → 0 ≤ me c gr ds.length f ∧ me c gr ds.length f ≤ mo f := fun f h1 h2 => by
    obtain ⟨a, b⟩ := h.2 f h1 h2
    have := mo_pos f h1 h2
    split at b <;> omega
  refine ⟨h.1, fun f h1 h2 => ?_, ?_⟩
  · obtain ⟨a, b⟩ := key f h1 (by omega)
    have := mo_pos f h1 (by omega)
    have e : me c gr ds.length f = c f := by
      match f, h2 with
      | 0, _ | 1, _ | 2, _ | 3, _ | 4, _ | 5, _ | 6, _ | 7, _ | 8, _ => rfl
      | n + 9, h => omega
    omega
  · obtain ⟨a, b⟩ := key 10 (by omega) (by omega)
    have b' : (ds.length : Int) ≤ 64 := b
    omega
theorem me8 (c : Nat → Int) (gr : Bool) (n f : Nat) (h : f ≤ 8) : me c gr n f = c f := by
  match f, h with
  | 0, _ | 1, _ | 2, _ | 3, _ | 4, _ | 5, _ | 6, _ | 7, _ | 8, _ => rfl
  | n + 9, h => omega
theorem fe_num (c : Nat → Int) (gr : Bool) (ds : List Int) (f : Nat) (h : f ≤ 8) : fe c gr ds f = enc (c f).toNat := by
  match f, h with
  | 0, _ | 1, _ | 2, _ | 3, _ | 4, _ | 5, _ | 6, _ | 7, _ | 8, _ => rfl
  | n + 9, h => omega
theorem fe_len {c : Nat → Int} {gr : Bool} {ds : List Int} (h : SmallM c ds) (f : Nat) (h1 : 1 ≤ f) (h2 : f ≤ 10) : (fe c gr ds f).length ≤ 73 := by
  by_cases a : f ≤ 8
  · rw [fe_num c gr ds f a]
    have := h.2.1 f h1 a
    have := enc_len9 (c f).toNat (by omega)
    omega
  · by_cases b : f = 9
    · subst b; simp [fe]
    · obtain rfl : f = 10 := by omega
      have := h.2.2
      have := enc_len9 ds.length (by omega)
      simp only [fe, List.length_append]
      omega
theorem fes_len {c : Nat → Int} {gr : Bool} {ds : List Int} (h : SmallM c ds) : ∀ l : List Nat, (∀ f ∈ l, 1 ≤ f ∧ f ≤ 10) → (fes c gr ds l).length ≤ l.length * 73
  | [], _ => Nat.zero_le _
  | f :: r, hl => by
    have h1 := fe_len (gr := gr) h f (hl f (by simp)).1 (hl f (by simp)).2
    have h2 := fes_len (gr := gr) h r fun g hg => hl g (by simp [hg])
    rw [fes, List.length_append, List.length_cons]
    omega
theorem fl_range (x : Nat) : ∀ f ∈ fl x 1, 1 ≤ f ∧ f ≤ 10 := fun f h => by
  have := (fl_mem x f).1 h
  omega
theorem fes_take_len {c : Nat → Int} {gr : Bool} {ds : List Int} (h : SmallM c ds) (x q : Nat) : (fes c gr ds ((fl x 1).take q)).length ≤ 730 := by
  have h1 := fes_len (gr := gr) h ((fl x 1).take q) fun f hf => fl_range x f (List.mem_of_mem_take hf)
  have h2 := fl_len10 x
  have h3 : ((fl x 1).take q).length ≤ 10 := by rw [List.length_take]; omega
  omega
theorem fes_all_len {c : Nat → Int} {gr : Bool} {ds : List Int} (h : SmallM c ds) (x : Nat) : (fes c gr ds (fl x 1)).length ≤ 730 := by
  have h1 := fes_len (gr := gr) h (fl x 1) (fl_range x)
  have h2 := fl_len10 x
  omega
theorem kind_enc {c : Nat → Int} (h : 1 ≤ c 0 ∧ c 0 ≤ 14) : enc (c 0).toNat = [c 0] := by
  rw [enc_small _ (by omega)]
  congr 1
  omega
theorem full_len {c : Nat → Int} {gr : Bool} {ds : List Int} (h : SmallM c ds) : (fullM c gr ds).length = 1 + (fes c gr ds (fl (mk (c 0).toNat) 1)).length := by
  unfold fullM
  rw [kind_enc h.1, List.length_append]
  rfl
theorem fe_byte {c : Nat → Int} {gr : Bool} {ds : List Int} (hd : ∀ x ∈ ds, 0 ≤ x ∧ x ≤ 255) (f : Nat) (h : f ≤ 10) : ∀ x ∈ fe c gr ds f, 0 ≤ x ∧ x ≤ 255 := by
  by_cases a : f ≤ 8
  · rw [fe_num c gr ds f a]; exact enc_byte _
  · by_cases b : f = 9
    · subst b
      intro x hx
      simp only [fe, List.mem_singleton] at hx
      subst hx
      cases gr <;> simp [bit]
    · obtain rfl : f = 10 := by omega
      intro x hx
      simp only [fe, List.mem_append] at hx
      rcases hx with hx | hx
      · exact enc_byte _ x hx
      · exact hd x hx
theorem fes_byte {c : Nat → Int} {gr : Bool} {ds : List Int} (hd : ∀ x ∈ ds, 0 ≤ x ∧ x ≤ 255) : ∀ l : List Nat, (∀ f ∈ l, 1 ≤ f ∧ f ≤ 10) → ∀ x ∈ fes c gr ds l, 0 ≤ x ∧ x ≤ 255
  | [], _, x, hx => by simp [fes] at hx
  | f :: r, hl, x, hx => by
    rw [fes, List.mem_append] at hx
    rcases hx with hx | hx
    · exact fe_byte hd f (hl f (by simp)).2 x hx
    · exact fes_byte hd r (fun g hg => hl g (by simp [hg])) x hx
theorem full_byte {c : Nat → Int} {gr : Bool} {ds : List Int} (hd : ∀ x ∈ ds, 0 ≤ x ∧ x ≤ 255) : ∀ x ∈ fullM c gr ds, 0 ≤ x ∧ x ≤ 255 := fun x hx => by
  unfold fullM at hx
  rcases List.mem_append.1 hx with h | h
  · exact enc_byte _ x h
  · exact fes_byte hd _ (fl_range _) x h
end Go.Proofs.YtihldenljddmoaaDoor
