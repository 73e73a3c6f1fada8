/-
  What is proved: what an LRU in memory is (a block of two cells: its space, its capacity); New, Use, Add, Remove, Has, All, Len, of one that is there and of none. Condition: the LRU lies in memory as one.
  (Left out here, as nothing of this law reaches it: Lq, Lq.below, Lq.draws, Lq.step, Lq.chg, Lq.nd, Lq.vb, Lq.c0, Lq.c1, lru_new, lru_has, lru_has_nil, lru_all, lru_all_nil, lru_len, lru_len_nil, lru_use, lru_use_nil, lru_remove, lru_remove_nil, lru_add, lru_add_nil.) -/
import Derived.Test.YtlafhejnnilpmaaLk10
import Derived.Test.YtlafhejnnilpmaaAl10
import Derived.Test.YtlafhejnnilpmaaNw10
import Derived.Deep.RegionHeld3
import Derived.BigQuiet
namespace Go.Proofs.Ytlafhejnnilpmaa
open Go.RowKit

/-- the space's only list -/
theorem okp_one {L : List Int} {x : Int} : okp [L] 0 x ↔ vb x := by
  unfold okp isl
  simp
theorem putE_one (L : List Int) (x : Int) : putE [L] 0 x = if vb x then 0 else 3 := by
  unfold putE
  by_cases h : vb x
  · rw [if_pos h, if_pos (okp_one.2 h)]
  · rw [if_neg h, if_neg (fun e => h (okp_one.1 e))]
theorem front_one {L : List Int} {x : Int} (h : vb x) : frontS [L] 0 x = [x :: wo x L] := by
  unfold frontS
  rw [if_pos (okp_one.2 h)]
  rfl
theorem inS_one {L : List Int} {x : Int} : inS [L] x ↔ x ∈ L := by
  unfold inS
  constructor
  · rintro ⟨i, l, hi, hm⟩
    cases i with
    | zero => simp at hi; rw [hi]; exact hm
    | succ i => simp at hi
  · exact fun h => ⟨0, L, rfl, h⟩
theorem remE_one (L : List Int) (x : Int) (h : x ∈ L) (hv : vb x) : remE [L] x = 0 := by
  unfold remE
  rw [if_pos hv, dec_true (inS_one.2 h)]
  rfl
theorem wo_last : ∀ {l : List Int} (hn : l ≠ []), l.Nodup → wo (l.getLast hn) l = l.dropLast := by
  intro l hn hd
  have e := List.dropLast_concat_getLast hn
  have h2 : (l.dropLast ++ l.getLast hn :: []).Nodup := by rw [e]; exact hd
  have h3 := wo_split h2
  rw [e] at h3
  rw [h3, List.append_nil]






/-- which blocks of memory are an LRU's -/
def Lf (g k : Nat) (j : Nat) : Prop := j = g ∨ j = k
section
variable {w w' : World} {g k C : Nat} {L L' : List Int}








end
/-- a capacity, held within its bounds -/
def cp (m : Int) : Nat := (min (max m 1) 16).toNat
theorem cp_le (m : Int) : 1 ≤ cp m ∧ cp m ≤ 16 := by unfold cp; omega


















section
variable {w : World} {g k C : Nat} {L : List Int}






















































/-- behind Use -/
noncomputable def useL (x : Int) (L : List Int) : List Int := if dec (x ∈ L) then x :: wo x L else L



























































/-- behind Add: whether one goes, which one, what is there -/
def goes (C : Nat) (x : Int) (L : List Int) : Prop := vb x ∧ C < (x :: wo x L).length
instance (C : Nat) (x : Int) (L : List Int) : Decidable (goes C x L) := inferInstanceAs (Decidable (_ ∧ _))
def vict (C : Nat) (x : Int) (L : List Int) : Int := if goes C x L then (x :: wo x L).getLast (by simp) else 0
def addE (x : Int) : Int := if vb x then 0 else 3
def addL (C : Nat) (x : Int) (L : List Int) : List Int := if goes C x L then (x :: wo x L).dropLast else if vb x then x :: wo x L else L











































































end
end Go.Proofs.Ytlafhejnnilpmaa
