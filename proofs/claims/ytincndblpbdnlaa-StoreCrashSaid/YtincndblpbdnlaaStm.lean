/-
  What is proved: plain mathematics of the store: blocks and slots that sectors tell, what a write makes of them, wherever the disk goes down, and what opening does then. No program's function is in it. No condition.
-/
import Derived.Test.YtincndblpbdnlaaAdd
import Derived.Test.YtincndblpbdnlaaCmp
namespace Go.Proofs.Ytincndblpbdnlaa
open Go.RowKit

/-- a function but for one place -/
def upd {α : Type} (f : Nat → α) (i : Nat) (a : α) : Nat → α := fun j => if j = i then a else f j
theorem upd_self {α : Type} (f : Nat → α) (i : Nat) (a : α) : upd f i a i = a := if_pos rfl
theorem upd_ne {α : Type} (f : Nat → α) {i j : Nat} (a : α) (h : j ≠ i) : upd f i a j = f j := if_neg h

/-- versions and bytes of blocks; boots, numbers, answers of slots -/
structure RS where
  V : Nat → Nat
  T : Nat → List Int
  P : Nat → Nat
  O : Nat → Nat
  K : Nat → Nat
def RS.zero (Z : Nat) : RS := ⟨fun _ => 0, fun _ => List.replicate Z 0, fun _ => 0, fun _ => 0, fun _ => 0⟩
/-- the text of a sector -/
def sec (L : List (List Int)) (i : Nat) : List Int := L.getD i []
theorem sec_set {L : List (List Int)} {i : Nat} (hi : i < L.length) (l : List Int) (j : Nat) : sec (L.set i l) j = if j = i then l else sec L j := by
  unfold sec
  by_cases h : j = i
  · subst h; simp [List.getD, hi]
  · rw [if_neg h, List.getD, List.getD, List.getElem?_set_ne (fun e => h e.symm)]
theorem sec_some {L : List (List Int)} {i : Nat} (hi : i < L.length) : L[i]? = some (sec L i) := by
  unfold sec
  rw [List.getD, List.getElem?_eq_getElem hi]
  rfl
/-- sectors tell just these blocks and slots -/
structure Agr (sh : Sh) (L : List (List Int)) (X : RS) : Prop where
  b : ∀ k, k < sh.B → blk sh.Z (sec L (1 + k)) = (X.V k, X.T k)
  s : ∀ i, i < sh.S * sh.C → slt (sec L (1 + sh.B + i)) = (X.P i, X.O i, X.K i)
/-- what a newer write makes of them, and its answer -/
def RS.put (X : RS) (i b o k : Nat) (l : List Int) : RS × Nat :=
  if X.V k = 1000 then (⟨X.V, X.T, upd X.P i b, upd X.O i o, upd X.K i 11⟩, 11)
  else (⟨upd X.V k (X.V k + 1), upd X.T k l, upd X.P i b, upd X.O i o, upd X.K i 0⟩, 0)

/-! ### one write of a sector -/
theorem told_ok {L : List (List Int)} {f : Int} (hf : f ≠ 0) {i : Nat} {l : List Int} (hi : i < L.length) (hl : l.length ≤ 64) :
    St.told ⟨L, f, false⟩ i l = 0 ∧ St.write ⟨L, f, false⟩ i l = ⟨L.set i l, if 0 < f then f - 1 else f, false⟩ := by
  unfold St.told St.write St.burn
  simp only
  have h1 : ¬ ((i : Int) < 0 ∨ (L.length : Int) ≤ i) := by omega
  rw [if_neg (by simp), if_neg h1, if_neg (by omega), if_neg hf, if_neg (by simp), if_neg h1, if_neg (by omega), if_neg hf, if_neg hf]
  refine ⟨rfl, ?_⟩
  by_cases h : 0 < f
  · rw [if_pos h, if_pos h, Int.toNat_natCast]
  · rw [if_neg h, if_neg h, Int.toNat_natCast]
theorem told_stop {L : List (List Int)} {i : Nat} {l : List Int} (hi : i < L.length) (hl : l.length ≤ 64) :
    St.told ⟨L, 0, false⟩ i l = 8 ∧ St.write ⟨L, 0, false⟩ i l = ⟨L, 0, true⟩ := by
  unfold St.told St.write
  simp only
  have h1 : ¬ ((i : Int) < 0 ∨ (L.length : Int) ≤ i) := by omega
  rw [if_neg (by simp), if_neg h1, if_neg (by omega), if_pos trivial, if_neg (by simp), if_neg h1, if_neg (by omega), if_pos trivial]
  exact ⟨rfl, rfl⟩
theorem told_down (L : List (List Int)) (f : Int) (i : Int) (l : List Int) : St.told ⟨L, f, true⟩ i l = 8 ∧ St.write ⟨L, f, true⟩ i l = ⟨L, f, true⟩ := ⟨rfl, rfl⟩
theorem runs_ok (a : Nat → Nat) (g : Nat → List Int) (L : List (List Int)) (f : Int) (i : Nat) (r : List Nat) (hf : f ≠ 0) (hi : a i < L.length) (hl : (g i).length ≤ 64) :
    runs a g ⟨L, f, false⟩ (i :: r) = runs a g ⟨L.set (a i) (g i), if 0 < f then f - 1 else f, false⟩ r := by
  obtain ⟨h1, h2⟩ := told_ok hf hi hl
  show (if St.told ⟨L, f, false⟩ (a i : Nat) (g i) = 0 then _ else _) = _
  rw [h1, if_pos rfl, h2]
theorem runs_stop (a : Nat → Nat) (g : Nat → List Int) (L : List (List Int)) (i : Nat) (r : List Nat) (hi : a i < L.length) (hl : (g i).length ≤ 64) :
    runs a g ⟨L, 0, false⟩ (i :: r) = (⟨L, 0, true⟩, 8) := by
  obtain ⟨h1, h2⟩ := told_stop hi hl
  show (if St.told ⟨L, 0, false⟩ (a i : Nat) (g i) = 0 then _ else _) = _
  rw [h1, h2, if_neg (by omega)]
theorem runs_down (a : Nat → Nat) (g : Nat → List Int) (L : List (List Int)) (f : Int) (i : Nat) (r : List Nat) : runs a g ⟨L, f, true⟩ (i :: r) = (⟨L, f, true⟩, 8) := by
  show (if St.told ⟨L, f, true⟩ (a i : Nat) (g i) = 0 then _ else _) = _
  rw [(told_down L f (a i : Nat) (g i)).1, (told_down L f (a i : Nat) (g i)).2, if_neg (by omega)]

/-! ### the journal -/
theorem gnum_nil (p : Nat) : gnum [] p = none := by
  unfold gnum
  rw [List.drop_nil]
  rfl
theorem nx_nil (o : Option Nat) : nx [] o = (0, none) := by
  cases o with
  | none => rfl
  | some p => simp only [nx, gnum_nil]
theorem stt_nil (o : Option Nat) (i : Nat) : stt [] o (i + 1) = none := by
  show (nx [] _).2 = none
  rw [nx_nil]
theorem pok_nil (sh : Sh) : ¬ pok sh [] := by
  intro h
  have h1 := h.1
  unfold pnd at h1
  rw [stt_nil] at h1
  simp [tx, endd] at h1
theorem blk_nil (Z : Nat) : blk Z [] = (0, List.replicate Z 0) := by
  unfold blk
  simp only
  rw [stt_nil, if_neg]
  simp [tx, endd]
theorem slt_nil : slt [] = (0, 0, 0) := by
  unfold slt
  rw [stt_nil, if_neg]
  simp [endd]
theorem jrn {c t b o k v : Nat} {l : List Int} (h : ∀ m ∈ [c, t, b, o, k, v], m < 9223372036854775808) (hl : l.length ≤ 16) :
    (∀ i m, [c, t, b, o, k, v][i]? = some m → nth (pgs c t b o k v 0 l 0) (some 0) i = m) ∧ pnd (pgs c t b o k v 0 l 0) = (l, some (pgs c t b o k v 0 l 0).length) := by
  have e : pgs c t b o k v 0 l 0 = encs [c, t, b, o, k, v] ++ (enc l.length ++ l) := by simp only [pgs, List.append_assoc]
  rw [e]
  obtain ⟨h1, h2⟩ := stt_encs (l := encs [c, t, b, o, k, v] ++ (enc l.length ++ l)) (r := enc l.length ++ l) [c, t, b, o, k, v] 0 h (by simp)
  refine ⟨h2, ?_⟩
  have h1' : stt (encs [c, t, b, o, k, v] ++ (enc l.length ++ l)) (some 0) 6 = some (encs [c, t, b, o, k, v]).length := by simpa using h1
  have h4 := tx_enc (l := encs [c, t, b, o, k, v] ++ (enc l.length ++ l)) (t := l) (r := []) (p := (encs [c, t, b, o, k, v]).length) hl (by rw [List.drop_left]; simp)
  unfold pnd
  rw [h1', h4]
  simp [Nat.add_assoc]
theorem pok_jrn {sh : Sh} {c t b o k v : Nat} {l : List Int} (h : ∀ m ∈ [c, t, b, o, k, v], m < 9223372036854775808) (hl : l.length ≤ 16) (hz : l.length = sh.Z) (hk : k < sh.B) (hc : c < sh.C) (ht : t < sh.S) : pok sh (pgs c t b o k v 0 l 0) := by
  obtain ⟨h1, h2⟩ := jrn h hl
  unfold pok
  rw [h2, h1 4 k rfl, h1 0 c rfl, h1 1 t rfl]
  exact ⟨by simp [endd], hk, ⟨hc, ht⟩, hz⟩

/-! ### what sectors tell behind a write -/
/-- a write that fits a shape -/
structure Fit (sh : Sh) (c t b o k : Nat) (l : List Int) : Prop where
  ok : sh.ok
  k : k < sh.B
  z : l.length = sh.Z
  c : c < sh.C
  t : t < sh.S
  b : b ≤ great
  o : o ≤ great
section
variable {sh : Sh} {c t b o k : Nat} {l : List Int}
theorem Fit.i (h : Fit sh c t b o k l) : sh.S * c + t < sh.S * sh.C := by
  have h1 := h.c
  have h2 := h.t
  have h3 : sh.S * (c + 1) ≤ sh.S * sh.C := Nat.mul_le_mul_left _ h1
  rw [Nat.mul_add] at h3
  omega
theorem Fit.h16 (h : Fit sh c t b o k l) : l.length ≤ 16 := by have := h.ok.z; rw [h.z]; omega
theorem Fit.nums (h : Fit sh c t b o k l) {v : Nat} (hv : v ≤ 1000) : ∀ m ∈ [c, t, b, o, k, v], m < 9223372036854775808 := by
  obtain ⟨ok, h1, h2, h3, h4, h5, h6⟩ := h
  have := ok.b
  have := ok.c
  have := ok.s
  unfold great at h5 h6
  intro m hm
  simp at hm
  omega
theorem at_eq (sh : Sh) (c t : Nat) : sh.at_ c t = 1 + sh.B + (sh.S * c + t) := rfl
theorem top_eq (sh : Sh) : sh.at_ sh.C 0 = 1 + sh.B + sh.S * sh.C := rfl
theorem blk_pgs (h : Fit sh c t b o k l) {v : Nat} (hv : v ≤ 1000) (x : Nat) : blk sh.Z (pgs c t b o k v x l 1) = (v, l) := by
  have := blk_put v l hv h.h16
  rw [h.z] at this
  simpa [pgs, encs, h.z] using this
theorem slt_pgs (h : Fit sh c t b o k l) (v : Nat) {x : Nat} (hx : x ≤ 16) : slt (pgs c t b o k v x l 2) = (b, o, x) := slt_put b o x h.b h.o hx
theorem pgs_short (h : Fit sh c t b o k l) {v x : Nat} (hv : v ≤ 1000) (hx : x ≤ 16) (hy : Byt l) : ∀ i, i < 4 → (pgs c t b o k v x l i).length ≤ 64 := by
  have h1 := h.ok.b
  have h2 := h.ok.c
  have h3 := h.ok.s
  have := h.k
  have := h.c
  have := h.t
  have hb := h.b
  have ho := h.o
  intro i hi
  by_cases h0 : i = 0
  · subst h0
    exact (pgs_ok0 c t b o k v x l hy h.h16 (by omega) (by omega) (by omega) hb ho hv).1
  · unfold great at hb ho
    exact (pgs_ok c t b o k v x l hy h.h16 (by omega) (by omega) (by omega) (by omega) i (by omega) hi).1
/-- the block's sector and the slot's have been written -/
theorem Agr.put {L L' : List (List Int)} {X : RS} (h : Agr sh L X) (fit : Fit sh c t b o k l) (hv : X.V k ≠ 1000) (hle : X.V k ≤ 1000)
    (hs : ∀ j, 0 < j → sec L' j = if j = 1 + k then pgs c t b o k (X.V k + 1) 0 l 1 else if j = sh.at_ c t then pgs c t b o k (X.V k + 1) 0 l 2 else sec L j) : Agr sh L' (X.put (sh.S * c + t) b o k l).1 := by
  have e : (X.put (sh.S * c + t) b o k l).1 = ⟨upd X.V k (X.V k + 1), upd X.T k l, upd X.P (sh.S * c + t) b, upd X.O (sh.S * c + t) o, upd X.K (sh.S * c + t) 0⟩ := by unfold RS.put; rw [if_neg hv]
  rw [e]
  have hk := fit.k
  refine ⟨fun j hj => ?_, fun i hi => ?_⟩
  · rw [hs (1 + j) (by omega)]
    by_cases hjk : j = k
    · subst hjk
      rw [if_pos rfl, blk_pgs fit (by omega)]
      simp only [upd_self]
    · rw [if_neg (by omega), if_neg (by rw [at_eq]; omega), h.b j hj]
      simp only [upd_ne _ _ hjk]
  · rw [hs _ (by omega), if_neg (by omega)]
    by_cases hik : i = sh.S * c + t
    · subst hik
      rw [if_pos (at_eq sh c t).symm, slt_pgs fit _ (by omega)]
      simp only [upd_self]
    · rw [if_neg (by rw [at_eq]; omega), h.s i hi]
      simp only [upd_ne _ _ hik]
theorem Agr.last {L L' : List (List Int)} {X : RS} (h : Agr sh L X) (fit : Fit sh c t b o k l) (hv : X.V k = 1000)
    (hs : ∀ j, 0 < j → sec L' j = if j = sh.at_ c t then pgs c t b o k 0 11 l 2 else sec L j) : Agr sh L' (X.put (sh.S * c + t) b o k l).1 := by
  have e : (X.put (sh.S * c + t) b o k l).1 = ⟨X.V, X.T, upd X.P (sh.S * c + t) b, upd X.O (sh.S * c + t) o, upd X.K (sh.S * c + t) 11⟩ := by unfold RS.put; rw [if_pos hv]
  rw [e]
  refine ⟨fun j hj => ?_, fun i hi => ?_⟩
  · rw [hs (1 + j) (by omega), if_neg (by rw [at_eq]; omega), h.b j hj]
  · rw [hs _ (by omega)]
    by_cases hik : i = sh.S * c + t
    · subst hik
      rw [if_pos (at_eq sh c t).symm, slt_pgs fit _ (by omega)]
      simp only [upd_self]
    · rw [if_neg (by rw [at_eq]; omega), h.s i hi]
      simp only [upd_ne _ _ hik]
theorem Agr.same {L L' : List (List Int)} {X : RS} (h : Agr sh L X) (hs : ∀ j, 0 < j → sec L' j = sec L j) : Agr sh L' X :=
  ⟨fun j hj => by rw [hs _ (by omega)]; exact h.b j hj, fun i hi => by rw [hs _ (by omega)]; exact h.s i hi⟩
theorem Agr.le {L : List (List Int)} {X : RS} (h : Agr sh L X) {k : Nat} (hk : k < sh.B) : X.V k ≤ 1000 ∧ (X.T k).length = sh.Z := by
  have h1 := blk_len sh.Z (sec L (1 + k))
  rw [h.b k hk] at h1
  exact ⟨h1.2, h1.1⟩
theorem Agr.lt {L : List (List Int)} {X : RS} (h : Agr sh L X) {i : Nat} (hi : i < sh.S * sh.C) : X.P i ≤ great ∧ X.O i ≤ great ∧ X.K i ≤ 16 := by
  have h1 := slt_bnd (sec L (1 + sh.B + i))
  rw [h.s i hi] at h1
  exact h1
theorem agr_zero (sh : Sh) (n : Nat) : Agr sh (List.replicate n []) (RS.zero sh.Z) := by
  have e : ∀ j, sec (List.replicate n []) j = [] := fun j => by
    unfold sec
    rw [List.getD, List.getElem?_replicate]
    split <;> rfl
  exact ⟨fun k _ => by rw [e, blk_nil]; rfl, fun i _ => by rw [e, slt_nil]; rfl⟩
end
end Go.Proofs.Ytincndblpbdnlaa
