/-
  What is proved: nothing yet: what a slice is that reads as bytes. No condition on a program.
-/
import Derived.Test.YtbcejfonkehjgaaGreatDoorK10
import Derived.Test.YtbcejfonkehjgaaGreatDoorK31
import Derived.Test.YtbcejfonkehjgaaGreatDoorK28
import Derived.Test.YtbcejfonkehjgaaGreatDoorK02
import Derived.Laws.OwnMore
namespace Go.Proofs.YtbcejfonkehjgaaGreatDoor
open Go.RowKit

def Bs (w : World) (v : Value) (l : List Int) : Prop := ∃ A c, v = .slice A l.length c ∧ Rn w A l ∧ l.length ≤ c ∧ c ≤ maxLen
theorem Own.bs {w : World} {b : Nat} {v : Value} {l : List Int} (h : Own w b v l) : Bs w v l := h.shape
end Go.Proofs.YtbcejfonkehjgaaGreatDoor
namespace Go.Proofs.YtbcejfonkehjgaaGreatDoor
open Go.RowKit

instance (t : List Int) : Decidable (Good t) := by unfold Good; infer_instance
def gnum (l : List Int) (p : Nat) : Option (Nat × Nat) :=
  match scan 9 (l.drop p) with
  | some t => if Good t then some (val t, p + t.length) else none
  | none => none
def gtext (l : List Int) (p most : Nat) : Option (List Int × Nat) :=
  match gnum l p with
  | some (n, q) => if n > most then none else if n > l.length - q then none else some ((l.drop q).take n, q + n)
  | none => none

theorem gnum_enc {l r : List Int} {p m : Nat} (hm : m < 9223372036854775808) (h : l.drop p = enc m ++ r) : gnum l p = some (m, p + (enc m).length) := by
  unfold gnum
  rw [h, scan_enc 9 m r (by simp only [Nat.reducePow]; omega) (by omega)]
  simp only [if_pos (enc_good m), val_enc]
theorem gnum_bnd {l : List Int} {p n q : Nat} (hb : ∀ x ∈ l, 0 ≤ x ∧ x ≤ 255) (h : gnum l p = some (n, q)) : n < 9223372036854775808 ∧ q ≤ l.length ∧ p < q := by
  unfold gnum at h
  split at h
  · rename_i t ht
    split at h
    · rename_i hg
      injection h with h
      injection h with h1 h2
      obtain ⟨_, q2, _⟩ := scan_sound 9 _ t (fun x hx => hb x (List.mem_of_mem_drop hx)) ht hg
      obtain ⟨r, hr⟩ := scan_prefix 9 _ t ht
      have hl := congrArg List.length hr
      rw [List.length_drop, List.length_append] at hl
      have hne : t.length ≠ 0 := fun e => scan_ne ht (List.eq_nil_of_length_eq_zero e)
      have : val t < 9223372036854775808 := by simpa using q2
      omega
    · cases h
  · cases h
theorem gtext_bnd {l t : List Int} {p q most : Nat} (hb : ∀ x ∈ l, 0 ≤ x ∧ x ≤ 255) (h : gtext l p most = some (t, q)) : q ≤ l.length ∧ t.length ≤ most := by
  unfold gtext at h
  split at h
  · rename_i n q0 hg
    obtain ⟨_, h1, _⟩ := gnum_bnd hb hg
    split at h
    · cases h
    · split at h
      · cases h
      · injection h with h
        injection h with h1 h2
        subst h1 h2
        rw [List.length_take, List.length_drop]
        omega
  · cases h
theorem gtext_enc {l t r : List Int} {p most : Nat} (hm : t.length ≤ most) (hM : most ≤ 64) (h : l.drop p = enc t.length ++ (t ++ r)) : gtext l p most = some (t, p + (enc t.length).length + t.length) := by
  unfold gtext
  rw [gnum_enc (by omega) h]
  have hl := congrArg List.length h
  rw [List.length_drop, List.length_append, List.length_append] at hl
  have hne : 0 < (enc t.length).length := enc_len_pos _
  simp only
  rw [if_neg (by omega), if_neg (by omega), ← List.drop_drop, h, List.drop_left, List.take_left]

section
variable {A : Option Addr} {c : Nat} {l : List Int} {w : World}
theorem get_some {p n q : Nat} (hlen : l.length ≤ 1000000) (hp : p ≤ l.length) (hb : ∀ x ∈ l, 0 ≤ x ∧ x ≤ 255) (ra : Rn w A l) (h : gnum l p = some (n, q)) (L : Nat) (hL : l.length = L) :
    Calls Tryz.prog 140 #[.slice A L c, .int .i64 p] w fun e w' => e = .returned (.tuple #[.int .i64 n, .int .i64 q, .int .i64 0]) ∧ ∃ k, w' = w.drewN k := by
  subst hL
  refine (get_any A c p l w _ (by omega) hp hb ra).mono ?_
  unfold gnum at h
  rintro e w' ⟨⟨t, ht, hg, rfl⟩ | ⟨x, hx, hno, rfl⟩, hd⟩
  · rw [ht] at h
    simp only [if_pos hg] at h
    injection h with h
    injection h with h1 h2
    subst h1 h2
    exact ⟨rfl, hd⟩
  · split at h
    · rename_i t ht
      rw [if_neg (hno t ht)] at h
      cases h
    · cases h
theorem get_none {p : Nat} (hlen : l.length ≤ 1000000) (hp : p ≤ l.length) (hb : ∀ x ∈ l, 0 ≤ x ∧ x ≤ 255) (ra : Rn w A l) (h : gnum l p = none) (L : Nat) (hL : l.length = L) :
    Calls Tryz.prog 140 #[.slice A L c, .int .i64 p] w fun e w' => (∃ x : Int, x ≠ 0 ∧ e = .returned (.tuple #[.int .i64 0, .int .i64 0, .int .i64 x])) ∧ ∃ k, w' = w.drewN k := by
  subst hL
  refine (get_any A c p l w _ (by omega) hp hb ra).mono ?_
  unfold gnum at h
  rintro e w' ⟨⟨t, ht, hg, rfl⟩ | ⟨x, hx, hno, rfl⟩, hd⟩
  · rw [ht] at h
    simp only [if_pos hg] at h
    cases h
  · exact ⟨⟨x, hx, rfl⟩, hd⟩

set_option maxRecDepth 100000 in
set_option maxHeartbeats 800000 in
theorem gettext_some {p q : Nat} {t : List Int} (hlen : l.length ≤ 1000000) (hp : p ≤ l.length) (hLc : l.length ≤ c) (hb : ∀ x ∈ l, 0 ≤ x ∧ x ≤ 255) (ra : Rn w A l) (h : gtext l p 16 = some (t, q)) (L : Nat) (hL : l.length = L) :
    Calls Tryz.prog 141 #[.slice A L c, .int .i64 p, .int .i64 16] w fun e w' => ∃ v, e = .returned (.tuple #[v, .int .i64 q, .int .i64 0]) ∧ Own w' w.heap.size v t ∧ Below w.heap.size w w' := by
  unfold gtext at h
  split at h
  · rename_i n q0 hg
    obtain ⟨b1, b2, b3⟩ := gnum_bnd hb hg
    split at h
    · cases h
    · rename_i h16
      split at h
      · cases h
      · rename_i hl
        injection h with h
        injection h with e1 e2
        have ry : ∀ B, (n ≠ 0 → B = A.map (·.add q0)) → Rd w w.heap.size B t := by
          intro B hB
          rw [← e1]
          exact ra.cut q0 n B hB
        have ht : t.length = n := by rw [← e1, List.length_take, List.length_drop]; omega
        have HG := hid (get_some (c := c) hlen hp hb ra hg L hL)
        have RY := hid ry
        have HT := hid ht
        have HQ := hid e2
        rw [hL] at hlen hp b2 hLc hl
        have hn16 : n ≤ 16 := by omega
        have hql : q0 + n ≤ L := by omega
        clear ry ht e1 e2 hg h16 hl ra hb
        go_enter Tryz.func141, Tryz.ntmps141
        go_wp2_with fail
        refine HG.out.mono ?_
        rintro e w1 ⟨rfl, d, rfl⟩
        go_wp2_with fail
        all_goals
          refine (room_any _ _ _ 0 t _ w.heap.size HT.out (by omega) (by omega) (by omega) ((RY.out _ (by intro h; first | rfl | omega)).drewN d) (Nat.le_refl _)).mono ?_
          rintro e w2 ⟨v, rfl, hown, hbel⟩
          go_wp2
          go_ret3
          exact ⟨v, by have := HQ.out; simp; omega, hown, (below_drewN (Below.refl w.heap.size w) d).trans hbel⟩
  · cases h
set_option maxRecDepth 100000 in
set_option maxHeartbeats 800000 in
theorem gettext_none {p : Nat} (hlen : l.length ≤ 1000000) (hp : p ≤ l.length) (hb : ∀ x ∈ l, 0 ≤ x ∧ x ≤ 255) (ra : Rn w A l) (h : gtext l p 16 = none) (L : Nat) (hL : l.length = L) :
    Calls Tryz.prog 141 #[.slice A L c, .int .i64 p, .int .i64 16] w fun e w' => (∃ x : Int, x ≠ 0 ∧ e = .returned (.tuple #[.slice none 0 0, .int .i64 0, .int .i64 x])) ∧ ∃ k, w' = w.drewN k := by
  unfold gtext at h
  split at h
  · rename_i n q0 hg
    obtain ⟨b1, b2, b3⟩ := gnum_bnd hb hg
    have HG := hid (get_some (c := c) hlen hp hb ra hg L hL)
    rw [hL] at hlen hp b2
    split at h
    · rename_i h16
      clear hg ra hb h
      go_enter Tryz.func141, Tryz.ntmps141
      go_wp2_with fail
      refine HG.out.mono ?_
      rintro e w1 ⟨rfl, d, rfl⟩
      go_wp2_with fail
      all_goals
        go_ret3
        exact ⟨⟨4, by decide, rfl⟩, d, rfl⟩
    · rename_i h16
      split at h
      · rename_i hl
        rw [hL] at hl
        have h16' : n ≤ 16 := by omega
        have hl' : L < q0 + n := by omega
        clear hg ra hb h h16 hl
        go_enter Tryz.func141, Tryz.ntmps141
        go_wp2_with fail
        refine HG.out.mono ?_
        rintro e w1 ⟨rfl, d, rfl⟩
        go_wp2_with fail
        all_goals
          go_ret3
          exact ⟨⟨1, by decide, rfl⟩, d, rfl⟩
      · cases h
  · rename_i hg
    have HG := hid (get_none (c := c) hlen hp hb ra hg L hL)
    clear hg ra hb h
    go_enter Tryz.func141, Tryz.ntmps141
    go_wp2_with fail
    refine HG.out.mono ?_
    rintro e w1 ⟨⟨x, hx, rfl⟩, d, rfl⟩
    have hx1 : (x == 0) = false := by simpa using hx
    have hx2 : (x != 0) = true := by simpa using hx
    have HX := hid hx
    clear hx
    go_wp2_with fail
    all_goals
      go_ret3
      exact ⟨⟨x, HX.out, rfl⟩, d, rfl⟩
end
end Go.Proofs.YtbcejfonkehjgaaGreatDoor
namespace Go.Proofs.YtbcejfonkehjgaaGreatDoor

def Ok1 (l : List Int) : Prop := l.length ≤ 64 ∧ ∀ x ∈ l, 0 ≤ x ∧ x ≤ 255
def nx (l : List Int) : Option Nat → Nat × Option Nat
  | none => (0, none)
  | some p => match gnum l p with
    | none => (0, none)
    | some (n, q) => (n, some q)
def tx (l : List Int) : Option Nat → List Int × Option Nat
  | none => ([], none)
  | some p => match gtext l p 16 with
    | none => ([], none)
    | some (t, q) => (t, some q)
def stt (l : List Int) (o : Option Nat) : Nat → Option Nat
  | 0 => o
  | i + 1 => (nx l (stt l o i)).2
def nth (l : List Int) (o : Option Nat) (i : Nat) : Nat := (nx l (stt l o i)).1
def endd (l : List Int) (o : Option Nat) : Bool := decide (o = some l.length)

theorem nx_enc {l r : List Int} {p m : Nat} (hm : m < 9223372036854775808) (h : l.drop p = enc m ++ r) : nx l (some p) = (m, some (p + (enc m).length)) := by
  simp only [nx, gnum_enc hm h]
theorem tx_enc {l t r : List Int} {p : Nat} (hm : t.length ≤ 16) (h : l.drop p = enc t.length ++ (t ++ r)) : tx l (some p) = (t, some (p + (enc t.length).length + t.length)) := by
  simp only [tx, gtext_enc hm (by omega : 16 ≤ 64) h]
theorem nx_bnd {l : List Int} {o : Option Nat} (hb : Ok1 l) : (nx l o).1 < 9223372036854775808 ∧ ∀ q, (nx l o).2 = some q → q ≤ l.length := by
  cases o with
  | none => exact ⟨by simp [nx], fun q h => by cases h⟩
  | some p =>
    cases h : gnum l p with
    | none => simp [nx, h]
    | some nq =>
      obtain ⟨n, q⟩ := nq
      obtain ⟨h1, h2, _⟩ := gnum_bnd hb.2 h
      simp only [nx, h]
      exact ⟨h1, fun q' e => by cases e; exact h2⟩
theorem nth_bnd {l : List Int} {o : Option Nat} (hb : Ok1 l) (i : Nat) : nth l o i < 9223372036854775808 := (nx_bnd hb).1
theorem tx_bnd {l : List Int} {o : Option Nat} (hb : Ok1 l) : (∀ q, (tx l o).2 = some q → q ≤ l.length) ∧ (tx l o).1.length ≤ 16 := by
  cases o with
  | none => exact ⟨fun q h => (by cases h), by simp [tx]⟩
  | some p =>
    cases h : gtext l p 16 with
    | none => simp [tx, h]
    | some nq =>
      obtain ⟨n, q⟩ := nq
      obtain ⟨h1, h2⟩ := gtext_bnd hb.2 h
      simp only [tx, h]
      exact ⟨fun q' e => by cases e; exact h1, h2⟩
def encs : List Nat → List Int
  | [] => []
  | m :: r => enc m ++ encs r
theorem encs_append (a b : List Nat) : encs (a ++ b) = encs a ++ encs b := by
  induction a with
  | nil => rfl
  | cons m r ih => simp [encs, ih]
theorem stt_encs {l r : List Int} : ∀ (ms : List Nat) (p : Nat), (∀ m ∈ ms, m < 9223372036854775808) → l.drop p = encs ms ++ r →
    stt l (some p) ms.length = some (p + (encs ms).length) ∧ ∀ i m, ms[i]? = some m → nth l (some p) i = m := by
  have key : ∀ (i : Nat) (o : Option Nat), stt l (nx l o).2 i = stt l o (i + 1) := by
    intro i
    induction i with
    | zero => intro o; rfl
    | succ i ih => intro o; show (nx l (stt l (nx l o).2 i)).2 = _; rw [ih]; rfl
  intro ms
  induction ms with
  | nil => intro p _ _; exact ⟨rfl, fun i m h => by simp at h⟩
  | cons m ms ih =>
    intro p hb h
    have h0 : l.drop p = enc m ++ (encs ms ++ r) := by rw [h]; simp [encs]
    have hn := nx_enc (hb m (by simp)) h0
    have h1 : l.drop (p + (enc m).length) = encs ms ++ r := by rw [← List.drop_drop, h0, List.drop_left]
    obtain ⟨i1, i2⟩ := ih _ (fun x hx => hb x (by simp [hx])) h1
    refine ⟨?_, fun i m' hm => ?_⟩
    · show stt l (some p) (ms.length + 1) = _
      rw [← key, hn, i1]
      simp [encs, Nat.add_assoc]
    · cases i with
      | zero =>
        simp at hm
        subst hm
        show (nx l (some p)).1 = m
        rw [hn]
      | succ i =>
        simp at hm
        have := i2 i m' hm
        unfold nth at this ⊢
        rw [← key, hn]
        exact this

def great : Nat := 1099511627776
def blk (Z : Nat) (l : List Int) : Nat × List Int :=
  let o := stt l (some 0) 1
  if endd l (tx l o).2 = true ∧ nth l (some 0) 0 ≤ 1000 ∧ (tx l o).1.length = Z then (nth l (some 0) 0, (tx l o).1) else (0, List.replicate Z 0)
def slt (l : List Int) : Nat × Nat × Nat :=
  if endd l (stt l (some 0) 3) = true ∧ nth l (some 0) 0 ≤ great ∧ nth l (some 0) 1 ≤ great ∧ nth l (some 0) 2 ≤ 16 then (nth l (some 0) 0, nth l (some 0) 1, nth l (some 0) 2) else (0, 0, 0)
theorem blk_len (Z : Nat) (l : List Int) : (blk Z l).2.length = Z ∧ (blk Z l).1 ≤ 1000 := by
  unfold blk
  simp only
  split
  · rename_i h; exact ⟨h.2.2, h.2.1⟩
  · simp
theorem slt_bnd (l : List Int) : (slt l).1 ≤ great ∧ (slt l).2.1 ≤ great ∧ (slt l).2.2 ≤ 16 := by
  unfold slt
  split
  · rename_i h; exact h.2
  · simp
theorem blk_put (v : Nat) (t : List Int) (hv : v ≤ 1000) (ht : t.length ≤ 16) : blk t.length (enc v ++ (enc t.length ++ t)) = (v, t) := by
  obtain ⟨h1, h2⟩ := stt_encs (l := enc v ++ (enc t.length ++ t)) (r := enc t.length ++ t) [v] 0 (by intro m hm; simp at hm; omega) (by simp [encs])
  have h3 := h2 0 v rfl
  have h1' : stt (enc v ++ (enc t.length ++ t)) (some 0) 1 = some (enc v).length := by have := h1; simpa [encs] using this
  have h4 := tx_enc (l := enc v ++ (enc t.length ++ t)) (t := t) (r := []) (p := (enc v).length) ht (by rw [List.drop_left]; simp)
  unfold blk
  simp only
  rw [h1', h4, h3]
  rw [if_pos]
  refine ⟨?_, hv, rfl⟩
  simp [endd]
  omega
theorem slt_put (b o k : Nat) (hb : b ≤ great) (ho : o ≤ great) (hk : k ≤ 16) : slt (encs [b, o, k]) = (b, o, k) := by
  obtain ⟨h1, h2⟩ := stt_encs (l := encs [b, o, k]) (r := []) [b, o, k] 0 (by intro m hm; simp [great] at *; omega) (by simp)
  have e0 := h2 0 b rfl
  have e1 := h2 1 o rfl
  have e2 := h2 2 k rfl
  have h1' : stt (encs [b, o, k]) (some 0) 3 = some (encs [b, o, k]).length := by simpa using h1
  unfold slt
  rw [h1', e0, e1, e2, if_pos]
  exact ⟨by simp [endd], hb, ho, hk⟩
end Go.Proofs.YtbcejfonkehjgaaGreatDoor
namespace Go.Proofs.YtbcejfonkehjgaaGreatDoor
open Go.RowKit

theorem bs_nil (w : World) : Bs w (.slice none 0 0) [] := ⟨none, 0, rfl, Rd.nil _ _ _, Nat.le_refl _, by unfold maxLen; omega⟩
theorem Bs.one {w : World} {v : Value} {l : List Int} (h : Bs w v l) : v.oneCell' = true := by obtain ⟨A, c, rfl, _⟩ := h; rfl
theorem Bs.no8 {w : World} {v : Value} {l : List Int} (h : Bs w v l) (x : Int) : v ≠ .int .u8 x := by obtain ⟨A, c, rfl, _⟩ := h; intro e; cases e

def Stay (w w' : World) : Prop := ∀ p x, w.cell? p = some (.int .u8 x) → w'.cell? p = some (.int .u8 x)
section
variable {w w' w'' : World} {v : Value} {l : List Int}
theorem Stay.trans (h : Stay w w') (k : Stay w' w'') : Stay w w'' := fun p x e => k p x (h p x e)
theorem Stay.below (h : Below w.heap.size w w') : Stay w w' := fun _ _ e => (h.cell (World.block_lt_of_cell? w _ e)).trans e
theorem Stay.set (w : World) (a : Addr) (u : Value) (h : ∀ x, w.cell? a ≠ some (.int .u8 x)) : Stay w (w.setCell a u) := fun p x e => by
  rw [World.cell?_setCell_other _ _ _ _ (by intro q; subst q; exact h x e)]
  exact e
theorem Bs.stay (h : Bs w v l) (k : Stay w w') (hs : w.heap.size ≤ w'.heap.size) : Bs w' v l := by
  obtain ⟨A, c, e, r, h1⟩ := h
  refine ⟨A, c, e, fun j x hx => ?_, h1⟩
  obtain ⟨ad, e2, hb, hc⟩ := r j x hx
  exact ⟨ad, e2, Nat.lt_of_lt_of_le hb hs, k _ _ hc⟩
theorem Bs.below (h : Bs w v l) (k : Below w.heap.size w w') : Bs w' v l := h.stay (Stay.below k) k.size
end

theorem cell_of_set (w : World) (a p : Addr) (u x : Value) (h : (w.setCell a u).cell? p = some x) (hx : u ≠ x) : w.cell? p = some x := by
  by_cases e : a = p
  · subst e
    cases hw : w.cell? a with
    | some y =>
      rw [World.cell?_setCell_same w a u hw] at h
      injection h with h
      exact absurd h hx
    | none =>
      exfalso
      simp only [World.setCell, World.cell?, Array.getElem?_modify] at h hw
      cases hh : w.heap[a.block]? with
      | none => simp [hh] at h
      | some o => cases o <;> simp_all
  · rwa [World.cell?_setCell_other _ _ _ _ e] at h
structure Only (w w' : World) (k : Nat) (v : Value) : Prop where
  os : w'.os = w.os
  tape : w'.tape = w.tape
  output : w'.output = w.output
  size : w.heap.size ≤ w'.heap.size
  block : ∀ j, j < w.heap.size → j ≠ k → some j ≠ v.ownBlock → w'.heap[j]? = w.heap[j]?
  stay : Stay w w'
  fr : ∀ g i A n c, v.ownBlock = some g → g < w.heap.size → w'.cell? ⟨g, i, none⟩ = some (.slice (some A) n c) → w.cell? ⟨g, i, none⟩ = some (.slice (some A) n c) ∨ w.heap.size ≤ A.block
section
variable {w w' w'' : World} {k : Nat} {v : Value}
theorem Only.refl (w : World) (k : Nat) (v : Value) : Only w w k v := ⟨rfl, rfl, rfl, Nat.le_refl _, fun _ _ _ _ => rfl, fun _ _ h => h, fun _ _ _ _ _ _ _ h => .inl h⟩
theorem Only.trans (h : Only w w' k v) (g : Only w' w'' k v) : Only w w'' k v :=
  ⟨g.os.trans h.os, g.tape.trans h.tape, g.output.trans h.output, Nat.le_trans h.size g.size, fun j h1 h2 h3 => (g.block j (Nat.lt_of_lt_of_le h1 h.size) h2 h3).trans (h.block j h1 h2 h3), h.stay.trans g.stay, fun q i A n c e hq hc => (g.fr q i A n c e (Nat.lt_of_lt_of_le hq h.size) hc).elim (h.fr q i A n c e hq) fun h4 => .inr (Nat.le_trans h.size h4)⟩
theorem Only.of (h : Below w.heap.size w w') (k : Nat) (v : Value) : Only w w' k v := ⟨h.os, h.tape, h.output, h.size, fun j h1 _ _ => h.block j h1, Stay.below h, fun _ _ _ _ _ _ hq hc => .inl ((h.cell (p := ⟨_, _, none⟩) hq).symm.trans hc)⟩
theorem Only.setK (w : World) (k i : Nat) (v u : Value) (h : ∀ x, w.cell? ⟨k, i, none⟩ ≠ some (.int .u8 x)) (hs : ∀ A n c, u ≠ .slice (some A) n c := by intro _ _ _ e; cases e) : Only w (w.setCell ⟨k, i, none⟩ u) k v :=
  ⟨rfl, rfl, rfl, by rw [setSize]; exact Nat.le_refl _, fun j _ h2 _ => Below.heap_setCell w ⟨k, i, none⟩ u j h2, Stay.set w _ u h, fun g q A n c _ _ hc => .inl (cell_of_set w _ _ u _ hc (hs A n c))⟩
theorem Only.setV {w0 : World} (w : World) (h0 : Below w0.heap.size w0 w) (k g i : Nat) (v u : Value) (hv : v.ownBlock = some g) (h : ∀ x, w.cell? ⟨g, i, none⟩ ≠ some (.int .u8 x)) (hu : ∀ A n c, u = .slice (some A) n c → w0.heap.size ≤ A.block) : Only w0 (w.setCell ⟨g, i, none⟩ u) k v :=
  ⟨h0.os, h0.tape, h0.output, by rw [setSize]; exact h0.size, fun j hj _ h3 => (Below.heap_setCell w ⟨g, i, none⟩ u j (fun e => h3 (by rw [hv, e]))).trans (h0.block j hj), (Stay.below h0).trans (Stay.set w _ u h), fun q j A n c _ hq hc => by
    by_cases e : u = .slice (some A) n c
    · exact .inr (hu A n c e)
    · exact .inl ((h0.cell (p := ⟨q, j, none⟩) hq).symm.trans (cell_of_set w _ _ u _ hc e))⟩
theorem Only.bel {B : Nat} (h : Only w w' k v) (hk : B ≤ k) (hv : ∀ g, v.ownBlock = some g → B ≤ g) (hB : B ≤ w.heap.size) : Below B w w' :=
  ⟨h.os, h.tape, h.output, h.size, fun j hj => h.block j (by omega) (by omega) (fun e => by have := hv j e.symm; omega)⟩
theorem Only.draws (h : Only w w' k v) (n : Nat) : Only w (w'.drewN n) k v := ⟨h.os, h.tape, h.output, h.size, h.block, h.stay, h.fr⟩
end

structure St where
  L : List (List Int)
  f : Int
  d : Bool

structure Dk (w : World) (T : TypeId) (b k : Nat) (v : Value) (s : St) : Prop where
  box : Bx w k T #[v, .int .i64 s.f, .bool s.d]
  low : b ≤ k
  row : ∃ us : List Value, OwnV w b 38 1 v s.L.length us ∧ ∀ (i : Nat) (l : List Int), s.L[i]? = some l → ∃ u, us[i]? = some u ∧ Bs w u l
  bnd : -9223372036854775808 ≤ s.f ∧ s.f ≤ 9223372036854775807
  ne : v.ownBlock ≠ some k

section
variable {w w' : World} {T : TypeId} {b k : Nat} {v : Value} {s : St}
theorem Dk.kept (h : Dk w T b k v s) (hs : w.heap.size ≤ w'.heap.size) (st : Stay w w') (hb : ∀ j, (j = k ∨ v.ownBlock = some j) → w'.heap[j]? = w.heap[j]?) : Dk w' T b k v s where
  box := (hb k (.inl rfl)).trans h.box
  low := h.low
  bnd := h.bnd
  ne := h.ne
  row := by
    obtain ⟨us, ho, hu⟩ := h.row
    refine ⟨us, ?_, fun i l e => by obtain ⟨u, e1, e2⟩ := hu i l e; exact ⟨u, e1, e2.stay st hs⟩⟩
    refine ⟨ho.1, ?_⟩
    rcases ho.2 with hn | ⟨g, cap, cur, hv, hb', hgg, rest⟩
    · exact .inl hn
    · exact .inr ⟨g, cap, cur, hv, hb', (hb g (.inr (by rw [hv]; rfl))).trans hgg, rest⟩
theorem Dk.rowLt (h : Dk w T b k v s) {g : Nat} (e : v.ownBlock = some g) : b ≤ g ∧ g < w.heap.size := by
  obtain ⟨us, ho, _⟩ := h.row
  exact World.ownsRow.lt ho g e
theorem Dk.lt (h : Dk w T b k v s) {j : Nat} (hj : j = k ∨ v.ownBlock = some j) : j < w.heap.size := by
  rcases hj with rfl | e
  · exact h.box.lt
  · exact (h.rowLt e).2
theorem Dk.below (h : Dk w T b k v s) (hb : Below w.heap.size w w') : Dk w' T b k v s :=
  h.kept hb.size (Stay.below hb) fun j hj => hb.block j (h.lt hj)
theorem Dk.other (h : Dk w T b k v s) {k' b' : Nat} {v' : Value} (ho : Only w w' k' v') (h1 : k < b') (h2 : ∀ g, v.ownBlock = some g → g < b') (h3 : b' ≤ k') (h4 : ∀ g, v'.ownBlock = some g → b' ≤ g) : Dk w' T b k v s :=
  h.kept ho.size ho.stay fun j hj => ho.block j (h.lt hj)
    (by
      rcases hj with rfl | e
      · omega
      · have := h2 _ e
        omega)
    (fun e' => by
      have := h4 _ e'.symm
      rcases hj with rfl | e
      · omega
      · have := h2 _ e; omega)
theorem Dk.onlyBel (h : Dk w T b k v s) (ho : Only w w' k v) (hB : b ≤ w.heap.size) : Below b w w' := ho.bel h.low (fun _ e => (h.rowLt e).1) hB
theorem Dk.draws (h : Dk w T b k v s) (n : Nat) : Dk (w.drewN n) T b k v s := ⟨h.box, h.low, h.row, h.bnd, h.ne⟩
theorem Dk.shape (h : Dk w T b k v s) : ∃ A c, v = .slice A s.L.length c ∧ s.L.length ≤ c ∧ c ≤ maxLen := by
  obtain ⟨us, ho, _⟩ := h.row
  obtain ⟨A, c, e, _, h1, h2⟩ := ho.read
  exact ⟨A, c, e, h1, h2⟩
theorem Dk.cells (h : Dk w T b k v s) : w.cell? ⟨k, 0, none⟩ = some v ∧ w.cell? ⟨k, 1, none⟩ = some (.int .i64 s.f) ∧ w.cell? ⟨k, 2, none⟩ = some (.bool s.d) ∧
    w.frozen? ⟨k, 0, none⟩ = false ∧ w.frozen? ⟨k, 1, none⟩ = false ∧ w.frozen? ⟨k, 2, none⟩ = false :=
  ⟨h.box.cell 0, h.box.cell 1, h.box.cell 2, h.box.free 0, h.box.free 1, h.box.free 2⟩
theorem Dk.sec (h : Dk w T b k v s) {i : Nat} {l : List Int} (e : s.L[i]? = some l) : ∃ g c u, v = .slice (some ⟨g, 0, none⟩) s.L.length c ∧ w.cell? ⟨g, i, none⟩ = some u ∧ w.frozen? ⟨g, i, none⟩ = false ∧ Bs w u l := by
  obtain ⟨us, ho, hu⟩ := h.row
  obtain ⟨u, e1, e2⟩ := hu i l e
  have hi : i < s.L.length := (List.getElem?_eq_some_iff.1 e).1
  obtain ⟨g, c, rfl, _, _⟩ := World.ownsRow.form ho (by omega)
  refine ⟨g, c, u, rfl, ?_, ?_, e2⟩
  · rw [World.ownsRow.cellAt ho i (by omega)]; exact e1
  · exact World.ownsRow.frozenAt ho i
theorem Dk.setF (h : Dk w T b k v s) (n : Int) (hn : -9223372036854775808 ≤ n ∧ n ≤ 9223372036854775807) : Dk (w.setCell ⟨k, 1, none⟩ (.int .i64 n)) T b k v { s with f := n } ∧ Only w (w.setCell ⟨k, 1, none⟩ (.int .i64 n)) k v := by
  have ho : Only w (w.setCell ⟨k, 1, none⟩ (.int .i64 n)) k v := Only.setK w k 1 v _ fun x e => by
    have e' := (h.box.cell 1).symm.trans e
    cases e'
  refine ⟨⟨h.box.set 1 (.int .i64 n), h.low, ?_, hn, h.ne⟩, ho⟩
  obtain ⟨us, hw, hu⟩ := h.row
  exact ⟨us, ownsRow_setCell_other' hw h.ne _, fun i l e => by obtain ⟨u, e1, e2⟩ := hu i l e; exact ⟨u, e1, e2.stay ho.stay ho.size⟩⟩
where ownsRow_setCell_other' {w : World} {base : Nat} {e : TypeId} {size : Nat} {v : Value} {n k i : Nat} {xs : List Value} (h : OwnV w base e size v n xs) (hne : v.ownBlock ≠ some k) (u : Value) : OwnV (w.setCell ⟨k, i, none⟩ u) base e size v n xs := by
        refine ⟨h.1, ?_⟩
        rcases h.2 with hn | ⟨g, cap, cur, hv, hb', hgg, rest⟩
        · exact .inl hn
        · exact .inr ⟨g, cap, cur, hv, hb', (Below.heap_setCell w ⟨k, i, none⟩ u g (fun e => hne (by rw [hv]; exact congrArg some e))).trans hgg, rest⟩
theorem Dk.setD (h : Dk w T b k v s) (n : Bool) : Dk (w.setCell ⟨k, 2, none⟩ (.bool n)) T b k v { s with d := n } ∧ Only w (w.setCell ⟨k, 2, none⟩ (.bool n)) k v := by
  have ho : Only w (w.setCell ⟨k, 2, none⟩ (.bool n)) k v := Only.setK w k 2 v _ fun x e => by
    have e' := (h.box.cell 2).symm.trans e
    cases e'
  refine ⟨⟨h.box.set 2 (.bool n), h.low, ?_, h.bnd, h.ne⟩, ho⟩
  obtain ⟨us, hw, hu⟩ := h.row
  exact ⟨us, Dk.setF.ownsRow_setCell_other' hw h.ne _, fun i l e => by obtain ⟨u, e1, e2⟩ := hu i l e; exact ⟨u, e1, e2.stay ho.stay ho.size⟩⟩
theorem Dk.setL {g n c : Nat} (h : Dk w T b k (.slice (some ⟨g, 0, none⟩) n c) s) {w0 : World} (h0 : Below w0.heap.size w0 w) (i : Nat) (u : Value) (l : List Int) (hi : i < s.L.length) (hu : Bs w u l) (hnew : ∀ A n c, u = .slice (some A) n c → w0.heap.size ≤ A.block) :
    Dk (w.setCell ⟨g, i, none⟩ u) T b k (.slice (some ⟨g, 0, none⟩) n c) { s with L := s.L.set i l } ∧ Only w0 (w.setCell ⟨g, i, none⟩ u) k (.slice (some ⟨g, 0, none⟩) n c) := by
  have hg : (Value.slice (some ⟨g, 0, none⟩) n c).ownBlock = some g := rfl
  have h8 : ∀ x, w.cell? ⟨g, i, none⟩ ≠ some (.int .u8 x) := fun x e => by
    obtain ⟨g', c', u', e1, e2, _, e4⟩ := h.sec (List.getElem?_eq_getElem hi)
    injection e1 with e1
    injection e1 with e1
    injection e1 with e1
    subst e1
    rw [e2] at e
    injection e with e
    exact e4.no8 x e
  have hst := Stay.set w ⟨g, i, none⟩ u h8
  have hsz : w.heap.size ≤ (w.setCell ⟨g, i, none⟩ u).heap.size := by rw [setSize]; exact Nat.le_refl _
  refine ⟨⟨h.box.far ⟨g, i, none⟩ u (fun e => h.ne (by rw [hg]; exact congrArg some e)), h.low, ?_, h.bnd, h.ne⟩, Only.setV w h0 k g i _ u hg h8 hnew⟩
  obtain ⟨us, hw, hus⟩ := h.row
  have hn : n = s.L.length := by
    obtain ⟨A, c', e, _⟩ := hw.read
    injection e
  subst hn
  refine ⟨us.set i u, ?_, fun j m e => ?_⟩
  · show OwnV _ _ _ _ _ (s.L.set i l).length _
    rw [List.length_set]
    exact (World.ownsRow.stored hw i u).1
  · have hl : us.length = s.L.length := by rw [hw.1, Nat.mul_one]
    have e' : (s.L.set i l)[j]? = some m := e
    by_cases hj : i = j
    · subst hj
      rw [List.getElem?_set_self hi] at e'
      injection e' with e'
      subst e'
      exact ⟨u, List.getElem?_set_self (by omega), hu.stay hst hsz⟩
    · rw [List.getElem?_set_ne hj] at e'
      obtain ⟨u', e1, e2⟩ := hus j m e'
      exact ⟨u', by rw [List.getElem?_set_ne hj]; exact e1, e2.stay hst hsz⟩
end
end Go.Proofs.YtbcejfonkehjgaaGreatDoor
