/-
  What is proved: what a stack of three levels is, as a list and levels by block, and what becomes of it when a block is used, moves, is dropped: what stays true of it. No program's function is in it.
-/
import Derived.Test.YtmkpimpckhppgaaPur10
namespace Go.Proofs.Ytmkpimpckhppgaa

/-- where the last one of the first n stands that has level l; -1: none has it -/
def ypN (v : Int → Int) (l : Int) (L : List Int) : Nat → Int
  | 0 => -1
  | n + 1 => if v (L.getD n 0) = l then (n : Int) else ypN v l L n
theorem ypN_lt (v : Int → Int) (l : Int) (L : List Int) : ∀ n : Nat, -1 ≤ ypN v l L n ∧ ypN v l L n < n
  | 0 => by simp [ypN]
  | n + 1 => by
    have := ypN_lt v l L n
    unfold ypN
    split <;> omega
theorem ypN_ge {v : Int → Int} {l : Int} {L : List Int} {q : Nat} (h : v (L.getD q 0) = l) : ∀ {n : Nat}, q < n → (q : Int) ≤ ypN v l L n
  | 0, hq => by omega
  | n + 1, hq => by
    unfold ypN
    split
    · omega
    · rename_i hn
      by_cases e : q = n
      · subst e; exact absurd h hn
      · exact ypN_ge h (by omega)
theorem ypN_at {v : Int → Int} {l : Int} {L : List Int} : ∀ {n : Nat}, 0 ≤ ypN v l L n → ∃ p : Nat, ypN v l L n = p ∧ p < n ∧ v (L.getD p 0) = l
  | 0, h => by simp [ypN] at h
  | n + 1, h => by
    unfold ypN at h ⊢
    split
    · rename_i hn
      exact ⟨n, rfl, by omega, hn⟩
    · rename_i hn
      rw [if_neg hn] at h
      obtain ⟨p, e, h1, h2⟩ := ypN_at h
      exact ⟨p, e, by omega, h2⟩
theorem ypN_no {v : Int → Int} {l : Int} {L : List Int} {n : Nat} (h : ypN v l L n < 0) {q : Nat} (hq : q < n) : v (L.getD q 0) ≠ l := fun e => by
  have := ypN_ge e hq
  omega
/-- where a block stands -/
def px (b : Int) : List Int → Nat
  | [] => 0
  | x :: l => if x = b then 0 else px b l + 1
theorem px_at {b : Int} : ∀ {L : List Int}, b ∈ L → L[px b L]? = some b
  | x :: l, h => by
    unfold px
    split
    · rename_i e; simp [e]
    · rename_i e
      rw [List.getElem?_cons_succ]
      exact px_at ((List.mem_cons.1 h).resolve_left fun e2 => e e2.symm)
theorem px_no {b : Int} : ∀ {L : List Int} {q : Nat}, q < px b L → L[q]? ≠ some b
  | [], q, h => by simp
  | x :: l, 0, h => by
    unfold px at h
    split at h
    · omega
    · rename_i e; simpa using e
  | x :: l, q + 1, h => by
    unfold px at h
    split at h
    · omega
    · rw [List.getElem?_cons_succ]
      exact px_no (by omega)
theorem px_lt {b : Int} {L : List Int} (h : b ∈ L) : px b L < L.length := (List.getElem?_eq_some_iff.1 (px_at h)).1
theorem px_head (b : Int) (l : List Int) : px b (b :: l) = 0 := if_pos rfl
theorem nd_idx {L : List Int} (hd : L.Nodup) {i j : Nat} {x : Int} (hi : L[i]? = some x) (hj : L[j]? = some x) : i = j := by
  obtain ⟨h1, e1⟩ := List.getElem?_eq_some_iff.1 hi
  obtain ⟨h2, e2⟩ := List.getElem?_eq_some_iff.1 hj
  exact (List.getElem_inj hd).1 (e1.trans e2.symm)
theorem px_of {L : List Int} (hd : L.Nodup) {j : Nat} {x : Int} (hj : L[j]? = some x) : px x L = j := nd_idx hd (px_at (List.mem_of_getElem? hj)) hj

/-- the blocks from the top down, the level by block (0: it isn't there) -/
structure Us where
  L : List Int
  v : Int → Int
namespace Us
/-- how many have a level; where its yardstick stands; which block that is -/
def ct (s : Us) (l : Int) : Nat := s.L.countP fun b => s.v b == l
def yp (s : Us) (l : Int) : Int := ypN s.v l s.L s.L.length
def yb (s : Us) (l : Int) : Int := s.L.getD (s.yp l).toNat 0
/-- a block that is used may have level l -/
def tk (c : Nat → Nat) (s : Us) (b : Int) (l : Nat) : Prop := if b ∈ s.L then (px b s.L : Int) ≤ s.yp l else s.ct l < c l
instance (c : Nat → Nat) (s : Us) (b : Int) (l : Nat) : Decidable (s.tk c b l) := by unfold tk; infer_instance
/-- its new level -/
def nx (c : Nat → Nat) (s : Us) (b : Int) : Nat := if s.tk c b 1 then 1 else if s.tk c b 2 then 2 else if s.tk c b 3 then 3 else 4
/-- on top, with a level -/
def pt (s : Us) (b l : Int) : Us := ⟨b :: wo b s.L, upd s.v b l⟩
/-- a block's level changes -/
def sv (s : Us) (b l : Int) : Us := ⟨s.L, upd s.v b l⟩
/-- yardsticks move, from level 4 - k on; who moved, from where -/
def stl (c : Nat → Nat) : Nat → Us → Us × List (Int × Nat)
  | 0, s => (s, [])
  | k + 1, s => if c (3 - k) < s.ct (3 - k : Nat) then ((stl c k (s.sv (s.yb (3 - k : Nat)) (3 - k + 1 : Nat))).1, (s.yb (3 - k : Nat), 3 - k) :: (stl c k (s.sv (s.yb (3 - k : Nat)) (3 - k + 1 : Nat))).2) else (s, [])
/-- a block is there no more -/
def fg (s : Us) (b : Int) : Us := ⟨wo b s.L, upd s.v b 0⟩
/-- those that are out go from the bottom -/
def tr : Nat → Us → Us
  | 0, s => s
  | n + 1, s => match s.L.getLast? with
    | none => s
    | some x => if s.v x = 4 then tr n (s.fg x) else s
def trm (s : Us) : Us := tr s.L.length s
/-- behind Use, its moves; behind Drop -/
def ust (c : Nat → Nat) (s : Us) (b : Int) : Us × List (Int × Nat) := stl c (4 - s.nx c b) (s.pt b (s.nx c b))
def us (c : Nat → Nat) (s : Us) (b : Int) : Us := (s.ust c b).1.trm
def dr (s : Us) (b : Int) : Us := if b ∈ s.L then (s.fg b).trm else s
end Us

/-- what is always true of one -/
structure Oku (s : Us) : Prop where
  nd : s.L.Nodup
  lt : ∀ b ∈ s.L, 0 ≤ b ∧ b < 64
  inn : ∀ b ∈ s.L, 1 ≤ s.v b ∧ s.v b ≤ 4
  out : ∀ b, b ∉ s.L → s.v b = 0
section
variable {s : Us} {c : Nat → Nat}
theorem Oku.len (h : Oku s) : s.L.length ≤ 64 := nodup_le 64 s.L h.nd h.lt
theorem Oku.new : Oku ⟨[], fun _ => 0⟩ := ⟨List.nodup_nil, (fun b h => by cases h), (fun b h => by cases h), fun _ _ => rfl⟩
theorem Oku.zero (h : Oku s) (b : Int) : s.v b = 0 ↔ b ∉ s.L := ⟨fun e hb => by have := h.inn b hb; omega, h.out b⟩
theorem Oku.pt (h : Oku s) {b l : Int} (hb : 0 ≤ b ∧ b < 64) (hl : 1 ≤ l ∧ l ≤ 4) : Oku (s.pt b l) where
  nd := List.nodup_cons.2 ⟨fun hm => (mem_wo.1 hm).2 rfl, wo_nodup h.nd⟩
  lt := fun x hx => by
    rcases List.mem_cons.1 hx with rfl | hx
    · exact hb
    · exact h.lt x (mem_wo.1 hx).1
  inn := fun x hx => by
    show 1 ≤ upd s.v b l x ∧ upd s.v b l x ≤ 4
    unfold upd
    split
    · exact hl
    · rename_i hne
      exact h.inn x (mem_wo.1 ((List.mem_cons.1 hx).resolve_left hne)).1
  out := fun x hx => by
    show upd s.v b l x = 0
    have h1 : x ≠ b := fun e => hx (by rw [e]; exact List.mem_cons_self)
    rw [upd_ne _ _ h1]
    exact h.out x fun hm => hx (List.mem_cons_of_mem _ (mem_wo.2 ⟨hm, h1⟩))
theorem Oku.sv (h : Oku s) {b l : Int} (hb : b ∈ s.L) (hl : 1 ≤ l ∧ l ≤ 4) : Oku (s.sv b l) where
  nd := h.nd
  lt := h.lt
  inn := fun x hx => by
    show 1 ≤ upd s.v b l x ∧ upd s.v b l x ≤ 4
    unfold upd
    split
    · exact hl
    · exact h.inn x hx
  out := fun x hx => by
    show upd s.v b l x = 0
    rw [upd_ne _ _ fun e => hx (by rw [e]; exact hb)]
    exact h.out x hx
theorem Oku.fg (h : Oku s) (b : Int) : Oku (s.fg b) where
  nd := wo_nodup h.nd
  lt := fun x hx => h.lt x (mem_wo.1 hx).1
  inn := fun x hx => by
    show 1 ≤ upd s.v b 0 x ∧ upd s.v b 0 x ≤ 4
    rw [upd_ne _ _ (mem_wo.1 hx).2]
    exact h.inn x (mem_wo.1 hx).1
  out := fun x hx => by
    show upd s.v b 0 x = 0
    unfold upd
    split
    · rfl
    · rename_i hne
      exact h.out x fun hm => hx (mem_wo.2 ⟨hm, hne⟩)
theorem wo_get_last : ∀ {l : List Int} (hn : l ≠ []), l.Nodup → wo (l.getLast hn) l = l.dropLast := by
  intro l hn hd
  have e := List.dropLast_concat_getLast hn
  have h2 : (l.dropLast ++ l.getLast hn :: []).Nodup := by rw [e]; exact hd
  have h3 := wo_split h2
  rw [e] at h3
  rw [h3, List.append_nil]
theorem last_mem {l : List Int} {x : Int} (h : l.getLast? = some x) : x ∈ l := List.mem_of_getLast? h
theorem last_wo {l : List Int} {x : Int} (h : l.getLast? = some x) (hd : l.Nodup) : wo x l = l.dropLast := by
  have hn : l ≠ [] := fun e => by rw [e] at h; cases h
  rw [List.getLast?_eq_some_getLast hn] at h
  injection h with h
  rw [← h]
  exact wo_get_last hn hd
theorem Oku.tr : ∀ {n : Nat} {s : Us}, Oku s → Oku (s.tr n)
  | 0, _, h => h
  | n + 1, s, h => by
    unfold Us.tr
    split
    · exact h
    · split
      · exact (h.fg _).tr
      · exact h
theorem Oku.trm (h : Oku s) : Oku s.trm := h.tr
/-- a yardstick is a block that has the level -/
theorem Us.yp_some {l : Int} (h : 0 ≤ s.yp l) : ∃ p : Nat, s.yp l = p ∧ p < s.L.length ∧ s.L[p]? = some (s.yb l) ∧ s.v (s.yb l) = l := by
  obtain ⟨p, e, h1, h2⟩ := ypN_at h
  have e2 : s.yb l = s.L.getD p 0 := by unfold Us.yb Us.yp; rw [e]; rfl
  have e3 : s.L[p]? = some (s.L.getD p 0) := by rw [List.getD_eq_getElem?_getD, List.getElem?_eq_getElem h1]; rfl
  exact ⟨p, e, h1, by rw [e2]; exact e3, by rw [e2]; exact h2⟩
theorem getD_of {L : List Int} {q : Nat} {x : Int} (h : L[q]? = some x) : L.getD q 0 = x := by rw [List.getD_eq_getElem?_getD, h]; rfl
theorem Us.yp_of {b l : Int} (hb : b ∈ s.L) (hv : s.v b = l) : (px b s.L : Int) ≤ s.yp l := ypN_ge (by rw [getD_of (px_at hb)]; exact hv) (px_lt hb)
theorem Us.yp_pos {b l : Int} (hb : b ∈ s.L) (hv : s.v b = l) : 0 ≤ s.yp l := by have := Us.yp_of hb hv; omega
theorem Us.ct_pos {l : Int} (h : 0 < s.ct l) : 0 ≤ s.yp l := by
  unfold Us.ct at h
  obtain ⟨b, hb, hv⟩ := List.countP_pos_iff.1 h
  exact Us.yp_pos hb (by simpa using hv)
theorem Us.yp_ct {l : Int} (h : 0 ≤ s.yp l) : 0 < s.ct l := by
  obtain ⟨p, -, -, h3, h4⟩ := Us.yp_some h
  unfold Us.ct
  exact List.countP_pos_iff.2 ⟨_, List.mem_of_getElem? h3, by simpa using h4⟩
theorem Us.yb_mem {l : Int} (h : 0 ≤ s.yp l) : s.yb l ∈ s.L ∧ s.v (s.yb l) = l := by
  obtain ⟨p, -, -, h3, h4⟩ := Us.yp_some h
  exact ⟨List.mem_of_getElem? h3, h4⟩
theorem Oku.stl : ∀ {k : Nat} {s : Us}, k ≤ 3 → Oku s → Oku (s.stl c k).1
  | 0, _, _, h => h
  | k + 1, s, hk, h => by
    unfold Us.stl
    split
    · rename_i hc
      exact Oku.stl (by omega) (h.sv (Us.yb_mem (Us.ct_pos (by omega))).1 (by omega))
    · exact h
theorem nx_le (s : Us) (b : Int) : 1 ≤ s.nx c b ∧ s.nx c b ≤ 4 := by
  unfold Us.nx
  split
  · omega
  · split
    · omega
    · split <;> omega
theorem nx_tk {b : Int} (h : s.nx c b ≤ 3) : s.tk c b (s.nx c b) := by
  unfold Us.nx at h ⊢
  by_cases h1 : s.tk c b 1
  · rw [if_pos h1]; exact h1
  · rw [if_neg h1] at h ⊢
    by_cases h2 : s.tk c b 2
    · rw [if_pos h2]; exact h2
    · rw [if_neg h2] at h ⊢
      by_cases h3 : s.tk c b 3
      · rw [if_pos h3]; exact h3
      · rw [if_neg h3] at h
        omega
theorem nx_min {b : Int} {l : Nat} (h1 : 1 ≤ l) (h3 : l ≤ 3) (h : s.tk c b l) : s.nx c b ≤ l := by
  unfold Us.nx
  by_cases g1 : s.tk c b 1
  · rw [if_pos g1]; omega
  · rw [if_neg g1]
    have e1 : l ≠ 1 := fun e => g1 (e ▸ h)
    by_cases g2 : s.tk c b 2
    · rw [if_pos g2]; omega
    · rw [if_neg g2]
      have e2 : l ≠ 2 := fun e => g2 (e ▸ h)
      have e3 : l = 3 := by omega
      rw [if_pos (e3 ▸ h)]
      omega
theorem Oku.ust (h : Oku s) {b : Int} (hb : 0 ≤ b ∧ b < 64) : Oku (s.ust c b).1 := by
  have := nx_le (c := c) s b
  exact Oku.stl (by omega) (h.pt hb (by omega))
theorem Oku.us (h : Oku s) {b : Int} (hb : 0 ≤ b ∧ b < 64) : Oku (s.us c b) := (h.ust hb).trm
theorem Oku.dr (h : Oku s) (b : Int) : Oku (s.dr b) := by
  unfold Us.dr
  split
  · exact (h.fg b).trm
  · exact h
end
end Go.Proofs.Ytmkpimpckhppgaa
