/-
  What is proved: what queues with ghosts are, as lists, and what becomes of them when a block is placed, ages, goes, is forgotten, used, added: what stays true of them. No program's function is in it.
-/
import Derived.Test.YtlafhejnnilpmaaPur10
namespace Go.Proofs.Ytlafhejnnilpmaa

theorem gd_some {S : List (List Int)} {i : Nat} (h : i < S.length) : S[i]? = some (S.getD i []) := by
  rw [List.getD_eq_getElem?_getD, List.getElem?_eq_getElem h]; rfl
theorem gd_none {S : List (List Int)} {i : Nat} (h : S.length ≤ i) : S.getD i [] = [] := by
  rw [List.getD_eq_getElem?_getD, List.getElem?_eq_none h]; rfl
theorem gd_of {S : List (List Int)} {i : Nat} {l : List Int} (h : S[i]? = some l) : S.getD i [] = l := by
  rw [List.getD_eq_getElem?_getD, h]; rfl
theorem gd_wo (b : Int) (S : List (List Int)) (i : Nat) : (woS b S).getD i [] = wo b (S.getD i []) := by
  by_cases h : i < S.length
  · refine gd_of ?_
    unfold woS
    rw [List.getElem?_map, gd_some h]; rfl
  · rw [gd_none (S := S) (by omega), gd_none (S := woS b S) (by rw [woS_len]; omega)]; rfl
theorem gd_set {S : List (List Int)} {i : Nat} (l : List Int) (h : i < S.length) (j : Nat) : (S.set i l).getD j [] = if i = j then l else S.getD j [] := by
  by_cases e : i = j
  · subst e
    rw [if_pos rfl]
    exact gd_of (List.getElem?_set_self h)
  · rw [if_neg e, List.getD_eq_getElem?_getD, List.getElem?_set_ne e, List.getD_eq_getElem?_getD]
theorem gd_mem {S : List (List Int)} {i : Nat} {b : Int} (h : b ∈ S.getD i []) : i < S.length ∧ S[i]? = some (S.getD i []) := by
  by_cases hi : i < S.length
  · exact ⟨hi, gd_some hi⟩
  · rw [gd_none (by omega)] at h; cases h
theorem inS_gd {S : List (List Int)} {b : Int} : inS S b ↔ ∃ i, b ∈ S.getD i [] := by
  constructor
  · rintro ⟨i, l, hi, hb⟩
    exact ⟨i, by rw [gd_of hi]; exact hb⟩
  · rintro ⟨i, hb⟩
    exact ⟨i, _, (gd_mem hb).2, hb⟩
theorem Wf.same {S : List (List Int)} (h : Wf S) {i j : Nat} {b : Int} (hi : b ∈ S.getD i []) (hj : b ∈ S.getD j []) : i = j := h.one i j _ _ b (gd_mem hi).2 (gd_mem hj).2 hi hj
theorem Wf.ndg {S : List (List Int)} (h : Wf S) (i : Nat) : (S.getD i []).Nodup := by
  by_cases hi : i < S.length
  · exact h.nd i _ (gd_some hi)
  · rw [gd_none (by omega)]; simp
theorem Wf.ltg {S : List (List Int)} (h : Wf S) {i : Nat} {b : Int} (hi : b ∈ S.getD i []) : 0 ≤ b ∧ b < 64 := h.lt i _ b (gd_mem hi).2 hi

/-- the blocks of the first n lists, from the last list down -/
def alls (S : List (List Int)) : Nat → List Int
  | 0 => []
  | j + 1 => S.getD j [] ++ alls S j
theorem mem_alls {S : List (List Int)} {b : Int} : ∀ {n : Nat}, b ∈ alls S n ↔ ∃ i, i < n ∧ b ∈ S.getD i []
  | 0 => by simp [alls]
  | n + 1 => by
    unfold alls
    rw [List.mem_append, mem_alls]
    constructor
    · rintro (h | ⟨i, hi, h⟩)
      · exact ⟨n, by omega, h⟩
      · exact ⟨i, by omega, h⟩
    · rintro ⟨i, hi, h⟩
      by_cases e : i = n
      · subst e; exact .inl h
      · exact .inr ⟨i, by omega, h⟩
theorem alls_wo (b : Int) (S : List (List Int)) : ∀ n, alls (woS b S) n = wo b (alls S n)
  | 0 => rfl
  | n + 1 => by
    unfold alls
    rw [alls_wo b S n, gd_wo]
    unfold wo
    rw [List.filter_append]
theorem alls_len {S : List (List Int)} {i : Nat} (l : List Int) (h : i < S.length) : ∀ n, (alls (S.set i l) n).length + (if i < n then (S.getD i []).length else 0) = (alls S n).length + (if i < n then l.length else 0)
  | 0 => by simp [alls]
  | n + 1 => by
    have ih := alls_len l h n
    unfold alls
    rw [List.length_append, List.length_append, gd_set l h]
    by_cases e : i = n
    · subst e
      rw [if_neg (by omega), if_neg (by omega)] at ih
      rw [if_pos rfl, if_pos (by omega), if_pos (by omega)]
      omega
    · rw [if_neg e]
      by_cases e2 : i < n
      · rw [if_pos e2, if_pos e2] at ih
        rw [if_pos (by omega), if_pos (by omega)]
        omega
      · rw [if_neg e2, if_neg e2] at ih
        rw [if_neg (by omega), if_neg (by omega)]
        omega
theorem alls_nd {S : List (List Int)} (h : Wf S) : ∀ n, (alls S n).Nodup
  | 0 => by simp [alls]
  | n + 1 => by
    unfold alls
    rw [List.nodup_append]
    refine ⟨h.ndg n, alls_nd h n, fun a ha c hc e => ?_⟩
    subst e
    obtain ⟨i, hi, hm⟩ := mem_alls.1 hc
    have := h.same ha hm
    omega
theorem alls_up {S : List (List Int)} {n : Nat} : ∀ {k : Nat}, (∀ i, n ≤ i → i < n + k → S.getD i [] = []) → alls S (n + k) = alls S n
  | 0, _ => rfl
  | k + 1, h => by
    show S.getD (n + k) [] ++ alls S (n + k) = _
    rw [h (n + k) (by omega) (by omega), alls_up fun i h1 h2 => h i h1 (by omega)]; rfl
theorem wo_less {l : List Int} {b : Int} (hd : l.Nodup) (h : b ∈ l) : (wo b l).length + 1 = l.length := by
  obtain ⟨s, t, rfl⟩ := List.append_of_mem h
  rw [wo_split hd]
  simp
  omega

/-- the lists (the queues, the ghosts behind them), by the block how often it was used and when it expires, the time -/
structure Ms where
  S : List (List Int)
  o : Int → Int
  x : Int → Int
  t : Nat
namespace Ms
/-- placed -/
def pl (m : Ms) (L q : Nat) (b : Int) : Ms := { m with S := (woS b m.S).set q (b :: (woS b m.S).getD q []), x := upd m.x b (m.t + L) }
/-- one list ages -/
def ag1 (m : Ms) (L i : Nat) : Ms := match (m.S.getD i []).getLast? with
  | none => m
  | some b => if m.x b < m.t then m.pl L (i - 1) b else m
/-- the lists 1 .. i age -/
def ags (L : Nat) : Nat → Ms → Ms
  | 0, m => m
  | i + 1, m => (ags L i m).ag1 L (i + 1)
/-- time goes on, it was used once more -/
def bump (m : Ms) (b : Int) : Ms := { m with o := upd m.o b (m.o b + 1), t := m.t + 1 }
end Ms
/-- the queue of a block that was used n times -/
def qn (n : Int) (N : Nat) : Nat := min (Nat.log2 n.toNat) (N - 1)
namespace Ms
/-- used -/
def us (m : Ms) (N L : Nat) (b : Int) : Ms := ags L (N - 1) ((m.bump b).pl L (qn (m.o b + 1) N) b)
/-- neither there nor a ghost -/
def fo (m : Ms) (b : Int) : Ms := { m with S := woS b m.S, o := upd m.o b 0 }
/-- the ghosts with one more -/
def gg (m : Ms) (v : Int) : List Int := v :: (woS v m.S).getD 8 []
/-- a ghost, where there are too many then the eldest is forgotten -/
def ha (m : Ms) (H : Nat) (v : Int) : Ms :=
  if (m.gg v).length ≤ H then { m with S := (woS v m.S).set 8 (m.gg v) } else ({ m with S := (woS v m.S).set 8 (m.gg v) } : Ms).fo ((m.gg v).getLast (by simp [gg]))
/-- the blocks that are there -/
def al (m : Ms) : List Int := alls m.S 8
/-- the lowest queue that isn't empty, its last block -/
def vi (m : Ms) : Nat := m.S.findIdx (fun l => !l.isEmpty)
def vc (m : Ms) : Int := ((m.S.getD m.vi []).getLast?).getD 0
end Ms

/-- what is always true of them -/
structure Okm (C N L H : Nat) (m : Ms) : Prop where
  wf : Wf m.S
  len : m.S.length = 9
  c : 1 ≤ C ∧ C ≤ 16
  n : 1 ≤ N ∧ N ≤ 8
  l : 1 ≤ L ∧ L ≤ 100
  h : H ≤ 17
  emp : ∀ i, N ≤ i → i < 8 → m.S.getD i [] = []
  o0 : ∀ b, ¬ inS m.S b → m.o b = 0
  o1 : ∀ b, inS m.S b → 1 ≤ m.o b ∧ m.o b ≤ m.t
  lo : ∀ i b, i < 8 → b ∈ m.S.getD i [] → ((2 ^ i : Nat) : Int) ≤ m.o b
  cap : m.al.length ≤ C
  gh : (m.S.getD 8 []).length ≤ H
  x : ∀ b, 0 ≤ m.x b ∧ m.x b ≤ m.t + L
section
variable {C N L H : Nat} {m : Ms}
theorem Okm.new (hc : 1 ≤ C ∧ C ≤ 16) (hn : 1 ≤ N ∧ N ≤ 8) (hl : 1 ≤ L ∧ L ≤ 100) (hh : H ≤ 17) : Okm C N L H ⟨List.replicate 9 [], fun _ => 0, fun _ => 0, 0⟩ where
  wf := by
    have e : ∀ (i : Nat) l, (List.replicate 9 ([] : List Int))[i]? = some l → l = [] := fun i l hl => List.eq_of_mem_replicate (List.mem_of_getElem? hl)
    refine ⟨fun i l x hl hx => ?_, fun i l hl => ?_, fun i j l l' x hl _ hx => ?_⟩
    · rw [e i l hl] at hx; cases hx
    · rw [e i l hl]; simp
    · rw [e i l hl] at hx; cases hx
  len := rfl
  c := hc
  n := hn
  l := hl
  h := hh
  emp := fun i h1 h2 => by
    have : i = 1 ∨ i = 2 ∨ i = 3 ∨ i = 4 ∨ i = 5 ∨ i = 6 ∨ i = 7 := by omega
    rcases this with rfl | rfl | rfl | rfl | rfl | rfl | rfl <;> rfl
  o0 := fun _ _ => rfl
  o1 := fun b hb => by
    obtain ⟨i, l, hi, hm⟩ := hb
    rw [List.eq_of_mem_replicate (List.mem_of_getElem? hi)] at hm
    cases hm
  lo := fun i b _ hb => by
    have := List.eq_of_mem_replicate (List.mem_of_getElem? (gd_mem hb).2)
    rw [this] at hb
    cases hb
  cap := by show 0 ≤ C; omega
  gh := by show 0 ≤ H; omega
  x := fun b => ⟨Int.le_refl _, by show (0 : Int) ≤ 0 + _; omega⟩
theorem Okm.allsN (h : Okm C N L H m) : alls m.S N = m.al := by
  have := h.n
  have e := alls_up (S := m.S) (n := N) (k := 8 - N) fun i h1 h2 => h.emp i h1 (by omega)
  rw [show N + (8 - N) = 8 from by omega] at e
  exact e.symm
theorem Okm.there (h : Okm C N L H m) {b : Int} (hb : b ∈ m.al) : ∃ i, i < N ∧ b ∈ m.S.getD i [] := by
  rw [← h.allsN] at hb
  exact mem_alls.1 hb
theorem Okm.in_al (_ : Okm C N L H m) {b : Int} (hb : b ∈ m.al) : inS m.S b := by
  obtain ⟨i, _, hi⟩ := mem_alls.1 hb
  exact inS_gd.2 ⟨i, hi⟩
theorem Okm.lt (h : Okm C N L H m) {b : Int} (hb : inS m.S b) : 0 ≤ b ∧ b < 64 := by
  obtain ⟨i, hi⟩ := inS_gd.1 hb
  exact h.wf.ltg hi
theorem Okm.split (h : Okm C N L H m) {b : Int} : inS m.S b ↔ b ∈ m.al ∨ b ∈ m.S.getD 8 [] := by
  rw [inS_gd]
  constructor
  · rintro ⟨i, hi⟩
    have := (gd_mem hi).1
    rw [h.len] at this
    by_cases e : i = 8
    · subst e; exact .inr hi
    · exact .inl (mem_alls.2 ⟨i, by omega, hi⟩)
  · rintro (hb | hb)
    · obtain ⟨i, _, hi⟩ := mem_alls.1 hb
      exact ⟨i, hi⟩
    · exact ⟨8, hb⟩
/-- placed, used once more or not -/
theorem Okm.pl (h : Okm C N L H m) {o' : Int → Int} {t' q : Nat} {b : Int} (hb : 0 ≤ b ∧ b < 64) (hq : q < N) (ho : ∀ c, c ≠ b → o' c = m.o c) (ht : m.t ≤ t')
    (h1 : 1 ≤ o' b ∧ o' b ≤ t') (h3 : ((2 ^ q : Nat) : Int) ≤ o' b) (hc : b ∈ m.al ∨ m.al.length < C) : Okm C N L H (({ m with o := o', t := t' } : Ms).pl L q b) := by
  have hn := h.n
  have hlen := h.len
  have hl1 : (woS b m.S).length = 9 := by rw [woS_len]; exact hlen
  have hq9 : q < (woS b m.S).length := by omega
  have gd : ∀ j, ((woS b m.S).set q (b :: (woS b m.S).getD q [])).getD j [] = if q = j then b :: wo b (m.S.getD q []) else wo b (m.S.getD j []) := fun j => by
    rw [gd_set _ hq9, gd_wo, gd_wo]
  have mem : ∀ j c, c ∈ ((woS b m.S).set q (b :: (woS b m.S).getD q [])).getD j [] ↔ (q = j ∧ c = b) ∨ (c ≠ b ∧ c ∈ m.S.getD j []) := fun j c => by
    rw [gd]
    by_cases e : q = j
    · subst e
      rw [if_pos rfl, List.mem_cons, mem_wo]
      constructor
      · rintro (rfl | ⟨h1, h2⟩)
        · exact .inl ⟨rfl, rfl⟩
        · exact .inr ⟨h2, h1⟩
      · rintro (⟨_, rfl⟩ | ⟨h1, h2⟩)
        · exact .inl rfl
        · exact .inr ⟨h2, h1⟩
    · rw [if_neg e, mem_wo]
      constructor
      · rintro ⟨h1, h2⟩; exact .inr ⟨h2, h1⟩
      · rintro (⟨h1, _⟩ | ⟨h1, h2⟩)
        · exact absurd h1 e
        · exact ⟨h2, h1⟩
  have mi : ∀ c, inS ((woS b m.S).set q (b :: (woS b m.S).getD q [])) c ↔ c = b ∨ inS m.S c := fun c => by
    rw [inS_gd, inS_gd]
    constructor
    · rintro ⟨j, hj⟩
      rcases (mem j c).1 hj with ⟨_, e⟩ | ⟨_, e⟩
      · exact .inl e
      · exact .inr ⟨j, e⟩
    · rintro (rfl | ⟨j, hj⟩)
      · exact ⟨q, (mem q c).2 (.inl ⟨rfl, rfl⟩)⟩
      · by_cases e : c = b
        · subst e; exact ⟨q, (mem q c).2 (.inl ⟨rfl, rfl⟩)⟩
        · exact ⟨j, (mem j c).2 (.inr ⟨e, hj⟩)⟩
  refine ⟨?_, ?_, h.c, h.n, h.l, h.h, ?_, ?_, ?_, ?_, ?_, ?_, ?_⟩
  · refine (h.wf.wo b).put hb (woS_not b m.S) (gd_some hq9) (fun x => by rw [List.mem_cons]) (List.nodup_cons.2 ⟨?_, ?_⟩)
    · rw [gd_wo]; exact fun hm => (mem_wo.1 hm).2 rfl
    · rw [gd_wo]; exact wo_nodup (h.wf.ndg q)
  · show ((woS b m.S).set q _).length = 9
    rw [List.length_set]; exact hl1
  · intro i h1 h2
    show ((woS b m.S).set q (b :: (woS b m.S).getD q [])).getD i [] = []
    rw [gd, if_neg (by omega), h.emp i h1 h2]; rfl
  · intro c hn
    have hn2 : ¬ (c = b ∨ inS m.S c) := fun e => hn ((mi c).2 e)
    show o' c = 0
    rw [ho c fun e => hn2 (.inl e)]
    exact h.o0 c fun e => hn2 (.inr e)
  · intro c hn
    show 1 ≤ o' c ∧ o' c ≤ t'
    by_cases e : c = b
    · subst e; exact h1
    · rw [ho c e]
      rcases (mi c).1 hn with e2 | e2
      · exact absurd e2 e
      · have := h.o1 c e2
        omega
  · intro i c hi hm
    show _ ≤ o' c
    rcases (mem i c).1 hm with ⟨e, e2⟩ | ⟨e, e2⟩
    · subst e; subst e2; exact h3
    · rw [ho c e]; exact h.lo i c hi e2
  · show (alls ((woS b m.S).set q (b :: (woS b m.S).getD q [])) 8).length ≤ C
    have e1 := alls_len (b :: (woS b m.S).getD q []) hq9 8
    rw [if_pos (by omega), if_pos (by omega), alls_wo, List.length_cons] at e1
    have hcap := h.cap
    unfold Ms.al at hcap hc
    have hle : (wo b (alls m.S 8)).length ≤ (alls m.S 8).length := List.length_filter_le _ _
    rcases hc with hc | hc
    · have := wo_less (alls_nd h.wf 8) hc
      omega
    · omega
  · show (((woS b m.S).set q (b :: (woS b m.S).getD q [])).getD 8 []).length ≤ H
    rw [gd, if_neg (by omega)]
    exact Nat.le_trans (List.length_filter_le _ _) h.gh
  · intro c
    show 0 ≤ upd m.x b (t' + L) c ∧ upd m.x b (t' + L) c ≤ t' + L
    unfold upd
    have := h.x c
    split <;> omega
theorem last_mem {l : List Int} {b : Int} (h : l.getLast? = some b) : b ∈ l := List.mem_of_getLast? h
theorem Okm.ag1 (h : Okm C N L H m) {i : Nat} (h1 : 1 ≤ i) (hi : i < N) : Okm C N L H (m.ag1 L i) := by
  unfold Ms.ag1
  split
  · exact h
  · rename_i b hb
    split
    · have hm := last_mem hb
      have hn := h.n
      have hs : inS m.S b := inS_gd.2 ⟨i, hm⟩
      have hlo := h.lo i b (by omega) hm
      refine h.pl (o' := m.o) (t' := m.t) (h.wf.ltg hm) (by omega) (fun _ _ => rfl) (Nat.le_refl _) (h.o1 b hs) ?_ (.inl (mem_alls.2 ⟨i, by omega, hm⟩))
      have : 2 ^ (i - 1) ≤ 2 ^ i := Nat.pow_le_pow_right (by omega) (by omega)
      omega
    · exact h
theorem Okm.ags (h : Okm C N L H m) : ∀ {i : Nat}, i < N → Okm C N L H (Ms.ags L i m)
  | 0, _ => h
  | i + 1, hi => (h.ags (i := i) (by omega)).ag1 (by omega) hi
theorem ag1_t (m : Ms) (L i : Nat) : (m.ag1 L i).t = m.t ∧ (m.ag1 L i).o = m.o := by
  unfold Ms.ag1
  split
  · exact ⟨rfl, rfl⟩
  · split
    · exact ⟨rfl, rfl⟩
    · exact ⟨rfl, rfl⟩
theorem ags_t (L : Nat) : ∀ (i : Nat) (m : Ms), (Ms.ags L i m).t = m.t ∧ (Ms.ags L i m).o = m.o
  | 0, _ => ⟨rfl, rfl⟩
  | i + 1, m => by
    have h := ags_t L i m
    have h2 := ag1_t (Ms.ags L i m) L (i + 1)
    exact ⟨h2.1.trans h.1, h2.2.trans h.2⟩
theorem qn_lt {n : Int} (hN : 1 ≤ N) : qn n N < N := by
  unfold qn
  omega
theorem qn_le {n : Int} (hn : 1 ≤ n) (N : Nat) : ((2 ^ qn n N : Nat) : Int) ≤ n := by
  have h1 := Nat.log2_self_le (show n.toNat ≠ 0 from by omega)
  have h2 : 2 ^ qn n N ≤ 2 ^ Nat.log2 n.toNat := Nat.pow_le_pow_right (by omega) (by unfold qn; omega)
  omega
theorem Okm.o_nn (h : Okm C N L H m) (b : Int) : 0 ≤ m.o b ∧ m.o b ≤ m.t := by
  by_cases hb : inS m.S b
  · have := h.o1 b hb; omega
  · rw [h.o0 b hb]; omega
theorem Okm.placed (h : Okm C N L H m) {b : Int} (hb : 0 ≤ b ∧ b < 64) (hc : b ∈ m.al ∨ m.al.length < C) : Okm C N L H ((m.bump b).pl L (qn (m.o b + 1) N) b) := by
  have hn := h.n
  have ho := h.o_nn b
  refine h.pl (o' := upd m.o b (m.o b + 1)) (t' := m.t + 1) hb (qn_lt hn.1) (fun c hc => upd_ne _ _ hc) (by omega) ?_ ?_ hc
  · rw [upd_same]; omega
  · rw [upd_same]; exact qn_le (by omega) N
theorem Okm.us (h : Okm C N L H m) {b : Int} (hb : 0 ≤ b ∧ b < 64) (hc : b ∈ m.al ∨ m.al.length < C) : Okm C N L H (m.us N L b) :=
  (h.placed hb hc).ags (by have := h.n; omega)
theorem us_t (m : Ms) (N L : Nat) (b : Int) : (m.us N L b).t = m.t + 1 := (ags_t L (N - 1) _).1
/-- forgotten -/
theorem Okm.fo (h : Okm C N L H m) (b : Int) : Okm C N L H (m.fo b) := by
  have mi : ∀ c, inS (woS b m.S) c ↔ c ≠ b ∧ inS m.S c := fun c => by
    rw [inS_gd, inS_gd]
    constructor
    · rintro ⟨j, hj⟩
      rw [gd_wo] at hj
      exact ⟨(mem_wo.1 hj).2, j, (mem_wo.1 hj).1⟩
    · rintro ⟨h1, j, hj⟩
      exact ⟨j, by rw [gd_wo]; exact mem_wo.2 ⟨hj, h1⟩⟩
  refine ⟨h.wf.wo b, by show (woS b m.S).length = 9; rw [woS_len]; exact h.len, h.c, h.n, h.l, h.h, ?_, ?_, ?_, ?_, ?_, ?_, h.x⟩
  · intro i h1 h2
    show (woS b m.S).getD i [] = []
    rw [gd_wo, h.emp i h1 h2]; rfl
  · intro c hc
    show upd m.o b 0 c = 0
    by_cases e : c = b
    · subst e; exact upd_same _ _ _
    · rw [upd_ne _ _ e]
      exact h.o0 c fun e2 => hc ((mi c).2 ⟨e, e2⟩)
  · intro c hc
    obtain ⟨e, e2⟩ := (mi c).1 hc
    show 1 ≤ upd m.o b 0 c ∧ upd m.o b 0 c ≤ m.t
    rw [upd_ne _ _ e]
    exact h.o1 c e2
  · intro i c hi hc
    have hc2 : c ∈ wo b (m.S.getD i []) := by rw [← gd_wo]; exact hc
    show _ ≤ upd m.o b 0 c
    rw [upd_ne _ _ (mem_wo.1 hc2).2]
    exact h.lo i c hi (mem_wo.1 hc2).1
  · show (alls (woS b m.S) 8).length ≤ C
    rw [alls_wo]
    exact Nat.le_trans (List.length_filter_le _ _) h.cap
  · show ((woS b m.S).getD 8 []).length ≤ H
    rw [gd_wo]
    exact Nat.le_trans (List.length_filter_le _ _) h.gh
/-- a block that is there has become a ghost; H + 1 are borne -/
theorem Okm.ghost (h : Okm C N L H m) {v : Int} (hv : v ∈ m.al) (H' : Nat) (hh : H' ≤ 17) (hg : (m.gg v).length ≤ H') :
    Okm C N L H' { m with S := (woS v m.S).set 8 (m.gg v) } ∧ (alls ((woS v m.S).set 8 (m.gg v)) 8).length + 1 = m.al.length := by
  have hlen := h.len
  have hl1 : (woS v m.S).length = 9 := by rw [woS_len]; exact hlen
  have h8 : 8 < (woS v m.S).length := by omega
  have hs := h.in_al hv
  have gd : ∀ j, ((woS v m.S).set 8 (m.gg v)).getD j [] = if 8 = j then v :: wo v (m.S.getD 8 []) else wo v (m.S.getD j []) := fun j => by
    rw [gd_set _ h8]
    unfold Ms.gg
    rw [gd_wo, gd_wo]
  have mem : ∀ j c, c ∈ ((woS v m.S).set 8 (m.gg v)).getD j [] ↔ (8 = j ∧ c = v) ∨ (c ≠ v ∧ c ∈ m.S.getD j []) := fun j c => by
    rw [gd]
    by_cases e : 8 = j
    · subst e
      rw [if_pos rfl, List.mem_cons, mem_wo]
      constructor
      · rintro (rfl | ⟨h1, h2⟩)
        · exact .inl ⟨rfl, rfl⟩
        · exact .inr ⟨h2, h1⟩
      · rintro (⟨_, rfl⟩ | ⟨h1, h2⟩)
        · exact .inl rfl
        · exact .inr ⟨h2, h1⟩
    · rw [if_neg e, mem_wo]
      constructor
      · rintro ⟨h1, h2⟩; exact .inr ⟨h2, h1⟩
      · rintro (⟨h1, _⟩ | ⟨h1, h2⟩)
        · exact absurd h1 e
        · exact ⟨h2, h1⟩
  have mi : ∀ c, inS ((woS v m.S).set 8 (m.gg v)) c ↔ inS m.S c := fun c => by
    rw [inS_gd]
    constructor
    · rintro ⟨j, hj⟩
      rcases (mem j c).1 hj with ⟨_, e⟩ | ⟨_, e⟩
      · subst e; exact hs
      · exact inS_gd.2 ⟨j, e⟩
    · intro hc
      by_cases e : c = v
      · subst e; exact ⟨8, (mem 8 c).2 (.inl ⟨rfl, rfl⟩)⟩
      · obtain ⟨j, hj⟩ := inS_gd.1 hc
        exact ⟨j, (mem j c).2 (.inr ⟨e, hj⟩)⟩
  have hcnt : (alls ((woS v m.S).set 8 (m.gg v)) 8).length + 1 = m.al.length := by
    have e1 := alls_len (m.gg v) h8 8
    rw [if_neg (by omega), if_neg (by omega), alls_wo] at e1
    have := wo_less (alls_nd h.wf 8) hv
    unfold Ms.al
    omega
  have hcap := h.cap
  refine ⟨⟨?_, ?_, h.c, h.n, h.l, hh, ?_, ?_, ?_, ?_, ?_, ?_, h.x⟩, hcnt⟩
  · refine (h.wf.wo v).put (h.lt hs) (woS_not v m.S) (gd_some h8) (fun x => by unfold Ms.gg; rw [List.mem_cons]) (List.nodup_cons.2 ⟨?_, ?_⟩)
    · rw [gd_wo]; exact fun hm => (mem_wo.1 hm).2 rfl
    · rw [gd_wo]; exact wo_nodup (h.wf.ndg 8)
  · show ((woS v m.S).set 8 _).length = 9
    rw [List.length_set]; exact hl1
  · intro i h1 h2
    show ((woS v m.S).set 8 (m.gg v)).getD i [] = []
    rw [gd, if_neg (by omega), h.emp i h1 h2]; rfl
  · exact fun c hn => h.o0 c fun e => hn ((mi c).2 e)
  · exact fun c hn => h.o1 c ((mi c).1 hn)
  · intro i c hi hm
    rcases (mem i c).1 hm with ⟨e, _⟩ | ⟨_, e2⟩
    · omega
    · exact h.lo i c hi e2
  · show (alls ((woS v m.S).set 8 (m.gg v)) 8).length ≤ C
    omega
  · show (((woS v m.S).set 8 (m.gg v)).getD 8 []).length ≤ H'
    rw [gd_set _ h8, if_pos rfl]
    exact hg
theorem gg_len (m : Ms) (v : Int) : (m.gg v).length ≤ (m.S.getD 8 []).length + 1 := by
  unfold Ms.gg
  rw [gd_wo, List.length_cons]
  have : (wo v (m.S.getD 8 [])).length ≤ (m.S.getD 8 []).length := List.length_filter_le _ _
  omega
theorem wo_getLast : ∀ {l : List Int} (hn : l ≠ []), l.Nodup → wo (l.getLast hn) l = l.dropLast := by
  intro l hn hd
  have e := List.dropLast_concat_getLast hn
  have h2 : (l.dropLast ++ l.getLast hn :: []).Nodup := by rw [e]; exact hd
  have h3 := wo_split h2
  rw [e] at h3
  rw [h3, List.append_nil]
/-- the lists behind, where the eldest is forgotten: the ghosts without their last one -/
theorem drop_ghost (h : Okm C N L H m) (hh : H ≤ 16) {v : Int} (hv : v ∈ m.al) :
    woS ((m.gg v).getLast (by simp [Ms.gg])) ((woS v m.S).set 8 (m.gg v)) = (woS v m.S).set 8 (m.gg v).dropLast := by
  have hg := (h.ghost hv 17 (Nat.le_refl _) (by have := gg_len m v; have := h.gh; omega)).1
  have hl : 8 < (woS v m.S).length := by rw [woS_len, h.len]; omega
  have h8 : ((woS v m.S).set 8 (m.gg v))[8]? = some (m.gg v) := List.getElem?_set_self hl
  have hw : Wf ((woS v m.S).set 8 (m.gg v)) := hg.wf
  have hnd : (m.gg v).Nodup := hw.nd 8 _ h8
  rw [woS_set hw h8 (List.getLast_mem _), wo_getLast _ hnd, List.set_set]
theorem Okm.ha (h : Okm C N L H m) (hh : H ≤ 16) {v : Int} (hv : v ∈ m.al) : Okm C N L H (m.ha H v) ∧ (m.ha H v).al.length + 1 = m.al.length := by
  unfold Ms.ha
  by_cases hg : (m.gg v).length ≤ H
  · rw [if_pos hg]
    exact h.ghost hv H h.h hg
  · rw [if_neg hg]
    have hle := gg_len m v
    have hgh := h.gh
    obtain ⟨h1, h2⟩ := h.ghost hv (H + 1) (by omega) (by omega)
    have h3 := h1.fo ((m.gg v).getLast (by simp [Ms.gg]))
    have e : (({ m with S := (woS v m.S).set 8 (m.gg v) } : Ms).fo ((m.gg v).getLast (by simp [Ms.gg]))).S = (woS v m.S).set 8 (m.gg v).dropLast := drop_ghost h hh hv
    have hl : 8 < (woS v m.S).length := by rw [woS_len, h.len]; omega
    refine ⟨{ h3 with h := h.h, gh := ?_ }, ?_⟩
    · rw [e, gd_set _ hl, if_pos rfl, List.length_dropLast]
      omega
    · have e1 := alls_len (m.gg v).dropLast hl 8
      have e2 := alls_len (m.gg v) hl 8
      rw [if_neg (by omega), if_neg (by omega)] at e1 e2
      unfold Ms.al
      rw [e]
      unfold Ms.al at h2
      omega
/-- the one that goes -/
theorem Okm.vic (h : Okm C N L H m) (hp : 0 < m.al.length) : m.vi < N ∧ (m.S.getD m.vi []).getLast? = some m.vc ∧ (∀ j, j < m.vi → m.S.getD j [] = []) ∧ m.vc ∈ m.al := by
  have hn := h.n
  obtain ⟨b, hb⟩ := List.exists_mem_of_length_pos hp
  obtain ⟨i, hi, hm⟩ := h.there hb
  have hil := (gd_mem hm)
  have hex : ∃ l ∈ m.S, (!l.isEmpty) = true := ⟨_, List.mem_of_getElem? hil.2, by
    cases e : m.S.getD i [] with
    | nil => rw [e] at hm; cases hm
    | cons _ _ => rfl⟩
  have h1 : m.vi < m.S.length := List.findIdx_lt_length_of_exists hex
  have h2 : (!(m.S[m.vi]'h1).isEmpty) = true := List.findIdx_getElem (w := h1)
  have h3 : ∀ j, j < m.vi → m.S.getD j [] = [] := fun j hj => by
    have hjl : j < m.S.length := by omega
    have := List.not_of_lt_findIdx (p := fun l : List Int => !l.isEmpty) (xs := m.S) hj
    rw [gd_of (List.getElem?_eq_getElem hjl)]
    simpa using this
  have h4 : ¬ i < m.vi := fun e => by rw [h3 i e] at hm; cases hm
  have e1 : m.S.getD m.vi [] = m.S[m.vi]'h1 := gd_of (List.getElem?_eq_getElem h1)
  have hne : m.S.getD m.vi [] ≠ [] := by rw [e1]; simpa using h2
  have e2 : (m.S.getD m.vi []).getLast? = some m.vc := by
    unfold Ms.vc
    rw [List.getLast?_eq_some_getLast hne]; rfl
  exact ⟨by omega, e2, h3, mem_alls.2 ⟨m.vi, by omega, last_mem e2⟩⟩
end
end Go.Proofs.Ytlafhejnnilpmaa
