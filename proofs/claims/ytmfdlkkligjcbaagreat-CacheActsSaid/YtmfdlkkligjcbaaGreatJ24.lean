/-
  What is proved: what an order of a tier's cache is, as lists: an LRU's, an MQ's, a parted cache's; what there is behind a use, an addition, a removal. No program's function is in it.
-/
import Derived.Test.YtmfdlkkligjcbaaGreatJ02
import Derived.Test.YtmfdlkkligjcbaaGreatJ07
import Derived.Test.YtmfdlkkligjcbaaGreatJ23
import Derived.Test.YtmfdlkkligjcbaaGreatJ01
import Derived.Laws.Tables
namespace Go.Proofs.YtmfdlkkligjcbaaGreat
open Go.RowKit

-- an MQ's blocks
section
variable {C N L H : Nat} {m : Ms}
theorem mem_pl (hl : m.S.length = 9) {q : Nat} (hq : q < 8) {b : Int} (c : Int) : c ∈ (m.pl L q b).al ↔ c = b ∨ c ∈ m.al := by
  have hq9 : q < (woS b m.S).length := by rw [woS_len]; omega
  have gd : ∀ j, (m.pl L q b).S.getD j [] = if q = j then b :: wo b (m.S.getD q []) else wo b (m.S.getD j []) := fun j => by
    show ((woS b m.S).set q (b :: (woS b m.S).getD q [])).getD j [] = _
    rw [gd_set _ hq9, gd_wo, gd_wo]
  unfold Ms.al
  rw [mem_alls, mem_alls]
  constructor
  · rintro ⟨j, hj, hc⟩
    rw [gd] at hc
    by_cases e : q = j
    · subst e
      rw [if_pos rfl] at hc
      rcases List.mem_cons.1 hc with rfl | hc
      · exact .inl rfl
      · exact .inr ⟨q, hj, (mem_wo.1 hc).1⟩
    · rw [if_neg e] at hc
      exact .inr ⟨j, hj, (mem_wo.1 hc).1⟩
  · intro h
    by_cases e : c = b
    · exact ⟨q, hq, by rw [gd, if_pos rfl, e]; exact List.mem_cons_self⟩
    · rcases h with h | ⟨j, hj, h⟩
      · exact absurd h e
      · refine ⟨j, hj, ?_⟩
        rw [gd]
        by_cases e2 : q = j
        · subst e2
          rw [if_pos rfl]
          exact List.mem_cons_of_mem _ (mem_wo.2 ⟨h, e⟩)
        · rw [if_neg e2]
          exact mem_wo.2 ⟨h, e⟩
theorem mem_ag1 (hl : m.S.length = 9) {i : Nat} (hi : i < 8) (c : Int) : c ∈ (m.ag1 L i).al ↔ c ∈ m.al := by
  unfold Ms.ag1
  split
  · exact Iff.rfl
  · rename_i b hb
    split
    · rw [mem_pl hl (by omega)]
      exact ⟨fun h => h.elim (fun e => by rw [e]; exact mem_alls.2 ⟨i, hi, last_mem hb⟩) id, .inr⟩
    · exact Iff.rfl
theorem ag1_len (hl : m.S.length = 9) (i : Nat) : (m.ag1 L i).S.length = 9 := by
  unfold Ms.ag1
  split
  · exact hl
  · split
    · show ((woS _ m.S).set _ _).length = 9
      rw [List.length_set, woS_len]
      exact hl
    · exact hl
theorem mem_ags (hl : m.S.length = 9) (c : Int) : ∀ i, i < 8 → (Ms.ags L i m).S.length = 9 ∧ (c ∈ (Ms.ags L i m).al ↔ c ∈ m.al)
  | 0, _ => ⟨hl, Iff.rfl⟩
  | i + 1, hi => by
    obtain ⟨h1, h2⟩ := mem_ags hl c i (by omega)
    exact ⟨ag1_len h1 _, (mem_ag1 h1 hi c).trans h2⟩
theorem mem_us (h : Okm C N L H m) {b : Int} (c : Int) : c ∈ (m.us N L b).al ↔ c = b ∨ c ∈ m.al := by
  have hn := h.n
  have hl : ((m.bump b).pl L (qn (m.o b + 1) N) b).S.length = 9 := by
    show ((woS b m.S).set _ _).length = 9
    rw [List.length_set, woS_len]
    exact h.len
  have h2 := qn_lt (n := m.o b + 1) hn.1
  exact (mem_ags hl c (N - 1) (by omega)).2.trans (mem_pl (m := m.bump b) h.len (by omega) c)
theorem mem_fo {b : Int} (c : Int) : c ∈ (m.fo b).al ↔ c ∈ m.al ∧ c ≠ b := by
  unfold Ms.al
  show c ∈ alls (woS b m.S) 8 ↔ _
  rw [alls_wo]
  exact mem_wo
theorem alls_set8 (S : List (List Int)) (l : List Int) : ∀ n, n ≤ 8 → alls (S.set 8 l) n = alls S n
  | 0, _ => rfl
  | n + 1, h => by
    have ih := alls_set8 S l n (by omega)
    unfold alls
    rw [ih]
    congr 1
    rw [List.getD_eq_getElem?_getD, List.getElem?_set_ne (by omega), ← List.getD_eq_getElem?_getD]
theorem mem_ha (h : Okm C N L H m) (hh : H ≤ 16) {v : Int} (hv : v ∈ m.al) (c : Int) : c ∈ (m.ha H v).al ↔ c ∈ m.al ∧ c ≠ v := by
  have key : ∃ l, (m.ha H v).S = (woS v m.S).set 8 l := by
    unfold Ms.ha
    split
    · exact ⟨_, rfl⟩
    · exact ⟨_, drop_ghost h hh hv⟩
  obtain ⟨l, e⟩ := key
  unfold Ms.al
  rw [e, alls_set8 _ _ 8 (Nat.le_refl 8), alls_wo]
  exact mem_wo
end
/-- an order: an LRU's of capacity C; an MQ's; a parted cache's -/
inductive Ob
  | lru (C : Nat) (L : List Int)
  | mq (C N L H : Nat) (m : Ms)
  | prt (rg : Int → Option Nat) (pt : Nat → Nat) (lp : Nat → Bool) (n : Nat) (S : List (List Int))
namespace Ob
def all : Ob → List Int
  | lru _ L => L
  | mq _ _ _ _ m => m.al
  | prt _ _ _ n S => allp S n
noncomputable def use (b : Int) : Ob → Ob
  | lru C L => lru C (useL b L)
  | mq C N L H m => mq C N L H (m.useM N L b)
  | prt rg pt lp n S => prt rg pt lp n (usS rg b S)
def add (b : Int) : Ob → Ob
  | lru C L => lru C (addL C b L)
  | mq C N L H m => mq C N L H (m.adM C N L H b)
  | prt rg pt lp n S => prt rg pt lp n (adS pt lp (rg b) b S)
def rem (b : Int) : Ob → Ob
  | lru C L => lru C (wo b L)
  | mq C N L H m => mq C N L H (m.remM b)
  | prt rg pt lp n S => prt rg pt lp n (woS b S)
/-- whether one goes, which one -/
def gn (b : Int) : Ob → Bool
  | lru C L => decide (goes C b L)
  | mq C _ _ _ m => decide (m.goes C b)
  | prt rg pt _ _ S => adG pt (rg b) b S
def vi (b : Int) : Ob → Int
  | lru C L => vict C b L
  | mq C _ _ _ m => m.adV C b
  | prt rg pt lp _ S => adV pt lp (rg b) b S
/-- whether a block can be added -/
def tk (b : Int) : Ob → Prop
  | lru _ _ => vb b
  | mq _ _ _ _ _ => vb b
  | prt rg pt _ _ _ => 0 < ptO pt (rg b)
/-- how many there may be, K the tier's capacity -/
def Ok (K : Nat) : Ob → Prop
  | lru C L => C = K ∧ (1 ≤ C ∧ C ≤ 16) ∧ L.Nodup ∧ L.length ≤ C ∧ ∀ x ∈ L, vb x
  | mq C N L H m => C = K ∧ Okm C N L H m ∧ H ≤ 16
  | prt rg pt _ n S => Okp rg pt n S ∧ lsum pt n ≤ K ∧ (∀ z i, rg z = some i → i < n ∧ 0 ≤ z ∧ z < 32)
end Ob
theorem useL_mem {b c : Int} {L : List Int} : c ∈ useL b L ↔ c ∈ L := by
  unfold useL
  by_cases h : b ∈ L
  · rw [dec_true h, if_pos rfl, List.mem_cons, mem_wo]
    constructor
    · rintro (rfl | h2)
      · exact h
      · exact h2.1
    · intro h2
      by_cases e : c = b
      · exact .inl e
      · exact .inr ⟨h2, e⟩
  · rw [dec_false h, if_neg (by simp)]
/-- an LRU that is full -/
theorem lru_full {C : Nat} {b : Int} {L : List Int} (h1 : 1 ≤ C) (hd : L.Nodup) (hl : L.length ≤ C) (hg : goes C b L) : b ∉ L ∧ L.length = C ∧ vict C b L ∈ L ∧ vict C b L ≠ b ∧ ∀ c, c ∈ addL C b L ↔ c = b ∨ (c ∈ L ∧ c ≠ vict C b L) := by
  have h2 := hg.2
  rw [List.length_cons] at h2
  have hb : b ∉ L := fun hb => by have := wo_less hd hb; omega
  have hw : wo b L = L := wo_out hb
  rw [hw] at h2
  have hn : (b :: L).Nodup := List.nodup_cons.2 ⟨hb, hd⟩
  have hne : L ≠ [] := fun e => by rw [e] at h2; simp at h2; omega
  have ev : vict C b L = L.getLast hne := by
    have e1 : vict C b L = (b :: wo b L).getLast (by simp) := if_pos hg
    rw [e1]
    simp only [hw]
    exact List.getLast_cons hne
  have hv : vict C b L ∈ L := by rw [ev]; exact List.getLast_mem hne
  have hvb : vict C b L ≠ b := fun e => hb (e ▸ hv)
  refine ⟨hb, by omega, hv, hvb, fun c => ?_⟩
  have ea : addL C b L = wo (vict C b L) (b :: L) := by
    have e1 : addL C b L = (b :: wo b L).dropLast := if_pos hg
    rw [e1, ev]
    simp only [hw]
    rw [show L.getLast hne = (b :: L).getLast (by simp) from (List.getLast_cons hne).symm]
    exact (wo_last (by simp) hn).symm
  rw [ea, mem_wo, List.mem_cons]
  constructor
  · rintro ⟨rfl | h3, h4⟩
    · exact .inl rfl
    · exact .inr ⟨h3, h4⟩
  · rintro (rfl | ⟨h3, h4⟩)
    · exact ⟨.inl rfl, fun e => hvb e.symm⟩
    · exact ⟨.inr h3, h4⟩
theorem lru_room {C : Nat} {b : Int} {L : List Int} (hv : vb b) (hg : ¬ goes C b L) (c : Int) : c ∈ addL C b L ↔ c = b ∨ c ∈ L := by
  have ea : addL C b L = b :: wo b L := by unfold addL; rw [if_neg hg, if_pos hv]
  rw [ea, List.mem_cons, mem_wo]
  by_cases e : c = b
  · simp [e]
  · simp [e]
-- a parted cache's blocks
section
variable {rg : Int → Option Nat} {pt : Nat → Nat} {lp : Nat → Bool} {n : Nat} {S : List (List Int)}
theorem allp_in (h : Okp rg pt n S) (hn : ∀ z i, rg z = some i → i < n ∧ 0 ≤ z ∧ z < 32) (c : Int) : c ∈ allp S n ↔ inS S c := by
  rw [mem_allp, h.in_]
  constructor
  · rintro ⟨i, _, hc⟩
    exact ⟨i, h.own i c hc, hc⟩
  · rintro ⟨i, hr, hc⟩
    exact ⟨i, (hn c i hr).1, hc⟩
theorem mem_set (h : Okp rg pt n S) {i : Nat} (hi : i < n) (l : List Int) (c : Int) : c ∈ allp (S.set i l) n ↔ c ∈ l ∨ ∃ j, j < n ∧ j ≠ i ∧ c ∈ S.getD j [] := by
  have hl : i < S.length := Nat.lt_of_lt_of_le hi h.len
  rw [mem_allp]
  constructor
  · rintro ⟨j, hj, hc⟩
    rw [gd_set _ hl] at hc
    by_cases e : i = j
    · rw [if_pos e] at hc
      exact .inl hc
    · rw [if_neg e] at hc
      exact .inr ⟨j, hj, fun e2 => e e2.symm, hc⟩
  · rintro (hc | ⟨j, hj, e, hc⟩)
    · exact ⟨i, hi, by rw [gd_set _ hl, if_pos rfl]; exact hc⟩
    · exact ⟨j, hj, by rw [gd_set _ hl, if_neg fun e2 => e e2.symm]; exact hc⟩
theorem allp_at {i : Nat} (hi : i < n) (c : Int) : c ∈ allp S n ↔ c ∈ S.getD i [] ∨ ∃ j, j < n ∧ j ≠ i ∧ c ∈ S.getD j [] := by
  rw [mem_allp]
  constructor
  · rintro ⟨j, hj, hc⟩
    by_cases e : j = i
    · rw [e] at hc; exact .inl hc
    · exact .inr ⟨j, hj, e, hc⟩
  · rintro (hc | ⟨j, hj, _, hc⟩)
    · exact ⟨i, hi, hc⟩
    · exact ⟨j, hj, hc⟩
theorem mem_usS (h : Okp rg pt n S) (hn : ∀ z i, rg z = some i → i < n ∧ 0 ≤ z ∧ z < 32) (b c : Int) : c ∈ allp (usS rg b S) n ↔ c ∈ allp S n := by
  unfold usS
  by_cases hx : inS S b
  · obtain ⟨i, hr, hb⟩ := h.in_.1 hx
    have hi := (hn b i hr).1
    rw [dec_true hx, if_pos rfl, hr, show (some i).getD 0 = i from rfl, mem_set h hi, allp_at hi]
    refine or_congr ?_ Iff.rfl
    unfold usel
    rw [List.mem_cons, mem_wo]
    constructor
    · rintro (rfl | h2)
      · exact hb
      · exact h2.1
    · intro h2
      by_cases e : c = b
      · exact .inl e
      · exact .inr ⟨h2, e⟩
  · rw [dec_false hx, if_neg (by simp)]
theorem allp_woS (b : Int) : ∀ n, allp (woS b S) n = wo b (allp S n)
  | 0 => rfl
  | n + 1 => by
    unfold allp
    rw [allp_woS b n, gd_wo]
    unfold wo
    rw [List.filter_append]
theorem okp_usS (h : Okp rg pt n S) (hn : ∀ z i, rg z = some i → i < n ∧ 0 ≤ z ∧ z < 32) (b : Int) : Okp rg pt n (usS rg b S) := by
  unfold usS
  by_cases hx : inS S b
  · obtain ⟨i, hr, hb⟩ := h.in_.1 hx
    rw [dec_true hx, if_pos rfl, hr]
    exact h.use (hn b i hr).1 hb
  · rw [dec_false hx, if_neg (by simp)]
    exact h
theorem okp_adS (h : Okp rg pt n S) (hn : ∀ z i, rg z = some i → i < n ∧ 0 ≤ z ∧ z < 32) (b : Int) : Okp rg pt n (adS pt lp (rg b) b S) := by
  cases hr : rg b with
  | none => exact h
  | some i =>
    obtain ⟨hi, hb⟩ := hn b i hr
    by_cases hp : pt i = 0
    · rw [show adS pt lp (some i) b S = S from if_pos hp]
      exact h
    · rw [show adS pt lp (some i) b S = S.set i (addl (lp i) (pt i) b (S.getD i [])) from if_neg hp]
      exact h.add (lp i) hi hr (by omega) (by omega)
/-- what there is behind an addition -/
theorem prt_add (h : Okp rg pt n S) (hn : ∀ z i, rg z = some i → i < n ∧ 0 ≤ z ∧ z < 32) {b : Int} (ht : 0 < ptO pt (rg b)) :
    (∀ c, c ∈ allp (adS pt lp (rg b) b S) n ↔ c = b ∨ (c ∈ allp S n ∧ ¬ (adG pt (rg b) b S = true ∧ c = adV pt lp (rg b) b S))) ∧
    (adG pt (rg b) b S = true → b ∉ allp S n ∧ adV pt lp (rg b) b S ∈ allp S n ∧ adV pt lp (rg b) b S ≠ b) := by
  cases hr : rg b with
  | none => rw [hr] at ht; exact absurd ht (Nat.lt_irrefl 0)
  | some i =>
    rw [hr] at ht
    have hp : 0 < pt i := ht
    obtain ⟨hi, hb⟩ := hn b i hr
    rw [show adS pt lp (some i) b S = S.set i (addl (lp i) (pt i) b (S.getD i [])) from if_neg (by omega)]
    have hout : ∀ j, j ≠ i → ∀ c, c ∈ S.getD j [] → c ≠ b := fun j hj c hc e => by
      have := h.own j c hc
      rw [e, hr] at this
      injection this with this
      exact hj this.symm
    by_cases hm : b ∈ S.getD i []
    · have hc : (S.getD i []).contains b = true := by simpa using hm
      have e1 : adG pt (some i) b S = false := by unfold adG; dsimp only; rw [hc]; rfl
      rw [e1]
      refine ⟨fun c => ?_, fun e => by cases e⟩
      rw [show addl (lp i) (pt i) b (S.getD i []) = b :: wo b (S.getD i []) from if_pos hc, mem_set h hi, allp_at hi, List.mem_cons, mem_wo]
      simp only [Bool.false_eq_true, false_and, not_false_eq_true, and_true]
      constructor
      · rintro ((h1 | ⟨h1, _⟩) | h1)
        · exact .inl h1
        · exact .inr (.inl h1)
        · exact .inr (.inr h1)
      · rintro (h1 | h1 | h1)
        · exact .inl (.inl h1)
        · by_cases e : c = b
          · exact .inl (.inl e)
          · exact .inl (.inr ⟨h1, e⟩)
        · exact .inr h1
    · have hc : (S.getD i []).contains b = false := by simpa using hm
      have hnall : b ∉ allp S n := fun hx => okp_out h hr hm ((allp_in h hn b).1 hx)
      by_cases hl : pt i ≤ (S.getD i []).length
      · have e1 : adG pt (some i) b S = true := by unfold adG; dsimp only; rw [hc, decide_eq_true hl, decide_eq_true hp]; rfl
        have e2 : adV pt lp (some i) b S = gone (lp i) (S.getD i []) := by unfold adV; dsimp only; rw [e1]; rfl
        have hne : S.getD i [] ≠ [] := fun e => by rw [e] at hl; simp at hl; omega
        have hg := gone_mem (loop := lp i) hne
        have hgb : gone (lp i) (S.getD i []) ≠ b := fun e => hm (e ▸ hg)
        rw [e1, e2]
        refine ⟨fun c => ?_, fun _ => ⟨hnall, mem_allp.2 ⟨i, hi, hg⟩, hgb⟩⟩
        rw [show addl (lp i) (pt i) b (S.getD i []) = b :: wo (gone (lp i) (S.getD i [])) (S.getD i []) from by unfold addl; rw [if_neg (by simpa using hm), if_pos hl], mem_set h hi, allp_at hi, List.mem_cons, mem_wo]
        have ho : ∀ j, j ≠ i → c ∈ S.getD j [] → c ≠ gone (lp i) (S.getD i []) := fun j hj hc' e => by
          have h1 := h.own j c hc'
          have h2 := h.own i _ hg
          rw [e] at h1
          rw [h1] at h2
          injection h2 with h2
          exact hj h2
        simp only [true_and]
        constructor
        · rintro ((h1 | ⟨h1, h2⟩) | ⟨j, h1, h2, h3⟩)
          · exact .inl h1
          · exact .inr ⟨.inl h1, h2⟩
          · exact .inr ⟨.inr ⟨j, h1, h2, h3⟩, ho j h2 h3⟩
        · rintro (h1 | ⟨h1 | h1, h2⟩)
          · exact .inl (.inl h1)
          · exact .inl (.inr ⟨h1, h2⟩)
          · exact .inr h1
      · have e1 : adG pt (some i) b S = false := by unfold adG; dsimp only; rw [decide_eq_false hl, Bool.and_false]
        rw [e1]
        refine ⟨fun c => ?_, fun e => by cases e⟩
        rw [show addl (lp i) (pt i) b (S.getD i []) = b :: S.getD i [] from by unfold addl; rw [if_neg (by simpa using hm), if_neg hl], mem_set h hi, allp_at hi, List.mem_cons]
        simp only [Bool.false_eq_true, false_and, not_false_eq_true, and_true, or_assoc]
end
namespace Ob
variable {K : Nat}
theorem nd : ∀ {o : Ob}, o.Ok K → o.all.Nodup
  | lru _ _, h => h.2.2.1
  | mq _ _ _ _ _, h => alls_nd h.2.1.wf 8
  | prt _ _ _ n _, h => allp_nd h.1.wf n
theorem le : ∀ {o : Ob}, o.Ok K → o.all.length ≤ K
  | lru C L, h => by
    have h1 : C = K := h.1
    have h2 : L.length ≤ C := h.2.2.2.1
    show L.length ≤ K
    omega
  | mq C _ _ _ m, h => by
    have h1 : C = K := h.1
    have h2 := h.2.1.cap
    show m.al.length ≤ K
    omega
  | prt _ _ _ _ _, h => Nat.le_trans h.1.bound h.2.1
theorem vb_of : ∀ {o : Ob}, o.Ok K → ∀ {x : Int}, x ∈ o.all → vb x
  | lru _ _, h, x, hx => h.2.2.2.2 x hx
  | mq _ _ _ _ _, h, x, hx => h.2.1.lt (h.2.1.in_al hx)
  | prt _ _ _ _ _, h, x, hx => by
    obtain ⟨i, _, hc⟩ := mem_allp.1 hx
    exact h.1.wf.ltg hc
theorem use_mem : ∀ {o : Ob}, o.Ok K → ∀ (b c : Int), c ∈ (o.use b).all ↔ c ∈ o.all
  | lru _ _, _, b, c => useL_mem
  | mq C N L H m, h, b, c => by
    show c ∈ (m.useM N L b).al ↔ c ∈ m.al
    unfold Ms.useM
    split
    · rename_i hb
      rw [mem_us h.2.1]
      exact ⟨fun h => h.elim (fun e => e ▸ hb) id, .inr⟩
    · exact Iff.rfl
  | prt _ _ _ _ _, h, b, c => mem_usS h.1 h.2.2 b c
theorem rem_mem : ∀ {o : Ob}, o.Ok K → ∀ (b c : Int), c ∈ (o.rem b).all ↔ c ∈ o.all ∧ c ≠ b
  | lru _ _, _, b, c => mem_wo
  | mq C N L H m, h, b, c => by
    show c ∈ (m.remM b).al ↔ c ∈ m.al ∧ c ≠ b
    unfold Ms.remM
    split
    · exact mem_fo c
    · rename_i hb
      exact ⟨fun hc => ⟨hc, fun e => hb (e ▸ hc)⟩, (·.1)⟩
  | prt rg pt lp n S, h, b, c => by
    show c ∈ allp (woS b S) n ↔ _
    rw [allp_woS]
    exact mem_wo
/-- what there is behind an addition; what goes was there, and is another one -/
theorem add_mem : ∀ {o : Ob}, o.Ok K → ∀ {b : Int}, o.tk b → (∀ c, c ∈ (o.add b).all ↔ c = b ∨ (c ∈ o.all ∧ ¬ (o.gn b = true ∧ c = o.vi b))) ∧ (o.gn b = true → b ∉ o.all ∧ o.vi b ∈ o.all ∧ o.vi b ≠ b)
  | lru C L, h, b, ht => by
    by_cases hg : goes C b L
    · obtain ⟨h1, _, h3, h4, h5⟩ := lru_full h.2.1.1 h.2.2.1 h.2.2.2.1 hg
      refine ⟨fun c => (h5 c).trans ?_, fun _ => ⟨h1, h3, h4⟩⟩
      show _ ↔ c = b ∨ (c ∈ L ∧ ¬ (decide (goes C b L) = true ∧ c = vict C b L))
      rw [decide_eq_true hg]
      simp
    · refine ⟨fun c => (lru_room ht hg c).trans ?_, fun e => absurd (of_decide_eq_true e) hg⟩
      show _ ↔ c = b ∨ (c ∈ L ∧ ¬ (decide (goes C b L) = true ∧ c = vict C b L))
      rw [decide_eq_false hg]
      simp
  | mq C N L H m, h, b, ht => by
    obtain ⟨_, ok, hH⟩ := h
    by_cases hg : m.goes C b
    · have hp : 0 < m.al.length := by have := hg.2.2; have := ok.c; omega
      have hv := (ok.vic hp).2.2.2
      have ev : m.adV C b = m.vc := if_pos hg
      have hvb : m.vc ≠ b := fun e => hg.2.1 (e ▸ hv)
      refine ⟨fun c => ?_, fun _ => ⟨hg.2.1, by show m.adV C b ∈ m.al; rw [ev]; exact hv, by show m.adV C b ≠ b; rw [ev]; exact hvb⟩⟩
      show c ∈ (m.adM C N L H b).al ↔ c = b ∨ (c ∈ m.al ∧ ¬ (decide (m.goes C b) = true ∧ c = m.adV C b))
      rw [show m.adM C N L H b = (m.ha H m.vc).us N L b from if_pos hg, mem_us (ok.ha hH hv).1, mem_ha ok hH hv, decide_eq_true hg, ev]
      simp
    · refine ⟨fun c => ?_, fun e => absurd (of_decide_eq_true e) hg⟩
      show c ∈ (m.adM C N L H b).al ↔ c = b ∨ (c ∈ m.al ∧ ¬ (decide (m.goes C b) = true ∧ c = m.adV C b))
      rw [show m.adM C N L H b = m.us N L b from (if_neg hg).trans (if_pos ht), mem_us ok, decide_eq_false hg]
      simp
  | prt _ _ _ _ _, h, b, ht => prt_add h.1 h.2.2 ht
theorem Ok.use : ∀ {o : Ob}, o.Ok K → ∀ (b : Int), (o.use b).Ok K
  | lru C L, h, b => by
    obtain ⟨h1, h2, h3, h4, h5⟩ := h
    refine ⟨h1, h2, ?_, ?_, fun x hx => h5 x (useL_mem.1 hx)⟩
    · show (useL b L).Nodup
      unfold useL
      split
      · exact List.nodup_cons.2 ⟨fun h => (mem_wo.1 h).2 rfl, wo_nodup h3⟩
      · exact h3
    · show (useL b L).length ≤ C
      unfold useL
      split
      · rename_i hb
        have := wo_less h3 (dec_iff.1 hb)
        rw [List.length_cons]
        omega
      · exact h4
  | mq C N L H m, h, b => ⟨h.1, (h.2.1.useM b).1, h.2.2⟩
  | prt _ _ _ _ _, h, b => ⟨okp_usS h.1 h.2.2 b, h.2⟩
theorem Ok.rem : ∀ {o : Ob}, o.Ok K → ∀ (b : Int), (o.rem b).Ok K
  | lru _ _, h, _ => ⟨h.1, h.2.1, wo_nodup h.2.2.1, Nat.le_trans (List.length_filter_le _ _) h.2.2.2.1, fun x hx => h.2.2.2.2 x (mem_wo.1 hx).1⟩
  | mq _ _ _ _ _, h, b => ⟨h.1, (h.2.1.remM b).1, h.2.2⟩
  | prt _ _ _ _ _, h, b => ⟨h.1.wo b, h.2⟩
theorem Ok.add : ∀ {o : Ob}, o.Ok K → ∀ {b : Int}, o.tk b → (o.add b).Ok K
  | lru C L, h, b, ht => by
    have hm := (add_mem (o := lru C L) h ht).1
    obtain ⟨h1, h2, h3, h4, h5⟩ := h
    have hn : (b :: wo b L).Nodup := List.nodup_cons.2 ⟨fun h => (mem_wo.1 h).2 rfl, wo_nodup h3⟩
    refine ⟨h1, h2, ?_, ?_, fun x hx => ?_⟩
    · show (addL C b L).Nodup
      unfold addL
      split
      · exact hn.sublist (List.dropLast_sublist _)
      · split
        · exact hn
        · exact h3
    · show (addL C b L).length ≤ C
      unfold addL
      split
      · rw [List.length_dropLast, List.length_cons]
        have : (wo b L).length ≤ L.length := List.length_filter_le _ _
        omega
      · split
        · rename_i hg hv
          exact Nat.le_of_not_lt fun e => hg ⟨hv, e⟩
        · exact h4
    · rcases (hm x).1 hx with rfl | hx
      · exact ht
      · exact h5 x hx.1
  | mq C N L H m, h, b, _ => ⟨h.1, (h.2.1.adM h.2.2 b).1, h.2.2⟩
  | prt _ _ _ _ _, h, b, _ => ⟨okp_adS h.1 h.2.2 b, h.2⟩
/-- but for a parted cache one goes only where it is full -/
theorem gn_full : ∀ {o : Ob}, o.Ok K → ∀ {b : Int}, (∀ rg pt lp n S, o ≠ prt rg pt lp n S) → o.gn b = true → o.all.length = K
  | lru C L, h, b, _, hg => by
    have h1 := (lru_full h.2.1.1 h.2.2.1 h.2.2.2.1 (of_decide_eq_true hg)).2.1
    have h2 : C = K := h.1
    show L.length = K
    omega
  | mq C N L H m, h, b, _, hg => by
    have h1 : m.goes C b := of_decide_eq_true hg
    have h2 : C = K := h.1
    have h3 := h1.2.2
    show m.al.length = K
    omega
  | prt rg pt lp n S, _, _, hp, _ => absurd rfl (hp rg pt lp n S)
end Ob
end Go.Proofs.YtmfdlkkligjcbaaGreat
namespace Go.Proofs.YtmfdlkkligjcbaaGreat
open Go.RowKit

section
variable {w : World} {g k C N L H : Nat} {m : Ms}
set_option maxHeartbeats 2000000 in
theorem mq_add (h : Mq w g k C N L H m) (ok : Okm C N L H m) (hH : H ≤ 16) (ht : m.t ≤ 10000000) (b : Int) :
    Calls Tryz.prog 150 #[.pointer (some ⟨g, 0, none⟩), .int .i64 b] w fun e w' =>
      e = .returned (.tuple #[.int .i64 (m.adV C b), .bool (decide (m.goes C b)), .int .i64 (Ms.adE b)]) ∧ Mq w' g k C N L H (m.adM C N L H b) ∧ Chg w w' (Mf g k) (Mf g k) := by
  by_cases hv : vb b
  · have hv2 : 0 ≤ b ∧ b < 64 := hv
    have v0 : ¬ b < 0 := by omega
    have v1 : ¬ (64 : Int) ≤ b := by omega
    have e3 : Ms.adE b = 0 := if_pos hv
    rw [e3]
    have HU := hid (mq_Use h ok ht b)
    by_cases hb : b ∈ m.al
    · have hg : ¬ m.goes C b := fun e => e.2.1 hb
      have e1 : m.adV C b = 0 := if_neg hg
      have e2 : m.adM C N L H b = m.us N L b := by unfold Ms.adM; rw [if_neg hg, if_pos hv]
      have e4 : m.useM N L b = m.us N L b := if_pos hb
      rw [e1, e2, decide_eq_false hg]
      rw [decide_eq_true hb, e4] at HU
      clear h ok hg e1 e2 e3 e4 hb hv hv2
      go_enter Tryz.func150, Tryz.ntmps150
      go_wp2_with (go_at_call 155; refine HU.out.mono ?_; rintro e w1 ⟨rfl, hq, hc⟩; have HM1 := hid hq; have HC1 := hid hc; clear hq hc)
      go_ret3
      exact ⟨rfl, HM1.out, HC1.out⟩
    · have e4 : m.useM N L b = m := if_neg hb
      rw [decide_eq_false hb, e4] at HU
      obtain ⟨n, hn⟩ : ∃ n, m.al.length = n := ⟨_, rfl⟩
      have HN := hid hn
      have HK := hid ok
      have HV := hid hv
      have HB := hid hb
      have HT := hid ht
      clear e3 e4 h hv2
      by_cases hC : n = C
      · have hg : m.goes C b := ⟨hv, hb, hn.trans hC⟩
        have e1 : m.adV C b = m.vc := if_pos hg
        have e2 : m.adM C N L H b = (m.ha H m.vc).us N L b := if_pos hg
        rw [e1, e2, decide_eq_true hg]
        have hp : 0 < m.al.length := by have := ok.c; omega
        obtain ⟨o1, o2⟩ := ok.ha hH (ok.vic hp).2.2.2
        have HO1 := hid o1
        have HO2 := hid (show b ∈ (m.ha H m.vc).al ∨ (m.ha H m.vc).al.length < C from .inr (by omega))
        have HP := hid hp
        have HT2 := hid (show (m.ha H m.vc).t ≤ 10000000 from by rw [ha_t]; exact ht)
        subst hC
        clear ok hg e1 e2 hb hv hn hp o1 o2 ht
        go_enter Tryz.func150, Tryz.ntmps150
        go_upto_region 7 with (go_at_call 155; refine HU.out.mono ?_; rintro e w1 ⟨rfl, hq, hc⟩; have HM1 := hid hq; have HC1 := hid hc; clear hq hc)
        have c1 := HM1.out.c1
        have HMD := hid (show Mq w1.drew g k n N L H m from HM1.out.draws 1)
        have HCD := hid (show Chg w w1.drew (Mf g k) (Mf g k) from Chg.draws HC1.out 1)
        go_region_held3 (fun w' => w'.cell? ⟨g, 1, none⟩ = some (.int .i64 n)) (first | exact kp | exact c1) (first | (go_at_call 153; refine (mq_len HMD.out HK.out).mono ?_; rintro e w2 ⟨rfl, hb⟩; rw [HN.out]; have HM2 := hid (HMD.out.below hb); have HC2 := hid (HCD.out.trans (Chg.of hb _)); have kp := HM2.out.c1; clear hb))
        clear kp c1
        go_wp2_with (first
          | (go_at_call 157; refine (mq_evict HM2.out HK.out hH HP.out).mono ?_; rintro e w3 ⟨rfl, hq, hc⟩; have HM3 := hid hq; have HC3 := hid (HC2.out.trans hc); clear hq hc)
          | (go_at_call 158; refine (mq_use HM3.out HO1.out HT2.out HV.out HO2.out).mono ?_; rintro e w4 ⟨rfl, hq, hc⟩; have HM4 := hid hq; have HC4 := hid (HC3.out.trans hc); clear hq hc))
        go_ret3
        exact ⟨rfl, HM4.out, HC4.out⟩
      · have hg : ¬ m.goes C b := fun e => hC (hn.symm.trans e.2.2)
        have e1 : m.adV C b = 0 := if_neg hg
        have e2 : m.adM C N L H b = m.us N L b := by unfold Ms.adM; rw [if_neg hg, if_pos hv]
        rw [e1, e2, decide_eq_false hg]
        have HO2 := hid (show b ∈ m.al ∨ m.al.length < C from .inr (by have := ok.cap; omega))
        have hCz : ((n : Int) == (C : Int)) = false := by simp; omega
        have hCd : decide ((n : Int) = (C : Int)) = false := by simp; omega
        clear ok hg e1 e2 hb hv hn ht
        go_enter Tryz.func150, Tryz.ntmps150
        go_upto_region 7 with (go_at_call 155; refine HU.out.mono ?_; rintro e w1 ⟨rfl, hq, hc⟩; have HM1 := hid hq; have HC1 := hid hc; clear hq hc)
        have c1 := HM1.out.c1
        have HMD := hid (show Mq w1.drew g k C N L H m from HM1.out.draws 1)
        have HCD := hid (show Chg w w1.drew (Mf g k) (Mf g k) from Chg.draws HC1.out 1)
        go_region_held3 (fun w' => w'.cell? ⟨g, 1, none⟩ = some (.int .i64 C)) (first | exact kp | exact c1) (first | (go_at_call 153; refine (mq_len HMD.out HK.out).mono ?_; rintro e w2 ⟨rfl, hb⟩; rw [HN.out]; have HM2 := hid (HMD.out.below hb); have HC2 := hid (HCD.out.trans (Chg.of hb _)); have kp := HM2.out.c1; clear hb))
        clear kp c1
        go_wp2_with (go_at_call 158; refine (mq_use HM2.out HK.out HT.out HV.out HO2.out).mono ?_; rintro e w4 ⟨rfl, hq, hc⟩; have HM4 := hid hq; have HC4 := hid (HC2.out.trans hc); clear hq hc)
        go_ret3
        exact ⟨rfl, HM4.out, HC4.out⟩
  · have hv2 : b < 0 ∨ (¬ b < 0 ∧ 64 ≤ b) := by unfold vb at hv; omega
    have hg : ¬ m.goes C b := fun e => hv e.1
    have e1 : m.adV C b = 0 := if_neg hg
    have e2 : m.adM C N L H b = m := by unfold Ms.adM; rw [if_neg hg, if_neg hv]
    have e3 : Ms.adE b = 3 := if_neg hv
    rw [e1, e2, e3, decide_eq_false hg]
    have HM := hid h
    clear h ok hg e1 e2 e3 hv
    rcases hv2 with h1 | ⟨h1, h2⟩
    all_goals
      go_enter Tryz.func150, Tryz.ntmps150
      go_wp2
      go_ret3
      exact ⟨rfl, HM.out, Chg.refl _ _⟩
end
/-- what a struct that is built of its first two fields becomes -/
theorem wp_build2 {P : Program} {o : Oper} {a : Act} {w : World} {K : Act → World → Prop} {Q : Exit → Act → World → Prop} (t : TypeId) (x y : Operand) (ho : o.op = .build t #[(0, x), (1, y)]) (u v : Value) (hx : a.eval x = u) (hy : a.eval y = v) (cs : Array Value)
    (hf : P.built t [(0, u), (1, v)] = some cs) (h : K (a.put o.dst (.agg cs)) w) : o.wp P a w K Q := by
  have hf2 : P.built t ((#[(0, x), (1, y)] : Array (Nat × Operand)).map fun (i, x) => (i, a.eval x)).toList = some cs := by
    subst hx
    subst hy
    simpa using hf
  exact wp_build t _ ho (by rw [hf2]; rfl) (by rw [hf2]; exact h)
set_option maxRecDepth 100000 in
theorem built_mq (k : Nat) (c n l h : Int) : Tryz.prog.built 146 [(0, .pointer (some ⟨k, 0, none⟩)), (1, .agg #[.int .i64 c, .int .i64 n, .int .i64 l, .int .i64 h])] = some (#[.pointer (some ⟨k, 0, none⟩), .int .i64 c, .int .i64 n, .int .i64 l, .int .i64 h] ++ Array.replicate 129 (Value.int .i64 0)) := by kernel_rfl
theorem mq_cells (k C N L H : Nat) : #[.pointer (some ⟨k, 0, none⟩), .int .i64 C, .int .i64 N, .int .i64 L, .int .i64 H] ++ Array.replicate 129 (Value.int .i64 0) = mc k C N L H 0 (fun _ => 0) (fun _ => 0) := by
  refine Array.ext (by simp [mc]) fun j h1 h2 => ?_
  have hj : j < 134 := by rw [mc_size] at h2; exact h2
  simp only [mc, Array.getElem_ofFn, mcf]
  by_cases h5 : j < 5
  · have h4 : j = 0 ∨ j = 1 ∨ j = 2 ∨ j = 3 ∨ j = 4 := by omega
    rw [Array.getElem_append_left (by simp; omega)]
    rcases h4 with rfl | rfl | rfl | rfl | rfl <;> rfl
  · rw [Array.getElem_append_right (by simp; omega)]
    rw [Array.getElem_replicate, if_neg (show ¬ j = 0 from by omega), if_neg (show ¬ j = 1 from by omega), if_neg (show ¬ j = 2 from by omega), if_neg (show ¬ j = 3 from by omega), if_neg (show ¬ j = 4 from by omega)]
    split
    · rfl
    · split <;> rfl
/-- an MQ that New has made -/
def NewQ (w : World) (C N L H : Nat) (e : Ending) (w' : World) : Prop :=
  ∃ g k, e = .returned (.tuple #[.pointer (some ⟨g, 0, none⟩), .int .i64 0]) ∧ Mq w' g k C N L H ⟨List.replicate 9 [], fun _ => 0, fun _ => 0, 0⟩ ∧ Below w.heap.size w w' ∧ w.heap.size ≤ g ∧ w.heap.size ≤ k
set_option maxRecDepth 20000 in
set_option maxHeartbeats 1000000 in
theorem mq_new_yes (C N L H : Nat) (hs : shp C N L H) (w : World) : Calls Tryz.prog 59 #[.agg #[.int .i64 C, .int .i64 N, .int .i64 L, .int .i64 H]] w (NewQ w C N L H) := by
  have HX := hid (Bx.new w 110 #[.int .i64 C, .int .i64 N, .int .i64 L, .int .i64 H])
  have HB := hid (below_alloc w (.cells #[.int .i64 C, .int .i64 N, .int .i64 L, .int .i64 H] 110))
  have HR := hid (fun w => mqright_any C N L H w)
  rw [decide_eq_true hs] at HR
  obtain ⟨q, hq⟩ : ∃ q, w.heap.size = q := ⟨_, rfl⟩
  rw [hq] at HX
  have HQ := hid hq
  clear hs hq
  go_enter Tryz.func59, Tryz.ntmps59
  go_upto_region 3 with (go_at_call 72; refine (HR.out _).mono ?_; rintro e w1 ⟨rfl, hb⟩; have HX1 := hid (HX.out.next hb); have HB1 := hid (on HB.out hb); clear hb)
  rw [HQ.out]
  obtain ⟨c0, c1, c2, c3⟩ := HX1.out.all4
  have HXD := hid (show Bx w1.drew q 110 #[.int .i64 C, .int .i64 N, .int .i64 L, .int .i64 H] from HX1.out)
  -- drawn
  refine wp_region_noPanic ?_
  refine wp_region_held_drew (S := fun w' => w'.cell? ⟨q, 0, none⟩ = some (.int .i64 C) ∧ w'.cell? ⟨q, 1, none⟩ = some (.int .i64 N) ∧ w'.cell? ⟨q, 2, none⟩ = some (.int .i64 L) ∧ w'.cell? ⟨q, 3, none⟩ = some (.int .i64 H)) (by kernel_rfl) ?_ (fun hHeld => ?_)
  · exact ⟨c0, c1, c2, c3⟩
  refine tkv 1 (some 8) rfl ?_
  refine tkc 0 (some 7) rfl fun K hK => ?_
  go_simp
  refine (lnew_any 9 _).mono ?_
  rintro e w2 ⟨k, rfl, hsq, hb, hk⟩
  have HX2 := hid (HXD.out.next hb)
  have kp := HX2.out.all4
  have HSQ := hid hsq
  have HB2 := hid hb
  have HK := hid hk
  have HBU := hid ((built_mq k C N L H).trans (congrArg some (mq_cells k C N L H)))
  clear hsq hb hk
  go_simp
  refine hK.out _ _ kp (fun hHeld => ?_)
  clear hK K
  (try simp only [Act.put, tkA, tk0, tk1])
  refine tkc 2 (some 9) rfl fun K hK => ?_
  refine wp_build2 146 (.tmp 7) (.tmp 8) rfl (.pointer (some ⟨k, 0, none⟩)) (.agg #[.int .i64 C, .int .i64 N, .int .i64 L, .int .i64 H]) rfl rfl (mc k C N L H 0 (fun _ => 0) (fun _ => 0)) HBU.out ?_
  refine hK.out _ _ kp (fun hHeld => ?_)
  clear hK K
  (try simp only [Act.put, tkA, tk0, tk1])
  refine tkc 3 (some 10) rfl fun K hK => ?_
  have HX3 := hid (HX2.out.alloc (.cells (mc k C N L H 0 (fun _ => 0) (fun _ => 0)) 146))
  have kq := HX3.out.all4
  go_simp
  refine hK.out _ _ kq (fun hHeld => ?_)
  clear hK K
  (try simp only [Act.put, tkA, tk0, tk1])
  refine tkv 4 (some 2) rfl ?_
  refine tkv 5 (some 3) rfl ?_
  refine wpAnyH_done (by kernel_rfl) ?_ _
  refine NoPanic.normal ?_
  -- till here
  go_wp2
  go_ret2
  have hs9 := HSQ.out
  rw [show empt (cl 9) = List.replicate 9 [] from by decide] at hs9
  have hb2 : Below w.heap.size w w2 := on (below_draws HB1.out 1) HB2.out
  have hk2 : w1.heap.size ≤ k := HK.out
  refine ⟨w2.heap.size, k, rfl, ⟨Bx.new w2 _ _, hs9.below (below_alloc w2 _), fun e => ?_⟩, on hb2 (below_alloc w2 _), hb2.size, Nat.le_trans HB1.out.size hk2⟩
  have := hs9.lt
  omega
end Go.Proofs.YtmfdlkkligjcbaaGreat
namespace Go.Proofs.YtmfdlkkligjcbaaGreat
open Go.RowKit

section
variable {w0 w w' : World} {g k q T n : Nat} {rg : Int → Option Nat} {pt : Nat → Nat} {lp : Nat → Bool} {S : List (List Int)}
theorem allp_succ (S : List (List Int)) (j : Nat) : ints (allp S (j + 1)) = ints (allp S j) ++ ints (S.getD j []) := by
  unfold ints
  rw [← List.map_append]
  rfl
theorem Okp.len64 (h : Okp rg pt n S) (m : Nat) : (allp S m).length ≤ 64 := nodup_le 64 _ (allp_nd h.wf m) fun x hx => by
  obtain ⟨i, _, hx⟩ := mem_allp.1 hx
  exact h.wf.ltg hx
set_option maxRecDepth 10000 in
set_option maxHeartbeats 1000000 in
theorem pt_all (h : Pt w0 w g k q T rg pt lp n S) : Calls Tryz.prog 130 #[.pointer (some ⟨g, 0, none⟩)] w (Told w (allp S n)) := by
  have c1 := h.c1
  have HPA := hid (pn_parts h.plan)
  have hn8 := h.pn.n8
  have H := hid h
  clear h
  go_enter Tryz.func130, Tryz.ntmps130
  go_wp2_with (go_at_call 71; refine HPA.out.mono ?_; rintro e w1 ⟨A, c, rfl, hb⟩; have HG0 := hid (GrW.of hb nl); clear hb)
  clear c1
  go_loopg [3, 13] n (fun gk s t wr => ∃ (j : Nat) (v : Value), j + gk = n ∧ v = s ∧ t = .int .i64 j ∧ OwnW wr 3 v (ints (allp S j)) ∧ GrW w wr nl v)
  case atStart => exact ⟨0, _, by omega, rfl, rfl, ownW_nil _ _, HG0.out⟩
  case round =>
    obtain ⟨j, v, hj, rfl, rfl, ho, hg⟩ := hrel
    by_cases hlt : j < n
    · have hlt' : (j : Int) < (n : Int) := by omega
      have HP := hid (H.out.below hg.nilBelow)
      have c0 := HP.out.c0
      have hjS : j < S.length := Nat.lt_of_lt_of_le hlt H.out.ok.len
      have HAL := hid (all_in HP.out.sq (gd_some hjS))
      have HT := hid (allp_succ S j)
      obtain ⟨m, hm⟩ : ∃ m, (ints (allp S j)).length = m := ⟨_, rfl⟩
      have hm64 : m ≤ 64 := by rw [← hm, ints_length]; exact H.out.ok.len64 j
      obtain ⟨m2, hm2⟩ : ∃ m, (S.getD j []).length = m := ⟨_, rfl⟩
      have hm264 : m2 ≤ 64 := by rw [← hm2]; exact H.out.ok.wf.len (gd_some hjS)
      have HM := hid hm
      have HM2 := hid hm2
      have HML := hid (show (ints (S.getD j [])).length = m2 from by rw [ints_length]; exact hm2)
      have HO := hid ho
      have HG := hid hg
      obtain ⟨B, cb, e0, -⟩ := ho.read
      rw [hm] at e0
      subst e0
      clear ho hg hm hm2 hjS
      generalize S.getD j [] = l at *
      go_wp2_with (first
        | (go_at_call 138; refine HAL.out.mono ?_; rintro e w2 ⟨A2, c2, rfl, ho2, hg2⟩; have HO2 := hid (HO.out.grown hg2 (fun x _ => by simp [Value.ownBlock])); have HG2 := hid (HG.out.trans (GrW.of hg2.nilBelow _)); rw [HM2.out]; rw [HM2.out] at ho2; have HR2 := hid (by obtain ⟨A3, c3, e3, hr3, h3, h4⟩ := ho2.read; rw [HML.out] at e3; simp only [Value.slice.injEq] at e3; obtain ⟨rfl, -, rfl⟩ := e3; rw [HML.out] at h3; exact And.intro hr3 (And.intro h3 h4)); clear ho2 hg2)
        | (at_builtin; (refine wpList_appW elt_int rfl _ _ rfl _ _ HO2.out rfl _ _ m2 c2 (ints l) rfl HML.out HR2.out.1 (ints_one _) (by rw [HM.out]; unfold maxLen; omega) (by rw [HM.out]; omega) ?_); (intro v2 w3 hown3 hg3; have HG3 := hid (HG2.out.trans hg3); have HO3 := hid hown3; clear hown3 hg3)))
      go_roundg (gk - 1)
      case measure => omega
      case rel => exact ⟨j + 1, v2, by omega, rfl, by go_num, by rw [HT.out]; exact HO3.out, HG3.out⟩
    · have hlt' : ¬ (j : Int) < (n : Int) := by omega
      obtain rfl : j = n := by omega
      have HO := hid ho
      have HG := hid hg
      obtain ⟨B, cb, e0, -⟩ := ho.read
      rw [ints_length] at e0
      subst e0
      clear ho hg
      go_wp2
      go_ret
      exact ⟨_, _, rfl, HO.out, HG.out⟩
set_option maxHeartbeats 400000 in
theorem pt_len (h : Pt w0 w g k q T rg pt lp n S) : Calls Tryz.prog 132 #[.pointer (some ⟨g, 0, none⟩)] w fun e w' => e = .returned (.int .i64 (allp S n).length) ∧ Below w.heap.size w w' := by
  have HA := hid (pt_all h)
  clear h
  go_enter Tryz.func132, Tryz.ntmps132
  go_wp2_with (go_at_call 130; refine HA.out.mono ?_; rintro e w' ⟨A, c, rfl, ho, hg⟩; have HG := hid hg.nilBelow; clear ho hg)
  go_ret
  exact ⟨rfl, HG.out⟩
set_option maxHeartbeats 400000 in
theorem pt_new (h : Pn w q T rg pt lp n) : Calls Tryz.prog 58 #[.pointer (some ⟨q, 0, none⟩), .int .i64 T] w fun e w' => ∃ g k, e = .returned (.tuple #[.pointer (some ⟨g, 0, none⟩), .int .i64 0]) ∧ Pt w w' g k q T rg pt lp n (empt (cl n)) := by
  have HPA := hid (pn_parts h)
  have h1 : ¬ (T : Int) < 1 := by have := h.t1; omega
  have h3 : ¬ 3 < (T : Int) := by have := h.t3; omega
  have hn := h.n8
  have HOK := hid (show Okp rg pt n (empt (cl n)) from Okp.new (by unfold cl; omega))
  have H := hid h
  clear h
  go_enter Tryz.func58, Tryz.ntmps58
  go_wp2_with (first
    | (go_at_call 71; refine HPA.out.mono ?_; rintro e w1 ⟨A, c, rfl, hb⟩; have HB := hid hb; clear hb)
    | (go_at_call 70; refine (lnew_any n _).mono ?_; rintro e w2 ⟨k, rfl, hs, hb, hk⟩; have HS := hid hs; have HB2 := hid (on HB.out hb); have HK := hid (Nat.le_trans HB.out.size hk); clear hs hb hk))
  go_ret2
  have hb := below_alloc w2 (.cells #[.pointer (some ⟨k, 0, none⟩), .pointer (some ⟨q, 0, none⟩), .int .i64 T] 143)
  exact ⟨w2.heap.size, k, rfl, H.out, on HB2.out hb, Bx.new w2 _ _, HS.out.below hb, HOK.out, fun e => by have := HS.out.lt; omega, HB2.out.size, HK.out⟩
end
end Go.Proofs.YtmfdlkkligjcbaaGreat
