/-
  What is proved: plain facts on numbers told seven bits a byte: how the list begins, how long it is. Nothing of the program is in it. No condition.
-/
import Derived.Below
import Derived.Test.YtbcejfonkehjgaaGreatDoorK28
import Derived.ScopeJumps
namespace Go.Proofs.YtbcejfonkehjgaaGreatDoor

def encF : Nat → Nat → List Int
  | 0, n => [(n : Int)]
  | f + 1, n => if n < 128 then [(n : Int)] else ((n % 128 + 128 : Nat) : Int) :: encF f (n / 128)
def enc (n : Nat) : List Int := encF n n

theorem encF_eq : ∀ (f g n : Nat), n ≤ f → n ≤ g → encF f n = encF g n := by
  intro f
  induction f with
  | zero => intro g n hf hg; have : n = 0 := by omega
            subst this; cases g <;> simp [encF]
  | succ f ih =>
    intro g n hf hg
    cases g with
    | zero => have : n = 0 := by omega
              subst this; simp [encF]
    | succ g =>
      simp only [encF]
      by_cases h : n < 128
      · simp [h]
      · simp only [h, if_false]
        rw [ih g (n / 128) (by omega) (by omega)]

theorem enc_small (n : Nat) (h : n < 128) : enc n = [(n : Int)] := by
  unfold enc
  cases n with
  | zero => rfl
  | succ n => simp [encF, h]
theorem enc_big (n : Nat) (h : ¬ n < 128) : enc n = ((n % 128 + 128 : Nat) : Int) :: enc (n / 128) := by
  unfold enc
  cases n with
  | zero => omega
  | succ n =>
    simp only [encF, h, if_false]
    rw [encF_eq n ((n + 1) / 128) _ (by omega) (by omega)]

theorem enc_len_le : ∀ (k n : Nat), n < 128 ^ (k + 1) → (enc n).length ≤ k + 1 := by
  intro k
  induction k with
  | zero => intro n h; rw [enc_small n (by simpa using h)]; simp
  | succ k ih =>
    intro n h
    by_cases hn : n < 128
    · rw [enc_small n hn]; simp
    · rw [enc_big n hn]
      have := ih (n / 128) (by rw [Nat.pow_succ] at h; exact Nat.div_lt_of_lt_mul (by rw [Nat.mul_comm]; exact h))
      simp only [List.length_cons]
      omega
theorem enc_len_pos (n : Nat) : 0 < (enc n).length := by
  by_cases h : n < 128
  · rw [enc_small n h]; simp
  · rw [enc_big n h]; simp
theorem enc_len9 (n : Nat) (h : n < 9223372036854775808) : (enc n).length ≤ 9 := enc_len_le 8 n (by simpa using h)

theorem or128 (m : Nat) : bits BinOp.or IntKind.u8 ((m : Int) % 256) 128 = ((m % 128 + 128 : Nat) : Int) := by
  have key : ∀ k : Fin 256, bits BinOp.or IntKind.u8 ((k.val : Nat) : Int) 128 = ((k.val % 128 + 128 : Nat) : Int) := by decide +kernel
  have h := key ⟨m % 256, Nat.mod_lt _ (by omega)⟩
  simp only [Nat.mod_mod_of_dvd m (show 128 ∣ 256 by decide)] at h
  rw [← h]
  congr 1
end Go.Proofs.YtbcejfonkehjgaaGreatDoor
namespace Go.Proofs.YtbcejfonkehjgaaGreatDoor
open Go.RowKit

set_option maxRecDepth 100000 in
set_option maxHeartbeats 400000 in
theorem put_any (A : Option Addr) (n c : Nat) (x : Int) (l : List Int) (w : World) (C : Nat) (hn : l.length = n) (hlen : n ≤ 70368744177000) (hx : x ≤ 9223372036854775807) (ra : Rd w C A l) (hC : C ≤ w.heap.size) :
    Calls Tryz.prog 160 #[.slice A n c, .int .i64 x] w fun e w' => ∃ v, e = .returned v ∧ Own w' w.heap.size v (l ++ enc x.toNat) ∧ Below w.heap.size w w' := by
  go_enter Tryz.func160, Tryz.ntmps160
  go_wp2
  refine wp_scope_jumps 0 (fun a' w' => ∃ (m : Nat) (v : Value) (r : List Int) (u2 u3 u4 u6 u7 u8 u9 u10 u11 u12 u13 u14 u15 u16 u17 u18 u19 u20 u21 u22 u23 u24 : Value), a' = { tmps := #[.slice A n c, .int .i64 m, u2, u3, u4, v, u6, u7, u8, u9, u10, u11, u12, u13, u14, u15, u16, u17, u18, u19, u20, u21, u22, u23, u24], defers := [] } ∧
    Own w' w.heap.size v r ∧ Below w.heap.size w w' ∧ r ++ [(m : Int)] = l ++ enc x.toNat ∧ m < 128) (fun _ _ => 0) rfl ?_ ?_
  · go_wp2_with (go_at_call 158; refine (room_any A n c 9 l _ C hn (by omega) (by omega) (by omega) ra hC).mono ?_; rintro e w1 ⟨v, rfl, hown, hbel⟩)
    all_goals
      have H9 := hid (enc_len9 x.toNat (by omega))
      go_loopw [1, 5] (fun i v wr => ∃ (m : Nat) (r : List Int), i = .int .i64 m ∧ m ≤ 9223372036854775807 ∧ Own wr w.heap.size v r ∧ Below w.heap.size w wr ∧ r ++ enc m = l ++ enc x.toNat) (fun i _ _ => (intOf i).toNat)
      case atStart => exact ⟨x.toNat, l, by congr 1; omega, by omega, hown, hbel, rfl⟩
      case round =>
        obtain ⟨m, r, rfl, hm, hown, hbel, heq⟩ := hrel
        have HQ := hid heq
        clear heq
        have hlr : r.length ≤ n + 9 := by
          have h1 := congrArg List.length HQ.out
          rw [List.length_append, List.length_append] at h1
          have := H9.out
          omega
        by_cases hlt : m < 128
        · go_wp2
          go_step3
          exact ⟨rfl, m, _, r, _, _, _, _, _, _, _, _, _, _, _, _, _, _, _, _, _, _, _, _, _, _, rfl, hown, hbel, by rw [← HQ.out, enc_small m hlt], hlt⟩
        · go_wp2_with (at_builtin; refine wpList_app rfl _ _ rfl w.heap.size _ r (hown.alloc _) rfl _ _ _ _ [_] rfl rfl (rd_one _ _) (by omega) (by have := hbel.size; simp; omega) ?_; intro v' w2 hown2 hg2)
          rw [or128 m] at hown2
          have hb2 := hbel.trans ((((Below.refl wr.heap.size wr).alloc (Nat.le_refl _) _).mono hbel.size).trans (hg2.below (hown.alloc _) (by have := hbel.size; simp; omega)))
          go_roundw
          case rel => exact ⟨m / 128, _, by go_num, by omega, hown2, hb2, by rw [← HQ.out, enc_big m hlt]; simp⟩
          case measure => simp [intOf]; omega
  · rintro a' w' ⟨m, v, r, u2, u3, u4, u6, u7, u8, u9, u10, u11, u12, u13, u14, u15, u16, u17, u18, u19, u20, u21, u22, u23, u24, rfl, hown, hbel, heq, hm⟩
    have HQ := hid heq
    clear heq
    have H9 := hid (enc_len9 x.toNat (by omega))
    have hlr : r.length ≤ n + 9 := by
      have h1 := congrArg List.length HQ.out
      rw [List.length_append, List.length_append] at h1
      have := H9.out
      simp at h1
      omega
    go_wp2_with (at_builtin; refine wpList_app rfl _ _ rfl w.heap.size _ r (hown.alloc _) rfl _ _ _ _ [_] rfl rfl (rd_one _ _) (by omega) (by have := hbel.size; simp; omega) ?_; intro v' w2 hown2 hg2)
    simp only [Exit.jump]
    rw [HQ.out] at hown2
    go_ret
    exact ⟨_, rfl, hown2, hbel.trans ((((Below.refl w'.heap.size w').alloc (Nat.le_refl _) _).mono hbel.size).trans (hg2.below (hown.alloc _) (by have := hbel.size; simp; omega)))⟩
end Go.Proofs.YtbcejfonkehjgaaGreatDoor
namespace Go.Proofs.YtbcejfonkehjgaaGreatDoor
open Go.RowKit

set_option maxHeartbeats 400000 in
theorem puttext_any (A B : Option Addr) (n ca m cb : Nat) (xs ys : List Int) (w : World) (C D : Nat) (hn : xs.length = n) (hm : ys.length = m) (hln : n ≤ 35184372088832) (hlm : m ≤ 35184372088832)
    (rx : Rd w C A xs) (hC : C ≤ w.heap.size) (ry : Rd w D B ys) (hD : D ≤ w.heap.size) :
    Calls Tryz.prog 148 #[.slice A n ca, .slice B m cb] w fun e w' => ∃ v, e = .returned v ∧ Own w' w.heap.size v (xs ++ enc m ++ ys) ∧ Below w.heap.size w w' := by
  have H9 := enc_len9 m (by omega)
  go_enter Tryz.func148, Tryz.ntmps148
  go_wp2_with fail
  refine (put_any A n ca m xs _ C hn (by omega) (by omega) rx hC).mono ?_
  rintro e w1 ⟨v, rfl, hown, hbel⟩
  rw [Int.toNat_natCast] at hown
  go_wp2_with (at_builtin; refine wpList_app rfl (.tmp 8) (.tmp 9) rfl w.heap.size _ (xs ++ enc m) hown rfl D B m cb ys rfl hm (ry.below hbel hD) (by rw [List.length_append]; omega) hbel.size ?_; intro v2 w2 hown2 hg2)
  go_ret
  exact ⟨_, rfl, hown2, hbel.trans (hg2.below hown hbel.size)⟩

end Go.Proofs.YtbcejfonkehjgaaGreatDoor
namespace Go.Proofs.YtbcejfonkehjgaaGreatDoor

def scan : Nat → List Int → Option (List Int)
  | 0, _ => none
  | _ + 1, [] => none
  | k + 1, c :: r => if c < 128 then some [c] else (scan k r).map (c :: ·)
def val : List Int → Nat
  | [] => 0
  | c :: r => c.toNat % 128 + 128 * val r
def Good (t : List Int) : Prop := t.length = 1 ∨ t.getLast? ≠ some 0

theorem enc_ne (m : Nat) : enc m ≠ [] := by
  intro h
  have := enc_len_pos m
  rw [h] at this
  simp at this

theorem scan_enc : ∀ (k m : Nat) (r : List Int), m < 128 ^ k → 0 < k → scan k (enc m ++ r) = some (enc m) := by
  intro k
  induction k with
  | zero => intro m r _ h; omega
  | succ k ih =>
    intro m r hm _
    by_cases h : m < 128
    · rw [enc_small m h]
      have : ((m : Nat) : Int) < 128 := by omega
      simp [scan, this]
    · rw [enc_big m h]
      have hk : 0 < k := by
        rcases Nat.eq_zero_or_pos k with h0 | h0
        · subst h0; simp at hm; omega
        · exact h0
      have h2 := ih (m / 128) r (by rw [Nat.pow_succ] at hm; exact Nat.div_lt_of_lt_mul (by rw [Nat.mul_comm]; exact hm)) hk
      have h3 : ¬ (((m % 128 + 128 : Nat) : Int) < 128) := by omega
      simp only [List.cons_append, scan, h3, if_false, h2, Option.map_some]

theorem enc_last (m : Nat) : m ≠ 0 → (enc m).getLast? ≠ some 0 := by
  induction m using Nat.strongRecOn with
  | _ m ih =>
    intro h0
    by_cases h : m < 128
    · rw [enc_small m h]; simp; omega
    · rw [enc_big m h]
      have := ih (m / 128) (by omega) (by omega)
      rw [List.getLast?_cons_of_ne_nil (enc_ne _)]
      exact this
theorem enc_good (m : Nat) : Good (enc m) := by
  by_cases h : m = 0
  · subst h; left; rw [enc_small 0 (by omega)]; rfl
  · exact .inr (enc_last m h)
theorem val_enc (m : Nat) : val (enc m) = m := by
  induction m using Nat.strongRecOn with
  | _ m ih =>
    by_cases h : m < 128
    · rw [enc_small m h]; simp [val]; omega
    · rw [enc_big m h]
      simp only [val]
      rw [ih (m / 128) (by omega)]
      simp
      omega

theorem scan_ne {k : Nat} {l t : List Int} (h : scan k l = some t) : t ≠ [] := by
  cases k with
  | zero => simp [scan] at h
  | succ k =>
    cases l with
    | nil => simp [scan] at h
    | cons c r =>
      simp only [scan] at h
      by_cases hc : c < 128
      · rw [if_pos hc] at h; cases h; simp
      · rw [if_neg hc] at h
        obtain ⟨u, _, e⟩ := Option.map_eq_some_iff.1 h
        subst e; simp
theorem scan_prefix : ∀ (k : Nat) (l t : List Int), scan k l = some t → ∃ r, l = t ++ r := by
  intro k
  induction k with
  | zero => intro l t h; simp [scan] at h
  | succ k ih =>
    intro l t h
    cases l with
    | nil => simp [scan] at h
    | cons c r =>
      simp only [scan] at h
      by_cases hc : c < 128
      · rw [if_pos hc] at h; cases h; exact ⟨r, rfl⟩
      · rw [if_neg hc] at h
        obtain ⟨u, hu, e⟩ := Option.map_eq_some_iff.1 h
        subst e
        obtain ⟨r', e'⟩ := ih r u hu
        exact ⟨r', by rw [e']; rfl⟩
theorem scan_sound : ∀ (k : Nat) (l t : List Int), (∀ x ∈ l, 0 ≤ x ∧ x ≤ 255) → scan k l = some t → Good t → t = enc (val t) ∧ val t < 128 ^ k ∧ (1 < t.length → 0 < val t) := by
  intro k
  induction k with
  | zero => intro l t _ h; simp [scan] at h
  | succ k ih =>
    intro l t hb h hg
    cases l with
    | nil => simp [scan] at h
    | cons c r =>
      have hc0 := hb c (by simp)
      simp only [scan] at h
      by_cases hc : c < 128
      · rw [if_pos hc] at h
        cases h
        have hv : val [c] = c.toNat := by simp [val]; omega
        refine ⟨?_, ?_, by simp⟩
        · rw [hv, enc_small _ (by omega)]; congr 1; omega
        · rw [hv, Nat.pow_succ]
          have : 0 < 128 ^ k := Nat.pow_pos (by omega)
          omega
      · rw [if_neg hc] at h
        obtain ⟨u, hu, e⟩ := Option.map_eq_some_iff.1 h
        subst e
        have hne := scan_ne hu
        have hgu : Good u := by
          rcases hg with hg | hg
          · simp at hg; exact absurd hg hne
          · rw [List.getLast?_cons_of_ne_nil hne] at hg; exact .inr hg
        obtain ⟨h1, h2, h3⟩ := ih r u (fun x hx => hb x (by simp [hx])) hu hgu
        have hpos : 0 < val u := by
          rcases Nat.eq_zero_or_pos (val u) with h0 | h0
          · exfalso
            have hl1 : u.length = 1 := by
              have : u.length ≠ 0 := fun h => hne (List.eq_nil_of_length_eq_zero h)
              rcases Nat.lt_or_ge 1 u.length with h | h
              · have := h3 h; omega
              · omega
            rw [h0, enc_small 0 (by omega)] at h1
            rcases hg with hg | hg
            · simp at hg; exact hne hg
            · rw [h1] at hg; simp at hg
          · exact h0
        have hv : val (c :: u) = c.toNat % 128 + 128 * val u := rfl
        refine ⟨?_, ?_, fun _ => by rw [hv]; omega⟩
        · rw [enc_big _ (by rw [hv]; omega)]
          congr 1
          · rw [hv]; omega
          · rw [h1]; congr 1; rw [← h1, hv]; omega
        · rw [hv, Nat.pow_succ]; omega

theorem val_snoc (t : List Int) (c : Int) : val (t ++ [c]) = val t + (c.toNat % 128) * 128 ^ t.length := by
  induction t with
  | nil => simp [val]
  | cons d t ih =>
    simp only [List.cons_append, val, ih, List.length_cons, Nat.pow_succ]
    rw [Nat.mul_add, Nat.add_assoc, Nat.mul_left_comm, Nat.mul_comm 128 (128 ^ t.length)]
theorem val_lt (t : List Int) : val t < 128 ^ t.length := by
  induction t with
  | nil => simp [val]
  | cons d t ih => simp only [val, List.length_cons, Nat.pow_succ]; omega

def Gone (l : List Int) (p i m : Nat) : Prop :=
  i ≤ 9 ∧ p + i ≤ l.length ∧ m = val ((l.drop p).take i) ∧ scan 9 (l.drop p) = (scan (9 - i) (l.drop (p + i))).map ((l.drop p).take i ++ ·)

theorem Gone.first (l : List Int) (p : Nat) (hp : p ≤ l.length) : Gone l p 0 0 := by
  refine ⟨by omega, by omega, by simp [val], ?_⟩
  simp
theorem Gone.lt {l : List Int} {p i m : Nat} (h : Gone l p i m) : m < 128 ^ i := by
  have := val_lt ((l.drop p).take i)
  rw [← h.2.2.1, List.length_take, List.length_drop] at this
  exact Nat.lt_of_lt_of_le this (Nat.pow_le_pow_right (by omega) (Nat.min_le_left _ _))
theorem take_next (l : List Int) (p i : Nat) (h : p + i < l.length) : (l.drop p).take (i + 1) = (l.drop p).take i ++ [l[p + i]] := by
  rw [List.take_add_one, List.getElem?_drop, List.getElem?_eq_getElem h]; rfl
theorem drop_next (l : List Int) (p i : Nat) (h : p + i < l.length) : l.drop (p + i) = l[p + i] :: l.drop (p + (i + 1)) := by
  rw [List.drop_eq_getElem_cons h]; rfl
theorem len_take (l : List Int) (p i : Nat) (h : p + i ≤ l.length) : ((l.drop p).take i).length = i := by
  rw [List.length_take, List.length_drop]; omega
theorem Gone.on {l : List Int} {p i m : Nat} (h : Gone l p i m) (hi : i < 9) (hp : p + i < l.length) (hc : ¬ l[p + i] < 128) : Gone l p (i + 1) (m + (l[p + i].toNat % 128) * 128 ^ i) := by
  obtain ⟨_, _, h1, h2⟩ := h
  refine ⟨by omega, by omega, ?_, ?_⟩
  · rw [take_next l p i hp, val_snoc, ← h1, len_take l p i (by omega)]
  · rw [h2, drop_next l p i hp, show 9 - i = (9 - (i + 1)) + 1 from by omega]
    simp only [scan, if_neg hc, Option.map_map, take_next l p i hp]
    congr 1
    funext t
    simp
theorem Gone.short {l : List Int} {p i m : Nat} (h : Gone l p i m) (hi : i < 9) (hp : p + i = l.length) : scan 9 (l.drop p) = none := by
  rw [h.2.2.2, List.drop_eq_nil_of_le (show l.length ≤ p + i by omega), show 9 - i = (8 - i) + 1 from by omega]
  rfl
theorem Gone.long {l : List Int} {p m : Nat} (h : Gone l p 9 m) : scan 9 (l.drop p) = none := by
  rw [h.2.2.2]; rfl
theorem Gone.last {l : List Int} {p i m : Nat} (h : Gone l p i m) (hi : i < 9) (hp : p + i < l.length) (hc : l[p + i] < 128) :
    ∃ t, scan 9 (l.drop p) = some t ∧ val t = m + (l[p + i].toNat % 128) * 128 ^ i ∧ t.length = i + 1 ∧ t.getLast? = some l[p + i] := by
  obtain ⟨_, _, h1, h2⟩ := h
  refine ⟨(l.drop p).take i ++ [l[p + i]], ?_, ?_, ?_, by simp⟩
  · rw [h2, drop_next l p i hp, show 9 - i = (8 - i) + 1 from by omega]
    simp only [scan, if_pos hc, Option.map_some]
  · rw [val_snoc, ← h1, len_take l p i (by omega)]
  · rw [List.length_append, len_take l p i (by omega)]; rfl
end Go.Proofs.YtbcejfonkehjgaaGreatDoor
