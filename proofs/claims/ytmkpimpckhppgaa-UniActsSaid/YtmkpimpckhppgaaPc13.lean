/-
  What is proved: how many blocks of a stack have a level when one is used, moves, goes; never more than the capacity; what a use on top of a use does; moves told one behind the other. No program's function is in it.
-/
import Derived.Test.YtmkpimpckhppgaaUv13
namespace Go.Proofs.Ytmkpimpckhppgaa

theorem countP_wo {L : List Int} {b : Int} (hd : L.Nodup) (hb : b ∈ L) (p : Int → Bool) : L.countP p = (wo b L).countP p + (if p b then 1 else 0) := by
  obtain ⟨A, B, rfl⟩ := List.append_of_mem hb
  rw [wo_split hd, List.countP_append, List.countP_append, List.countP_cons]
  omega
theorem countP_upd {L : List Int} {b : Int} (hb : b ∉ L) (v : Int → Int) (l q : Int) : L.countP (fun x => upd v b l x == q) = L.countP (fun x => v x == q) := by
  refine List.countP_congr fun x hx => ?_
  rw [upd_ne v l (fun e => hb (by rw [← e]; exact hx))]
/-- how many others have a level -/
def ctw (s : Us) (b q : Int) : Nat := (wo b s.L).countP fun x => s.v x == q
section
variable {s : Us} {c : Nat → Nat}
theorem ct_in (ok : Oku s) {b : Int} (hb : b ∈ s.L) (q : Int) : s.ct q = ctw s b q + (if s.v b = q then 1 else 0) := by
  unfold Us.ct ctw
  rw [countP_wo ok.nd hb]
  by_cases h : s.v b = q
  · rw [if_pos h, if_pos (by simpa using h)]
  · rw [if_neg h, if_neg (by simpa using h)]
theorem ct_out {b : Int} (hb : b ∉ s.L) (q : Int) : s.ct q = ctw s b q := by
  unfold Us.ct ctw
  rw [wo_out hb]
theorem ct_pt (s : Us) (b : Int) (l q : Int) : (s.pt b l).ct q = ctw s b q + (if l = q then 1 else 0) := by
  show (b :: wo b s.L).countP (fun x => upd s.v b l x == q) = _
  rw [List.countP_cons, countP_upd (fun h => (mem_wo.1 h).2 rfl), upd_same]
  unfold ctw
  by_cases h : l = q
  · rw [if_pos h, if_pos (by simpa using h)]
  · rw [if_neg h, if_neg (by simpa using h)]
theorem ct_sv (ok : Oku s) {b : Int} (hb : b ∈ s.L) (l q : Int) : (s.sv b l).ct q = ctw s b q + (if l = q then 1 else 0) := by
  show s.L.countP (fun x => upd s.v b l x == q) = _
  rw [countP_wo ok.nd hb, countP_upd (fun h => (mem_wo.1 h).2 rfl), upd_same]
  unfold ctw
  by_cases h : l = q
  · rw [if_pos h, if_pos (by simpa using h)]
  · rw [if_neg h, if_neg (by simpa using h)]
theorem ct_fg (s : Us) (b q : Int) : (s.fg b).ct q = ctw s b q := countP_upd (fun h => (mem_wo.1 h).2 rfl) _ _ _
/-- what trimming leaves -/
theorem trm_ind (P : Us → Us → Prop) (h0 : ∀ s : Us, Oku s → (∀ x, s.L.getLast? = some x → s.v x ≠ 4) → P s s) (h1 : ∀ (s t : Us) (x : Int), Oku s → s.L.getLast? = some x → s.v x = 4 → P (s.fg x) t → P s t) :
    ∀ (n : Nat) (s : Us), s.L.length = n → Oku s → P s s.trm
  | n, s, hn, ok => by
    cases hl : s.L.getLast? with
    | none =>
      have e : s.L = [] := List.getLast?_eq_none_iff.1 hl
      rw [tr_nil e]
      exact h0 s ok (fun x hx => by rw [hl] at hx; cases hx)
    | some x =>
      by_cases hv : s.v x = 4
      · obtain ⟨e1, e2⟩ := tr_go ok hl hv
        rw [e1]
        cases n with
        | zero => omega
        | succ n => exact h1 s _ x ok hl hv (trm_ind P h0 h1 n (s.fg x) (by omega) (ok.fg x))
      · rw [tr_stop hl hv]
        exact h0 s ok (fun y hy => by rw [hl] at hy; injection hy with hy; rw [← hy]; exact hv)
theorem trm_bot (ok : Oku s) {x : Int} (h : s.trm.L.getLast? = some x) : s.trm.v x ≠ 4 :=
  trm_ind (fun _ t => ∀ x, t.L.getLast? = some x → t.v x ≠ 4) (fun _ _ h => h) (fun _ _ _ _ _ _ h => h) _ s rfl ok x h
theorem trm_ct (ok : Oku s) {q : Int} (hq : q ≠ 4) : s.trm.ct q = s.ct q :=
  trm_ind (fun s t => t.ct q = s.ct q) (fun _ _ _ => rfl) (fun s t x ok hl hv h => by
    rw [h, ct_fg, ct_in ok (last_mem hl), if_neg (by omega), Nat.add_zero]) _ s rfl ok
theorem trm_v (ok : Oku s) (y : Int) : (y ∈ s.trm.L → y ∈ s.L) ∧ (s.trm.v y = s.v y ∨ (s.trm.v y = 0 ∧ s.v y = 4)) :=
  trm_ind (fun s t => (y ∈ t.L → y ∈ s.L) ∧ (t.v y = s.v y ∨ (t.v y = 0 ∧ s.v y = 4))) (fun _ _ _ => ⟨id, .inl rfl⟩) (fun s t x ok hl hv h => by
    refine ⟨fun hy => (mem_wo.1 (h.1 hy)).1, ?_⟩
    by_cases e : y = x
    · have e2 : (s.fg x).v y = 0 := by rw [e]; exact upd_same _ _ _
      rcases h.2 with h2 | h2
      · exact .inr ⟨h2.trans e2, by rw [e]; exact hv⟩
      · exact .inr ⟨h2.1, by rw [e]; exact hv⟩
    · have e2 : (s.fg x).v y = s.v y := upd_ne _ _ e
      rw [e2] at h
      exact h.2) _ s rfl ok
theorem trm_top (ok : Oku s) {b : Int} {t : List Int} (hb : s.L = b :: t) (hv : s.v b ≠ 4) : (∃ t', s.trm.L = b :: t') ∧ s.trm.v b = s.v b :=
  trm_ind (fun s r => ∀ t, s.L = b :: t → s.v b ≠ 4 → (∃ t', r.L = b :: t') ∧ r.v b = s.v b) (fun _ _ _ t hb _ => ⟨⟨t, hb⟩, rfl⟩) (fun s r x ok hl hv4 h t hb hv => by
    have e : x ≠ b := fun e => hv (by rw [← e]; exact hv4)
    have e2 : (s.fg x).v b = s.v b := upd_ne _ _ (fun e' => e e'.symm)
    have e3 : (s.fg x).L = b :: wo x t := by
      show wo x s.L = _
      rw [hb]
      unfold wo
      rw [List.filter_cons, if_pos (by simpa using fun e' => e e'.symm)]
    have := h _ e3 (by rw [e2]; exact hv)
    rw [e2] at this
    exact this) _ s rfl ok t hb hv
/-- no level has more than its capacity; the lowest one is not out; while level 1 has room all have it -/
structure Okc (c : Nat → Nat) (s : Us) : Prop where
  cap : ∀ l : Nat, 1 ≤ l → l ≤ 3 → s.ct l ≤ c l
  bot : ∀ x, s.L.getLast? = some x → s.v x ≠ 4
  room : s.ct 1 < c 1 → ∀ b ∈ s.L, s.v b = 1
theorem Okc.new (c : Nat → Nat) : Okc c ⟨[], fun _ => 0⟩ := ⟨fun l _ _ => Nat.zero_le _, (fun x h => by cases h), (fun _ b h => by cases h)⟩
theorem stl_cap : ∀ {k : Nat} {s : Us}, k ≤ 3 → Oku s → (∀ l : Nat, 1 ≤ l → l ≤ 3 → s.ct l ≤ c l + (if l + k = 4 then 1 else 0)) → ∀ l : Nat, 1 ≤ l → l ≤ 3 → (s.stl c k).1.ct l ≤ c l
  | 0, s, _, _, h => fun l h1 h3 => by
    have := h l h1 h3
    rw [if_neg (by omega)] at this
    exact this
  | k + 1, s, hk, ok, h => fun l h1 h3 => by
    by_cases hc : c (3 - k) < s.ct (3 - k : Nat)
    · obtain ⟨hym, hyv⟩ := Us.yb_mem (Us.ct_pos (show 0 < s.ct (3 - k : Nat) from by omega))
      rw [stl_yes hc (by omega)]
      have hin := fun q => ct_in ok hym q
      have hsv := fun q => ct_sv ok hym ((3 - k + 1 : Nat) : Int) q
      refine stl_cap (by omega) (ok.sv hym (by omega)) (fun q q1 q3 => ?_) l h1 h3
      have i1 := hin q
      have i2 := hsv q
      have i3 := h q q1 q3
      rw [hyv] at i1
      by_cases e1 : q = 3 - k
      · rw [if_pos (show ((3 - k : Nat) : Int) = q from by omega)] at i1
        rw [if_neg (show ¬ ((3 - k + 1 : Nat) : Int) = q from by omega)] at i2
        rw [if_pos (by omega)] at i3
        rw [if_neg (by omega)]
        omega
      · rw [if_neg (show ¬ ((3 - k : Nat) : Int) = q from by omega)] at i1
        rw [if_neg (by omega)] at i3
        by_cases e2 : q = 3 - k + 1
        · rw [if_pos (show ((3 - k + 1 : Nat) : Int) = q from by omega)] at i2
          rw [if_pos (by omega)]
          omega
        · rw [if_neg (show ¬ ((3 - k + 1 : Nat) : Int) = q from by omega)] at i2
          omega
    · rw [stl_no hc (by omega)]
      show s.ct l ≤ c l
      have := h l h1 h3
      by_cases e : l = 3 - k
      · subst e; omega
      · rw [if_neg (by omega)] at this
        exact this
theorem stl_L : ∀ {k : Nat} {s : Us}, (s.stl c k).1.L = s.L
  | 0, s => rfl
  | k + 1, s => by
    unfold Us.stl
    split
    · exact stl_L
    · rfl
/-- level 1 keeps what it has, up to its capacity -/
theorem stl_one : ∀ {k : Nat} {s : Us}, k ≤ 3 → Oku s → min (s.ct 1) (c 1) ≤ (s.stl c k).1.ct 1
  | 0, s, _, _ => Nat.min_le_left _ _
  | k + 1, s, hk, ok => by
    by_cases hc : c (3 - k) < s.ct (3 - k : Nat)
    · obtain ⟨hym, hyv⟩ := Us.yb_mem (Us.ct_pos (show 0 < s.ct (3 - k : Nat) from by omega))
      rw [stl_yes hc (by omega)]
      have h1 := ct_in ok hym 1
      have h2 := ct_sv ok hym ((3 - k + 1 : Nat) : Int) 1
      have ih := stl_one (show k ≤ 3 from by omega) (ok.sv hym (l := ((3 - k + 1 : Nat) : Int)) (by omega))
      rw [if_neg (show ¬ ((3 - k + 1 : Nat) : Int) = 1 from by omega)] at h2
      rw [hyv] at h1
      generalize s.yb (3 - k : Nat) = y at *
      show min (s.ct 1) (c 1) ≤ ((s.sv y ((3 - k + 1 : Nat) : Int)).stl c k).1.ct 1
      by_cases e : 3 - k = 1
      · rw [if_pos (by omega)] at h1
        have hc1 : c 1 < s.ct 1 := by rw [e] at hc; exact hc
        omega
      · rw [if_neg (show ¬ ((3 - k : Nat) : Int) = 1 from by omega)] at h1
        omega
    · rw [stl_no hc (by omega)]
      exact Nat.min_le_left _ _
theorem nx_one_in {b : Int} (hb : b ∈ s.L) (hv : s.v b = 1) : s.nx c b = 1 := by
  have h : s.tk c b 1 := by unfold Us.tk; rw [if_pos hb]; exact Us.yp_of hb hv
  have h1 := nx_min (Nat.le_refl 1) (by omega) h
  have h2 := nx_le (c := c) s b
  omega
theorem Okc.us (h : Okc c s) (ok : Oku s) (_ : ∀ l, 1 ≤ l → l ≤ 3 → 1 ≤ c l) {b : Int} (hb : 0 ≤ b ∧ b < 64) : Okc c (s.us c b) where
  cap := fun l l1 l3 => by
    have hn := nx_le (c := c) s b
    show ((s.ust c b).1.trm).ct l ≤ _
    rw [trm_ct (ok.ust hb) (by omega)]
    refine stl_cap (by omega) (ok.pt hb (by omega)) (fun q q1 q3 => ?_) l l1 l3
    rw [ct_pt]
    have h1 := h.cap q q1 q3
    have h2 : ctw s b q ≤ s.ct q := by
      by_cases hm : b ∈ s.L
      · rw [ct_in ok hm q]; omega
      · rw [ct_out hm q]; omega
    by_cases e : s.nx c b = q
    · rw [if_pos (by omega), if_pos (by omega)]; omega
    · rw [if_neg (by omega), if_neg (by omega)]; omega
  bot := fun x hx => trm_bot (ok.ust hb) hx
  room := fun hr => by
    have hn := nx_le (c := c) s b
    have hr2 : (s.ust c b).1.ct 1 < c 1 := by
      have e : (s.us c b).ct 1 = (s.ust c b).1.ct 1 := trm_ct (ok.ust hb) (by omega)
      omega
    have hok := ok.pt hb (l := s.nx c b) (by omega)
    have hmin : min ((s.pt b (s.nx c b)).ct 1) (c 1) ≤ (s.ust c b).1.ct 1 := stl_one (c := c) (by omega) hok
    have hpt := ct_pt s b (s.nx c b) 1
    by_cases h1 : s.ct 1 < c 1
    · have hall := h.room h1
      have hnx : s.nx c b = 1 := by
        by_cases hm : b ∈ s.L
        · exact nx_one_in hm (hall b hm)
        · have := nx_min (s := s) (c := c) (b := b) (Nat.le_refl 1) (by omega) (by unfold Us.tk; rw [if_neg hm]; exact h1)
          omega
      have e : s.ust c b = (s.pt b (s.nx c b), []) := by
        unfold Us.ust
        rw [hnx]
        exact stl_no (s := s.pt b (1 : Nat)) (kk := 2) (l := 1) (by rw [hnx] at hmin; have : ((1 : Nat) : Int) = 1 := rfl; rw [this] at hmin ⊢; omega) rfl
      intro y hy
      have hv := trm_v (ok.ust (c := c) hb) y
      have hmem := hv.1 hy
      rw [e] at hmem hv
      have hy1 : (s.pt b (s.nx c b)).v y = 1 := by
        show upd s.v b (s.nx c b) y = 1
        unfold upd
        split
        · rw [hnx]; rfl
        · rename_i hne
          exact hall y (mem_wo.1 ((List.mem_cons.1 hmem).resolve_left hne)).1
      have e3 : s.us c b = (s.pt b (s.nx c b)).trm := by unfold Us.us; rw [e]
      rw [e3]
      rcases hv.2 with h2 | h2
      · exact h2.trans hy1
      · have := h2.2
        rw [hy1] at this
        omega
    · exfalso
      have h2 : s.ct 1 ≤ (s.pt b (s.nx c b)).ct 1 := by
        rw [hpt]
        by_cases hm : b ∈ s.L
        · rw [ct_in ok hm 1]
          by_cases e : s.v b = 1
          · rw [if_pos e, if_pos (by rw [nx_one_in hm e]; rfl)]
            omega
          · rw [if_neg e]; omega
        · rw [ct_out hm 1]; omega
      omega
/-- while level 1 has room no block has another level -/
theorem Okc.others (h : Okc c s) (hr : s.ct 1 < c 1) {q : Int} (hq : q ≠ 1) : s.ct q = 0 := by
  unfold Us.ct
  rw [List.countP_eq_zero]
  intro b hb
  rw [h.room hr b hb]
  simpa using fun e => hq e.symm

/-- moves, one behind the other -/
def mvOk (a : Int → Int) : List (Int × Nat) → Prop
  | [] => True
  | (y, l) :: R => (0 ≤ y ∧ y < 64) ∧ a y = l ∧ mvOk (upd a y (l + 1 : Nat)) R
def mvRun (a : Int → Int) : List (Int × Nat) → (Int → Int)
  | [] => a
  | (y, l) :: R => mvRun (upd a y (l + 1 : Nat)) R
theorem stl_run : ∀ {k : Nat} {s : Us}, k ≤ 3 → Oku s → mvOk s.v (s.stl c k).2 ∧ mvRun s.v (s.stl c k).2 = (s.stl c k).1.v
  | 0, s, _, _ => ⟨trivial, rfl⟩
  | k + 1, s, hk, ok => by
    by_cases hc : c (3 - k) < s.ct (3 - k : Nat)
    · obtain ⟨hym, hyv⟩ := Us.yb_mem (Us.ct_pos (show 0 < s.ct (3 - k : Nat) from by omega))
      rw [stl_yes hc (by omega)]
      obtain ⟨i1, i2⟩ := stl_run (show k ≤ 3 from by omega) (ok.sv hym (l := ((3 - k + 1 : Nat) : Int)) (by omega))
      exact ⟨⟨ok.lt _ hym, hyv, i1⟩, i2⟩
    · rw [stl_no hc (by omega)]
      exact ⟨trivial, rfl⟩

/-- the top one stays on top, with its level -/
theorem stl_keep (hc1 : ∀ l, 1 ≤ l → l ≤ 3 → 1 ≤ c l) {b : Int} {t : List Int} : ∀ {k : Nat} {s : Us}, k ≤ 3 → Oku s → s.L = b :: t → s.v b + k ≤ 4 → (s.stl c k).1.v b = s.v b
  | 0, s, _, _, _, _ => rfl
  | k + 1, s, hk, ok, hL, hv => by
    by_cases hc : c (3 - k) < s.ct (3 - k : Nat)
    · obtain ⟨p, e1, hp, hat, hyv⟩ := Us.yp_some (Us.ct_pos (show 0 < s.ct (3 - k : Nat) from by omega))
      have hym := List.mem_of_getElem? hat
      have hbm : b ∈ s.L := by rw [hL]; exact List.mem_cons_self
      have hcc := hc1 (3 - k) (by omega) (by omega)
      have hne : s.yb (3 - k : Nat) ≠ b := by
        intro e
        rw [e] at hyv
        have h1 := ct_in ok hbm (3 - k : Nat)
        rw [if_pos hyv] at h1
        have h2 : 0 < ctw s b (3 - k : Nat) := by omega
        obtain ⟨x, hx, hxv⟩ := List.countP_pos_iff.1 h2
        obtain ⟨hxm, hxb⟩ := mem_wo.1 hx
        have h3 := Us.yp_of hxm (show s.v x = (3 - k : Nat) from by simpa using hxv)
        have h4 : px x s.L ≠ 0 := fun e0 => by
          have := px_at hxm
          rw [e0, hL] at this
          simp at this
          exact hxb this.symm
        have h5 : p = 0 := by
          have hb0 : s.L[0]? = some b := by rw [hL]; rfl
          rw [e] at hat
          exact nd_idx ok.nd hat hb0
        omega
      rw [stl_yes hc (by omega)]
      have e2 : (s.sv (s.yb (3 - k : Nat)) ((3 - k + 1 : Nat) : Int)).v b = s.v b := upd_ne _ _ (fun e => hne e.symm)
      exact (stl_keep hc1 (show k ≤ 3 from by omega) (ok.sv hym (by omega)) hL (by rw [e2]; omega)).trans e2
    · rw [stl_no hc (by omega)]
theorem us_top (ok : Oku s) (hc1 : ∀ l, 1 ≤ l → l ≤ 3 → 1 ≤ c l) {b : Int} (hb : 0 ≤ b ∧ b < 64) (hn : s.nx c b ≤ 3) : (∃ t, (s.us c b).L = b :: t) ∧ (s.us c b).v b = s.nx c b := by
  have hn1 := nx_le (c := c) s b
  have hok := ok.pt hb (l := s.nx c b) (by omega)
  have hv : (s.pt b (s.nx c b)).v b = s.nx c b := upd_same _ _ _
  have h1 : (s.ust c b).1.v b = s.nx c b := (stl_keep (c := c) hc1 (by omega) hok rfl (by rw [hv]; omega)).trans hv
  have h2 : (s.ust c b).1.L = b :: wo b s.L := stl_L
  obtain ⟨h3, h4⟩ := trm_top (ok.ust hb) h2 (by rw [h1]; omega)
  exact ⟨h3, h4.trans h1⟩
theorem nx_in (h : Okc c s) (ok : Oku s) {b : Int} (hb : b ∈ s.L) : s.nx c b ≤ 3 := by
  have hn : s.L ≠ [] := fun e => by rw [e] at hb; cases hb
  have hl := List.getLast?_eq_some_getLast hn
  have hm := List.getLast_mem hn
  have hv := ok.inn _ hm
  have hb4 := h.bot _ hl
  obtain ⟨l, el⟩ : ∃ l : Nat, s.v (s.L.getLast hn) = l := ⟨(s.v (s.L.getLast hn)).toNat, by omega⟩
  have hlast : (px (s.L.getLast hn) s.L) = s.L.length - 1 := by
    refine px_of ok.nd ?_
    rw [← List.getLast?_eq_getElem?]
    exact hl
  have h1 := Us.yp_of hm el
  have h2 := px_lt hb
  have := nx_min (s := s) (c := c) (b := b) (l := l) (by omega) (by omega) (by unfold Us.tk; rw [if_pos hb]; omega)
  omega
/-- a use behind a use of the same block -/
theorem again (h : Okc c s) (ok : Oku s) (hc1 : ∀ l, 1 ≤ l → l ≤ 3 → 1 ≤ c l) {b : Int} (hb : 0 ≤ b ∧ b < 64) :
    (s.us c b).nx c b ≤ s.nx c b ∧ (s.us c b).nx c b ≤ 3 ∧ (∃ t, ((s.us c b).us c b).L = b :: t) ∧ (s.nx c b = 4 ∨ (s.nx c b = (s.us c b).nx c b ∧ ((s.us c b).ust c b).2 = []) ∨ (s.us c b).nx c b < s.nx c b) := by
  have hn := nx_le (c := c) s b
  have ok1 := ok.us (c := c) hb
  have oc1 := h.us ok hc1 hb
  have hn1 := nx_le (c := c) (s.us c b) b
  by_cases h3 : s.nx c b ≤ 3
  · obtain ⟨⟨t, hL⟩, hv⟩ := us_top ok hc1 hb h3
    have hm : b ∈ (s.us c b).L := by rw [hL]; exact List.mem_cons_self
    have ht : (s.us c b).tk c b (s.nx c b) := by
      unfold Us.tk
      rw [if_pos hm]
      exact Us.yp_of hm hv
    have hle := nx_min hn.1 h3 ht
    refine ⟨hle, by omega, (us_top ok1 hc1 hb (by omega)).1, ?_⟩
    rcases Nat.lt_or_ge ((s.us c b).nx c b) (s.nx c b) with hlt | hge
    · exact .inr (.inr hlt)
    · have e : (s.us c b).nx c b = s.nx c b := by omega
      refine .inr (.inl ⟨e.symm, ?_⟩)
      unfold Us.ust
      rw [e]
      obtain ⟨kk, hkk⟩ : ∃ kk, 4 - s.nx c b = kk + 1 := ⟨3 - s.nx c b, by omega⟩
      rw [hkk]
      have hct := ct_pt (s.us c b) b (s.nx c b) (s.nx c b)
      have hci := ct_in ok1 hm (s.nx c b)
      rw [if_pos rfl] at hct
      rw [if_pos hv] at hci
      have hcap := oc1.cap _ hn.1 h3
      rw [stl_no (l := s.nx c b) (by omega) (by omega)]
  · have e4 : s.nx c b = 4 := by omega
    have hout : b ∉ s.L := fun hm => h3 (nx_in h ok hm)
    have ht1 : ¬ s.tk c b 1 := fun e => by have := nx_min (Nat.le_refl 1) (by omega) e; omega
    have hct : c 1 ≤ s.ct 1 := by
      unfold Us.tk at ht1
      rw [if_neg hout] at ht1
      have : ¬ s.ct 1 < c 1 := ht1
      omega
    have hc11 := hc1 1 (by omega) (by omega)
    have hy := Us.ct_pos (s := s) (l := 1) (by omega)
    obtain ⟨hym, hyv⟩ := Us.yb_mem hy
    have hne : s.L ≠ [] := fun e => by rw [e] at hym; cases hym
    have eu : s.us c b = s.pt b (4 : Nat) := by
      unfold Us.us Us.ust
      rw [e4]
      show (s.pt b (4 : Nat)).trm = _
      have hl := List.getLast?_eq_some_getLast hne
      have hl2 : (s.pt b (4 : Nat)).L.getLast? = some (s.L.getLast hne) := by
        show (b :: wo b s.L).getLast? = _
        rw [wo_out hout, List.getLast?_cons_of_ne_nil hne]
        exact hl
      refine tr_stop hl2 ?_
      show upd s.v b (4 : Nat) _ ≠ 4
      rw [upd_ne _ _ (fun e => hout (by rw [← e]; exact List.getLast_mem hne))]
      exact h.bot _ hl
    have ht : (s.us c b).tk c b 1 := by
      have hm : b ∈ (s.us c b).L := by rw [eu]; exact List.mem_cons_self
      unfold Us.tk
      rw [if_pos hm]
      have e0 : px b (s.us c b).L = 0 := by rw [eu]; exact px_head _ _
      have e1 : 0 ≤ (s.us c b).yp 1 := by
        refine Us.ct_pos ?_
        rw [eu, ct_pt, ← ct_out hout]
        omega
      rw [e0]
      exact e1
    have hle := nx_min (Nat.le_refl 1) (by omega) ht
    exact ⟨by omega, by omega, (us_top ok1 hc1 hb (by omega)).1, .inl e4⟩
end
end Go.Proofs.Ytmkpimpckhppgaa
