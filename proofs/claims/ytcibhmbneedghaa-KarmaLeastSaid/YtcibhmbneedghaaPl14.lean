/-
  What is proved: one order alone sorts places by a strict comparison; the least common multiple, found by adding, and how great that of ranges' sizes can be. No program's function is in it.
-/
namespace Go.Proofs.Ytcibhmbneedghaa

theorem nodup_len : ∀ (n : Nat) (l : List Nat), l.Nodup → (∀ x ∈ l, x < n) → l.length ≤ n
  | 0, l, _, h => by
    cases l with
    | nil => simp
    | cons x l => have := h x (by simp); omega
  | n + 1, l, hd, h => by
    by_cases hm : n ∈ l
    · have h1 := nodup_len n (l.erase n) (hd.erase _) (fun x hx => by
        have hx' := (List.Nodup.mem_erase_iff hd).1 hx
        have := h x hx'.2
        have := hx'.1
        omega)
      rw [List.length_erase_of_mem hm] at h1
      omega
    · have h1 := nodup_len n l hd (fun x hx => by
        have := h x hx
        have : x ≠ n := fun e => hm (e ▸ hx)
        omega)
      omega
theorem full {n : Nat} {l : List Nat} (hd : l.Nodup) (hl : l.length = n) (h : ∀ x ∈ l, x < n) {x : Nat} (hx : x < n) : x ∈ l := by
  refine Classical.byContradiction fun hm => ?_
  have := nodup_len n (x :: l) (List.nodup_cons.2 ⟨hm, hd⟩) (fun y hy => by
    rcases List.mem_cons.1 hy with rfl | hy
    · exact hx
    · exact h y hy)
  rw [List.length_cons] at this
  omega
theorem full_perm {n : Nat} {l m : List Nat} (hd : l.Nodup) (hl : l.length = n) (h : ∀ x ∈ l, x < n) (hd' : m.Nodup) (hl' : m.length = n) (h' : ∀ x ∈ m, x < n) : l.Perm m := by
  rw [List.perm_iff_count]
  intro x
  rw [hd.count, hd'.count]
  by_cases hx : x < n
  · rw [if_pos (full hd hl h hx), if_pos (full hd' hl' h' hx)]
  · rw [if_neg (fun e => hx (h x e)), if_neg (fun e => hx (h' x e))]
/-- sorted lists of the same things are one -/
theorem sort_one {L : Nat → Nat → Prop} (has : ∀ x y, L x y → ¬ L y x) : ∀ {l m : List Nat}, l.Perm m → l.Pairwise L → m.Pairwise L → l = m
  | [], m, hp, _, _ => (List.nil_perm.1 hp).symm
  | a :: l, m, hp, h1, h2 => by
    cases m with
    | nil => exact absurd (hp.symm.nil_eq) (by simp)
    | cons b m =>
      rw [List.pairwise_cons] at h1 h2
      have e : a = b := by
        refine Classical.byContradiction fun hne => ?_
        have hb : b ∈ l := (List.mem_cons.1 (hp.mem_iff.2 (List.mem_cons_self (a := b) (l := m)))).resolve_left (fun e => hne e.symm)
        have ha : a ∈ m := (List.mem_cons.1 (hp.mem_iff.1 (List.mem_cons_self (a := a) (l := l)))).resolve_left hne
        exact has a b (h1.1 b hb) (h2.1 a ha)
      subst e
      rw [sort_one has hp.cons_inv h1.2 h2.2]
/-- places 0 .. n-1, each told once, in an order -/
def tolds (d : Nat → Nat) (n : Nat) : List Nat := (List.range n).map d
theorem tolds_len (d : Nat → Nat) (n : Nat) : (tolds d n).length = n := by simp [tolds]
theorem tolds_pair {L : Nat → Nat → Prop} {d : Nat → Nat} {n : Nat} (h : ∀ i j, i < j → j < n → L (d i) (d j)) : (tolds d n).Pairwise L := by
  unfold tolds
  rw [List.pairwise_map]
  refine List.Pairwise.imp_of_mem (R := fun i j => i < j) (fun {i j} hi hj hij => h i j hij (List.mem_range.1 hj)) List.pairwise_lt_range
theorem pair_nodup {L : Nat → Nat → Prop} (has : ∀ x y, L x y → ¬ L y x) {l : List Nat} (h : l.Pairwise L) : l.Nodup :=
  List.Pairwise.imp (R := L) (fun {x y} hxy => show x ≠ y from fun e => has x y hxy (by subst e; exact hxy)) h
theorem order_one {L : Nat → Nat → Prop} (has : ∀ x y, L x y → ¬ L y x) {d e : Nat → Nat} {n : Nat} (hd : ∀ i j, i < j → j < n → L (d i) (d j)) (hdn : ∀ i, i < n → d i < n) (he : ∀ i j, i < j → j < n → L (e i) (e j)) (hen : ∀ i, i < n → e i < n) : ∀ i, i < n → d i = e i := by
  have p1 := tolds_pair hd
  have p2 := tolds_pair he
  have hp : (tolds d n).Perm (tolds e n) := full_perm (pair_nodup has p1) (tolds_len d n) (fun x hx => by
    obtain ⟨i, hi, rfl⟩ := List.mem_map.1 hx
    exact hdn i (List.mem_range.1 hi)) (pair_nodup has p2) (tolds_len e n) (fun x hx => by
    obtain ⟨i, hi, rfl⟩ := List.mem_map.1 hx
    exact hen i (List.mem_range.1 hi))
  have e1 := sort_one has hp p1 p2
  intro i hi
  have e2 : (tolds d n)[i]? = (tolds e n)[i]? := by rw [e1]
  unfold tolds at e2
  rw [List.getElem?_map, List.getElem?_map, List.getElem?_range hi] at e2
  simpa using e2

/-- the least common multiple of sizes -/
def cml : List Nat → Nat
  | [] => 1
  | n :: L => Nat.lcm n (cml L)
theorem lcm_step {m s j : Nat} (hm : 0 < m) (h : s ∣ m * j) (hno : ∀ i, 0 < i → i < j → ¬ s ∣ m * i) (hj : 0 < j) : m * j = Nat.lcm m s := by
  have h1 : Nat.lcm m s ∣ m * j := Nat.lcm_dvd (Nat.dvd_mul_right m j) h
  obtain ⟨k, hk⟩ := Nat.dvd_lcm_left m s
  have hle : Nat.lcm m s ≤ m * j := Nat.le_of_dvd (Nat.mul_pos hm hj) h1
  rcases Nat.lt_or_ge k j with hlt | hge
  · have hs : s ∣ m * k := by rw [← hk]; exact Nat.dvd_lcm_right m s
    have hk0 : 0 < k := by
      rcases Nat.eq_zero_or_pos k with e | e
      · exfalso
        subst e
        have e0 : Nat.lcm m s = 0 := by rw [hk, Nat.mul_zero]
        rw [e0] at h1
        have := Nat.eq_zero_of_zero_dvd h1
        have := Nat.mul_pos hm hj
        omega
      · exact e
    exact absurd hs (hno k hk0 hlt)
  · have := Nat.mul_le_mul_left m hge
    omega
/-- it is come to within as many steps as the number is great -/
theorem lcm_within {m s : Nat} (hm : 0 < m) (hs : 0 < s) : ∃ j, 0 < j ∧ j ≤ s ∧ Nat.lcm m s = m * j := by
  obtain ⟨k, hk⟩ := Nat.dvd_lcm_left m s
  have hpos := Nat.lcm_pos hm hs
  refine ⟨k, Nat.pos_of_ne_zero (fun e => by rw [e, Nat.mul_zero] at hk; omega), ?_, hk⟩
  have h1 : Nat.lcm m s ≤ m * s := Nat.le_of_dvd (Nat.mul_pos hm hs) (Nat.lcm_dvd (Nat.dvd_mul_right m s) (Nat.dvd_mul_left s m))
  rw [hk] at h1
  exact Nat.le_of_mul_le_mul_left h1 hm
theorem sq_pow : ∀ n : Nat, 1 ≤ n → n * n ≤ 2 ^ (n + 1)
  | 1, _ => by decide
  | 2, _ => by decide
  | 3, _ => by decide
  | n + 4, _ => by
    have ih := sq_pow (n + 3) (by omega)
    have e : 2 ^ (n + 4 + 1) = 2 * 2 ^ (n + 3 + 1) := by rw [show n + 4 + 1 = (n + 3 + 1) + 1 from rfl, Nat.pow_succ 2 (n + 3 + 1), Nat.mul_comm]
    rw [e]
    have : (n + 4) * (n + 4) ≤ 2 * ((n + 3) * (n + 3)) := by
      have h1 : (n + 4) * (n + 4) = n * n + 8 * n + 16 := by grind
      have h2 : (n + 3) * (n + 3) = n * n + 6 * n + 9 := by grind
      rw [h1, h2]
      omega
    omega
theorem cml_sq : ∀ {L : List Nat}, (∀ n ∈ L, 1 ≤ n) → cml L * cml L ≤ 2 ^ (L.sum + L.length)
  | [], _ => by decide
  | n :: L, h => by
    have ih := cml_sq (L := L) fun x hx => h x (List.mem_cons_of_mem _ hx)
    have hn := h n List.mem_cons_self
    have h1 : Nat.lcm n (cml L) ≤ n * cml L := by
      rcases Nat.eq_zero_or_pos (n * cml L) with e | e
      · have : Nat.lcm n (cml L) ∣ n * cml L := Nat.lcm_dvd (Nat.dvd_mul_right n _) (Nat.dvd_mul_left _ n)
        rcases Nat.mul_eq_zero.1 e with e2 | e2
        · omega
        · rw [e2, Nat.lcm_zero_right]; omega
      · exact Nat.le_of_dvd e (Nat.lcm_dvd (Nat.dvd_mul_right n _) (Nat.dvd_mul_left _ n))
    have h2 := Nat.mul_le_mul h1 h1
    have h3 := Nat.mul_le_mul (sq_pow n hn) ih
    have e1 : n * cml L * (n * cml L) = n * n * (cml L * cml L) := by grind
    have e2 : 2 ^ (n + 1) * 2 ^ (L.sum + L.length) = 2 ^ ((n :: L).sum + (n :: L).length) := by
      rw [← Nat.pow_add, List.sum_cons, List.length_cons]
      congr 1
      omega
    rw [e1] at h2
    rw [e2] at h3
    show Nat.lcm n (cml L) * Nat.lcm n (cml L) ≤ _
    omega
/-- at most eight sizes, together at most 32 -/
theorem cml_le {L : List Nat} (h : ∀ n ∈ L, 1 ≤ n) (hs : L.sum ≤ 32) (hl : L.length ≤ 8) : cml L ≤ 1048576 := by
  have h1 := cml_sq h
  have h2 : 2 ^ (L.sum + L.length) ≤ 2 ^ 40 := Nat.pow_le_pow_right (by omega) (by omega)
  have h3 : (2 : Nat) ^ 40 = 1048576 * 1048576 := by decide
  rw [h3] at h2
  refine Nat.le_of_not_lt fun hlt => ?_
  have := Nat.mul_lt_mul'' hlt hlt
  omega
theorem cml_pos : ∀ {L : List Nat}, (∀ n ∈ L, 1 ≤ n) → 0 < cml L
  | [], _ => by decide
  | n :: L, h => Nat.lcm_pos (h n List.mem_cons_self) (cml_pos fun x hx => h x (List.mem_cons_of_mem _ hx))
theorem cml_dvd : ∀ {L : List Nat} {n : Nat}, n ∈ L → n ∣ cml L
  | m :: L, n, h => by
    rcases List.mem_cons.1 h with rfl | h
    · exact Nat.dvd_lcm_left _ _
    · exact Nat.dvd_trans (cml_dvd h) (Nat.dvd_lcm_right _ _)
theorem cml_app : ∀ (L : List Nat) (n : Nat), cml (L ++ [n]) = Nat.lcm (cml L) n
  | [], n => by show Nat.lcm n 1 = Nat.lcm 1 n; rw [Nat.lcm_comm]
  | m :: L, n => by
    show Nat.lcm m (cml (L ++ [n])) = Nat.lcm (Nat.lcm m (cml L)) n
    rw [cml_app L n, Nat.lcm_assoc]
end Go.Proofs.Ytcibhmbneedghaa
