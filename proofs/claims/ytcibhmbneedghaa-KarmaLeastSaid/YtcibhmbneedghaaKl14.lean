/-
  What is proved: the least cost of all ways to lay the blocks of hints is what the parts of a plan cost. No program's function is in it.
-/
import Derived.Test.YtcibhmbneedghaaPk14
import Derived.Test.YtcibhmbneedghaaKc14
import Derived.Test.YtcibhmbneedghaaRo14
namespace Go.Proofs.Ytcibhmbneedghaa
open Go.RowKit

/-- there is a least cost -/
theorem lst_some (c0 c1 c2 c3 : Nat) (L : List (Nat × Nat)) (k0 k1 k2 : Nat) : ∃ v, Lst c0 c1 c2 c3 L k0 k1 k2 v := by
  have h : ∀ m, ∀ I : List Ly, I.map Ly.p = L → Ly.Ok k0 k1 k2 I → cst c0 c1 c2 c3 I = m → ∃ v, Lst c0 c1 c2 c3 L k0 k1 k2 v := by
    intro m
    induction m using Nat.strongRecOn with
    | ind m ih =>
      intro I h1 h2 h3
      refine Classical.byContradiction fun hno => hno ⟨m, fun J j1 j2 => ?_, I, h1, h2, h3⟩
      refine Classical.byContradiction fun hlt => hno (ih (cst c0 c1 c2 c3 J) (by omega) J j1 j2 rfl)
  exact h _ (gr L k0 k1 k2) gr_p gr_ok rfl
theorem Lst.one {c0 c1 c2 c3 : Nat} {L : List (Nat × Nat)} {k0 k1 k2 v v' : Nat} (h : Lst c0 c1 c2 c3 L k0 k1 k2 v) (g : Lst c0 c1 c2 c3 L k0 k1 k2 v') : v = v' := by
  obtain ⟨I, h1, h2, h3⟩ := h.some_
  obtain ⟨J, j1, j2, j3⟩ := g.some_
  have := h.low J j1 j2
  have := g.low I h1 h2
  omega
/-- the least cost -/
noncomputable def LV (c0 c1 c2 c3 : Nat) (L : List (Nat × Nat)) (k0 k1 k2 : Nat) : Nat := Classical.choose (lst_some c0 c1 c2 c3 L k0 k1 k2)
theorem LV_spec (c0 c1 c2 c3 : Nat) (L : List (Nat × Nat)) (k0 k1 k2 : Nat) : Lst c0 c1 c2 c3 L k0 k1 k2 (LV c0 c1 c2 c3 L k0 k1 k2) := Classical.choose_spec (lst_some c0 c1 c2 c3 L k0 k1 k2)
theorem LV_nil (c0 c1 c2 c3 k0 k1 k2 : Nat) : LV c0 c1 c2 c3 [] k0 k1 k2 = 0 := (LV_spec c0 c1 c2 c3 [] k0 k1 k2).one (Lst.nil c0 c1 c2 c3 k0 k1 k2)
theorem c1_le {c0 c1 c2 c3 M : Nat} {i : Ly} (h : i.a + i.b + i.c ≤ i.n) (h0 : c0 ≤ M) (h1 : c1 ≤ M) (h2 : c2 ≤ M) (h3 : c3 ≤ M) : i.c1 c0 c1 c2 c3 ≤ i.u * (i.n * M) := by
  unfold Ly.c1
  refine Nat.mul_le_mul_left _ ?_
  have e1 := Nat.mul_le_mul_left i.a h0
  have e2 := Nat.mul_le_mul_left i.b h1
  have e3 := Nat.mul_le_mul_left i.c h2
  have e4 := Nat.mul_le_mul_left (i.n - i.a - i.b - i.c) h3
  have e5 : i.n * M = i.a * M + i.b * M + i.c * M + (i.n - i.a - i.b - i.c) * M := by
    rw [← Nat.add_mul, ← Nat.add_mul, ← Nat.add_mul]
    congr 1
    omega
  omega
theorem LV_le {c0 c1 c2 c3 M B : Nat} (h0 : c0 ≤ M) (h1 : c1 ≤ M) (h2 : c2 ≤ M) (h3 : c3 ≤ M) {L : List (Nat × Nat)} (hL : ∀ p ∈ L, p.1 * (p.2 * M) ≤ B) (k0 k1 k2 : Nat) : LV c0 c1 c2 c3 L k0 k1 k2 ≤ B * L.length := by
  obtain ⟨I, h4, h5, h6⟩ := (LV_spec c0 c1 c2 c3 L k0 k1 k2).some_
  rw [← h6, ← h4, List.length_map]
  have : ∀ J : List Ly, (∀ i ∈ J, i ∈ I) → cst c0 c1 c2 c3 J ≤ B * J.length := fun J => by
    induction J with
    | nil => exact fun _ => Nat.zero_le _
    | cons j J ih =>
      intro hJ
      have e1 := ih fun i hi => hJ i (List.mem_cons_of_mem _ hi)
      have hj := hJ j List.mem_cons_self
      have e2 := c1_le (i := j) (h5.1 j hj) h0 h1 h2 h3
      have e3 : j.u * (j.n * M) ≤ B := hL (j.u, j.n) (by rw [← h4]; exact List.mem_map.2 ⟨j, hj, rfl⟩)
      have e4 : cst c0 c1 c2 c3 (j :: J) = j.c1 c0 c1 c2 c3 + cst c0 c1 c2 c3 J := sm_cons _ _ _
      rw [e4, List.length_cons, Nat.mul_succ]
      omega
  exact this I fun i hi => hi
/-- what a hint's block costs, times b, and how many there are -/
def un (hh : Nat → Hn) (b i : Nat) : Nat × Nat := (b / sz hh i * oft hh i, sz hh i)
/-- the cost of the densest first, tier by tier -/
def Gs (c0 c1 c2 c3 : Nat) (f : Nat → Nat × Nat) : List Nat → (Nat → Nat) → Nat
  | [], _ => 0
  | x :: L, r => (f x).1 * (pr (f x).2 r 0 * c0 + pr (f x).2 r 1 * c1 + pr (f x).2 r 2 * c2 + pr (f x).2 r 3 * c3) + Gs c0 c1 c2 c3 f L (nr (f x).2 r)
theorem gr_Gs (c0 c1 c2 c3 : Nat) (f : Nat → Nat × Nat) : ∀ (L : List Nat) (r : Nat → Nat), cst c0 c1 c2 c3 (gr (L.map f) (r 0) (r 1) (r 2)) = Gs c0 c1 c2 c3 f L r
  | [], _ => rfl
  | x :: L, r => by
    obtain ⟨⟨u, s⟩, hf⟩ : ∃ y, f x = y := ⟨_, rfl⟩
    have ih := gr_Gs c0 c1 c2 c3 f L (nr s r)
    rw [List.map_cons, hf]
    unfold gr Gs
    rw [hf]
    dsimp only
    have e1 : r 0 - min s (r 0) = nr s r 0 := by simp only [nr, lf]; omega
    have e2 : r 1 - min (s - min s (r 0)) (r 1) = nr s r 1 := by simp only [nr, lf]; omega
    have e3 : r 2 - min (s - min s (r 0) - min (s - min s (r 0)) (r 1)) (r 2) = nr s r 2 := by simp only [nr, lf]; omega
    rw [e1, e2, e3]
    have e4 : ∀ (j : Ly) J, cst c0 c1 c2 c3 (j :: J) = j.c1 c0 c1 c2 c3 + cst c0 c1 c2 c3 J := fun j J => sm_cons _ _ _
    rw [e4, ih]
    unfold Ly.c1
    dsimp only
    have a0 : min s (r 0) = pr s r 0 := by simp [pr, lf]
    have a1 : min (s - min s (r 0)) (r 1) = pr s r 1 := by simp only [pr, lf]; simp; omega
    have a2 : min (s - min s (r 0) - min (s - min s (r 0)) (r 1)) (r 2) = pr s r 2 := by simp only [pr, lf]; simp; omega
    have a3 : s - pr s r 0 - pr s r 1 - pr s r 2 = pr s r 3 := by have := pr_sum s r; omega
    rw [a2, a1, a0, a3]
theorem Gs_ct {hh : Nat → Hn} {n b : Nat} {u k : Nat → Nat} {d : Nat → Nat} (h : OrdH hh n d) : ∀ (j m : Nat), m + j = n → Gs (k 0) (k 1) (k 2) (k 3) (un hh b) ((List.range' m j).map d) (RM (sz hh) d u m) = ((List.range' m j).map fun i => ct hh (KP hh n u) k b (d i)).sum
  | 0, _, _ => rfl
  | j + 1, m, hm => by
    have ih := Gs_ct (b := b) (u := u) (k := k) h j (m + 1) (by omega)
    rw [List.range'_succ, List.map_cons, List.map_cons, List.sum_cons, ← ih]
    show (b / sz hh (d m) * oft hh (d m)) * (pr (sz hh (d m)) (RM (sz hh) d u m) 0 * k 0 + pr (sz hh (d m)) (RM (sz hh) d u m) 1 * k 1 + pr (sz hh (d m)) (RM (sz hh) d u m) 2 * k 2 + pr (sz hh (d m)) (RM (sz hh) d u m) 3 * k 3) + Gs (k 0) (k 1) (k 2) (k 3) (un hh b) ((List.range' (m + 1) j).map d) (RM (sz hh) d u (m + 1)) = _
    congr 1
    have e : ∀ t, KP hh n u (d m) t = pr (sz hh (d m)) (RM (sz hh) d u m) t := fun t => by
      rw [← KP_of h u]
      exact PP_at h.inj (by omega) t
    unfold ct cs4
    show _ = (0 + KP hh n u (d m) 0 * k 0 + KP hh n u (d m) 1 * k 1 + KP hh n u (d m) 2 * k 2 + KP hh n u (d m) 3 * k 3) * oft hh (d m) * (b / sz hh (d m))
    rw [e, e, e, e, Nat.zero_add, Nat.mul_assoc, Nat.mul_comm (oft hh (d m)), Nat.mul_comm]
theorem sN_sum (f : Nat → Nat) : ∀ n, sN f n = ((List.range n).map f).sum
  | 0 => rfl
  | n + 1 => by rw [sN, List.range_succ, List.map_append, List.sum_append, sN_sum f n]; simp
theorem ord_perm {hh : Nat → Hn} {n : Nat} {d : Nat → Nat} (h : OrdH hh n d) : (tolds d n).Perm (List.range n) :=
  full_perm (pair_nodup (LH_asym hh) (tolds_pair h.srt)) (tolds_len d n) (fun x hx => by
    obtain ⟨i, hi, rfl⟩ := List.mem_map.1 hx
    exact h.lt i (List.mem_range.1 hi)) List.nodup_range (by simp) fun x hx => List.mem_range.1 hx
theorem un_order {hh : Nat → Hn} {n : Nat} {b : Int} (hP : HintsP hh n b) {i j : Nat} (hi : i < n) (hj : j < n) (h : LH hh i j) : (un hh (cml (szs hh n)) j).1 ≤ (un hh (cml (szs hh n)) i).1 := by
  have hs : ∀ i, i < n → 0 < sz hh i ∧ sz hh i ∣ cml (szs hh n) := fun i hi => by
    have := hP.2.1 i hi
    unfold okH at this
    exact ⟨by unfold sz; omega, cml_dvd (List.mem_map.2 ⟨i, List.mem_range.2 hi, rfl⟩)⟩
  obtain ⟨p1, x, hx⟩ := hs i hi
  obtain ⟨p2, y, hy⟩ := hs j hj
  have hle : oft hh j * sz hh i ≤ oft hh i * sz hh j := by
    unfold LH lOf cfOf cmpI at h
    by_cases c1 : oft hh j * sz hh i < oft hh i * sz hh j
    · omega
    · rw [if_neg c1] at h
      by_cases c2 : oft hh i * sz hh j < oft hh j * sz hh i
      · rw [if_pos c2] at h; omega
      · omega
  unfold un
  dsimp only
  have ex : cml (szs hh n) / sz hh i = x := by rw [hx]; exact Nat.mul_div_cancel_left x p1
  have ey : cml (szs hh n) / sz hh j = y := by rw [hy]; exact Nat.mul_div_cancel_left y p2
  rw [ex, ey]
  generalize cml (szs hh n) = b at *
  generalize sz hh i = s at *
  generalize sz hh j = t at *
  generalize oft hh i = o at *
  generalize oft hh j = q at *
  -- s x = t y, q s ≤ o t: y q ≤ x o
  refine Nat.le_of_mul_le_mul_left (show s * (y * q) ≤ s * (x * o) from ?_) p1
  have h1 : s * (x * o) = t * y * o := by rw [← Nat.mul_assoc, ← hx, hy]
  have h2 : s * (y * q) = y * (q * s) := by rw [Nat.mul_comm s, Nat.mul_assoc]
  have h3 : t * y * o = y * (o * t) := by rw [Nat.mul_comm t y, Nat.mul_assoc, Nat.mul_comm t o]
  rw [h1, h2, h3]
  exact Nat.mul_le_mul_left y hle
/-- THE POINT: the least cost is that of a plan's parts -/
theorem least_kp {hh : Nat → Hn} {n : Nat} {b : Int} {u k : Nat → Nat} (hP : HintsP hh n b) (h : OrdH hh n (ordd hh n)) (k1 : k 0 ≤ k 1) (k2 : k 1 ≤ k 2) (k3 : k 2 ≤ k 3) :
    LV (k 0) (k 1) (k 2) (k 3) ((List.range' 0 n).map (un hh (cml (szs hh n)))) (u 0) (u 1) (u 2) = sN (ct hh (KP hh n u) k (cml (szs hh n))) n := by
  have hp := ord_perm h
  have e1 := Lst.eq k1 k2 k3 (L' := (tolds (ordd hh n) n).map (un hh (cml (szs hh n)))) (by
    rw [← List.range_eq_range']
    exact (hp.map (un hh (cml (szs hh n)))).symm) (by
    rw [List.pairwise_map]
    refine List.Pairwise.imp_of_mem (R := LH hh) (fun {x y} hx hy hxy => ?_) (tolds_pair h.srt)
    exact un_order hP (List.mem_range.1 (hp.mem_iff.1 hx)) (List.mem_range.1 (hp.mem_iff.1 hy)) hxy) (LV_spec (k 0) (k 1) (k 2) (k 3) ((List.range' 0 n).map (un hh (cml (szs hh n)))) (u 0) (u 1) (u 2))
  rw [e1, gr_Gs]
  have e2 := Gs_ct (b := cml (szs hh n)) (u := u) (k := k) h n 0 (by omega)
  have e3 : tolds (ordd hh n) n = (List.range' 0 n).map (ordd hh n) := by unfold tolds; rw [List.range_eq_range']
  rw [e3]
  have e4 : RM (sz hh) (ordd hh n) u 0 = u := rfl
  rw [e4] at e2
  rw [e2, sN_sum, ← List.range_eq_range']
  have e5 : ((List.range n).map fun i => ct hh (KP hh n u) k (cml (szs hh n)) (ordd hh n i)) = (tolds (ordd hh n) n).map (ct hh (KP hh n u) k (cml (szs hh n))) := by unfold tolds; rw [List.map_map]; rfl
  rw [e5]
  exact (hp.map _).sum_nat
end Go.Proofs.Ytcibhmbneedghaa
