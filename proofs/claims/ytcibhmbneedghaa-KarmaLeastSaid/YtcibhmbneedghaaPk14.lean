/-
  What is proved: of all ways to lay the blocks of ranges into three tiers of given room the way of the denser range first costs least, whatever the costs are that don't fall. No program's function is in it.
-/
namespace Go.Proofs.Ytcibhmbneedghaa

/-- the densest first, as many as there is room for: weights (u by block, n blocks), room C -/
def kn : List (Nat × Nat) → Nat → Nat
  | [], _ => 0
  | (u, n) :: L, C => u * min n C + kn L (C - min n C)
theorem kn_slope {v : Nat} : ∀ {L : List (Nat × Nat)} {C d : Nat}, (∀ p ∈ L, p.1 ≤ v) → kn L (C + d) ≤ kn L C + v * d
  | [], _, _, _ => Nat.zero_le _
  | (u, n) :: L, C, d, h => by
    have hu : u ≤ v := h (u, n) List.mem_cons_self
    obtain ⟨e, he⟩ : ∃ e, min n (C + d) = min n C + e := ⟨min n (C + d) - min n C, by omega⟩
    have hed : e ≤ d := by omega
    have h1 : C + d - min n (C + d) = (C - min n C) + (d - e) := by omega
    have ih := kn_slope (L := L) (C := C - min n C) (d := d - e) (v := v) (fun p hp => h p (List.mem_cons_of_mem _ hp))
    show u * min n (C + d) + kn L (C + d - min n (C + d)) ≤ u * min n C + kn L (C - min n C) + v * d
    rw [he, show C + d - (min n C + e) = (C - min n C) + (d - e) from by omega, Nat.mul_add]
    have h2 : u * e ≤ v * e := Nat.mul_le_mul_right e hu
    have h3 : v * d = v * e + v * (d - e) := by rw [← Nat.mul_add]; congr 1; omega
    omega
/-- a range's blocks: u by block, n of them, a, b, c in tiers 1 to 3 -/
structure Ly where
  u : Nat
  n : Nat
  a : Nat
  b : Nat
  c : Nat
namespace Ly
def p (i : Ly) : Nat × Nat := (i.u, i.n)
def x1 (i : Ly) : Nat := i.a + i.b
def x2 (i : Ly) : Nat := i.a + i.b + i.c
end Ly
/-- a sum over ranges -/
def sm (f : Ly → Nat) (I : List Ly) : Nat := (I.map f).sum
theorem sm_nil (f : Ly → Nat) : sm f [] = 0 := rfl
theorem sm_cons (f : Ly → Nat) (i : Ly) (I : List Ly) : sm f (i :: I) = f i + sm f I := List.sum_cons
theorem sm_perm {f : Ly → Nat} {I J : List Ly} (h : I.Perm J) : sm f I = sm f J := (h.map f).sum_nat
theorem sm_add (f g : Ly → Nat) : ∀ I : List Ly, sm (fun i => f i + g i) I = sm f I + sm g I
  | [] => rfl
  | i :: I => by rw [sm_cons, sm_cons, sm_cons, sm_add f g I]; omega
theorem sm_mul (k : Nat) (f : Ly → Nat) : ∀ I : List Ly, sm (fun i => k * f i) I = k * sm f I
  | [] => rfl
  | i :: I => by rw [sm_cons, sm_cons, sm_mul k f I, Nat.mul_add]
theorem sm_congr {f g : Ly → Nat} : ∀ {I : List Ly}, (∀ i ∈ I, f i = g i) → sm f I = sm g I
  | [], _ => rfl
  | i :: I, h => by rw [sm_cons, sm_cons, h i List.mem_cons_self, sm_congr fun j hj => h j (List.mem_cons_of_mem _ hj)]
/-- no choice is worth more than the densest first -/
theorem knap (x : Ly → Nat) : ∀ {I : List Ly} {C : Nat}, (I.Pairwise fun i j => j.u ≤ i.u) → (∀ i ∈ I, x i ≤ i.n) → sm x I ≤ C → sm (fun i => i.u * x i) I ≤ kn (I.map Ly.p) C
  | [], _, _, _, _ => Nat.le_refl _
  | i :: I, C, hs, hx, hC => by
    rw [List.pairwise_cons] at hs
    rw [sm_cons] at hC ⊢
    have hi := hx i List.mem_cons_self
    have ih := knap x (I := I) (C := C - x i) hs.2 (fun j hj => hx j (List.mem_cons_of_mem _ hj)) (by omega)
    obtain ⟨e, he⟩ : ∃ e, min i.n C = x i + e := ⟨min i.n C - x i, by omega⟩
    have hsl := kn_slope (v := i.u) (L := I.map Ly.p) (C := C - min i.n C) (d := e) (fun p hp => by
      obtain ⟨j, hj, rfl⟩ := List.mem_map.1 hp
      exact hs.1 j hj)
    show i.u * x i + _ ≤ i.u * min i.n C + kn (I.map Ly.p) (C - min i.n C)
    rw [show C - min i.n C + e = C - x i from by omega] at hsl
    rw [he, Nat.mul_add] at *
    omega
/-- a way to lay the blocks that may be, within the room -/
def Ly.Ok (k0 k1 k2 : Nat) (I : List Ly) : Prop := (∀ i ∈ I, i.a + i.b + i.c ≤ i.n) ∧ sm Ly.a I ≤ k0 ∧ sm Ly.b I ≤ k1 ∧ sm Ly.c I ≤ k2
/-- its cost -/
def Ly.c1 (c0 c1 c2 c3 : Nat) (i : Ly) : Nat := i.u * (i.a * c0 + i.b * c1 + i.c * c2 + (i.n - i.a - i.b - i.c) * c3)
def cst (c0 c1 c2 c3 : Nat) (I : List Ly) : Nat := sm (Ly.c1 c0 c1 c2 c3) I
theorem one_cost {c0 d1 d2 d3 : Nat} {i : Ly} (h : i.a + i.b + i.c ≤ i.n) :
    i.c1 c0 (c0 + d1) (c0 + d1 + d2) (c0 + d1 + d2 + d3) + d1 * (i.u * i.a) + d2 * (i.u * i.x1) + d3 * (i.u * i.x2) = (c0 + d1 + d2 + d3) * (i.u * i.n) := by
  obtain ⟨r, hr⟩ : ∃ r, i.n = i.a + i.b + i.c + r := ⟨i.n - i.a - i.b - i.c, by omega⟩
  unfold Ly.c1 Ly.x1 Ly.x2
  rw [show i.n - i.a - i.b - i.c = r from by omega, hr]
  generalize i.u = u
  generalize i.a = a
  generalize i.b = b
  generalize i.c = c
  grind
theorem all_cost {c0 d1 d2 d3 : Nat} {I : List Ly} (h : ∀ i ∈ I, i.a + i.b + i.c ≤ i.n) :
    cst c0 (c0 + d1) (c0 + d1 + d2) (c0 + d1 + d2 + d3) I + d1 * sm (fun i => i.u * i.a) I + d2 * sm (fun i => i.u * i.x1) I + d3 * sm (fun i => i.u * i.x2) I = (c0 + d1 + d2 + d3) * sm (fun i => i.u * i.n) I := by
  unfold cst
  rw [← sm_mul, ← sm_mul, ← sm_mul, ← sm_mul, ← sm_add, ← sm_add, ← sm_add]
  exact sm_congr fun i hi => one_cost (h i hi)
/-- the densest first, tier by tier -/
def gr : List (Nat × Nat) → Nat → Nat → Nat → List Ly
  | [], _, _, _ => []
  | (u, n) :: L, k0, k1, k2 => ⟨u, n, min n k0, min (n - min n k0) k1, min (n - min n k0 - min (n - min n k0) k1) k2⟩ :: gr L (k0 - min n k0) (k1 - min (n - min n k0) k1) (k2 - min (n - min n k0 - min (n - min n k0) k1) k2)
theorem gr_p : ∀ {L : List (Nat × Nat)} {k0 k1 k2 : Nat}, (gr L k0 k1 k2).map Ly.p = L
  | [], _, _, _ => rfl
  | (u, n) :: L, k0, k1, k2 => by
    unfold gr
    rw [List.map_cons, gr_p]
    rfl
theorem gr_ok : ∀ {L : List (Nat × Nat)} {k0 k1 k2 : Nat}, Ly.Ok k0 k1 k2 (gr L k0 k1 k2)
  | [], _, _, _ => ⟨(fun i hi => by cases hi), Nat.zero_le _, Nat.zero_le _, Nat.zero_le _⟩
  | (u, n) :: L, k0, k1, k2 => by
    obtain ⟨h1, h2, h3, h4⟩ := gr_ok (L := L) (k0 := k0 - min n k0) (k1 := k1 - min (n - min n k0) k1) (k2 := k2 - min (n - min n k0 - min (n - min n k0) k1) k2)
    unfold gr
    refine ⟨fun i hi => ?_, ?_, ?_, ?_⟩
    · rcases List.mem_cons.1 hi with rfl | hi
      · show min n k0 + min (n - min n k0) k1 + min (n - min n k0 - min (n - min n k0) k1) k2 ≤ n
        omega
      · exact h1 i hi
    · rw [sm_cons]; show min n k0 + _ ≤ k0; omega
    · rw [sm_cons]; show min (n - min n k0) k1 + _ ≤ k1; omega
    · rw [sm_cons]; show min (n - min n k0 - min (n - min n k0) k1) k2 + _ ≤ k2; omega
theorem gr_kn : ∀ {L : List (Nat × Nat)} {k0 k1 k2 : Nat}, sm (fun i => i.u * i.a) (gr L k0 k1 k2) = kn L k0 ∧ sm (fun i => i.u * i.x1) (gr L k0 k1 k2) = kn L (k0 + k1) ∧ sm (fun i => i.u * i.x2) (gr L k0 k1 k2) = kn L (k0 + k1 + k2)
  | [], _, _, _ => ⟨rfl, rfl, rfl⟩
  | (u, n) :: L, k0, k1, k2 => by
    obtain ⟨h1, h2, h3⟩ := gr_kn (L := L) (k0 := k0 - min n k0) (k1 := k1 - min (n - min n k0) k1) (k2 := k2 - min (n - min n k0 - min (n - min n k0) k1) k2)
    unfold gr
    refine ⟨?_, ?_, ?_⟩
    · rw [sm_cons, h1]; rfl
    · rw [sm_cons, h2]
      show u * (min n k0 + min (n - min n k0) k1) + _ = u * min n (k0 + k1) + kn L (k0 + k1 - min n (k0 + k1))
      rw [show min n k0 + min (n - min n k0) k1 = min n (k0 + k1) from by omega, show k0 - min n k0 + (k1 - min (n - min n k0) k1) = k0 + k1 - min n (k0 + k1) from by omega]
    · rw [sm_cons, h3]
      show u * (min n k0 + min (n - min n k0) k1 + min (n - min n k0 - min (n - min n k0) k1) k2) + _ = u * min n (k0 + k1 + k2) + kn L (k0 + k1 + k2 - min n (k0 + k1 + k2))
      rw [show min n k0 + min (n - min n k0) k1 + min (n - min n k0 - min (n - min n k0) k1) k2 = min n (k0 + k1 + k2) from by omega, show k0 - min n k0 + (k1 - min (n - min n k0) k1) + (k2 - min (n - min n k0 - min (n - min n k0) k1) k2) = k0 + k1 + k2 - min n (k0 + k1 + k2) from by omega]
/-- of ranges in the order of density none costs less -/
theorem gr_least {c0 c1 c2 c3 k0 k1 k2 : Nat} (h1 : c0 ≤ c1) (h2 : c1 ≤ c2) (h3 : c2 ≤ c3) {I : List Ly} (hs : I.Pairwise fun i j => j.u ≤ i.u) (ok : Ly.Ok k0 k1 k2 I) : cst c0 c1 c2 c3 (gr (I.map Ly.p) k0 k1 k2) ≤ cst c0 c1 c2 c3 I := by
  obtain ⟨d1, rfl⟩ : ∃ d, c1 = c0 + d := ⟨c1 - c0, by omega⟩
  obtain ⟨d2, rfl⟩ : ∃ d, c2 = c0 + d1 + d := ⟨c2 - (c0 + d1), by omega⟩
  obtain ⟨d3, rfl⟩ : ∃ d, c3 = c0 + d1 + d2 + d := ⟨c3 - (c0 + d1 + d2), by omega⟩
  have hg := gr_ok (L := I.map Ly.p) (k0 := k0) (k1 := k1) (k2 := k2)
  have e1 := all_cost (c0 := c0) (d1 := d1) (d2 := d2) (d3 := d3) ok.1
  have e2 := all_cost (c0 := c0) (d1 := d1) (d2 := d2) (d3 := d3) hg.1
  obtain ⟨g1, g2, g3⟩ := gr_kn (L := I.map Ly.p) (k0 := k0) (k1 := k1) (k2 := k2)
  have eS : sm (fun i => i.u * i.n) (gr (I.map Ly.p) k0 k1 k2) = sm (fun i => i.u * i.n) I := by
    have : ∀ J : List Ly, sm (fun i => i.u * i.n) J = ((J.map Ly.p).map fun q => q.1 * q.2).sum := fun J => by
      unfold sm
      rw [List.map_map]
      rfl
    rw [this, this, gr_p]
  have k1' := knap Ly.a (C := k0) hs (fun i hi => by have := ok.1 i hi; omega) ok.2.1
  have k2' := knap Ly.x1 (C := k0 + k1) hs (fun i hi => by have := ok.1 i hi; unfold Ly.x1; omega) (by unfold Ly.x1; rw [sm_add]; have := ok.2.1; have := ok.2.2.1; show sm Ly.a I + sm Ly.b I ≤ _; omega)
  have k3' := knap Ly.x2 (C := k0 + k1 + k2) hs (fun i hi => by have := ok.1 i hi; unfold Ly.x2; omega) (by
    unfold Ly.x2
    rw [sm_add (fun i => i.a + i.b) Ly.c, sm_add]
    have := ok.2.1; have := ok.2.2.1; have := ok.2.2.2
    show sm Ly.a I + sm Ly.b I + sm Ly.c I ≤ _
    omega)
  rw [g1, g2, g3, eS, ← e1] at e2
  have m1 := Nat.mul_le_mul_left d1 k1'
  have m2 := Nat.mul_le_mul_left d2 k2'
  have m3 := Nat.mul_le_mul_left d3 k3'
  omega
/-- a perm of what stands behind a map lifts -/
theorem perm_lift {α β : Type} (f : α → β) {L L' : List β} (h : L.Perm L') : ∀ {I : List α}, I.map f = L → ∃ I', I.Perm I' ∧ I'.map f = L' := by
  induction h with
  | nil => exact fun {I} e => ⟨I, .refl _, e⟩
  | cons x _ ih =>
    intro I e
    cases I with
    | nil => cases e
    | cons i I =>
      rw [List.map_cons] at e
      injection e with e1 e2
      obtain ⟨I', hp, he⟩ := ih e2
      exact ⟨i :: I', hp.cons i, by rw [List.map_cons, he, e1]⟩
  | swap x y l =>
    intro I e
    match I, e with
    | i :: j :: I, e =>
      simp only [List.map_cons, List.cons.injEq] at e
      obtain ⟨e1, e2, e3⟩ := e
      exact ⟨j :: i :: I, .swap j i I, by simp only [List.map_cons, e1, e2, e3]⟩
  | trans _ _ ih1 ih2 =>
    intro I e
    obtain ⟨I', h1, e1⟩ := ih1 e
    obtain ⟨I'', h2, e2⟩ := ih2 e1
    exact ⟨I'', h1.trans h2, e2⟩
/-- v is the least cost of all ways -/
structure Lst (c0 c1 c2 c3 : Nat) (L : List (Nat × Nat)) (k0 k1 k2 v : Nat) : Prop where
  low : ∀ I : List Ly, I.map Ly.p = L → Ly.Ok k0 k1 k2 I → v ≤ cst c0 c1 c2 c3 I
  some_ : ∃ I : List Ly, I.map Ly.p = L ∧ Ly.Ok k0 k1 k2 I ∧ cst c0 c1 c2 c3 I = v
theorem pairwise_map_p {I : List Ly} (h : (I.map Ly.p).Pairwise fun p q => q.1 ≤ p.1) : I.Pairwise fun i j => j.u ≤ i.u := by
  rw [List.pairwise_map] at h
  exact h
/-- the least cost is that of the densest first -/
theorem Lst.eq {c0 c1 c2 c3 k0 k1 k2 v : Nat} (h1 : c0 ≤ c1) (h2 : c1 ≤ c2) (h3 : c2 ≤ c3) {L L' : List (Nat × Nat)} (hp : L.Perm L') (hs : L'.Pairwise fun p q => q.1 ≤ p.1) (h : Lst c0 c1 c2 c3 L k0 k1 k2 v) : v = cst c0 c1 c2 c3 (gr L' k0 k1 k2) := by
  obtain ⟨I, hI, ok, rfl⟩ := h.some_
  have keep : ∀ {I J : List Ly}, I.Perm J → Ly.Ok k0 k1 k2 I → Ly.Ok k0 k1 k2 J := fun hp ok => ⟨fun i hi => ok.1 i (hp.mem_iff.2 hi), by rw [← sm_perm hp]; exact ok.2.1, by rw [← sm_perm hp]; exact ok.2.2.1, by rw [← sm_perm hp]; exact ok.2.2.2⟩
  obtain ⟨I', hII, hI'⟩ := perm_lift Ly.p hp hI
  have low := gr_least h1 h2 h3 (I := I') (pairwise_map_p (by rw [hI']; exact hs)) (keep hII ok)
  rw [hI'] at low
  have e1 : cst c0 c1 c2 c3 I = cst c0 c1 c2 c3 I' := sm_perm hII
  obtain ⟨J, hJ, hJm⟩ := perm_lift Ly.p hp.symm (gr_p (L := L') (k0 := k0) (k1 := k1) (k2 := k2))
  have up := h.low J hJm (keep hJ gr_ok)
  have e2 : cst c0 c1 c2 c3 (gr L' k0 k1 k2) = cst c0 c1 c2 c3 J := sm_perm hJ
  omega
theorem Lst.nil (c0 c1 c2 c3 k0 k1 k2 : Nat) : Lst c0 c1 c2 c3 [] k0 k1 k2 0 :=
  ⟨fun _ _ _ => Nat.zero_le _, [], rfl, ⟨(fun i hi => by cases hi), Nat.zero_le _, Nat.zero_le _, Nat.zero_le _⟩, rfl⟩
/-- one range more: the least over its own ways, each with the least of the rest -/
theorem Lst.cons {c0 c1 c2 c3 k0 k1 k2 u n v : Nat} {L : List (Nat × Nat)} (r : Nat → Nat → Nat → Nat) (hr : ∀ a b c, a + b + c ≤ n → a ≤ k0 → b ≤ k1 → c ≤ k2 → Lst c0 c1 c2 c3 L (k0 - a) (k1 - b) (k2 - c) (r a b c))
    (hlow : ∀ a b c, a + b + c ≤ n → a ≤ k0 → b ≤ k1 → c ≤ k2 → v ≤ u * (a * c0 + b * c1 + c * c2 + (n - a - b - c) * c3) + r a b c)
    (hsome : ∃ a b c, a + b + c ≤ n ∧ a ≤ k0 ∧ b ≤ k1 ∧ c ≤ k2 ∧ v = u * (a * c0 + b * c1 + c * c2 + (n - a - b - c) * c3) + r a b c) : Lst c0 c1 c2 c3 ((u, n) :: L) k0 k1 k2 v where
  low := fun I hI ok => by
    cases I with
    | nil => cases hI
    | cons i I =>
      rw [List.map_cons] at hI
      injection hI with e1 e2
      have eu : i.u = u := congrArg Prod.fst e1
      have en : i.n = n := congrArg Prod.snd e1
      obtain ⟨o1, o2, o3, o4⟩ := ok
      rw [sm_cons] at o2 o3 o4
      have hi := o1 i List.mem_cons_self
      have h1 := hlow i.a i.b i.c (by omega) (by omega) (by omega) (by omega)
      have h2 := (hr i.a i.b i.c (by omega) (by omega) (by omega) (by omega)).low I e2 ⟨fun j hj => o1 j (List.mem_cons_of_mem _ hj), by omega, by omega, by omega⟩
      have e3 : cst c0 c1 c2 c3 (i :: I) = i.c1 c0 c1 c2 c3 + cst c0 c1 c2 c3 I := sm_cons _ _ _
      have e4 : i.c1 c0 c1 c2 c3 = u * (i.a * c0 + i.b * c1 + i.c * c2 + (n - i.a - i.b - i.c) * c3) := by unfold Ly.c1; rw [eu, en]
      rw [e3, e4]
      omega
  some_ := by
    obtain ⟨a, b, c, h0, ha, hb, hc, rfl⟩ := hsome
    obtain ⟨I, hI, ok, e⟩ := (hr a b c h0 ha hb hc).some_
    refine ⟨⟨u, n, a, b, c⟩ :: I, by rw [List.map_cons, hI]; rfl, ⟨fun i hi => ?_, ?_, ?_, ?_⟩, ?_⟩
    · rcases List.mem_cons.1 hi with rfl | hi
      · exact h0
      · exact ok.1 i hi
    · rw [sm_cons]; have := ok.2.1; show a + _ ≤ k0; omega
    · rw [sm_cons]; have := ok.2.2.1; show b + _ ≤ k1; omega
    · rw [sm_cons]; have := ok.2.2.2; show c + _ ≤ k2; omega
    · show sm _ (_ :: I) = _
      rw [sm_cons]
      show _ + cst c0 c1 c2 c3 I = _
      rw [e]
      rfl
end Go.Proofs.Ytcibhmbneedghaa
