/-
  What is proved: karma's Cost answers what hints with parts cost, or what is wrong. Condition: hints and parts are read as such; there are no more than 20.
  (Left out here, as nothing of this law reaches it: pcost_any, cost_bad, cost_good.) -/
import Derived.Test.YtibppolcchhmaaaK27
import Derived.Test.YtibppolcchhmaaaK26
namespace Go.Proofs.Ytibppolcchhmaaa
open Go.RowKit

theorem sN_le {f : Nat → Nat} {B : Nat} : ∀ {n : Nat}, (∀ i, i < n → f i ≤ B) → sN f n ≤ B * n
  | 0, _ => Nat.le_refl _
  | n + 1, h => by
    have h1 := sN_le (n := n) fun i hi => h i (by omega)
    have h2 := h n (by omega)
    rw [sN, Nat.mul_succ]
    omega
theorem index4 (cs : Array Value) (q : Nat) (v : Value) (hq : q < 4) (hv : cs[q]? = some v) (w : World) : (Instr.index 81 (.agg cs) (.int .i64 q)).run Try.prog w = .ok v w := by
  obtain ⟨i, hi, hz, hs, hb⟩ := info_parts eInts
  have hagg : ∀ w, (isAgg 3).run Try.prog w = .ok false w := fun w => by unfold isAgg; rw [Sem.run_bind, run_underlying Try.underlying3 w]; rfl
  have h0 : (q : Int) < 4 := by omega
  simp [Instr.index, asIntOf, run_underlying Try.underlying81, part, hagg, hv, sizeOf, typeInfo, hi, hs]
  intro h
  omega
/-- four numbers as cells -/
def c4n (x : Nat → Nat) : Array Value := #[.int .i64 (x 0 : Nat), .int .i64 (x 1 : Nat), .int .i64 (x 2 : Nat), .int .i64 (x 3 : Nat)]
theorem c4n_at (x : Nat → Nat) {j : Nat} (hj : j < 4) : (c4n x)[j]? = some (.int .i64 (x j : Nat)) := by
  have h4 : j = 0 ∨ j = 1 ∨ j = 2 ∨ j = 3 := by omega
  rcases h4 with rfl | rfl | rfl | rfl <;> rfl
/-- what a part costs where each block is used once -/
def cs4 (x k : Nat → Nat) : Nat := sN (fun t => x t * k t) 4
theorem cs4_le {x k : Nat → Nat} (hx : ∀ t, t < 4 → x t ≤ 32) (hk : ∀ t, t < 4 → k t ≤ 1000) : cs4 x k ≤ 128000 := sN_le (B := 32 * 1000) fun i hi => Nat.mul_le_mul (hx i hi) (hk i hi)






























































/-- what hint i costs, times b -/
def ct (hh : Nat → Hn) (P : Nat → Nat → Nat) (k : Nat → Nat) (b i : Nat) : Nat := cs4 (P i) k * oft hh i * (b / sz hh i)
theorem ct_le {hh : Nat → Hn} {P : Nat → Nat → Nat} {k : Nat → Nat} {b i : Nat} (hx : ∀ t, t < 4 → P i t ≤ 32) (hk : ∀ t, t < 4 → k t ≤ 1000) (ho : oft hh i ≤ 100000) (hb : b ≤ 1048576) : ct hh P k b i ≤ 128000 * 100000 * 1048576 :=
  Nat.mul_le_mul (Nat.mul_le_mul (cs4_le hx hk) ho) (Nat.le_trans (Nat.div_le_self _ _) hb)
/-- what Cost answers where nothing is wrong -/
def CostOk (hh : Nat → Hn) (n : Nat) (P : Nat → Nat → Nat) (k : Nat → Nat) (e : Ending) : Prop :=
  e = .returned (.tuple #[.int .i64 (sN (ct hh P k (cml (szs hh n))) n : Nat), .int .i64 (cml (szs hh n) : Nat), .int .i64 0])



















theorem ref_ok {hh : Nat → Hn} {n : Nat} {P : Nat → Nat → Nat} {k : Nat → Nat} {r : Int} (hP : HintsP hh n 32) (hx : ∀ i, i < n → ∀ t, t < 4 → P i t ≤ 32) (hk : ∀ t, t < 4 → k t ≤ 1000) (ho : ∀ i, i < n → oft hh i ≤ 100000) (h : RefP hh n (fun i t => (P i t : Int)) n (fun t => (k t : Int)) r) : r = 0 := by
  have hb : ¬ CBad n (fun i t => (P i t : Int)) n (fun t => (k t : Int)) := by
    rintro (h | ⟨i, hi, t, ht, h⟩ | ⟨t, ht, h⟩)
    · exact h rfl
    · have := hx i hi t ht; dsimp only at h; omega
    · have := hk t ht; dsimp only at h; omega
  have hob : ¬ OBad hh n := by
    rintro ⟨i, hi, h⟩
    have h1 := ho i hi
    have h2 := hP.2.1 i hi
    unfold okH at h2
    unfold oft at h1
    omega
  rcases h with h | h | h | h
  · exact absurd hP h.1
  · exact absurd h.2.1 hb
  · exact absurd h.2.2.1 hob
  · exact h.2.2.2


































































































































































end Go.Proofs.Ytibppolcchhmaaa
/-
  What is proved: KarmaRoom's walk. Condition: hints are read as such.
  (Left out here, as nothing of this law reaches it: room_bad, room_ok, room_walk.) -/
namespace Go.Proofs.Ytibppolcchhmaaa
open Go.RowKit

section
variable {hh : Nat → Hn} {n : Nat} {b : Int} {u : Nat → Nat}
theorem KP_sum (h : OrdH hh n (ordd hh n)) {i : Nat} (hi : i < n) : KP hh n u i 0 + KP hh n u i 1 + KP hh n u i 2 + KP hh n u i 3 = sz hh i := by
  obtain ⟨j, hj, rfl⟩ := h.on hi
  exact PP_sum h.inj hj
theorem KP_le (h : OrdH hh n (ordd hh n)) (hP : HintsP hh n b) {i t : Nat} (hi : i < n) : KP hh n u i t ≤ 32 := by
  obtain ⟨j, hj, e⟩ := h.on hi
  have h1 : KP hh n u i t = pr (sz hh (ordd hh n j)) (RM (sz hh) (ordd hh n) u j) t := by rw [← e]; exact PP_at h.inj hj t
  rw [h1]
  have h2 := pr_le (sz hh (ordd hh n j)) (RM (sz hh) (ordd hh n) u j) t
  have h3 := hP.2.1 i hi
  unfold okH at h3
  rw [e] at h2 ⊢
  unfold sz at h2 ⊢
  omega
/-- how many of the first j are in tier t -/
noncomputable def KS (hh : Nat → Hn) (n : Nat) (u : Nat → Nat) (t j : Nat) : Nat := sN (fun i => KP hh n u i t) j
theorem KS_le (h : OrdH hh n (ordd hh n)) (hP : HintsP hh n b) {t j : Nat} (hj : j ≤ n) : KS hh n u t j ≤ 256 := by
  have h1 : ∀ j, j ≤ n → KS hh n u t j ≤ 32 * j := fun j => by
    induction j with
    | zero => exact fun _ => Nat.le_refl _
    | succ j ih =>
      intro hj
      have := ih (by omega)
      have := KP_le (u := u) (t := t) h hP (i := j) (by omega)
      unfold KS at *
      rw [sN]
      omega
  have := h1 j hj
  have := hP.1
  omega
theorem KS_room (h : OrdH hh n (ordd hh n)) {t : Nat} (ht : t < 3) : KS hh n u t n ≤ u t ∧ (KS hh n u t n < u t → KS hh n u (t + 1) n = 0) := by
  have h1 := PP_room (z := sz hh) (c := u) h.inj h.lt ht (k := n) (Nat.le_refl n)
  refine ⟨?_, fun h2 => PP_next (z := sz hh) (c := u) h.inj h.lt ht (k := n) (Nat.le_refl n) ?_⟩
  · show sN (fun i => PP (sz hh) (ordd hh n) u n i t) n ≤ u t
    omega
  · have h3 : sN (fun i => PP (sz hh) (ordd hh n) u n i t) n < u t := h2
    omega
end
























/-- what KarmaRoom's loops keep -/
structure Rom (w0 w : World) (q : Nat) (A : Option Addr) (n c : Nat) (b : Int) (u : Nat → Nat) (hh : Nat → Hn) (B : Option Addr) (s : Nat) (f : Nat → Nat) : Prop where
  x : Lx w0 w q A n c b (u 0 : Nat) (u 1 : Nat) (u 2 : Nat)
  r : Rv w w.heap.size B (pvs (kps hh n u) n)
  s : Arr w s 4 (fun t => .int .i64 (f t : Nat))
section
variable {w0 w w' : World} {q n c s : Nat} {A B : Option Addr} {b : Int} {u f g : Nat → Nat} {hh : Nat → Hn}
theorem Rom.below (h : Rom w0 w q A n c b u hh B s f) (hb : Below w.heap.size w w') : Rom w0 w' q A n c b u hh B s f := ⟨h.x.below hb, h.r.now hb, h.s.below hb⟩
theorem Rom.put (h : Rom w0 w q A n c b u hh B s f) {t v : Nat} {z : Int} (ht : t < 4) (hz : z = (v : Int)) (hw : w0.heap.size ≤ s) (hq : q ≠ s) (hB : ∀ ad, B = some ad → ad.block ≠ s) (hg : ∀ i, i < 4 → g i = if i = t then v else f i) : Rom w0 (w.setCell ⟨s, t, none⟩ (.int .i64 z)) q A n c b u hh B s g where
  x := ⟨below_set h.x.bel _ _ hw, h.x.bx.far _ _ fun e => hq e.symm⟩
  r := by rw [setSize]; exact h.r.off _ _ hB
  s := (h.s.set ht (.int .i64 z)).alike fun i hi => by
    by_cases e : i = t
    · rw [if_pos e, hg i hi, if_pos e, hz]
    · rw [if_neg e, hg i hi, if_neg e]
theorem Rom.alike (h : Rom w0 w q A n c b u hh B s f) (hg : ∀ i, i < 4 → g i = f i) : Rom w0 w q A n c b u hh B s g := ⟨h.x, h.r, h.s.alike fun i hi => by rw [hg i hi]⟩
end









































































































































































































































end Go.Proofs.Ytibppolcchhmaaa
