/-
  What is proved: the fixed fact that each statement of this layer asks first holds; MqNil's walk; what an MQ is that a law has made. Condition: none.
-/
import Derived.Test.YtlafhejnnilpmaaMz12
namespace Go.Proofs.Ytlafhejnnilpmaa
open Go.RowKit

/-- an MQ that a law has made, and what is true of it -/
structure Lm (w0 w : World) (g k C N L H T : Nat) (m : Ms) : Prop where
  q : Mq w g k C N L H m
  ok : Okm C N L H m
  h16 : H ≤ 16
  t : m.t ≤ T
  lg : w0.heap.size ≤ g
  lk : w0.heap.size ≤ k
  bel : Below w0.heap.size w0 w
section
variable {w0 w w' : World} {g k C N L H T : Nat} {m m' : Ms}
theorem Lm.below (h : Lm w0 w g k C N L H T m) (hb : Below w.heap.size w w') : Lm w0 w' g k C N L H T m := ⟨h.q.below hb, h.ok, h.h16, h.t, h.lg, h.lk, on h.bel hb⟩
theorem Lm.draws (h : Lm w0 w g k C N L H T m) (n : Nat) : Lm w0 (w.drewN n) g k C N L H T m := h.below (below_draws (Below.refl _ _) n)
theorem Lm.step {T' : Nat} (h : Lm w0 w g k C N L H T m) (hq : Mq w' g k C N L H m') (hc : Chg w w' (Mf g k) (Mf g k)) (ok : Okm C N L H m') (ht : m'.t ≤ T') : Lm w0 w' g k C N L H T' m' :=
  ⟨hq, ok, h.h16, ht, h.lg, h.lk, h.bel.trans (hc.bel h.bel.size fun j e => e.elim (fun e => by rw [e]; exact h.lg) (fun e => by rw [e]; exact h.lk))⟩
theorem Lm.chg {F G : Nat → Prop} (h : Lm w0 w g k C N L H T m) (hc : Chg w w' F G) (hF : ∀ j, F j → w0.heap.size ≤ j) (h1 : ¬ F g) (h2 : ¬ F k) : Lm w0 w' g k C N L H T m :=
  ⟨h.q.chg hc h1 h2, h.ok, h.h16, h.t, h.lg, h.lk, h.bel.trans (hc.bel h.bel.size hF)⟩
theorem shp_nat {c n l h : Int} (hs : shp c n l h) : ∃ C N L H : Nat, c = C ∧ n = N ∧ l = L ∧ h = H ∧ (1 ≤ C ∧ C ≤ 16) ∧ (1 ≤ N ∧ N ≤ 8) ∧ (1 ≤ L ∧ L ≤ 100) ∧ H ≤ 16 := by
  unfold shp at hs
  exact ⟨c.toNat, n.toNat, l.toNat, h.toNat, by omega, by omega, by omega, by omega, by omega, by omega, by omega, by omega⟩
end
abbrev m00 : Ms := ⟨List.replicate 9 [], fun _ => 0, fun _ => 0, 0⟩
theorem Lm.new {w0 w1 w2 : World} {g k C N L H : Nat} (hb1 : Below w0.heap.size w0 w1) (hq : Mq w2 g k C N L H m00) (hb : Below w1.heap.size w1 w2) (hg : w1.heap.size ≤ g) (hk : w1.heap.size ≤ k)
    (hc : 1 ≤ C ∧ C ≤ 16) (hn : 1 ≤ N ∧ N ≤ 8) (hl : 1 ≤ L ∧ L ≤ 100) (hh : H ≤ 16) : Lm w0 w2 g k C N L H 0 m00 :=
  ⟨hq, Okm.new hc hn hl (by omega), hh, Nat.le_refl _, Nat.le_trans hb1.size hg, Nat.le_trans hb1.size hk, on hb1 hb⟩
/-- the example's states -/
def ex1 : Ms := m00.adM 2 2 9 0 1
def ex2 : Ms := ex1.useM 2 9 1
def ex3 : Ms := ex2.adM 2 2 9 0 2
set_option maxRecDepth 100000 in
theorem ex_goes : decide (ex3.goes 2 3) = true := by decide +kernel
set_option maxRecDepth 100000 in
theorem ex_vic : ex3.adV 2 3 = 2 := by decide +kernel
set_option maxRecDepth 10000 in
set_option maxHeartbeats 1000000 in
theorem wakes_any (w : World) : Calls Try.prog 8 #[] w fun e w' => e = .returned (.bool true) ∧ Below w.heap.size w w' := by
  have HN : Hid (Calls Try.prog 9 #[.agg #[.int .i64 2, .int .i64 2, .int .i64 9, .int .i64 0]] w (NewQ w 2 2 9 0)) := hid (mq_new_yes 2 2 9 0 (by decide) w)
  go_enter Try.func8, Try.ntmps8
  go_upto_region 4 with (go_at_call 9; refine HN.out.mono ?_; rintro e w1 ⟨g, k, rfl, hq, hb, hg, hk⟩; have H0 := hid (Lm.new (Below.refl w.heap.size w) hq hb hg hk (by decide) (by decide) (by decide) (by decide)); clear hq hb hg hk)
  have HF1 := hid (mq_add H0.out.q H0.out.ok (by decide) (by decide) 1)
  have HF2 := hid (fun (y : World) (h : Lm w y g k 2 2 9 0 1 ex1) => mq_Use h.q h.ok (by have := h.t; omega) 1)
  have HF3 := hid (fun (y : World) (h : Lm w y g k 2 2 9 0 2 ex2) => mq_add h.q h.ok (by decide) (by have := h.t; omega) 2)
  have HF4 := hid (fun (y : World) (h : Lm w y g k 2 2 9 0 3 ex3) => mq_add h.q h.ok (by decide) (by have := h.t; omega) 3)
  rw [ex_goes, ex_vic, show Ms.adE 3 = 0 from by decide] at HF4
  have HK1 := hid (Okm.adM H0.out.ok (by decide) 1)
  go_upto_region 5 with (go_at_call 15; refine HF1.out.mono ?_; rintro e w2 ⟨rfl, hq, hc⟩; have H1 := hid (show Lm w w2 g k 2 2 9 0 1 ex1 from H0.out.step hq hc HK1.out.1 HK1.out.2); clear hq hc)
  go_upto_region 6 with (go_at_call 12; refine (HF2.out _ H1.out).mono ?_; rintro e w3 ⟨rfl, hq, hc⟩; have H2 := hid (show Lm w w3 g k 2 2 9 0 2 ex2 from H1.out.step hq hc (H1.out.ok.useM 1).1 (Nat.le_trans (H1.out.ok.useM 1).2 (Nat.succ_le_succ H1.out.t))); clear hq hc)
  go_upto_region 7 with (go_at_call 15; refine (HF3.out _ H2.out).mono ?_; rintro e w4 ⟨rfl, hq, hc⟩; have H3 := hid (show Lm w w4 g k 2 2 9 0 3 ex3 from H2.out.step hq hc (H2.out.ok.adM (by decide) 2).1 (Nat.le_trans (H2.out.ok.adM (by decide) 2).2 (Nat.succ_le_succ H2.out.t))); clear hq hc)
  go_wp2_with (go_at_call 15; refine (HF4.out _ H3.out).mono ?_; rintro e w5 ⟨rfl, hq, hc⟩; have H4 := hid (H3.out.step hq hc (H3.out.ok.adM (by decide) 3).1 (H3.out.ok.adM (by decide) 3).2); clear hq hc)
  go_ret
  exact ⟨rfl, H4.out.bel⟩
set_option maxRecDepth 10000 in
set_option maxHeartbeats 1000000 in
theorem nil_walk (b : Int) (w : World) : Calls Try.prog 6 #[.int .i64 b] w fun e w' => e = .returned (.bool true) ∧ Below w.heap.size w w' := by
  go_enter Try.func6, Try.ntmps6
  go_wp2_with (first
    | (go_at_call 8; refine (wakes_any _).mono ?_; rintro e w1 ⟨rfl, hb⟩; have HB := hid hb; clear hb)
    | (go_at_call 15; refine (mq_add_nil _ _).mono ?_; rintro e w2 ⟨rfl, rfl⟩)
    | (go_at_call 12; refine (mq_Use_nil _ _).mono ?_; rintro e w2 ⟨rfl, rfl⟩)
    | (go_at_call 16; refine (mq_remove_nil _ _).mono ?_; rintro e w2 ⟨rfl, rfl⟩)
    | (go_at_call 19; refine (mq_has_nil _ _).mono ?_; rintro e w2 ⟨rfl, rfl⟩)
    | (go_at_call 25; refine (mq_all_nil _).mono ?_; rintro e w2 ⟨rfl, rfl⟩)
    | (go_at_call 29; refine (mq_queue_nil _ _).mono ?_; rintro e w2 ⟨rfl, rfl⟩)
    | (go_at_call 26; refine (mq_ghosts_nil _).mono ?_; rintro e w2 ⟨rfl, rfl⟩)
    | (go_at_call 21; refine (mq_often_nil _ _).mono ?_; rintro e w2 ⟨rfl, rfl⟩)
    | (go_at_call 28; refine (mq_len_nil _).mono ?_; rintro e w2 ⟨rfl, rfl⟩))
  go_ret
  exact ⟨rfl, HB.out⟩
end Go.Proofs.Ytlafhejnnilpmaa
