/-
  What is proved: the fixed fact that each statement of this layer asks first holds; UniNil's walk; what a stack is that a law has made. Condition: none.
-/
import Derived.Test.YtmkpimpckhppgaaUw13
namespace Go.Proofs.Ytmkpimpckhppgaa
open Go.RowKit

/-- a stack that a law has made, and what is true of it -/
structure Ls (w0 w : World) (g k : Nat) (c : Nat → Nat) (s : Us) : Prop where
  u : Un w g k c s
  ok : Oku s
  lg : w0.heap.size ≤ g
  lk : w0.heap.size ≤ k
  bel : Below w0.heap.size w0 w
abbrev s00 : Us := ⟨[], fun _ => 0⟩
section
variable {w0 w w' : World} {g k : Nat} {c : Nat → Nat} {s s' : Us}
theorem Ls.below (h : Ls w0 w g k c s) (hb : Below w.heap.size w w') : Ls w0 w' g k c s := ⟨h.u.below hb, h.ok, h.lg, h.lk, on h.bel hb⟩
theorem Ls.draws (h : Ls w0 w g k c s) (n : Nat) : Ls w0 (w.drewN n) g k c s := h.below (below_draws (Below.refl _ _) n)
theorem Ls.step (h : Ls w0 w g k c s) (hu : Un w' g k c s') (hc : Chg w w' (Uf g k) (Uf g k)) (ok : Oku s') : Ls w0 w' g k c s' :=
  ⟨hu, ok, h.lg, h.lk, h.bel.trans (hc.bel h.bel.size fun j e => e.elim (fun e => by rw [e]; exact h.lg) (fun e => by rw [e]; exact h.lk))⟩
theorem Ls.chg {F G : Nat → Prop} (h : Ls w0 w g k c s) (hc : Chg w w' F G) (hF : ∀ j, F j → w0.heap.size ≤ j) (h1 : ¬ F g) (h2 : ¬ F k) : Ls w0 w' g k c s :=
  ⟨h.u.chg hc h1 h2, h.ok, h.lg, h.lk, h.bel.trans (hc.bel h.bel.size hF)⟩
theorem Ls.new {w1 : World} (hb1 : Below w0.heap.size w0 w1) (hu : Un w g k c s00) (hb : Below w1.heap.size w1 w) (hg : w1.heap.size ≤ g) (hk : w1.heap.size ≤ k) : Ls w0 w g k c s00 :=
  ⟨hu, Oku.new, Nat.le_trans hb1.size hg, Nat.le_trans hb1.size hk, on hb1 hb⟩
end
/-- the example's states -/
abbrev c111 : Nat → Nat := capf [1, 1, 1]
def ex1 : Us := s00.us c111 5
def ex2 : Us := ex1.us c111 6
set_option maxRecDepth 100000 in
theorem ex_nx0 : s00.nx c111 5 = 1 := by decide +kernel
set_option maxRecDepth 100000 in
theorem ex_nx1 : ex1.nx c111 6 = 2 := by decide +kernel
set_option maxRecDepth 100000 in
theorem ex_nx2 : ex2.nx c111 5 = 1 := by decide +kernel
set_option maxRecDepth 100000 in
theorem ex_mv2 : (ex2.ust c111 5).2.length = 0 := by decide +kernel
theorem mvs_val {w : World} {b : Nat} {v : Value} {M : List (Int × Nat)} (h : Mvs w b v M) : ∃ A cp, v = .slice A M.length cp := by
  obtain ⟨A, cp, e, -⟩ := OwnV.read h
  exact ⟨A, cp, e⟩
set_option maxRecDepth 10000 in
set_option maxHeartbeats 1000000 in
theorem wakes_any (w : World) : Calls Try.prog 8 #[] w fun e w' => e = .returned (.bool true) ∧ Below w.heap.size w w' := by
  have HN := hid (un_new 1 1 1 w)
  have h5 : vb 5 := by decide
  have h6 : vb 6 := by decide
  have HF1 := hid (fun (y g k) (h : Ls w y g k c111 s00) => un_use h.u h.ok h5)
  have HF2 := hid (fun (y g k) (h : Ls w y g k c111 ex1) => un_use h.u h.ok h6)
  have HF3 := hid (fun (y g k) (h : Ls w y g k c111 ex2) => un_use h.u h.ok h5)
  unfold UseQ at HF1 HF2 HF3
  rw [ex_nx0] at HF1
  rw [ex_nx1] at HF2
  rw [ex_nx2] at HF3
  go_enter Try.func8, Try.ntmps8
  go_wp2_with (first
    | (go_at_call 9; refine HN.out.mono ?_; intro e w1 hq; unfold NewR at hq; rw [if_pos (by decide)] at hq; obtain ⟨g, k, rfl, hu, hb, hg, hk⟩ := hq; have H0 := hid (Ls.new (Below.refl w.heap.size w) hu hb hg hk); clear hu hb hg hk)
    | (go_at_call 14; (with_reducible refine (HF1.out _ _ _ H0.out).mono ?_); rintro e w2 ⟨v, rfl, ho, hu, hc⟩; have H1 := hid (show Ls w w2 g k c111 ex1 from H0.out.step hu hc (H0.out.ok.us h5)); obtain ⟨A1, cp1, rfl⟩ := mvs_val ho; clear ho hu hc)
    | (go_at_call 14; (with_reducible refine (HF2.out _ _ _ H1.out).mono ?_); rintro e w3 ⟨v, rfl, ho, hu, hc⟩; have H2 := hid (show Ls w w3 g k c111 ex2 from H1.out.step hu hc (H1.out.ok.us h6)); obtain ⟨A2, cp2, rfl⟩ := mvs_val ho; clear ho hu hc)
    | (go_at_call 14; (with_reducible refine (HF3.out _ _ _ H2.out).mono ?_); rintro e w4 ⟨v, rfl, ho, hu, hc⟩; have H3 := hid (H2.out.step hu hc (H2.out.ok.us h5)); obtain ⟨A3, cp3, rfl⟩ := mvs_val ho; rw [ex_mv2]; clear ho hu hc))
  go_ret
  exact ⟨rfl, H3.out.bel⟩
set_option maxRecDepth 10000 in
set_option maxHeartbeats 1000000 in
theorem nil_walk (b : Int) (w : World) : Calls Try.prog 6 #[.int .i64 b] w fun e w' => e = .returned (.bool true) ∧ Below w.heap.size w w' := by
  go_enter Try.func6, Try.ntmps6
  go_wp2_with (first
    | (go_at_call 8; refine (wakes_any _).mono ?_; rintro e w1 ⟨rfl, hb⟩; have HB := hid hb; clear hb)
    | (go_at_call 14; refine (un_use_nil _ _).mono ?_; rintro e w2 ⟨rfl, rfl⟩)
    | (go_at_call 21; refine (un_yard_nil _ _).mono ?_; rintro e w2 ⟨rfl, hb⟩; have HB2 := hid (on HB.out hb); clear hb)
    | (go_at_call 12; refine (un_drop_nil _ _).mono ?_; rintro e w3 ⟨rfl, rfl⟩)
    | (go_at_call 19; refine (un_level_nil _ _).mono ?_; rintro e w3 ⟨rfl, rfl⟩)
    | (go_at_call 20; refine (un_count_nil _ _).mono ?_; rintro e w3 ⟨rfl, rfl⟩)
    | (go_at_call 22; refine (un_all_nil _).mono ?_; rintro e w3 ⟨rfl, rfl⟩))
  go_ret
  exact ⟨rfl, HB2.out⟩
end Go.Proofs.Ytmkpimpckhppgaa
