/-
  What is proved: what a tier's cache lets go: a block with its bytes. No condition.
-/
import Derived.Test.YtbcejfonkehjgaaGreatDoorK21
import Derived.Test.YtbcejfonkehjgaaGreatDoorK23
import Derived.Test.YtbcejfonkehjgaaGreatDoorK01
namespace Go.Proofs.YtbcejfonkehjgaaGreatDoor
open Go.RowKit

theorem zero_u8s (w : World) : (zeroValue 38).run Tryz.prog w = .ok (.slice none 0 0) w := by kernel_rfl
theorem wf_small {b : Int} (h : -9223372036854775808 ≤ b ∧ b ≤ 9223372036854775807) : (Lit.int .i64 b).wf = true := by
  simp only [Lit.wf, Bool.and_eq_true, decide_eq_true_eq]
  exact ⟨Int.le_trans (by decide) h.1, Int.le_trans h.2 (by decide)⟩
theorem grown_chg {w w' : World} {M : Nat} (h : w.grownBy w' (some M)) : Chg w w' (· = M) (· = M) := ⟨h.os, h.tape, h.output, h.size, fun j hj hn => h.block j hj fun e => hn (Option.some.inj e), fun _ h => .inl h⟩
section
variable {w w' : World} {G M m : Nat} {f : Int → Option Value}
set_option maxRecDepth 20000 in
set_option maxHeartbeats 1000000 in
theorem cm_take (g19 : w.cell? ⟨G, 19, none⟩ = some (.map (some M))) (hm : Mc w M m f) {b : Int} {A1 : Option Addr} {k1 c1 : Nat} (hf : f b = some (.slice A1 k1 c1)) (hx : (Lit.int .i64 b).wf = true) :
    Calls Tryz.prog 131 #[.pointer (some ⟨G, 0, none⟩), .int .i64 b] w fun e w' => e = .returned (.agg #[.int .i64 b, .slice A1 k1 c1]) ∧ Mc w' M m (fun y => if y = b then none else f y) ∧ Chg w w' (· = M) (· = M) := by
  have hb0 := below_alloc w (.cells #[.int .i64 0, .slice none 0 0] 88)
  have HB0 := hid (Bx.new w 88 #[.int .i64 0, .slice none 0 0])
  have hm0 := hm.below hb0
  have HM0 := hid hm0
  have HC0 := hid hb0
  have HML := hid hm.lt
  have g0 := (hb0.cell (World.block_lt_of_cell? w _ g19)).trans g19
  have hlk := hm0.look Tryz.underlying3 Tryz.underlying105 (zero_u8s _) hx
  rw [hf] at hlk
  have hlk2 : (Instr.lookup 105 (.map (some M)) (.int .i64 b) false).run Tryz.prog (w.alloc (.cells #[.int .i64 0, .slice none 0 0] 88)) = .ok (.slice A1 k1 c1) (w.alloc (.cells #[.int .i64 0, .slice none 0 0] 88)) := hlk
  have HX := hid hx
  clear hlk hm0 hb0 g19 hm hf hx
  go_enter Tryz.func131, Tryz.ntmps131
  go_upto_region 1 with fail
  obtain ⟨W0, hW0⟩ : ∃ x, w.alloc (.cells #[.int .i64 0, .slice none 0 0] 88) = x := ⟨_, rfl⟩
  obtain ⟨r0, hr0⟩ : ∃ x, w.heap.size = x := ⟨_, rfl⟩
  rw [hW0] at HB0 HM0 HC0 g0 hlk2 ⊢
  rw [hr0] at HB0 ⊢
  have HSZ := hid hr0
  clear hW0 hr0
  go_upto_region 2 with fail
  have hb1 := below_alloc W0 (.cells #[.int .i64 b, .slice A1 k1 c1] 88)
  have HB1 := hid (Bx.new W0 88 #[.int .i64 b, .slice A1 k1 c1])
  have HB01 := hid (HB0.out.next hb1)
  have g1 := (hb1.cell (World.block_lt_of_cell? W0 _ g0)).trans g0
  have HC1 := hid (on HC0.out hb1)
  have HR1 := hid (show r0 ≠ W0.heap.size from fun e => by have := HB0.out.lt; omega)
  obtain ⟨w2, hdel, hm2, hg2⟩ := (HM0.out.below hb1).drop Tryz.underlying3 Tryz.underlying105 HX.out 0
  have HM2 := hid hm2
  have HG2 := hid hg2
  have HNM := hid (show W0.heap.size ≠ M from fun e => by have := HML.out; have := HC0.out.size; omega)
  have HNR := hid (show r0 ≠ M from fun e => by have := HML.out; have := HSZ.out; omega)
  have HX1 := hid (HB1.out.apart hg2 fun e => HNM.out (Option.some.inj e))
  have HX0 := hid (HB01.out.apart hg2 fun e => HNR.out (Option.some.inj e))
  obtain ⟨r1, hr1⟩ : ∃ x, W0.heap.size = x := ⟨_, rfl⟩
  rw [hr1] at HX1 HR1 ⊢
  clear hm2 hg2 hb1 hlk2 g0 hr1
  go_wp2_with (first
    | (refine wpList_load_bx rfl 88 (.tmp 5) rfl r1 _ _ _ rfl HX1.out Tryz.underlying88 rfl (by kernel_rfl) ?_)
    | (refine wpList_store_bx rfl 88 (.tmp 4) (.tmp 19) rfl rfl r0 _ _ #[.int .i64 b, .slice A1 k1 c1] rfl rfl HX0.out (by kernel_rfl) rfl (by simp [Value.oneCell']) ?_))
  refine bodyPost_ret (results_bx1 rfl _ rfl (HX0.out.row (cs' := #[.int .i64 b, .slice A1 k1 c1])) Tryz.underlying88 rfl (by kernel_rfl)) rfl ?_
  refine ⟨rfl, HM2.out.same (setRow_other _ _ _ _ fun e => HNR.out e.symm), ?_⟩
  exact chg_fresh ((Chg.of HC1.out _).trans (grown_chg HG2.out)) (Nat.le_of_eq HSZ.out) _
end
end Go.Proofs.YtbcejfonkehjgaaGreatDoor
namespace Go.Proofs.YtbcejfonkehjgaaGreatDoor
open Go.RowKit

theorem lsum_sN (f : Nat → Nat) : ∀ n, lsum f n = sN f n
  | 0 => rfl
  | n + 1 => by
    show lsum f n + f n = sN f n + f n
    rw [lsum_sN f n]
section
variable {A : Option Addr} {n c T : Nat} {hh : Nat → Hn} {b : Int} {w : World} {u : Nat → Nat}
end






section
variable {w0 w1 w w' : World} {s m c g k q T n : Nat} {A : Option Addr} {b x y z : Int} {rg : Int → Option Nat} {pt : Nat → Nat} {lp : Nat → Bool} {S S' : List (List Int)}







end
end Go.Proofs.YtbcejfonkehjgaaGreatDoor
namespace Go.Proofs.YtbcejfonkehjgaaGreatDoor
open Go.RowKit

section
variable {c : Nat → Int} {hh : Nat → Hn} {n T : Nat}
theorem RightP.caps (h : RightP c hh n) : c 9 = (cps c 0 : Nat) ∧ c 10 = (cps c 1 : Nat) ∧ c 11 = (cps c 2 : Nat) ∧ (∀ t, t < 3 → 1 ≤ cps c t ∧ cps c t ≤ 16) ∧ CapP (c 2) (c 9) (c 10) (c 11) := by
  have b9 := h.1 9 (by omega)
  have b10 := h.1 10 (by omega)
  have b11 := h.1 11 (by omega)
  have b2 := h.1 2 (by omega)
  have l9 : (1 : Int) ≤ c 9 ∧ c 9 ≤ 16 := b9
  have l10 : (1 : Int) ≤ c 10 ∧ c 10 ≤ 16 := b10
  have l11 : (1 : Int) ≤ c 11 ∧ c 11 ≤ 16 := b11
  have l2 : (1 : Int) ≤ c 2 ∧ c 2 ≤ 32 := b2
  refine ⟨(Int.toNat_of_nonneg (by omega)).symm, (Int.toNat_of_nonneg (by omega)).symm, (Int.toNat_of_nonneg (by omega)).symm, fun t ht => ?_, l2, ?_⟩
  · have h3 : t = 0 ∨ t = 1 ∨ t = 2 := by omega
    rcases h3 with rfl | rfl | rfl
    · show 1 ≤ (c 9).toNat ∧ (c 9).toNat ≤ 16
      omega
    · show 1 ≤ (c 10).toNat ∧ (c 10).toNat ≤ 16
      omega
    · show 1 ≤ (c 11).toNat ∧ (c 11).toNat ≤ 16
      omega
  · rintro ⟨i, hi, ho⟩
    have h3 : i = 0 ∨ i = 1 ∨ i = 2 := by omega
    rcases h3 with rfl | rfl | rfl
    · have : c 9 < 1 ∨ 16 < c 9 := ho
      omega
    · have : c 10 < 1 ∨ 16 < c 10 := ho
      omega
    · have : c 11 < 1 ∨ 16 < c 11 := ho
      omega
theorem cps_at {t : Nat} (ht : t < 3) : cps c t = (c (9 + t)).toNat := by
  have h3 : t = 0 ∨ t = 1 ∨ t = 2 := by omega
  rcases h3 with rfl | rfl | rfl <;> rfl
theorem cps_cN (h : RightP c hh n) : cN (cps c 0 : Nat) (cps c 1 : Nat) (cps c 2 : Nat) = cps c := by
  obtain ⟨h0, h1, h2, -⟩ := h.caps
  rw [← h0, ← h1, ← h2]
  rfl
theorem Ob.new_all (c : Nat → Int) (hh : Nat → Hn) (n T : Nat) : (Ob.new c hh n T).all = [] := by
  unfold Ob.new
  split
  · exact allp_empty _ _
  · split
    · show alls (List.replicate 9 []) 8 = []
      rfl
    · rfl
theorem Ob.new_tm (c : Nat → Int) (hh : Nat → Hn) (n T : Nat) : (Ob.new c hh n T).tm = 0 := by
  unfold Ob.new
  split
  · rfl
  · split <;> rfl
theorem Ob.new_ok (h : RightP c hh n) (h1 : 1 ≤ T) (h3 : T ≤ 3) (hd : c 5 = 2 → OrdH hh n (ordd hh n)) : (Ob.new c hh n T).Ok (cps c (T - 1)) := by
  have hc := h.caps.2.2.2.1 (T - 1) (by omega)
  have l12 : (1 : Int) ≤ c 12 ∧ c 12 ≤ 8 := h.1 12 (by omega)
  have l13 : (1 : Int) ≤ c 13 ∧ c 13 ≤ 100 := h.1 13 (by omega)
  have l14 : (0 : Int) ≤ c 14 ∧ c 14 ≤ 16 := h.1 14 (by omega)
  unfold Ob.new
  split
  · rename_i h5
    have hn8 := h.2.2.2.1
    refine ⟨Okp.new (by show n ≤ cl n; unfold cl; omega), ?_, fun z i hz => ?_⟩
    · rw [lsum_sN]
      exact (KS_room (u := cps c) (hd h5) (t := T - 1) (by omega)).1
    · obtain ⟨hi, hz1⟩ := rgi_lt hz
      have := h.2.2.2.2.1 i hi
      have := h.1 2 (by omega)
      have l2 : (1 : Int) ≤ c 2 ∧ c 2 ≤ 32 := h.1 2 (by omega)
      unfold okH at *
      unfold inR at hz1
      exact ⟨hi, by omega, by omega⟩
  · split
    · exact ⟨rfl, Okm.new hc ⟨by omega, by omega⟩ ⟨by omega, by omega⟩ (by omega), by omega⟩
    · exact ⟨rfl, hc, List.nodup_nil, Nat.zero_le _, fun x hx => by cases hx⟩
end
def NewO (w : World) (c : Nat → Int) (hh : Nat → Hn) (n T : Nat) (e : Ending) (w' : World) : Prop :=
  ∃ ty g, e = .returned (.iface ty (.pointer (some ⟨g, 0, none⟩))) ∧ Om w' (fun j => w.heap.size ≤ j ∧ j < w'.heap.size) (.iface ty (.pointer (some ⟨g, 0, none⟩))) (Ob.new c hh n T) ∧ (Ob.new c hh n T).Ok (cps c (T - 1)) ∧ Below w.heap.size w w'
section
variable {c : Nat → Int} {A : Option Addr} {n cq : Nat} {hh : Nat → Hn} {w : World}
theorem Ob.new_lru {T : Nat} (h5 : ¬ c 5 = 2) (h6 : ¬ c (6 + (T - 1)) = 2) : Ob.new c hh n T = .lru (cps c (T - 1)) [] := by
  unfold Ob.new
  rw [if_neg h5, if_neg h6]
theorem Ob.new_mq {T : Nat} (h5 : ¬ c 5 = 2) (h6 : c (6 + (T - 1)) = 2) : Ob.new c hh n T = .mq (cps c (T - 1)) (c 12).toNat (c 13).toNat (c 14).toNat ⟨List.replicate 9 [], fun _ => 0, fun _ => 0, 0⟩ := by
  unfold Ob.new
  rw [if_neg h5, if_pos h6]
theorem Ob.new_prt {T : Nat} (h5 : c 5 = 2) : Ob.new c hh n T = .prt (fun z => rgi hh z n) (fun i => KP hh n (cps c) i (T - 1)) (fun i => (hh i).l) n (empt (cl n)) := by
  unfold Ob.new
  rw [if_pos h5]
set_option maxRecDepth 20000 in
set_option maxHeartbeats 2000000 in
theorem neworder_any (rt : RightP c hh n) (hr : Rv w w.heap.size A (hvs hh n)) (ca : A = none → cq = 0) {T : Nat} (h1 : 1 ≤ T) (h3 : T ≤ 3) :
    Calls Tryz.prog 51 #[.agg (cfgC c A n cq), .int .i64 T] w (NewO w c hh n T) := by
  have hb0 := below_alloc w (.cells (cfgC c A n cq) 25)
  have hx0 := Bx.new w 25 (cfgC c A n cq)
  obtain ⟨k0, k1, k2, kc, kp⟩ := rt.caps
  have hr0 := (hr.below hb0 (Nat.le_refl _)).more hb0.size
  have hn8 : n ≤ 8 := rt.2.2.2.1
  have HRT := hid rt
  have hl3 : (Instr.loadAt 22 (.pointer (some ⟨w.heap.size, 9, none⟩))).run Tryz.prog (w.alloc (.cells (cfgC c A n cq) 25)) = .ok (.agg #[.int .i64 (c 9), .int .i64 (c 10), .int .i64 (c 11)]) (w.alloc (.cells (cfgC c A n cq) 25)) := by
    refine run_loadAt_mid (P := Tryz.prog) _ w.heap.size 9 22 [.int .i64 (c 9), .int .i64 (c 10), .int .i64 (c 11)] _ (fun j u hj => ?_) Tryz.underlying22 rfl (by kernel_rfl)
    have hj3 : j < 3 := (List.getElem?_eq_some_iff.1 hj).1
    rw [hx0.cell, ← hj]
    rcases j with _ | _ | _ | j
    · rfl
    · rfl
    · rfl
    · omega
  have y2 : (w.alloc (.cells (cfgC c A n cq) 25)).cell? ⟨w.heap.size, 2, none⟩ = some (.int .i64 (c 2)) := hx0.cell 2
  have y5 : (w.alloc (.cells (cfgC c A n cq) 25)).cell? ⟨w.heap.size, 5, none⟩ = some (.int .i64 (c 5)) := hx0.cell 5
  have y6 : (w.alloc (.cells (cfgC c A n cq) 25)).cell? ⟨w.heap.size, 6, none⟩ = some (.int .i64 (c 6)) := hx0.cell 6
  have y7 : (w.alloc (.cells (cfgC c A n cq) 25)).cell? ⟨w.heap.size, 7, none⟩ = some (.int .i64 (c 7)) := hx0.cell 7
  have y8 : (w.alloc (.cells (cfgC c A n cq) 25)).cell? ⟨w.heap.size, 8, none⟩ = some (.int .i64 (c 8)) := hx0.cell 8
  have y9 : (w.alloc (.cells (cfgC c A n cq) 25)).cell? ⟨w.heap.size, 9, none⟩ = some (.int .i64 (c 9)) := hx0.cell 9
  have y10 : (w.alloc (.cells (cfgC c A n cq) 25)).cell? ⟨w.heap.size, 10, none⟩ = some (.int .i64 (c 10)) := hx0.cell 10
  have y11 : (w.alloc (.cells (cfgC c A n cq) 25)).cell? ⟨w.heap.size, 11, none⟩ = some (.int .i64 (c 11)) := hx0.cell 11
  have y12 : (w.alloc (.cells (cfgC c A n cq) 25)).cell? ⟨w.heap.size, 12, none⟩ = some (.int .i64 (c 12)) := hx0.cell 12
  have y13 : (w.alloc (.cells (cfgC c A n cq) 25)).cell? ⟨w.heap.size, 13, none⟩ = some (.int .i64 (c 13)) := hx0.cell 13
  have y14 : (w.alloc (.cells (cfgC c A n cq) 25)).cell? ⟨w.heap.size, 14, none⟩ = some (.int .i64 (c 14)) := hx0.cell 14
  have y16 : (w.alloc (.cells (cfgC c A n cq) 25)).cell? ⟨w.heap.size, 16, none⟩ = some (.slice A n cq) := hx0.cell 16
  have HB0 := hid hb0
  have HR0 := hid hr0
  have HKC := hid kc
  have HKP := hid kp
  have HCA := hid ca
  have l12 : (1 : Int) ≤ c 12 ∧ c 12 ≤ 8 := rt.1 12 (by omega)
  have l13 : (1 : Int) ≤ c 13 ∧ c 13 ≤ 100 := rt.1 13 (by omega)
  have l14 : (0 : Int) ≤ c 14 ∧ c 14 ≤ 16 := rt.1 14 (by omega)
  clear hr rt hb0 hr0 kp kc ca
  by_cases h5 : c 5 = 2
  · have d5 : (c 5 == 2) = true := by rw [h5]; rfl
    have HE := hid (fun T => Ob.new_prt (c := c) (hh := hh) (n := n) (T := T) h5)
    have HKN := hid (new_ok (A := A) (n := n) (c := cq) (hh := hh) (b := c 2) (w := w.alloc (.cells (cfgC c A n cq) 25)) (u := cps c) (by omega) HCA.out HR0.out (by rw [← k0, ← k1, ← k2]; exact HKP.out) (cps_cN HRT.out) HRT.out.2.2.2)
    rw [← k0, ← k1, ← k2] at HKN
    have HPF := hid (fun (w2 : World) (q c1 d1 : Nat) (A1 B1 : Option Addr) (hp : Pl w2 q (c 2) (cps c) hh n A1 c1 B1 d1) => pt_new (hp.pn (T := T) h1 h3))
    clear h5 k0 k1 k2 l12 l13 l14 hx0
    obtain rfl | rfl | rfl : T = 1 ∨ T = 2 ∨ T = 3 := by omega
    all_goals
      go_enter Tryz.func51, Tryz.ntmps51
      go_upto_region 1 with fail
      obtain ⟨W0, hW0⟩ : ∃ x, w.alloc (.cells (cfgC c A n cq) 25) = x := ⟨_, rfl⟩
      obtain ⟨r0, hr0⟩ : ∃ x, w.heap.size = x := ⟨_, rfl⟩
      rw [hW0] at HB0 HKN hl3 y2 y5 y6 y7 y8 y9 y10 y11 y12 y13 y14 y16 ⊢
      rw [hr0] at hl3 y2 y5 y6 y7 y8 y9 y10 y11 y12 y13 y14 y16 ⊢
      have HSZ := hid hr0
      clear hW0 hr0
      go_upto_region 4 with (go_at_call 78; with_reducible refine HKN.out.mono ?_; rintro e w2 ⟨q, A1, c1, B1, d1, rfl, hp, hb, hq⟩; have HP := hid hp; have HB2 := hid (on HB0.out hb); have HQ := hid (Nat.le_trans HB0.out.size hq); clear hp hb hq)
      have HNP := hid (HPF.out _ _ _ _ _ _ HP.out)
      first | rw [show ((1 : Nat) : Int) = 1 from rfl] at HNP | rw [show ((2 : Nat) : Int) = 2 from rfl] at HNP | rw [show ((3 : Nat) : Int) = 3 from rfl] at HNP
      go_wp2_with (go_at_call 79; refine HNP.out.mono ?_; rintro e w3 ⟨g, k, rfl, hpt⟩; have HT := hid hpt; clear hpt)
      go_ret
      have hb3 := HT.out.bel
      refine ⟨_, g, rfl, ?_, Ob.new_ok HRT.out h1 h3 (fun _ => HP.out.od), on HB2.out hb3⟩
      rw [HE.out]
      have s2 := HB2.out.size
      have s3 := hb3.size
      exact ⟨_, g, k, q, _, rfl, HT.out, ⟨by have := HT.out.hg; omega, HT.out.box.lt⟩, ⟨by have := HT.out.hk; omega, HT.out.sq.lt⟩, fun j h6 h7 => ⟨by have := HQ.out; omega, by omega⟩⟩
  · have d5 : (c 5 == 2) = false := by simpa using h5
    obtain rfl | rfl | rfl : T = 1 ∨ T = 2 ∨ T = 3 := by omega
    · by_cases h6 : c 6 = 2
      · have d6 : (c 6 == 2) = true := by rw [h6]; rfl
        have HE := hid (Ob.new_mq (c := c) (hh := hh) (n := n) (T := 1) h5 h6)
        have HOK := hid (Ob.new_ok HRT.out h1 h3 (fun h => absurd h h5))
        have HNQ := hid (fun w => mq_new_yes (cps c 0) (c 12).toNat (c 13).toNat (c 14).toNat ⟨by have := HKC.out 0 (by omega); omega, by omega, by omega, by omega⟩ w)
        rw [Int.toNat_of_nonneg (show 0 ≤ c 12 by omega), Int.toNat_of_nonneg (show 0 ≤ c 13 by omega), Int.toNat_of_nonneg (show 0 ≤ c 14 by omega), ← k0] at HNQ
        clear h5 h6 k0 k1 k2 l12 l13 l14 hx0 HKP HCA
        go_enter Tryz.func51, Tryz.ntmps51
        go_upto_region 1 with fail
        obtain ⟨W0, hW0⟩ : ∃ x, w.alloc (.cells (cfgC c A n cq) 25) = x := ⟨_, rfl⟩
        obtain ⟨r0, hr0⟩ : ∃ x, w.heap.size = x := ⟨_, rfl⟩
        rw [hW0] at HB0 hl3 y2 y5 y6 y7 y8 y9 y10 y11 y12 y13 y14 y16 ⊢
        rw [hr0] at hl3 y2 y5 y6 y7 y8 y9 y10 y11 y12 y13 y14 y16 ⊢
        have HSZ := hid hr0
        clear hW0 hr0
        go_wp2_with (go_at_call 80; refine (HNQ.out _).mono ?_; rintro e w3 ⟨g, k, rfl, hq, hb, hg, hk⟩; have H3 := hid hq; have HB3 := hid hb; have HG := hid hg; have HK := hid hk; clear hq hb hg hk)
        go_ret
        refine ⟨_, g, rfl, ?_, HOK.out, on HB0.out HB3.out⟩
        rw [HE.out]
        have s2 := HB0.out.size
        exact ⟨g, k, rfl, H3.out, ⟨by have := HG.out; omega, H3.out.box.lt⟩, ⟨by have := HK.out; omega, H3.out.sq.lt⟩⟩
      · have d6 : (c 6 == 2) = false := by simpa using h6
        have HE := hid (Ob.new_lru (c := c) (hh := hh) (n := n) (T := 1) h5 h6)
        have HOK := hid (Ob.new_ok HRT.out h1 h3 (fun h => absurd h h5))
        have hcp : cp (c 9) = cps c 0 := by have := HKC.out 0 (by omega); rw [k0]; unfold cp; omega
        have HNL := hid (fun w => lru_new (c 9) w)
        rw [hcp] at HNL
        clear h5 h6 k0 k1 k2 l12 l13 l14 hx0 HKP HCA hcp
        go_enter Tryz.func51, Tryz.ntmps51
        go_upto_region 1 with fail
        obtain ⟨W0, hW0⟩ : ∃ x, w.alloc (.cells (cfgC c A n cq) 25) = x := ⟨_, rfl⟩
        obtain ⟨r0, hr0⟩ : ∃ x, w.heap.size = x := ⟨_, rfl⟩
        rw [hW0] at HB0 hl3 y2 y5 y6 y7 y8 y9 y10 y11 y12 y13 y14 y16 ⊢
        rw [hr0] at hl3 y2 y5 y6 y7 y8 y9 y10 y11 y12 y13 y14 y16 ⊢
        have HSZ := hid hr0
        clear hW0 hr0
        go_wp2_with (go_at_call 81; refine (HNL.out _).mono ?_; rintro e w3 ⟨g, k, rfl, hq, hb, hg, hk⟩; have H3 := hid hq; have HB3 := hid hb; have HG := hid hg; have HK := hid hk; clear hq hb hg hk)
        go_ret
        refine ⟨_, g, rfl, ?_, HOK.out, on HB0.out HB3.out⟩
        rw [HE.out]
        have s2 := HB0.out.size
        exact ⟨g, k, rfl, H3.out, ⟨by have := HG.out; omega, H3.out.box.lt⟩, ⟨by have := HK.out; omega, H3.out.sq.lt⟩⟩
    · by_cases h6 : c 7 = 2
      · have d6 : (c 7 == 2) = true := by rw [h6]; rfl
        have HE := hid (Ob.new_mq (c := c) (hh := hh) (n := n) (T := 2) h5 h6)
        have HOK := hid (Ob.new_ok HRT.out h1 h3 (fun h => absurd h h5))
        have HNQ := hid (fun w => mq_new_yes (cps c 1) (c 12).toNat (c 13).toNat (c 14).toNat ⟨by have := HKC.out 1 (by omega); omega, by omega, by omega, by omega⟩ w)
        rw [Int.toNat_of_nonneg (show 0 ≤ c 12 by omega), Int.toNat_of_nonneg (show 0 ≤ c 13 by omega), Int.toNat_of_nonneg (show 0 ≤ c 14 by omega), ← k1] at HNQ
        clear h5 h6 k0 k1 k2 l12 l13 l14 hx0 HKP HCA
        go_enter Tryz.func51, Tryz.ntmps51
        go_upto_region 1 with fail
        obtain ⟨W0, hW0⟩ : ∃ x, w.alloc (.cells (cfgC c A n cq) 25) = x := ⟨_, rfl⟩
        obtain ⟨r0, hr0⟩ : ∃ x, w.heap.size = x := ⟨_, rfl⟩
        rw [hW0] at HB0 hl3 y2 y5 y6 y7 y8 y9 y10 y11 y12 y13 y14 y16 ⊢
        rw [hr0] at hl3 y2 y5 y6 y7 y8 y9 y10 y11 y12 y13 y14 y16 ⊢
        have HSZ := hid hr0
        clear hW0 hr0
        go_wp2_with (go_at_call 80; refine (HNQ.out _).mono ?_; rintro e w3 ⟨g, k, rfl, hq, hb, hg, hk⟩; have H3 := hid hq; have HB3 := hid hb; have HG := hid hg; have HK := hid hk; clear hq hb hg hk)
        go_ret
        refine ⟨_, g, rfl, ?_, HOK.out, on HB0.out HB3.out⟩
        rw [HE.out]
        have s2 := HB0.out.size
        exact ⟨g, k, rfl, H3.out, ⟨by have := HG.out; omega, H3.out.box.lt⟩, ⟨by have := HK.out; omega, H3.out.sq.lt⟩⟩
      · have d6 : (c 7 == 2) = false := by simpa using h6
        have HE := hid (Ob.new_lru (c := c) (hh := hh) (n := n) (T := 2) h5 h6)
        have HOK := hid (Ob.new_ok HRT.out h1 h3 (fun h => absurd h h5))
        have hcp : cp (c 10) = cps c 1 := by have := HKC.out 1 (by omega); rw [k1]; unfold cp; omega
        have HNL := hid (fun w => lru_new (c 10) w)
        rw [hcp] at HNL
        clear h5 h6 k0 k1 k2 l12 l13 l14 hx0 HKP HCA hcp
        go_enter Tryz.func51, Tryz.ntmps51
        go_upto_region 1 with fail
        obtain ⟨W0, hW0⟩ : ∃ x, w.alloc (.cells (cfgC c A n cq) 25) = x := ⟨_, rfl⟩
        obtain ⟨r0, hr0⟩ : ∃ x, w.heap.size = x := ⟨_, rfl⟩
        rw [hW0] at HB0 hl3 y2 y5 y6 y7 y8 y9 y10 y11 y12 y13 y14 y16 ⊢
        rw [hr0] at hl3 y2 y5 y6 y7 y8 y9 y10 y11 y12 y13 y14 y16 ⊢
        have HSZ := hid hr0
        clear hW0 hr0
        go_wp2_with (go_at_call 81; refine (HNL.out _).mono ?_; rintro e w3 ⟨g, k, rfl, hq, hb, hg, hk⟩; have H3 := hid hq; have HB3 := hid hb; have HG := hid hg; have HK := hid hk; clear hq hb hg hk)
        go_ret
        refine ⟨_, g, rfl, ?_, HOK.out, on HB0.out HB3.out⟩
        rw [HE.out]
        have s2 := HB0.out.size
        exact ⟨g, k, rfl, H3.out, ⟨by have := HG.out; omega, H3.out.box.lt⟩, ⟨by have := HK.out; omega, H3.out.sq.lt⟩⟩
    · by_cases h6 : c 8 = 2
      · have d6 : (c 8 == 2) = true := by rw [h6]; rfl
        have HE := hid (Ob.new_mq (c := c) (hh := hh) (n := n) (T := 3) h5 h6)
        have HOK := hid (Ob.new_ok HRT.out h1 h3 (fun h => absurd h h5))
        have HNQ := hid (fun w => mq_new_yes (cps c 2) (c 12).toNat (c 13).toNat (c 14).toNat ⟨by have := HKC.out 2 (by omega); omega, by omega, by omega, by omega⟩ w)
        rw [Int.toNat_of_nonneg (show 0 ≤ c 12 by omega), Int.toNat_of_nonneg (show 0 ≤ c 13 by omega), Int.toNat_of_nonneg (show 0 ≤ c 14 by omega), ← k2] at HNQ
        clear h5 h6 k0 k1 k2 l12 l13 l14 hx0 HKP HCA
        go_enter Tryz.func51, Tryz.ntmps51
        go_upto_region 1 with fail
        obtain ⟨W0, hW0⟩ : ∃ x, w.alloc (.cells (cfgC c A n cq) 25) = x := ⟨_, rfl⟩
        obtain ⟨r0, hr0⟩ : ∃ x, w.heap.size = x := ⟨_, rfl⟩
        rw [hW0] at HB0 hl3 y2 y5 y6 y7 y8 y9 y10 y11 y12 y13 y14 y16 ⊢
        rw [hr0] at hl3 y2 y5 y6 y7 y8 y9 y10 y11 y12 y13 y14 y16 ⊢
        have HSZ := hid hr0
        clear hW0 hr0
        go_wp2_with (go_at_call 80; refine (HNQ.out _).mono ?_; rintro e w3 ⟨g, k, rfl, hq, hb, hg, hk⟩; have H3 := hid hq; have HB3 := hid hb; have HG := hid hg; have HK := hid hk; clear hq hb hg hk)
        go_ret
        refine ⟨_, g, rfl, ?_, HOK.out, on HB0.out HB3.out⟩
        rw [HE.out]
        have s2 := HB0.out.size
        exact ⟨g, k, rfl, H3.out, ⟨by have := HG.out; omega, H3.out.box.lt⟩, ⟨by have := HK.out; omega, H3.out.sq.lt⟩⟩
      · have d6 : (c 8 == 2) = false := by simpa using h6
        have HE := hid (Ob.new_lru (c := c) (hh := hh) (n := n) (T := 3) h5 h6)
        have HOK := hid (Ob.new_ok HRT.out h1 h3 (fun h => absurd h h5))
        have hcp : cp (c 11) = cps c 2 := by have := HKC.out 2 (by omega); rw [k2]; unfold cp; omega
        have HNL := hid (fun w => lru_new (c 11) w)
        rw [hcp] at HNL
        clear h5 h6 k0 k1 k2 l12 l13 l14 hx0 HKP HCA hcp
        go_enter Tryz.func51, Tryz.ntmps51
        go_upto_region 1 with fail
        obtain ⟨W0, hW0⟩ : ∃ x, w.alloc (.cells (cfgC c A n cq) 25) = x := ⟨_, rfl⟩
        obtain ⟨r0, hr0⟩ : ∃ x, w.heap.size = x := ⟨_, rfl⟩
        rw [hW0] at HB0 hl3 y2 y5 y6 y7 y8 y9 y10 y11 y12 y13 y14 y16 ⊢
        rw [hr0] at hl3 y2 y5 y6 y7 y8 y9 y10 y11 y12 y13 y14 y16 ⊢
        have HSZ := hid hr0
        clear hW0 hr0
        go_wp2_with (go_at_call 81; refine (HNL.out _).mono ?_; rintro e w3 ⟨g, k, rfl, hq, hb, hg, hk⟩; have H3 := hid hq; have HB3 := hid hb; have HG := hid hg; have HK := hid hk; clear hq hb hg hk)
        go_ret
        refine ⟨_, g, rfl, ?_, HOK.out, on HB0.out HB3.out⟩
        rw [HE.out]
        have s2 := HB0.out.size
        exact ⟨g, k, rfl, H3.out, ⟨by have := HG.out; omega, H3.out.box.lt⟩, ⟨by have := HK.out; omega, H3.out.sq.lt⟩⟩
end
end Go.Proofs.YtbcejfonkehjgaaGreatDoor
namespace Go.Proofs.YtbcejfonkehjgaaGreatDoor
open Go.RowKit

def RowQ2 (us : List Value) (n : Nat) (w : World) (e : Ending) (w' : World) : Prop :=
  ∃ A c, e = .returned (.slice A n c) ∧ Rv w' w'.heap.size A us ∧ Below w.heap.size w w' ∧ (A = none → c = 0) ∧ ∀ ad, A = some ad → w.heap.size ≤ ad.block ∧ ad.block < w'.heap.size
theorem own_row3 {w w' : World} {b s n : Nat} {e : TypeId} {v : Value} {us : List Value} (h : OwnV w' b e s v n us) (hb : w.heap.size ≤ b) : ∃ A c, v = .slice A n c ∧ Rv w' w'.heap.size A us ∧ (A = none → c = 0) ∧ ∀ ad, A = some ad → w.heap.size ≤ ad.block ∧ ad.block < w'.heap.size := by
  obtain ⟨A, c, e, hr, h1, h2⟩ := own_row2 (w := w) h hb
  exact ⟨A, c, e, hr, h1, fun ad ea => ⟨h2 ad ea, (World.ownsRow.lt h ad.block (by rw [e, ea]; rfl)).2⟩⟩
set_option maxHeartbeats 400000 in
theorem clone_hints2 (A : Option Addr) (n c : Nat) (hh : Nat → Hn) (w : World) (hn : n ≤ 1000) (hc : A = none → c = 0) (hr : Rv w w.heap.size A (hvs hh n)) :
    Calls Tryz.prog 50 #[.slice A n c] w (RowQ2 (hvs hh n) n w) := by
  cases A with
  | none =>
    have h0 := rv_none hr
    have hl := hvs_length hh n
    rw [h0] at hl
    obtain rfl : n = 0 := by simp at hl; omega
    obtain rfl := hc rfl
    rw [h0]
    clear h0 hl hr hc
    have hnil := fun w => eql_nil (P := Tryz.prog) 23 _ none 0 0 Tryz.underlying23 w
    rw [show (none : Option Addr).isNone = true from rfl] at hnil
    go_enter Tryz.func50, Tryz.ntmps50
    go_wp2
    go_ret
    exact ⟨none, 0, rfl, Rv.nil _ _ _, Below.refl _ _, fun _ => rfl, fun ad e => by cases e⟩
  | some a =>
    have HR := hid hr
    clear hr hc
    have O := World.ownsRow_lit (size := 4) (e := 101) (base := w.heap.size) w #[] 0 (Nat.le_refl _) (by unfold maxLen; omega) rfl
    have HO := hid O
    clear O
    have hnil := fun w => eql_nil (P := Tryz.prog) 23 _ (some a) n c Tryz.underlying23 w
    rw [show (some a).isNone = false from rfl] at hnil
    go_enter Tryz.func50, Tryz.ntmps50
    go_wp2_with (at_builtin; refine wpList_appV elt_hint rfl _ _ rfl w.heap.size _ 0 [] HO.out rfl _ _ n c (hvs hh n) rfl (hvs_length hh n) (HR.out.below (below_alloc w _) (Nat.le_refl _)) (hvs_one hh n) (by unfold maxLen; omega) (by omega) (by rw [World.size_alloc]; omega) ?_; intro v' w2 hown2 hg2)
    have hb2 : Below w.heap.size w w2 := (below_alloc w _).trans (hg2.below HO.out (by rw [World.size_alloc]; omega))
    rw [List.nil_append, Nat.zero_add] at hown2
    obtain ⟨A', c', rfl, hr', hca, hge⟩ := own_row3 (w := w) hown2 (Nat.le_refl _)
    have HF := hid (And.intro hr' (And.intro hb2 (And.intro hca hge)))
    clear hown2 hg2 hb2 hr' hge hca
    go_wp2
    go_ret
    exact ⟨A', c', rfl, HF.out.1, HF.out.2.1, HF.out.2.2.1, HF.out.2.2.2⟩
theorem Cm.wf {w : World} {X F : Nat → Prop} {G M n cp T B : Nat} {c : Nat → Int} {A : Option Addr} {hh : Nat → Hn} {v : Value} {o : Ob} {D : Int → List Int} (h : Cm w X G M F c A n cp hh T v o D B) {x : Int} (hx : x ∈ o.all) : (Lit.int .i64 x).wf = true := by
  have := Ob.vb_of h.ok hx
  unfold vb at this
  exact wf_small (by omega)
def Own16 (F : Nat → Prop) (G M j : Nat) : Prop := F j ∨ j = G ∨ j = M
def NewC (w : World) (c : Nat → Int) (n : Nat) (hh : Nat → Hn) (T : Nat) (e : Ending) (w' : World) : Prop :=
  ∃ G M A cp v F, e = .returned (.tuple #[.pointer (some ⟨G, 0, none⟩), .int .i64 0]) ∧ Below w.heap.size w w' ∧ (∀ j, Own16 F G M j → w.heap.size ≤ j ∧ j < w'.heap.size) ∧
    ∀ (X0 : Nat → Prop) (D : Int → List Int), (∀ j, X0 j → j < w.heap.size) → Cm w' (fun j => X0 j ∨ Own16 F G M j) G M F c A n cp hh T v (Ob.new c hh n T) D 0
theorem newc_of {w W : World} {F : Nat → Prop} {M n cp T : Nat} {c : Nat → Int} {A : Option Addr} {hh : Nat → Hn} {v : Value} (rt : RightP c hh n) (t1 : 1 ≤ T) (t3 : T ≤ 3) (hb : Below w.heap.size w W) (hr : Rv W W.heap.size A (hvs hh n))
    (hA : ∀ ad, A = some ad → ad.block < W.heap.size ∧ w.heap.size ≤ ad.block ∧ ¬ F ad.block ∧ ad.block ≠ M) (ca : A = none → cp = 0) (hom : Om W F v (Ob.new c hh n T)) (ok : (Ob.new c hh n T).Ok (cps c (T - 1))) (hF : ∀ j, F j → w.heap.size ≤ j ∧ j < W.heap.size ∧ j ≠ M) (hm : Mc W M 0 (fun _ => none)) (hM : w.heap.size ≤ M) :
    NewC w c n hh T (.returned (.tuple #[.pointer (some ⟨W.heap.size, 0, none⟩), .int .i64 0])) (W.alloc (.cells (cc c A n cp T v M) 107)) := by
  have hb1 := below_alloc W (.cells (cc c A n cp T v M) 107)
  have hs : (W.alloc (.cells (cc c A n cp T v M) 107)).heap.size = W.heap.size + 1 := World.size_alloc W _
  have hlt := hm.lt
  have h0 := hb.size
  refine ⟨W.heap.size, M, A, cp, v, F, rfl, on hb hb1, fun j hj => ?_, fun X0 D hX => ?_⟩
  · rcases hj with hj | rfl | rfl
    · have := hF j hj; omega
    · omega
    · omega
  · refine ⟨Bx.new W _ _, (hr.below hb1 (Nat.le_refl _)).more hb1.size, fun ad e => ?_, ca, hom.below hb1, ok, Nat.le_of_eq (Ob.new_tm c hh n T), ⟨_, hm.below hb1, fun x hx => ?_⟩, fun x hx => ?_, rt, t1, t3, Ob.kin_self _, fun j hj => .inr (.inl hj), .inr (.inr (.inl rfl)), .inr (.inr (.inr rfl)), fun hf => ?_, fun hf => ?_, fun e => ?_, fun j hj => ?_⟩
    · obtain ⟨h1, h2, h3, h4⟩ := hA ad e
      refine ⟨by omega, fun hx => ?_⟩
      rcases hx with hx | hx | hx | hx
      · have := hX _ hx; omega
      · exact h3 hx
      · omega
      · exact h4 hx
    · rw [Ob.new_all] at hx; cases hx
    · rw [Ob.new_all] at hx; cases hx
    · have := hF _ hf; omega
    · exact (hF _ hf).2.2 rfl
    · omega
    · rcases hj with hj | hj | rfl | rfl
      · have := hX _ hj; omega
      · have := hF _ hj; omega
      · omega
      · omega
theorem wp_build4 {P : Program} {o : Oper} {a : Act} {w : World} {K : Act → World → Prop} {Q : Exit → Act → World → Prop} (t : TypeId) (x0 x1 x2 x3 : Operand) (ho : o.op = .build t #[(0, x0), (1, x1), (2, x2), (3, x3)]) (u0 u1 u2 u3 : Value) (h0 : a.eval x0 = u0) (h1 : a.eval x1 = u1) (h2 : a.eval x2 = u2) (h3 : a.eval x3 = u3) (cs : Array Value)
    (hf : P.built t [(0, u0), (1, u1), (2, u2), (3, u3)] = some cs) (h : K (a.put o.dst (.agg cs)) w) : o.wp P a w K Q := by
  have hf2 : P.built t ((#[(0, x0), (1, x1), (2, x2), (3, x3)] : Array (Nat × Operand)).map fun (i, x) => (i, a.eval x)).toList = some cs := by
    subst h0
    subst h1
    subst h2
    subst h3
    simpa using hf
  exact wp_build t _ ho (by rw [hf2]; rfl) (by rw [hf2]; exact h)
theorem cfg_range {w : World} {g : Nat} {t : TypeId} {cs : Array Value} (h : Bx w g t cs) : w.rangeAt g 0 cs.toList := fun j u hj => by
  rw [Nat.zero_add, h.cell]
  simpa using hj
theorem built_cache (c : Nat → Int) (A : Option Addr) (n cp : Nat) (T : Int) (ty : TypeId) (q : Value) (M : Nat) : Tryz.prog.built 107 [(0, .agg (cfgC c A n cp)), (1, .int .i64 T), (2, .iface ty q), (3, .map (some M))] = some (cc c A n cp T (.iface ty q) M) := by kernel_rfl
section
variable {c : Nat → Int} {A : Option Addr} {n cp : Nat} {hh : Nat → Hn} {w : World}
set_option maxRecDepth 20000 in
set_option maxHeartbeats 2000000 in
theorem cm_new_yes (rt : RightP c hh n) (hr : Rv w w.heap.size A (hvs hh n)) (ca : A = none → cp = 0) {T : Nat} (t1 : 1 ≤ T) (t3 : T ≤ 3) :
    Calls Tryz.prog 30 #[.agg (cfgC c A n cp), .int .i64 T] w (NewC w c n hh T) := by
  have hb0 := below_alloc w (.cells (cfgC c A n cp) 25)
  have HX0 := hid (Bx.new w 25 (cfgC c A n cp))
  have hr0 := (hr.below hb0 (Nat.le_refl _)).more hb0.size
  have hn8 : n ≤ 8 := rt.2.2.2.1
  have HRT := hid rt
  have HRI := hid (right_any A n cp c hh _ (by unfold maxLen; omega) hr0)
  rw [dec_true rt] at HRI
  have HB0 := hid hb0
  have HR0 := hid hr0
  have HCA := hid ca
  have d1 : decide ((T : Int) < 1) = false := decide_eq_false (by omega)
  have d3 : decide (3 < (T : Int)) = false := decide_eq_false (by omega)
  have HT := hid (And.intro t1 t3)
  clear hr rt hb0 hr0 ca t1 t3
  go_enter Tryz.func30, Tryz.ntmps30
  go_upto_region 1 with fail
  obtain ⟨W0, hW0⟩ : ∃ x, w.alloc (.cells (cfgC c A n cp) 25) = x := ⟨_, rfl⟩
  obtain ⟨r0, hr0⟩ : ∃ x, w.heap.size = x := ⟨_, rfl⟩
  rw [hW0] at HB0 HX0 HR0 HRI ⊢
  rw [hr0] at HX0 ⊢
  have HSZ := hid hr0
  clear hW0 hr0
  go_upto_region 3 with (first
    | (go_at_call 49; refine HRI.out.mono ?_; rintro e w1 ⟨rfl, hb⟩; have HX1 := hid (HX0.out.next hb); have HB1 := hid (on HB0.out hb); have HR1 := hid (Rv.more (HR0.out.below hb (Nat.le_refl _)) hb.size); clear hb)
    | (refine wpList_load_bx rfl 25 (.tmp 2) rfl r0 _ _ _ rfl HX0.out Tryz.underlying25 rfl (by kernel_rfl) ?_))
  have y16 : w1.cell? ⟨r0, 16, none⟩ = some (.slice A n cp) := HX1.out.cell 16
  have HCL := hid (clone_hints2 A n cp hh w1 (by omega) HCA.out HR1.out)
  go_upto_region 4 with (go_at_call 50; refine HCL.out.mono ?_; rintro e w2 ⟨A2, c2, rfl, h1, h2, h3, h4⟩; have HX2 := hid (HX1.out.next h2); have HB2 := hid (on HB1.out h2); have HR2 := hid h1; have HC2 := hid h3; have HA2 := hid (fun ad e => And.intro (Nat.le_trans HB1.out.size (h4 ad e).1) (And.intro (h4 ad e).2 (show ad.block ≠ r0 from fun e2 => by have h5 := (h4 ad e).1; have h6 := HX1.out.lt; omega))); have y16 : w2.cell? ⟨r0, 16, none⟩ = some (.slice A n cp) := HX2.out.cell 16; have z16 := HX2.out.free 16; clear h1 h2 h3 h4)
  have HX3 := hid (show Bx _ _ _ (cfgC c A2 n c2) from HX2.out.set 16 (.slice A2 n c2))
  have HB3 := hid (below_set HB2.out ⟨r0, 16, none⟩ (.slice A2 n c2) (Nat.le_of_eq HSZ.out))
  have HS3 := hid (setSize w2 ⟨r0, 16, none⟩ (.slice A2 n c2))
  have HR3 := hid (show Rv (w2.setCell ⟨r0, 16, none⟩ (.slice A2 n c2)) (w2.setCell ⟨r0, 16, none⟩ (.slice A2 n c2)).heap.size A2 (hvs hh n) from by
    rw [setSize]
    exact HR2.out.off ⟨r0, 16, none⟩ (.slice A2 n c2) fun ad e => (HA2.out ad e).2.2)
  generalize w2.setCell ⟨r0, 16, none⟩ (.slice A2 n c2) = w3 at *
  clear y16 z16
  have HXD := hid (show Bx w3.drew r0 25 (cfgC c A2 n c2) from HX3.out)
  have HBD := hid (show Below w.heap.size w w3.drew from below_draws HB3.out 1)
  have HRD := hid (show Rv w3.drew w3.drew.heap.size A2 (hvs hh n) from HR3.out)
  have HAD := hid (show ∀ ad, A2 = some ad → w.heap.size ≤ ad.block ∧ ad.block < w3.heap.size from fun ad e => ⟨(HA2.out ad e).1, by have h5 := (HA2.out ad e).2.1; have h6 := HS3.out; show ad.block < w3.heap.size; omega⟩)
  have HNO := hid (fun W (hR : Rv W W.heap.size A2 (hvs hh n)) => neworder_any HRT.out hR HC2.out HT.out.1 HT.out.2)
  refine wp_region_noPanic ?_
  refine wp_region_held_drew (S := fun w' => Bx w' r0 25 (cfgC c A2 n c2)) (by kernel_rfl) ?_ (fun hHeld => ?_)
  · exact HXD.out
  refine wpAnyH_take (i := 0) (oi := ⟨some 21, _, _, _, _, _⟩) (v := _) rfl (by kernel_rfl) (by kernel_rfl) (by kernel_rfl) (fun _ _ _ h => h) (yieldsIf_load_mid (by rfl) 25 (.tmp 2) rfl r0 0 rfl (cfgC c A2 n c2).toList _ (fun w hw => cfg_range hw) Tryz.underlying25 rfl (by kernel_rfl)) (by assumption) ?_
  (try simp only [Act.put, tkA, tk0, tk1])
  refine tkv 1 (some 22) rfl ?_
  refine wpAnyH_take (i := 2) (oi := ⟨some 23, _, _, _, _, _⟩) (v := _) rfl (by kernel_rfl) (by kernel_rfl) (by kernel_rfl) (fun _ _ _ h => h) (yieldsIf_load_mid (by rfl) 25 (.tmp 2) rfl r0 0 rfl (cfgC c A2 n c2).toList _ (fun w hw => cfg_range hw) Tryz.underlying25 rfl (by kernel_rfl)) (by assumption) ?_
  (try simp only [Act.put, tkA, tk0, tk1])
  refine tkv 3 (some 24) rfl ?_
  refine wpAnyH_ready (rs := [4, 5]) (by kernel_rfl) (by simp) ?_
  refine (AllReadyH.cons (o := ⟨some 25, _, _, _, _, _⟩) rfl (fun K hK => ?_) (AllReadyH.cons (o := ⟨some 26, _, _, _, _, _⟩) rfl (fun K hK => ?_) AllReadyH.nil))
  · rw [if_pos (by rfl)]
    go_simp
    refine (HNO.out _ HRD.out).mono ?_
    rintro e w5 ⟨ty, g5, rfl, hom, hok, hb⟩
    have HOM := hid hom
    have HOK := hid hok
    have HX5 := hid (HXD.out.next hb)
    have HB5 := hid (on HBD.out hb)
    have HR5 := hid (Rv.more (HRD.out.below hb (Nat.le_refl _)) hb.size)
    have HS5 := hid hb.size
    have HL5 := hid hb
    have kp := HX5.out
    clear hom hok hb
    go_simp
    refine hK.out _ _ kp (fun hHeld => ?_)
    clear hK K
    (try simp only [Act.put, tkA, tk0, tk1])
    refine tkc 5 (some 26) rfl fun K hK => ?_
    have hbm := below_alloc w5 (.map #[] 0)
    have HXM := hid (HX5.out.next hbm)
    have HBM := hid (on HB5.out hbm)
    have HRM := hid (Rv.more (HR5.out.below hbm (Nat.le_refl _)) hbm.size)
    have HMM := hid (show Mc _ _ _ _ from Mp.made w5 Tryz.prog 3)
    have HOM2 := hid (HOM.out.below hbm)
    have kq := HXM.out
    clear hbm
    go_simp
    refine hK.out _ _ kq (fun hHeld => ?_)
    clear hK K
    (try simp only [Act.put, tkA, tk0, tk1])
    refine tkc 6 (some 27) rfl fun K hK => ?_
    refine wp_build4 107 (.tmp 21) (.tmp 22) (.tmp 25) (.tmp 26) rfl (.agg (cfgC c A2 n c2)) (.int .i64 T) (.iface ty (.pointer (some ⟨g5, 0, none⟩))) (.map (some (w5.heap.size))) rfl rfl rfl rfl _ (built_cache c A2 n c2 T ty (.pointer (some ⟨g5, 0, none⟩)) (w5.heap.size)) ?_
    refine hK.out _ _ kq (fun hHeld => ?_)
    clear hK K
    (try simp only [Act.put, tkA, tk0, tk1])
    refine tkc 7 (some 28) rfl fun K hK => ?_
    have kr := (HXM.out.next (below_alloc (w5.alloc (.map #[] 0)) (.cells (cc c A2 n c2 T (.iface ty (.pointer (some ⟨g5, 0, none⟩))) (w5.heap.size)) 107)))
    go_simp
    refine hK.out _ _ kr (fun hHeld => ?_)
    clear hK K
    (try simp only [Act.put, tkA, tk0, tk1])
    refine tkv 8 (some 4) rfl ?_
    refine tkv 9 (some 5) rfl ?_
    refine wpAnyH_done (by kernel_rfl) ?_ _
    refine NoPanic.normal ?_
    go_wp2
    go_ret2
    have h3 : w.heap.size ≤ w3.heap.size := HBD.out.size
    have hl : w3.heap.size ≤ w5.heap.size := HL5.out.size
    have hm : (w5.alloc (.map #[] 0)).heap.size = w5.heap.size + 1 := World.size_alloc _ _
    have f1 : ∀ ad, A2 = some ad → ad.block < (w5.alloc (.map #[] 0)).heap.size ∧ w.heap.size ≤ ad.block ∧ ¬ (w3.heap.size ≤ ad.block ∧ ad.block < w5.heap.size) ∧ ad.block ≠ w5.heap.size := fun ad e => by
      have h7 := HAD.out ad e
      exact ⟨by omega, h7.1, fun hf => by have := hf.1; omega, by omega⟩
    have hE := newc_of HRT.out HT.out.1 HT.out.2 HBM.out HRM.out f1 HC2.out HOM2.out HOK.out (fun j hj => ⟨by have h9 : w3.heap.size ≤ j := hj.1; omega, by have := hj.2; omega, by have := hj.2; omega⟩) HMM.out (by omega)
    rw [hm] at hE
    exact hE
  · rw [if_pos (by rfl)]
    have hbm := below_alloc w3.drew (.map #[] 0)
    have HXM := hid (HXD.out.next hbm)
    have HBM := hid (on HBD.out hbm)
    have HRM := hid (Rv.more (HRD.out.below hbm (Nat.le_refl _)) hbm.size)
    have HMM := hid (show Mc _ _ _ _ from Mp.made w3.drew Tryz.prog 3)
    have kq := HXM.out
    clear hbm
    go_simp
    refine hK.out _ _ kq (fun hHeld => ?_)
    clear hK K
    (try simp only [Act.put, tkA, tk0, tk1])
    refine tkc 4 (some 25) rfl fun K hK => ?_
    go_simp
    refine (HNO.out _ HRM.out).mono ?_
    rintro e w5 ⟨ty, g5, rfl, hom, hok, hb⟩
    have HOM := hid hom
    have HOK := hid hok
    have HX5 := hid (HXM.out.next hb)
    have HB5 := hid (on HBM.out hb)
    have HR5 := hid (Rv.more (HRM.out.below hb (Nat.le_refl _)) hb.size)
    have HS5 := hid hb.size
    have HL5 := hid hb
    have HM5 := hid (HMM.out.below hb)
    have kp := HX5.out
    clear hom hok hb
    go_simp
    refine hK.out _ _ kp (fun hHeld => ?_)
    clear hK K
    (try simp only [Act.put, tkA, tk0, tk1])
    refine tkc 6 (some 27) rfl fun K hK => ?_
    refine wp_build4 107 (.tmp 21) (.tmp 22) (.tmp 25) (.tmp 26) rfl (.agg (cfgC c A2 n c2)) (.int .i64 T) (.iface ty (.pointer (some ⟨g5, 0, none⟩))) (.map (some (w3.drew.heap.size))) rfl rfl rfl rfl _ (built_cache c A2 n c2 T ty (.pointer (some ⟨g5, 0, none⟩)) (w3.drew.heap.size)) ?_
    refine hK.out _ _ kp (fun hHeld => ?_)
    clear hK K
    (try simp only [Act.put, tkA, tk0, tk1])
    refine tkc 7 (some 28) rfl fun K hK => ?_
    have kr := (HX5.out.next (below_alloc w5 (.cells (cc c A2 n c2 T (.iface ty (.pointer (some ⟨g5, 0, none⟩))) (w3.drew.heap.size)) 107)))
    go_simp
    refine hK.out _ _ kr (fun hHeld => ?_)
    clear hK K
    (try simp only [Act.put, tkA, tk0, tk1])
    refine tkv 8 (some 4) rfl ?_
    refine tkv 9 (some 5) rfl ?_
    refine wpAnyH_done (by kernel_rfl) ?_ _
    refine NoPanic.normal ?_
    go_wp2
    go_ret2
    have h3 : w.heap.size ≤ w3.heap.size := HBD.out.size
    have hl := HL5.out.size
    have hm : (w3.drew.alloc (.map #[] 0)).heap.size = w3.heap.size + 1 := World.size_alloc _ _
    refine newc_of HRT.out HT.out.1 HT.out.2 HB5.out HR5.out (fun ad e => ?_) HC2.out HOM.out HOK.out (fun j hj => ?_) HM5.out h3
    · have h7 := HAD.out ad e
      exact ⟨by omega, h7.1, fun hf => by have := hf.1; omega, by omega⟩
    · have h8 := hj.1
      have h9 := hj.2
      exact ⟨by omega, h9, by omega⟩
end
end Go.Proofs.YtbcejfonkehjgaaGreatDoor
