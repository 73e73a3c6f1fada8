/-
  What is proved: what Takes, Use and Drop of the reference's cache do. Condition: an MQ was used at most 10000000 times.
-/
import Derived.Test.YtmfdlkkligjcbaaGreatJ36
import Derived.Test.YtmfdlkkligjcbaaGreatJ28
import Derived.Test.YtmfdlkkligjcbaaGreatJ32
import Derived.Test.YtmfdlkkligjcbaaGreatJ33
namespace Go.Proofs.YtmfdlkkligjcbaaGreat
open Go.RowKit

section
variable {w w' : World} {Z Y X P Q : Nat → Prop} {g d n cp T cv K : Nat} {c : Nat → Int} {A : Option Addr} {lv mv pv : Value} {us : List Value} {o : Ob} {E : Int → List Int}
/-- what an act asks of an order -/
structure Rok (o : Ob) (K T : Nat) (c : Nat → Int) : Prop where
  ok : o.Ok K
  t1 : 1 ≤ T
  t3 : T ≤ 3
  cap : ∀ C L, o = .lru C L → c (9 + (T - 1)) = (C : Nat)
  tm : o.tm ≤ 10000000
  lt : ∀ x, x ∈ o.all → 0 ≤ x ∧ x < 32
  pl : ∀ rg pt lp n S, o = .prt rg pt lp n S → ¬ c 5 = 1
  c2 : c 2 ≤ 32
theorem rdo16_any (h : Rc w Z Y g d c A n cp T lv mv pv cv us o E) (r : Rok o K T c) {κ b : Int} (hb : vb b) (hk : 0 ≤ κ ∧ κ ≤ 2) :
    Calls Tryz.prog 62 #[.pointer (some ⟨g, 0, none⟩), .agg #[.int .i64 κ, .int .i64 b]] w (RdoQ w Z Y g d c A n cp T mv pv cv us o E κ b) := by
  cases o with
  | lru C L => exact rdo16_lru h r.ok r.t1 r.t3 (r.cap C L rfl) hk
  | mq C N L H m =>
    have ht : m.t ≤ 10000000 := r.tm
    have h3 : κ = 0 ∨ κ = 1 ∨ κ = 2 := by omega
    rcases h3 with rfl | rfl | rfl
    · exact rdo16_mq0 h r.ok ht
    · exact rdo16_mq1 h r.ok ht hb
    · exact rdo16_mq2 h r.ok ht
  | prt rg pt lp n S => exact rdo16_prt h r.ok (by unfold vb at hb; unfold zb; omega) hk
/-- a use of what is not there -/
theorem Ob.use_self {b : Int} (h : o.Ok K) (hb : b ∉ o.all) : o.use b = o := by
  cases o with
  | lru C L =>
    show Ob.lru C (useL b L) = _
    unfold useL
    rw [dec_false (p := b ∈ L) hb]
    rfl
  | mq C N L H m =>
    show Ob.mq C N L H (m.useM N L b) = _
    unfold Ms.useM
    rw [if_neg (c := b ∈ m.al) hb]
  | prt rg pt lp n S =>
    show Ob.prt rg pt lp n (usS rg b S) = _
    unfold usS
    rw [dec_false (p := inS S b) fun hi => hb ((allp_in h.1 h.2.2 b).2 hi)]
    rfl
/-- what comes of Use -/
def RUseQ (w : World) (Z Y : Nat → Prop) (g d : Nat) (c : Nat → Int) (A : Option Addr) (n cp T : Nat) (mv pv : Value) (cv : Nat) (us : List Value) (o : Ob) (E : Int → List Int) (b : Int) (e : Ending) (w' : World) : Prop :=
  ∃ u, e = .returned (.tuple #[u, .bool (dec (b ∈ o.all))]) ∧ (∃ lv', Rc w' Z Y g d c A n cp T lv' mv pv cv us (o.use b) E) ∧ Chg w w' (fun j => Y j ∨ j = g) (fun j => Y j ∨ j = g) ∧ (b ∈ o.all → By w' Z u (E b)) ∧ (b ∉ o.all → u = .slice none 0 0)
set_option maxRecDepth 20000 in
set_option maxHeartbeats 1000000 in
theorem rc_use (h : Rc w Z Y g d c A n cp T lv mv pv cv us o E) (r : Rok o K T c) (b : Int) : Calls Tryz.prog 40 #[.pointer (some ⟨g, 0, none⟩), .int .i64 b] w (RUseQ w Z Y g d c A n cp T mv pv cv us o E b) := by
  have HH := hid (rc_has h r.ok b)
  by_cases hb : b ∈ o.all
  · have HB := hid hb
    rw [dec_true hb] at HH
    have hlt := r.lt b hb
    obtain ⟨k, rfl⟩ : ∃ k : Nat, b = k := ⟨b.toNat, by omega⟩
    have hk : k < 32 := by omega
    have HD := hid (fun w1 (hb1 : Below w.heap.size w w1) => rdo16_any (κ := 0) (h.below hb1) r (Ob.vb_of r.ok hb) ⟨by omega, by omega⟩)
    clear h r hb hlt
    go_enter Tryz.func40, Tryz.ntmps40
    go_upto_region 4 with (first
      | (go_at_call 20; refine HH.out.mono ?_; rintro e w1 ⟨rfl, hb1⟩; have HB1 := hid hb1; have HD1 := hid (HD.out _ hb1); clear hb1)
      | (go_at_call 62; refine HD1.out.mono ?_; rintro e w2 ⟨A3, n3, c3, vi, gn, was, er, rfl, ⟨lv', hrc⟩, hch, -⟩; have HR := hid hrc; have HC := hid hch; clear hrc hch))
    have g21 := HR.out.c21
    obtain ⟨A5, k5, c5, hu, hc5, hby⟩ := HR.out.at_ hk
    have HY := hid hby
    clear hu hby
    go_wp2
    go_ret2
    exact ⟨_, (by rw [dec_true HB.out]; rfl), ⟨_, HR.out⟩, (Chg.of HB1.out _).trans HC.out, fun _ => HY.out, fun hn => absurd HB.out hn⟩
  · have HB := hid hb
    rw [dec_false hb] at HH
    have HR := hid (And.intro h r)
    clear h r hb
    go_enter Tryz.func40, Tryz.ntmps40
    go_wp2_with (go_at_call 20; refine HH.out.mono ?_; rintro e w1 ⟨rfl, hb1⟩; have HB1 := hid hb1; clear hb1)
    go_ret2
    exact ⟨_, (by rw [dec_false HB.out]; rfl), ⟨_, by rw [Ob.use_self HR.out.2.ok HB.out]; exact HR.out.1.below HB1.out⟩, Chg.of HB1.out _, fun hy => absurd hy HB.out, fun _ => rfl⟩
/-- what comes of Drop -/
def RDropQ (w : World) (Z Y : Nat → Prop) (g d : Nat) (c : Nat → Int) (A : Option Addr) (n cp T : Nat) (mv pv : Value) (cv : Nat) (us : List Value) (o : Ob) (E : Int → List Int) (b : Int) (e : Ending) (w' : World) : Prop :=
  (b ∈ o.all → ∃ u, e = .returned (.tuple #[.agg #[.int .i64 b, u], .bool true]) ∧ (∃ lv', Rc w' Z Y g d c A n cp T lv' mv pv cv us (o.rem b) E) ∧ Chg w w' (fun j => Y j ∨ j = g) (fun j => Y j ∨ j = g) ∧ By w' Z u (E b)) ∧
  (b ∉ o.all → e = .returned (.tuple #[.agg #[.int .i64 0, .slice none 0 0], .bool false]) ∧ Below w.heap.size w w')
set_option maxRecDepth 20000 in
set_option maxHeartbeats 1000000 in
theorem rc_drop (h : Rc w Z Y g d c A n cp T lv mv pv cv us o E) (r : Rok o K T c) (b : Int) : Calls Tryz.prog 43 #[.pointer (some ⟨g, 0, none⟩), .int .i64 b] w (RDropQ w Z Y g d c A n cp T mv pv cv us o E b) := by
  have HLT := hid (And.intro h.lt (And.intro h.zg (And.intro h.yz h.zd)))
  have HX0 := hid (Bx.new w 38 #[.int .i64 0, .slice none 0 0])
  have HW0 := hid (below_alloc w (.cells #[.int .i64 0, .slice none 0 0] 38))
  have h0 := h.alloc (.cells #[.int .i64 0, .slice none 0 0] 38)
  have HH := hid (rc_has h0 r.ok b)
  have HD := hid (fun hv w1 (hb1 : Below (w.alloc (.cells #[.int .i64 0, .slice none 0 0] 38)).heap.size (w.alloc (.cells #[.int .i64 0, .slice none 0 0] 38)) w1) => rdo16_any (κ := 2) (b := b) (h0.below hb1) r hv ⟨by omega, by omega⟩)
  by_cases hb : b ∈ o.all
  · have HB := hid hb
    have HV := hid (Ob.vb_of r.ok hb)
    rw [dec_true hb] at HH
    have hlt := r.lt b hb
    obtain ⟨k, rfl⟩ : ∃ k : Nat, b = k := ⟨b.toNat, by omega⟩
    have hk : k < 32 := by omega
    clear h r hb hlt h0
    go_enter Tryz.func43, Tryz.ntmps43
    go_upto_region 1 with fail
    obtain ⟨W0, hW0⟩ : ∃ x, w.alloc (.cells #[.int .i64 0, .slice none 0 0] 38) = x := ⟨_, rfl⟩
    obtain ⟨p, hp⟩ : ∃ x, w.heap.size = x := ⟨_, rfl⟩
    have HP := hid hp
    rw [hW0] at HW0 HH HX0 HD ⊢
    rw [hp] at HX0 HD ⊢
    clear hW0 hp
    go_upto_region 4 with (first
      | (go_at_call 20; refine HH.out.mono ?_; rintro e w1 ⟨rfl, hb1⟩; have HB1 := hid hb1; have HX1 := hid (HX0.out.next hb1); have HD1 := hid (HD.out HV.out _ hb1); clear hb1)
      | (go_at_call 62; refine HD1.out.mono ?_; rintro e w2 ⟨A3, n3, c3, vi, gn, was, er, rfl, ⟨lv', hrc⟩, hch, -⟩; have HR := hid hrc; have HX2 := hid (hch.bx HX1.out fun hy => by have h3 := HP.out; have h4 := HLT.out.1 p (hy.elim (HLT.out.2.2.1 p) fun e => e ▸ HLT.out.2.1); omega); have HC := hid hch; clear hrc hch))
    have g21 := HR.out.c21
    obtain ⟨A5, k5, c5, hu, hc5, hby⟩ := HR.out.at_ hk
    have HY := hid hby
    clear hu hby
    go_wp2_with (refine wpList_store_bx rfl 38 (.tmp 4) (.tmp 23) rfl rfl p _ _ #[.int .i64 k, .slice A5 k5 c5] rfl rfl HX2.out (by kernel_rfl) rfl (by simp [Value.oneCell']) ?_)
    refine bodyPost_ret (results_bx2 rfl _ rfl (HX2.out.row (cs' := #[.int .i64 k, .slice A5 k5 c5])) Tryz.underlying38 rfl (by kernel_rfl)) rfl ?_
    have hrow : Chg w2 (w2.setRow p #[.int .i64 k, .slice A5 k5 c5]) (· = p) (· = p) := chg_row _ _ _
    have hnp : ∀ j, Z j → j ≠ p := fun j hj => by have := HLT.out.1 j hj; have := HP.out; omega
    refine ⟨fun _ => ⟨_, rfl, ⟨_, (HR.out.chg hrow (fun j e => .inr e) fun j e => ⟨fun hy => hnp j (HLT.out.2.2.1 j hy) e, fun e2 => hnp g HLT.out.2.1 (e2 ▸ e), fun e2 => hnp d HLT.out.2.2.2 (e2 ▸ e)⟩).less (fun j hj => .inl hj) fun j hj => hj.elim (HLT.out.2.2.1 j) fun e => e.elim (fun e => e ▸ HLT.out.2.1) fun e => e ▸ HLT.out.2.2.2⟩, chg_fresh (((Chg.of HW0.out _).trans (Chg.of HB1.out _)).trans HC.out) (Nat.le_of_eq HP.out) _, (HY.out.chg hrow fun j e => .inr e).less fun j hj => .inl hj⟩, fun hn => absurd HB.out hn⟩
  · have HB := hid hb
    rw [dec_false hb] at HH
    clear h r hb h0 HD
    go_enter Tryz.func43, Tryz.ntmps43
    go_upto_region 1 with fail
    obtain ⟨W0, hW0⟩ : ∃ x, w.alloc (.cells #[.int .i64 0, .slice none 0 0] 38) = x := ⟨_, rfl⟩
    obtain ⟨p, hp⟩ : ∃ x, w.heap.size = x := ⟨_, rfl⟩
    have HP := hid hp
    rw [hW0] at HW0 HH HX0 ⊢
    rw [hp] at HX0 ⊢
    clear hW0 hp
    go_wp2_with (first
      | (go_at_call 20; refine HH.out.mono ?_; rintro e w1 ⟨rfl, hb1⟩; have HB1 := hid hb1; have HX1 := hid (HX0.out.next hb1); clear hb1)
      | (refine wpList_store_bx rfl 38 (.tmp 4) (.tmp 10) rfl rfl p _ _ #[.int .i64 0, .slice none 0 0] rfl rfl HX1.out (by kernel_rfl) rfl (by simp [Value.oneCell']) ?_))
    refine bodyPost_ret (results_bx2 rfl _ rfl (HX1.out.row (cs' := #[.int .i64 0, .slice none 0 0])) Tryz.underlying38 rfl (by kernel_rfl)) rfl ?_
    exact ⟨fun hy => absurd hy HB.out, fun _ => ⟨rfl, (on HW0.out HB1.out).trans ((chg_row w1 p #[.int .i64 0, .slice none 0 0]).bel (on HW0.out HB1.out).size fun j e => by rw [e]; exact Nat.le_of_eq HP.out)⟩⟩
end
end Go.Proofs.YtmfdlkkligjcbaaGreat
namespace Go.Proofs.YtmfdlkkligjcbaaGreat
open Go.RowKit

theorem zero_u8s (w : World) : (zeroValue 36).run Tryz.prog w = .ok (.slice none 0 0) w := by kernel_rfl
/-- a number of 64 bits -/
theorem wf_small {b : Int} (h : -9223372036854775808 ≤ b ∧ b ≤ 9223372036854775807) : (Lit.int .i64 b).wf = true := by
  simp only [Lit.wf, Bool.and_eq_true, decide_eq_true_eq]
  exact ⟨Int.le_trans (by decide) h.1, Int.le_trans h.2 (by decide)⟩
theorem grown_chg {w w' : World} {M : Nat} (h : w.grownBy w' (some M)) : Chg w w' (· = M) (· = M) := ⟨h.os, h.tape, h.output, h.size, fun j hj hn => h.block j hj fun e => hn (Option.some.inj e), fun _ h => .inl h⟩
section
variable {w w' : World} {G M m : Nat} {f : Int → Option Value}
set_option maxRecDepth 20000 in
set_option maxHeartbeats 1000000 in
theorem cm_take (g19 : w.cell? ⟨G, 19, none⟩ = some (.map (some M))) (hm : Mc w M m f) {b : Int} {A1 : Option Addr} {k1 c1 : Nat} (hf : f b = some (.slice A1 k1 c1)) (hx : (Lit.int .i64 b).wf = true) :
    Calls Tryz.prog 51 #[.pointer (some ⟨G, 0, none⟩), .int .i64 b] w fun e w' => e = .returned (.agg #[.int .i64 b, .slice A1 k1 c1]) ∧ Mc w' M m (fun y => if y = b then none else f y) ∧ Chg w w' (· = M) (· = M) := by
  have hb0 := below_alloc w (.cells #[.int .i64 0, .slice none 0 0] 38)
  have HB0 := hid (Bx.new w 38 #[.int .i64 0, .slice none 0 0])
  have hm0 := hm.below hb0
  have HM0 := hid hm0
  have HC0 := hid hb0
  have HML := hid hm.lt
  have g0 := (hb0.cell (World.block_lt_of_cell? w _ g19)).trans g19
  have hlk := hm0.look Tryz.underlying3 Tryz.underlying49 (zero_u8s _) hx
  rw [hf] at hlk
  have hlk2 : (Instr.lookup 49 (.map (some M)) (.int .i64 b) false).run Tryz.prog (w.alloc (.cells #[.int .i64 0, .slice none 0 0] 38)) = .ok (.slice A1 k1 c1) (w.alloc (.cells #[.int .i64 0, .slice none 0 0] 38)) := hlk
  have HX := hid hx
  clear hlk hm0 hb0 g19 hm hf hx
  go_enter Tryz.func51, Tryz.ntmps51
  go_upto_region 1 with fail
  obtain ⟨W0, hW0⟩ : ∃ x, w.alloc (.cells #[.int .i64 0, .slice none 0 0] 38) = x := ⟨_, rfl⟩
  obtain ⟨r0, hr0⟩ : ∃ x, w.heap.size = x := ⟨_, rfl⟩
  rw [hW0] at HB0 HM0 HC0 g0 hlk2 ⊢
  rw [hr0] at HB0 ⊢
  have HSZ := hid hr0
  clear hW0 hr0
  go_upto_region 2 with fail
  have hb1 := below_alloc W0 (.cells #[.int .i64 b, .slice A1 k1 c1] 38)
  have HB1 := hid (Bx.new W0 38 #[.int .i64 b, .slice A1 k1 c1])
  have HB01 := hid (HB0.out.next hb1)
  have g1 := (hb1.cell (World.block_lt_of_cell? W0 _ g0)).trans g0
  have HC1 := hid (on HC0.out hb1)
  have HR1 := hid (show r0 ≠ W0.heap.size from fun e => by have := HB0.out.lt; omega)
  obtain ⟨w2, hdel, hm2, hg2⟩ := (HM0.out.below hb1).drop Tryz.underlying3 Tryz.underlying49 HX.out 0
  have HM2 := hid hm2
  have HG2 := hid hg2
  have HNM := hid (show W0.heap.size ≠ M from fun e => by have := HML.out; have := HC0.out.size; omega)
  have HNR := hid (show r0 ≠ M from fun e => by have := HML.out; have := HSZ.out; omega)
  have HX1 := hid (HB1.out.apart hg2 fun e => HNM.out (Option.some.inj e))
  have HX0 := hid (HB01.out.apart hg2 fun e => HNR.out (Option.some.inj e))
  obtain ⟨r1, hr1⟩ : ∃ x, W0.heap.size = x := ⟨_, rfl⟩
  rw [hr1] at HX1 HR1 ⊢
  clear hm2 hg2 hb1 hlk2 g0 hr1
  go_wp2_with (first
    | (refine wpList_load_bx rfl 38 (.tmp 5) rfl r1 _ _ _ rfl HX1.out Tryz.underlying38 rfl (by kernel_rfl) ?_)
    | (refine wpList_store_bx rfl 38 (.tmp 4) (.tmp 19) rfl rfl r0 _ _ #[.int .i64 b, .slice A1 k1 c1] rfl rfl HX0.out (by kernel_rfl) rfl (by simp [Value.oneCell']) ?_))
  refine bodyPost_ret (results_bx1 rfl _ rfl (HX0.out.row (cs' := #[.int .i64 b, .slice A1 k1 c1])) Tryz.underlying38 rfl (by kernel_rfl)) rfl ?_
  refine ⟨rfl, HM2.out.same (setRow_other _ _ _ _ fun e => HNR.out e.symm), ?_⟩
  exact chg_fresh ((Chg.of HC1.out _).trans (grown_chg HG2.out)) (Nat.le_of_eq HSZ.out) _
end
end Go.Proofs.YtmfdlkkligjcbaaGreat
namespace Go.Proofs.YtmfdlkkligjcbaaGreat
open Go.RowKit

section
variable {c : Nat → Int} {hh : Nat → Hn} {n T : Nat}
/-- capacities, and what else there is of a configuration, as whole numbers -/
theorem RightP.caps (h : RightP c hh n) : c 9 = (cps c 0 : Nat) ∧ c 10 = (cps c 1 : Nat) ∧ c 11 = (cps c 2 : Nat) ∧ (∀ t, t < 3 → 1 ≤ cps c t ∧ cps c t ≤ 16) ∧ CapP (c 2) (c 9) (c 10) (c 11) := by
  have b9 := h.1 9 (by omega)
  have b10 := h.1 10 (by omega)
  have b11 := h.1 11 (by omega)
  have b2 := h.1 2 (by omega)
  have l9 : (1 : Int) ≤ c 9 ∧ c 9 ≤ 16 := b9
  have l10 : (1 : Int) ≤ c 10 ∧ c 10 ≤ 16 := b10
  have l11 : (1 : Int) ≤ c 11 ∧ c 11 ≤ 16 := b11
  have l2 : (1 : Int) ≤ c 2 ∧ c 2 ≤ 32 := b2
  refine ⟨(Int.toNat_of_nonneg (by omega)).symm, (Int.toNat_of_nonneg (by omega)).symm, (Int.toNat_of_nonneg (by omega)).symm, fun t ht => ?_, l2, ?_⟩
  · have h3 : t = 0 ∨ t = 1 ∨ t = 2 := by omega
    rcases h3 with rfl | rfl | rfl
    · show 1 ≤ (c 9).toNat ∧ (c 9).toNat ≤ 16
      omega
    · show 1 ≤ (c 10).toNat ∧ (c 10).toNat ≤ 16
      omega
    · show 1 ≤ (c 11).toNat ∧ (c 11).toNat ≤ 16
      omega
  · rintro ⟨i, hi, ho⟩
    have h3 : i = 0 ∨ i = 1 ∨ i = 2 := by omega
    rcases h3 with rfl | rfl | rfl
    · have : c 9 < 1 ∨ 16 < c 9 := ho
      omega
    · have : c 10 < 1 ∨ 16 < c 10 := ho
      omega
    · have : c 11 < 1 ∨ 16 < c 11 := ho
      omega
theorem cps_at {t : Nat} (ht : t < 3) : cps c t = (c (9 + t)).toNat := by
  have h3 : t = 0 ∨ t = 1 ∨ t = 2 := by omega
  rcases h3 with rfl | rfl | rfl <;> rfl
theorem cps_cN (h : RightP c hh n) : cN (cps c 0 : Nat) (cps c 1 : Nat) (cps c 2 : Nat) = cps c := by
  obtain ⟨h0, h1, h2, -⟩ := h.caps
  rw [← h0, ← h1, ← h2]
  rfl
theorem Ob.new_all (c : Nat → Int) (hh : Nat → Hn) (n T : Nat) : (Ob.new c hh n T).all = [] := by
  unfold Ob.new
  split
  · exact allp_empty _ _
  · split
    · show alls (List.replicate 9 []) 8 = []
      rfl
    · rfl
theorem Ob.new_tm (c : Nat → Int) (hh : Nat → Hn) (n T : Nat) : (Ob.new c hh n T).tm = 0 := by
  unfold Ob.new
  split
  · rfl
  · split <;> rfl
theorem Ob.new_ok (h : RightP c hh n) (h1 : 1 ≤ T) (h3 : T ≤ 3) (hd : c 5 = 2 → OrdH hh n (ordd hh n)) : (Ob.new c hh n T).Ok (cps c (T - 1)) := by
  have hc := h.caps.2.2.2.1 (T - 1) (by omega)
  have l12 : (1 : Int) ≤ c 12 ∧ c 12 ≤ 8 := h.1 12 (by omega)
  have l13 : (1 : Int) ≤ c 13 ∧ c 13 ≤ 100 := h.1 13 (by omega)
  have l14 : (0 : Int) ≤ c 14 ∧ c 14 ≤ 16 := h.1 14 (by omega)
  unfold Ob.new
  split
  · rename_i h5
    have hn8 := h.2.2.2.1
    refine ⟨Okp.new (by show n ≤ cl n; unfold cl; omega), ?_, fun z i hz => ?_⟩
    · rw [lsum_sN]
      exact (KS_room (u := cps c) (hd h5) (t := T - 1) (by omega)).1
    · obtain ⟨hi, hz1⟩ := rgi_lt hz
      have := h.2.2.2.2.1 i hi
      have := h.1 2 (by omega)
      have l2 : (1 : Int) ≤ c 2 ∧ c 2 ≤ 32 := h.1 2 (by omega)
      unfold okH at *
      unfold inR at hz1
      exact ⟨hi, by omega, by omega⟩
  · split
    · exact ⟨rfl, Okm.new hc ⟨by omega, by omega⟩ ⟨by omega, by omega⟩ (by omega), by omega⟩
    · exact ⟨rfl, hc, List.nodup_nil, Nat.zero_le _, fun x hx => by cases hx⟩
end
/-- an order that is new -/
def NewO (w : World) (c : Nat → Int) (hh : Nat → Hn) (n T : Nat) (e : Ending) (w' : World) : Prop :=
  ∃ ty g, e = .returned (.iface ty (.pointer (some ⟨g, 0, none⟩))) ∧ Om w' (fun j => w.heap.size ≤ j ∧ j < w'.heap.size) (.iface ty (.pointer (some ⟨g, 0, none⟩))) (Ob.new c hh n T) ∧ (Ob.new c hh n T).Ok (cps c (T - 1)) ∧ Below w.heap.size w w'
section
variable {c : Nat → Int} {A : Option Addr} {n cq : Nat} {hh : Nat → Hn} {w : World}
theorem Ob.new_lru {T : Nat} (h5 : ¬ c 5 = 2) (h6 : ¬ c (6 + (T - 1)) = 2) : Ob.new c hh n T = .lru (cps c (T - 1)) [] := by
  unfold Ob.new
  rw [if_neg h5, if_neg h6]
theorem Ob.new_mq {T : Nat} (h5 : ¬ c 5 = 2) (h6 : c (6 + (T - 1)) = 2) : Ob.new c hh n T = .mq (cps c (T - 1)) (c 12).toNat (c 13).toNat (c 14).toNat ⟨List.replicate 9 [], fun _ => 0, fun _ => 0, 0⟩ := by
  unfold Ob.new
  rw [if_neg h5, if_pos h6]
theorem Ob.new_prt {T : Nat} (h5 : c 5 = 2) : Ob.new c hh n T = .prt (fun z => rgi hh z n) (fun i => KP hh n (cps c) i (T - 1)) (fun i => (hh i).l) n (empt (cl n)) := by
  unfold Ob.new
  rw [if_pos h5]
set_option maxRecDepth 20000 in
set_option maxHeartbeats 2000000 in
theorem neworder_any (rt : RightP c hh n) (hr : Rv w w.heap.size A (hvs hh n)) (ca : A = none → cq = 0) {T : Nat} (h1 : 1 ≤ T) (h3 : T ≤ 3) :
    Calls Tryz.prog 34 #[.agg (cfgC c A n cq), .int .i64 T] w (NewO w c hh n T) := by
  have hb0 := below_alloc w (.cells (cfgC c A n cq) 25)
  have hx0 := Bx.new w 25 (cfgC c A n cq)
  obtain ⟨k0, k1, k2, kc, kp⟩ := rt.caps
  have hr0 := (hr.below hb0 (Nat.le_refl _)).more hb0.size
  have hn8 : n ≤ 8 := rt.2.2.2.1
  have HRT := hid rt
  have hl3 : (Instr.loadAt 22 (.pointer (some ⟨w.heap.size, 9, none⟩))).run Tryz.prog (w.alloc (.cells (cfgC c A n cq) 25)) = .ok (.agg #[.int .i64 (c 9), .int .i64 (c 10), .int .i64 (c 11)]) (w.alloc (.cells (cfgC c A n cq) 25)) := by
    refine run_loadAt_mid (P := Tryz.prog) _ w.heap.size 9 22 [.int .i64 (c 9), .int .i64 (c 10), .int .i64 (c 11)] _ (fun j u hj => ?_) Tryz.underlying22 rfl (by kernel_rfl)
    have hj3 : j < 3 := (List.getElem?_eq_some_iff.1 hj).1
    rw [hx0.cell, ← hj]
    rcases j with _ | _ | _ | j
    · rfl
    · rfl
    · rfl
    · omega
  have y2 : (w.alloc (.cells (cfgC c A n cq) 25)).cell? ⟨w.heap.size, 2, none⟩ = some (.int .i64 (c 2)) := hx0.cell 2
  have y5 : (w.alloc (.cells (cfgC c A n cq) 25)).cell? ⟨w.heap.size, 5, none⟩ = some (.int .i64 (c 5)) := hx0.cell 5
  have y6 : (w.alloc (.cells (cfgC c A n cq) 25)).cell? ⟨w.heap.size, 6, none⟩ = some (.int .i64 (c 6)) := hx0.cell 6
  have y7 : (w.alloc (.cells (cfgC c A n cq) 25)).cell? ⟨w.heap.size, 7, none⟩ = some (.int .i64 (c 7)) := hx0.cell 7
  have y8 : (w.alloc (.cells (cfgC c A n cq) 25)).cell? ⟨w.heap.size, 8, none⟩ = some (.int .i64 (c 8)) := hx0.cell 8
  have y9 : (w.alloc (.cells (cfgC c A n cq) 25)).cell? ⟨w.heap.size, 9, none⟩ = some (.int .i64 (c 9)) := hx0.cell 9
  have y10 : (w.alloc (.cells (cfgC c A n cq) 25)).cell? ⟨w.heap.size, 10, none⟩ = some (.int .i64 (c 10)) := hx0.cell 10
  have y11 : (w.alloc (.cells (cfgC c A n cq) 25)).cell? ⟨w.heap.size, 11, none⟩ = some (.int .i64 (c 11)) := hx0.cell 11
  have y12 : (w.alloc (.cells (cfgC c A n cq) 25)).cell? ⟨w.heap.size, 12, none⟩ = some (.int .i64 (c 12)) := hx0.cell 12
  have y13 : (w.alloc (.cells (cfgC c A n cq) 25)).cell? ⟨w.heap.size, 13, none⟩ = some (.int .i64 (c 13)) := hx0.cell 13
  have y14 : (w.alloc (.cells (cfgC c A n cq) 25)).cell? ⟨w.heap.size, 14, none⟩ = some (.int .i64 (c 14)) := hx0.cell 14
  have y16 : (w.alloc (.cells (cfgC c A n cq) 25)).cell? ⟨w.heap.size, 16, none⟩ = some (.slice A n cq) := hx0.cell 16
  have HB0 := hid hb0
  have HR0 := hid hr0
  have HKC := hid kc
  have HKP := hid kp
  have HCA := hid ca
  have l12 : (1 : Int) ≤ c 12 ∧ c 12 ≤ 8 := rt.1 12 (by omega)
  have l13 : (1 : Int) ≤ c 13 ∧ c 13 ≤ 100 := rt.1 13 (by omega)
  have l14 : (0 : Int) ≤ c 14 ∧ c 14 ≤ 16 := rt.1 14 (by omega)
  clear hr rt hb0 hr0 kp kc ca
  by_cases h5 : c 5 = 2
  · have d5 : (c 5 == 2) = true := by rw [h5]; rfl
    have HE := hid (fun T => Ob.new_prt (c := c) (hh := hh) (n := n) (T := T) h5)
    have HKN := hid (new_ok (A := A) (n := n) (c := cq) (hh := hh) (b := c 2) (w := w.alloc (.cells (cfgC c A n cq) 25)) (u := cps c) (by omega) HCA.out HR0.out (by rw [← k0, ← k1, ← k2]; exact HKP.out) (cps_cN HRT.out) HRT.out.2.2.2)
    rw [← k0, ← k1, ← k2] at HKN
    have HPF := hid (fun (w2 : World) (q c1 d1 : Nat) (A1 B1 : Option Addr) (hp : Pl w2 q (c 2) (cps c) hh n A1 c1 B1 d1) => pt_new (hp.pn (T := T) h1 h3))
    clear h5 k0 k1 k2 l12 l13 l14 hx0
    obtain rfl | rfl | rfl : T = 1 ∨ T = 2 ∨ T = 3 := by omega
    all_goals
      go_enter Tryz.func34, Tryz.ntmps34
      go_upto_region 1 with fail
      obtain ⟨W0, hW0⟩ : ∃ x, w.alloc (.cells (cfgC c A n cq) 25) = x := ⟨_, rfl⟩
      obtain ⟨r0, hr0⟩ : ∃ x, w.heap.size = x := ⟨_, rfl⟩
      rw [hW0] at HB0 HKN hl3 y2 y5 y6 y7 y8 y9 y10 y11 y12 y13 y14 y16 ⊢
      rw [hr0] at hl3 y2 y5 y6 y7 y8 y9 y10 y11 y12 y13 y14 y16 ⊢
      have HSZ := hid hr0
      clear hW0 hr0
      go_upto_region 4 with (go_at_call 52; with_reducible refine HKN.out.mono ?_; rintro e w2 ⟨q, A1, c1, B1, d1, rfl, hp, hb, hq⟩; have HP := hid hp; have HB2 := hid (on HB0.out hb); have HQ := hid (Nat.le_trans HB0.out.size hq); clear hp hb hq)
      have HNP := hid (HPF.out _ _ _ _ _ _ HP.out)
      first | rw [show ((1 : Nat) : Int) = 1 from rfl] at HNP | rw [show ((2 : Nat) : Int) = 2 from rfl] at HNP | rw [show ((3 : Nat) : Int) = 3 from rfl] at HNP
      go_wp2_with (go_at_call 58; refine HNP.out.mono ?_; rintro e w3 ⟨g, k, rfl, hpt⟩; have HT := hid hpt; clear hpt)
      go_ret
      have hb3 := HT.out.bel
      refine ⟨_, g, rfl, ?_, Ob.new_ok HRT.out h1 h3 (fun _ => HP.out.od), on HB2.out hb3⟩
      rw [HE.out]
      have s2 := HB2.out.size
      have s3 := hb3.size
      exact ⟨_, g, k, q, _, rfl, HT.out, ⟨by have := HT.out.hg; omega, HT.out.box.lt⟩, ⟨by have := HT.out.hk; omega, HT.out.sq.lt⟩, fun j h6 h7 => ⟨by have := HQ.out; omega, by omega⟩⟩
  · have d5 : (c 5 == 2) = false := by simpa using h5
    obtain rfl | rfl | rfl : T = 1 ∨ T = 2 ∨ T = 3 := by omega
    · by_cases h6 : c 6 = 2
      · have d6 : (c 6 == 2) = true := by rw [h6]; rfl
        have HE := hid (Ob.new_mq (c := c) (hh := hh) (n := n) (T := 1) h5 h6)
        have HOK := hid (Ob.new_ok HRT.out h1 h3 (fun h => absurd h h5))
        have HNQ := hid (fun w => mq_new_yes (cps c 0) (c 12).toNat (c 13).toNat (c 14).toNat ⟨by have := HKC.out 0 (by omega); omega, by omega, by omega, by omega⟩ w)
        rw [Int.toNat_of_nonneg (show 0 ≤ c 12 by omega), Int.toNat_of_nonneg (show 0 ≤ c 13 by omega), Int.toNat_of_nonneg (show 0 ≤ c 14 by omega), ← k0] at HNQ
        clear h5 h6 k0 k1 k2 l12 l13 l14 hx0 HKP HCA
        go_enter Tryz.func34, Tryz.ntmps34
        go_upto_region 1 with fail
        obtain ⟨W0, hW0⟩ : ∃ x, w.alloc (.cells (cfgC c A n cq) 25) = x := ⟨_, rfl⟩
        obtain ⟨r0, hr0⟩ : ∃ x, w.heap.size = x := ⟨_, rfl⟩
        rw [hW0] at HB0 hl3 y2 y5 y6 y7 y8 y9 y10 y11 y12 y13 y14 y16 ⊢
        rw [hr0] at hl3 y2 y5 y6 y7 y8 y9 y10 y11 y12 y13 y14 y16 ⊢
        have HSZ := hid hr0
        clear hW0 hr0
        go_wp2_with (go_at_call 59; refine (HNQ.out _).mono ?_; rintro e w3 ⟨g, k, rfl, hq, hb, hg, hk⟩; have H3 := hid hq; have HB3 := hid hb; have HG := hid hg; have HK := hid hk; clear hq hb hg hk)
        go_ret
        refine ⟨_, g, rfl, ?_, HOK.out, on HB0.out HB3.out⟩
        rw [HE.out]
        have s2 := HB0.out.size
        exact ⟨g, k, rfl, H3.out, ⟨by have := HG.out; omega, H3.out.box.lt⟩, ⟨by have := HK.out; omega, H3.out.sq.lt⟩⟩
      · have d6 : (c 6 == 2) = false := by simpa using h6
        have HE := hid (Ob.new_lru (c := c) (hh := hh) (n := n) (T := 1) h5 h6)
        have HOK := hid (Ob.new_ok HRT.out h1 h3 (fun h => absurd h h5))
        have hcp : cp (c 9) = cps c 0 := by have := HKC.out 0 (by omega); rw [k0]; unfold cp; omega
        have HNL := hid (fun w => lru_new (c 9) w)
        rw [hcp] at HNL
        clear h5 h6 k0 k1 k2 l12 l13 l14 hx0 HKP HCA hcp
        go_enter Tryz.func34, Tryz.ntmps34
        go_upto_region 1 with fail
        obtain ⟨W0, hW0⟩ : ∃ x, w.alloc (.cells (cfgC c A n cq) 25) = x := ⟨_, rfl⟩
        obtain ⟨r0, hr0⟩ : ∃ x, w.heap.size = x := ⟨_, rfl⟩
        rw [hW0] at HB0 hl3 y2 y5 y6 y7 y8 y9 y10 y11 y12 y13 y14 y16 ⊢
        rw [hr0] at hl3 y2 y5 y6 y7 y8 y9 y10 y11 y12 y13 y14 y16 ⊢
        have HSZ := hid hr0
        clear hW0 hr0
        go_wp2_with (go_at_call 60; refine (HNL.out _).mono ?_; rintro e w3 ⟨g, k, rfl, hq, hb, hg, hk⟩; have H3 := hid hq; have HB3 := hid hb; have HG := hid hg; have HK := hid hk; clear hq hb hg hk)
        go_ret
        refine ⟨_, g, rfl, ?_, HOK.out, on HB0.out HB3.out⟩
        rw [HE.out]
        have s2 := HB0.out.size
        exact ⟨g, k, rfl, H3.out, ⟨by have := HG.out; omega, H3.out.box.lt⟩, ⟨by have := HK.out; omega, H3.out.sq.lt⟩⟩
    · by_cases h6 : c 7 = 2
      · have d6 : (c 7 == 2) = true := by rw [h6]; rfl
        have HE := hid (Ob.new_mq (c := c) (hh := hh) (n := n) (T := 2) h5 h6)
        have HOK := hid (Ob.new_ok HRT.out h1 h3 (fun h => absurd h h5))
        have HNQ := hid (fun w => mq_new_yes (cps c 1) (c 12).toNat (c 13).toNat (c 14).toNat ⟨by have := HKC.out 1 (by omega); omega, by omega, by omega, by omega⟩ w)
        rw [Int.toNat_of_nonneg (show 0 ≤ c 12 by omega), Int.toNat_of_nonneg (show 0 ≤ c 13 by omega), Int.toNat_of_nonneg (show 0 ≤ c 14 by omega), ← k1] at HNQ
        clear h5 h6 k0 k1 k2 l12 l13 l14 hx0 HKP HCA
        go_enter Tryz.func34, Tryz.ntmps34
        go_upto_region 1 with fail
        obtain ⟨W0, hW0⟩ : ∃ x, w.alloc (.cells (cfgC c A n cq) 25) = x := ⟨_, rfl⟩
        obtain ⟨r0, hr0⟩ : ∃ x, w.heap.size = x := ⟨_, rfl⟩
        rw [hW0] at HB0 hl3 y2 y5 y6 y7 y8 y9 y10 y11 y12 y13 y14 y16 ⊢
        rw [hr0] at hl3 y2 y5 y6 y7 y8 y9 y10 y11 y12 y13 y14 y16 ⊢
        have HSZ := hid hr0
        clear hW0 hr0
        go_wp2_with (go_at_call 59; refine (HNQ.out _).mono ?_; rintro e w3 ⟨g, k, rfl, hq, hb, hg, hk⟩; have H3 := hid hq; have HB3 := hid hb; have HG := hid hg; have HK := hid hk; clear hq hb hg hk)
        go_ret
        refine ⟨_, g, rfl, ?_, HOK.out, on HB0.out HB3.out⟩
        rw [HE.out]
        have s2 := HB0.out.size
        exact ⟨g, k, rfl, H3.out, ⟨by have := HG.out; omega, H3.out.box.lt⟩, ⟨by have := HK.out; omega, H3.out.sq.lt⟩⟩
      · have d6 : (c 7 == 2) = false := by simpa using h6
        have HE := hid (Ob.new_lru (c := c) (hh := hh) (n := n) (T := 2) h5 h6)
        have HOK := hid (Ob.new_ok HRT.out h1 h3 (fun h => absurd h h5))
        have hcp : cp (c 10) = cps c 1 := by have := HKC.out 1 (by omega); rw [k1]; unfold cp; omega
        have HNL := hid (fun w => lru_new (c 10) w)
        rw [hcp] at HNL
        clear h5 h6 k0 k1 k2 l12 l13 l14 hx0 HKP HCA hcp
        go_enter Tryz.func34, Tryz.ntmps34
        go_upto_region 1 with fail
        obtain ⟨W0, hW0⟩ : ∃ x, w.alloc (.cells (cfgC c A n cq) 25) = x := ⟨_, rfl⟩
        obtain ⟨r0, hr0⟩ : ∃ x, w.heap.size = x := ⟨_, rfl⟩
        rw [hW0] at HB0 hl3 y2 y5 y6 y7 y8 y9 y10 y11 y12 y13 y14 y16 ⊢
        rw [hr0] at hl3 y2 y5 y6 y7 y8 y9 y10 y11 y12 y13 y14 y16 ⊢
        have HSZ := hid hr0
        clear hW0 hr0
        go_wp2_with (go_at_call 60; refine (HNL.out _).mono ?_; rintro e w3 ⟨g, k, rfl, hq, hb, hg, hk⟩; have H3 := hid hq; have HB3 := hid hb; have HG := hid hg; have HK := hid hk; clear hq hb hg hk)
        go_ret
        refine ⟨_, g, rfl, ?_, HOK.out, on HB0.out HB3.out⟩
        rw [HE.out]
        have s2 := HB0.out.size
        exact ⟨g, k, rfl, H3.out, ⟨by have := HG.out; omega, H3.out.box.lt⟩, ⟨by have := HK.out; omega, H3.out.sq.lt⟩⟩
    · by_cases h6 : c 8 = 2
      · have d6 : (c 8 == 2) = true := by rw [h6]; rfl
        have HE := hid (Ob.new_mq (c := c) (hh := hh) (n := n) (T := 3) h5 h6)
        have HOK := hid (Ob.new_ok HRT.out h1 h3 (fun h => absurd h h5))
        have HNQ := hid (fun w => mq_new_yes (cps c 2) (c 12).toNat (c 13).toNat (c 14).toNat ⟨by have := HKC.out 2 (by omega); omega, by omega, by omega, by omega⟩ w)
        rw [Int.toNat_of_nonneg (show 0 ≤ c 12 by omega), Int.toNat_of_nonneg (show 0 ≤ c 13 by omega), Int.toNat_of_nonneg (show 0 ≤ c 14 by omega), ← k2] at HNQ
        clear h5 h6 k0 k1 k2 l12 l13 l14 hx0 HKP HCA
        go_enter Tryz.func34, Tryz.ntmps34
        go_upto_region 1 with fail
        obtain ⟨W0, hW0⟩ : ∃ x, w.alloc (.cells (cfgC c A n cq) 25) = x := ⟨_, rfl⟩
        obtain ⟨r0, hr0⟩ : ∃ x, w.heap.size = x := ⟨_, rfl⟩
        rw [hW0] at HB0 hl3 y2 y5 y6 y7 y8 y9 y10 y11 y12 y13 y14 y16 ⊢
        rw [hr0] at hl3 y2 y5 y6 y7 y8 y9 y10 y11 y12 y13 y14 y16 ⊢
        have HSZ := hid hr0
        clear hW0 hr0
        go_wp2_with (go_at_call 59; refine (HNQ.out _).mono ?_; rintro e w3 ⟨g, k, rfl, hq, hb, hg, hk⟩; have H3 := hid hq; have HB3 := hid hb; have HG := hid hg; have HK := hid hk; clear hq hb hg hk)
        go_ret
        refine ⟨_, g, rfl, ?_, HOK.out, on HB0.out HB3.out⟩
        rw [HE.out]
        have s2 := HB0.out.size
        exact ⟨g, k, rfl, H3.out, ⟨by have := HG.out; omega, H3.out.box.lt⟩, ⟨by have := HK.out; omega, H3.out.sq.lt⟩⟩
      · have d6 : (c 8 == 2) = false := by simpa using h6
        have HE := hid (Ob.new_lru (c := c) (hh := hh) (n := n) (T := 3) h5 h6)
        have HOK := hid (Ob.new_ok HRT.out h1 h3 (fun h => absurd h h5))
        have hcp : cp (c 11) = cps c 2 := by have := HKC.out 2 (by omega); rw [k2]; unfold cp; omega
        have HNL := hid (fun w => lru_new (c 11) w)
        rw [hcp] at HNL
        clear h5 h6 k0 k1 k2 l12 l13 l14 hx0 HKP HCA hcp
        go_enter Tryz.func34, Tryz.ntmps34
        go_upto_region 1 with fail
        obtain ⟨W0, hW0⟩ : ∃ x, w.alloc (.cells (cfgC c A n cq) 25) = x := ⟨_, rfl⟩
        obtain ⟨r0, hr0⟩ : ∃ x, w.heap.size = x := ⟨_, rfl⟩
        rw [hW0] at HB0 hl3 y2 y5 y6 y7 y8 y9 y10 y11 y12 y13 y14 y16 ⊢
        rw [hr0] at hl3 y2 y5 y6 y7 y8 y9 y10 y11 y12 y13 y14 y16 ⊢
        have HSZ := hid hr0
        clear hW0 hr0
        go_wp2_with (go_at_call 60; refine (HNL.out _).mono ?_; rintro e w3 ⟨g, k, rfl, hq, hb, hg, hk⟩; have H3 := hid hq; have HB3 := hid hb; have HG := hid hg; have HK := hid hk; clear hq hb hg hk)
        go_ret
        refine ⟨_, g, rfl, ?_, HOK.out, on HB0.out HB3.out⟩
        rw [HE.out]
        have s2 := HB0.out.size
        exact ⟨g, k, rfl, H3.out, ⟨by have := HG.out; omega, H3.out.box.lt⟩, ⟨by have := HK.out; omega, H3.out.sq.lt⟩⟩
end
end Go.Proofs.YtmfdlkkligjcbaaGreat
