/-
  What is proved: a tier's cache that is made; one that is cleared. No condition.
-/
import Derived.Test.YtmfdlkkligjcbaaGreatJ01
import Derived.Test.YtmfdlkkligjcbaaGreatJ37
namespace Go.Proofs.YtmfdlkkligjcbaaGreat
open Go.RowKit

/-- a copy of hints: new memory -/
def RowQ2 (us : List Value) (n : Nat) (w : World) (e : Ending) (w' : World) : Prop :=
  ∃ A c, e = .returned (.slice A n c) ∧ Rv w' w'.heap.size A us ∧ Below w.heap.size w w' ∧ (A = none → c = 0) ∧ ∀ ad, A = some ad → w.heap.size ≤ ad.block ∧ ad.block < w'.heap.size
theorem own_row3 {w w' : World} {b s n : Nat} {e : TypeId} {v : Value} {us : List Value} (h : OwnV w' b e s v n us) (hb : w.heap.size ≤ b) : ∃ A c, v = .slice A n c ∧ Rv w' w'.heap.size A us ∧ (A = none → c = 0) ∧ ∀ ad, A = some ad → w.heap.size ≤ ad.block ∧ ad.block < w'.heap.size := by
  obtain ⟨A, c, e, hr, h1, h2⟩ := own_row2 (w := w) h hb
  exact ⟨A, c, e, hr, h1, fun ad ea => ⟨h2 ad ea, (World.ownsRow.lt h ad.block (by rw [e, ea]; rfl)).2⟩⟩
set_option maxHeartbeats 400000 in
theorem clone_hints2 (A : Option Addr) (n c : Nat) (hh : Nat → Hn) (w : World) (hn : n ≤ 1000) (hc : A = none → c = 0) (hr : Rv w w.heap.size A (hvs hh n)) :
    Calls Tryz.prog 33 #[.slice A n c] w (RowQ2 (hvs hh n) n w) := by
  cases A with
  | none =>
    have h0 := rv_none hr
    have hl := hvs_length hh n
    rw [h0] at hl
    obtain rfl : n = 0 := by simp at hl; omega
    obtain rfl := hc rfl
    rw [h0]
    clear h0 hl hr hc
    have hnil := fun w => eql_nil (P := Tryz.prog) 23 _ none 0 0 Tryz.underlying23 w
    rw [show (none : Option Addr).isNone = true from rfl] at hnil
    go_enter Tryz.func33, Tryz.ntmps33
    go_wp2
    go_ret
    exact ⟨none, 0, rfl, Rv.nil _ _ _, Below.refl _ _, fun _ => rfl, fun ad e => by cases e⟩
  | some a =>
    have HR := hid hr
    clear hr hc
    have O := World.ownsRow_lit (size := 4) (e := 65) (base := w.heap.size) w #[] 0 (Nat.le_refl _) (by unfold maxLen; omega) rfl
    have HO := hid O
    clear O
    have hnil := fun w => eql_nil (P := Tryz.prog) 23 _ (some a) n c Tryz.underlying23 w
    rw [show (some a).isNone = false from rfl] at hnil
    go_enter Tryz.func33, Tryz.ntmps33
    go_wp2_with (at_builtin; refine wpList_appV elt_hint rfl _ _ rfl w.heap.size _ 0 [] HO.out rfl _ _ n c (hvs hh n) rfl (hvs_length hh n) (HR.out.below (below_alloc w _) (Nat.le_refl _)) (hvs_one hh n) (by unfold maxLen; omega) (by omega) (by rw [World.size_alloc]; omega) ?_; intro v' w2 hown2 hg2)
    have hb2 : Below w.heap.size w w2 := (below_alloc w _).trans (hg2.below HO.out (by rw [World.size_alloc]; omega))
    rw [List.nil_append, Nat.zero_add] at hown2
    obtain ⟨A', c', rfl, hr', hca, hge⟩ := own_row3 (w := w) hown2 (Nat.le_refl _)
    have HF := hid (And.intro hr' (And.intro hb2 (And.intro hca hge)))
    clear hown2 hg2 hb2 hr' hge hca
    go_wp2
    go_ret
    exact ⟨A', c', rfl, HF.out.1, HF.out.2.1, HF.out.2.2.1, HF.out.2.2.2⟩
/-- a block that is in an order is a small number -/
theorem Cm.wf {w : World} {X F : Nat → Prop} {G M n cp T B : Nat} {c : Nat → Int} {A : Option Addr} {hh : Nat → Hn} {v : Value} {o : Ob} {D : Int → List Int} (h : Cm w X G M F c A n cp hh T v o D B) {x : Int} (hx : x ∈ o.all) : (Lit.int .i64 x).wf = true := by
  have := Ob.vb_of h.ok hx
  unfold vb at this
  exact wf_small (by omega)
/-- what a cache writes to -/
def Own16 (F : Nat → Prop) (G M j : Nat) : Prop := F j ∨ j = G ∨ j = M
/-- a cache that is new -/
def NewC (w : World) (c : Nat → Int) (n : Nat) (hh : Nat → Hn) (T : Nat) (e : Ending) (w' : World) : Prop :=
  ∃ G M A cp v F, e = .returned (.tuple #[.pointer (some ⟨G, 0, none⟩), .int .i64 0]) ∧ Below w.heap.size w w' ∧ (∀ j, Own16 F G M j → w.heap.size ≤ j ∧ j < w'.heap.size) ∧
    ∀ (X0 : Nat → Prop) (D : Int → List Int), (∀ j, X0 j → j < w.heap.size) → Cm w' (fun j => X0 j ∨ Own16 F G M j) G M F c A n cp hh T v (Ob.new c hh n T) D 0
theorem newc_of {w W : World} {F : Nat → Prop} {M n cp T : Nat} {c : Nat → Int} {A : Option Addr} {hh : Nat → Hn} {v : Value} (rt : RightP c hh n) (t1 : 1 ≤ T) (t3 : T ≤ 3) (hb : Below w.heap.size w W) (hr : Rv W W.heap.size A (hvs hh n))
    (hA : ∀ ad, A = some ad → ad.block < W.heap.size ∧ w.heap.size ≤ ad.block ∧ ¬ F ad.block ∧ ad.block ≠ M) (ca : A = none → cp = 0) (hom : Om W F v (Ob.new c hh n T)) (ok : (Ob.new c hh n T).Ok (cps c (T - 1))) (hF : ∀ j, F j → w.heap.size ≤ j ∧ j < W.heap.size ∧ j ≠ M) (hm : Mc W M 0 (fun _ => none)) (hM : w.heap.size ≤ M) :
    NewC w c n hh T (.returned (.tuple #[.pointer (some ⟨W.heap.size, 0, none⟩), .int .i64 0])) (W.alloc (.cells (cc c A n cp T v M) 70)) := by
  have hb1 := below_alloc W (.cells (cc c A n cp T v M) 70)
  have hs : (W.alloc (.cells (cc c A n cp T v M) 70)).heap.size = W.heap.size + 1 := World.size_alloc W _
  have hlt := hm.lt
  have h0 := hb.size
  refine ⟨W.heap.size, M, A, cp, v, F, rfl, on hb hb1, fun j hj => ?_, fun X0 D hX => ?_⟩
  · rcases hj with hj | rfl | rfl
    · have := hF j hj; omega
    · omega
    · omega
  · refine ⟨Bx.new W _ _, (hr.below hb1 (Nat.le_refl _)).more hb1.size, fun ad e => ?_, ca, hom.below hb1, ok, Nat.le_of_eq (Ob.new_tm c hh n T), ⟨_, hm.below hb1, fun x hx => ?_⟩, fun x hx => ?_, rt, t1, t3, Ob.kin_self _, fun j hj => .inr (.inl hj), .inr (.inr (.inl rfl)), .inr (.inr (.inr rfl)), fun hf => ?_, fun hf => ?_, fun e => ?_, fun j hj => ?_⟩
    · obtain ⟨h1, h2, h3, h4⟩ := hA ad e
      refine ⟨by omega, fun hx => ?_⟩
      rcases hx with hx | hx | hx | hx
      · have := hX _ hx; omega
      · exact h3 hx
      · omega
      · exact h4 hx
    · rw [Ob.new_all] at hx; cases hx
    · rw [Ob.new_all] at hx; cases hx
    · have := hF _ hf; omega
    · exact (hF _ hf).2.2 rfl
    · omega
    · rcases hj with hj | hj | rfl | rfl
      · have := hX _ hj; omega
      · have := hF _ hj; omega
      · omega
      · omega
/-- what a struct that is built of its first four fields becomes -/
theorem wp_build4 {P : Program} {o : Oper} {a : Act} {w : World} {K : Act → World → Prop} {Q : Exit → Act → World → Prop} (t : TypeId) (x0 x1 x2 x3 : Operand) (ho : o.op = .build t #[(0, x0), (1, x1), (2, x2), (3, x3)]) (u0 u1 u2 u3 : Value) (h0 : a.eval x0 = u0) (h1 : a.eval x1 = u1) (h2 : a.eval x2 = u2) (h3 : a.eval x3 = u3) (cs : Array Value)
    (hf : P.built t [(0, u0), (1, u1), (2, u2), (3, u3)] = some cs) (h : K (a.put o.dst (.agg cs)) w) : o.wp P a w K Q := by
  have hf2 : P.built t ((#[(0, x0), (1, x1), (2, x2), (3, x3)] : Array (Nat × Operand)).map fun (i, x) => (i, a.eval x)).toList = some cs := by
    subst h0
    subst h1
    subst h2
    subst h3
    simpa using hf
  exact wp_build t _ ho (by rw [hf2]; rfl) (by rw [hf2]; exact h)
theorem cfg_range {w : World} {g : Nat} {t : TypeId} {cs : Array Value} (h : Bx w g t cs) : w.rangeAt g 0 cs.toList := fun j u hj => by
  rw [Nat.zero_add, h.cell]
  simpa using hj
theorem built_cache (c : Nat → Int) (A : Option Addr) (n cp : Nat) (T : Int) (ty : TypeId) (q : Value) (M : Nat) : Tryz.prog.built 70 [(0, .agg (cfgC c A n cp)), (1, .int .i64 T), (2, .iface ty q), (3, .map (some M))] = some (cc c A n cp T (.iface ty q) M) := by kernel_rfl
section
variable {c : Nat → Int} {A : Option Addr} {n cp : Nat} {hh : Nat → Hn} {w : World}
set_option maxRecDepth 20000 in
set_option maxHeartbeats 2000000 in
theorem cm_new_yes (rt : RightP c hh n) (hr : Rv w w.heap.size A (hvs hh n)) (ca : A = none → cp = 0) {T : Nat} (t1 : 1 ≤ T) (t3 : T ≤ 3) :
    Calls Tryz.prog 10 #[.agg (cfgC c A n cp), .int .i64 T] w (NewC w c n hh T) := by
  have hb0 := below_alloc w (.cells (cfgC c A n cp) 25)
  have HX0 := hid (Bx.new w 25 (cfgC c A n cp))
  have hr0 := (hr.below hb0 (Nat.le_refl _)).more hb0.size
  have hn8 : n ≤ 8 := rt.2.2.2.1
  have HRT := hid rt
  have HRI := hid (right_any A n cp c hh _ (by unfold maxLen; omega) hr0)
  rw [dec_true rt] at HRI
  have HB0 := hid hb0
  have HR0 := hid hr0
  have HCA := hid ca
  have d1 : decide ((T : Int) < 1) = false := decide_eq_false (by omega)
  have d3 : decide (3 < (T : Int)) = false := decide_eq_false (by omega)
  have HT := hid (And.intro t1 t3)
  clear hr rt hb0 hr0 ca t1 t3
  go_enter Tryz.func10, Tryz.ntmps10
  go_upto_region 1 with fail
  obtain ⟨W0, hW0⟩ : ∃ x, w.alloc (.cells (cfgC c A n cp) 25) = x := ⟨_, rfl⟩
  obtain ⟨r0, hr0⟩ : ∃ x, w.heap.size = x := ⟨_, rfl⟩
  rw [hW0] at HB0 HX0 HR0 HRI ⊢
  rw [hr0] at HX0 ⊢
  have HSZ := hid hr0
  clear hW0 hr0
  go_upto_region 3 with (first
    | (go_at_call 32; refine HRI.out.mono ?_; rintro e w1 ⟨rfl, hb⟩; have HX1 := hid (HX0.out.next hb); have HB1 := hid (on HB0.out hb); have HR1 := hid (Rv.more (HR0.out.below hb (Nat.le_refl _)) hb.size); clear hb)
    | (refine wpList_load_bx rfl 25 (.tmp 2) rfl r0 _ _ _ rfl HX0.out Tryz.underlying25 rfl (by kernel_rfl) ?_))
  have y16 : w1.cell? ⟨r0, 16, none⟩ = some (.slice A n cp) := HX1.out.cell 16
  have HCL := hid (clone_hints2 A n cp hh w1 (by omega) HCA.out HR1.out)
  go_upto_region 4 with (go_at_call 33; refine HCL.out.mono ?_; rintro e w2 ⟨A2, c2, rfl, h1, h2, h3, h4⟩; have HX2 := hid (HX1.out.next h2); have HB2 := hid (on HB1.out h2); have HR2 := hid h1; have HC2 := hid h3; have HA2 := hid (fun ad e => And.intro (Nat.le_trans HB1.out.size (h4 ad e).1) (And.intro (h4 ad e).2 (show ad.block ≠ r0 from fun e2 => by have h5 := (h4 ad e).1; have h6 := HX1.out.lt; omega))); have y16 : w2.cell? ⟨r0, 16, none⟩ = some (.slice A n cp) := HX2.out.cell 16; have z16 := HX2.out.free 16; clear h1 h2 h3 h4)
  have HX3 := hid (show Bx _ _ _ (cfgC c A2 n c2) from HX2.out.set 16 (.slice A2 n c2))
  have HB3 := hid (below_set HB2.out ⟨r0, 16, none⟩ (.slice A2 n c2) (Nat.le_of_eq HSZ.out))
  have HS3 := hid (setSize w2 ⟨r0, 16, none⟩ (.slice A2 n c2))
  have HR3 := hid (show Rv (w2.setCell ⟨r0, 16, none⟩ (.slice A2 n c2)) (w2.setCell ⟨r0, 16, none⟩ (.slice A2 n c2)).heap.size A2 (hvs hh n) from by
    rw [setSize]
    exact HR2.out.off ⟨r0, 16, none⟩ (.slice A2 n c2) fun ad e => (HA2.out ad e).2.2)
  generalize w2.setCell ⟨r0, 16, none⟩ (.slice A2 n c2) = w3 at *
  clear y16 z16
  have HXD := hid (show Bx w3.drew r0 25 (cfgC c A2 n c2) from HX3.out)
  have HBD := hid (show Below w.heap.size w w3.drew from below_draws HB3.out 1)
  have HRD := hid (show Rv w3.drew w3.drew.heap.size A2 (hvs hh n) from HR3.out)
  have HAD := hid (show ∀ ad, A2 = some ad → w.heap.size ≤ ad.block ∧ ad.block < w3.heap.size from fun ad e => ⟨(HA2.out ad e).1, by have h5 := (HA2.out ad e).2.1; have h6 := HS3.out; show ad.block < w3.heap.size; omega⟩)
  have HNO := hid (fun W (hR : Rv W W.heap.size A2 (hvs hh n)) => neworder_any HRT.out hR HC2.out HT.out.1 HT.out.2)
  refine wp_region_noPanic ?_
  refine wp_region_held_drew (S := fun w' => Bx w' r0 25 (cfgC c A2 n c2)) (by kernel_rfl) ?_ (fun hHeld => ?_)
  · exact HXD.out
  refine wpAnyH_take (i := 0) (oi := ⟨some 21, _, _, _, _, _⟩) (v := _) rfl (by kernel_rfl) (by kernel_rfl) (by kernel_rfl) (fun _ _ _ h => h) (yieldsIf_load_mid (by rfl) 25 (.tmp 2) rfl r0 0 rfl (cfgC c A2 n c2).toList _ (fun w hw => cfg_range hw) Tryz.underlying25 rfl (by kernel_rfl)) (by assumption) ?_
  (try simp only [Act.put, tkA, tk0, tk1])
  refine tkv 1 (some 22) rfl ?_
  refine wpAnyH_take (i := 2) (oi := ⟨some 23, _, _, _, _, _⟩) (v := _) rfl (by kernel_rfl) (by kernel_rfl) (by kernel_rfl) (fun _ _ _ h => h) (yieldsIf_load_mid (by rfl) 25 (.tmp 2) rfl r0 0 rfl (cfgC c A2 n c2).toList _ (fun w hw => cfg_range hw) Tryz.underlying25 rfl (by kernel_rfl)) (by assumption) ?_
  (try simp only [Act.put, tkA, tk0, tk1])
  refine tkv 3 (some 24) rfl ?_
  refine wpAnyH_ready (rs := [4, 5]) (by kernel_rfl) (by simp) ?_
  refine (AllReadyH.cons (o := ⟨some 25, _, _, _, _, _⟩) rfl (fun K hK => ?_) (AllReadyH.cons (o := ⟨some 26, _, _, _, _, _⟩) rfl (fun K hK => ?_) AllReadyH.nil))
  · rw [if_pos (by rfl)]
    go_simp
    refine (HNO.out _ HRD.out).mono ?_
    rintro e w5 ⟨ty, g5, rfl, hom, hok, hb⟩
    have HOM := hid hom
    have HOK := hid hok
    have HX5 := hid (HXD.out.next hb)
    have HB5 := hid (on HBD.out hb)
    have HR5 := hid (Rv.more (HRD.out.below hb (Nat.le_refl _)) hb.size)
    have HS5 := hid hb.size
    have HL5 := hid hb
    have kp := HX5.out
    clear hom hok hb
    go_simp
    refine hK.out _ _ kp (fun hHeld => ?_)
    clear hK K
    (try simp only [Act.put, tkA, tk0, tk1])
    refine tkc 5 (some 26) rfl fun K hK => ?_
    have hbm := below_alloc w5 (.map #[] 0)
    have HXM := hid (HX5.out.next hbm)
    have HBM := hid (on HB5.out hbm)
    have HRM := hid (Rv.more (HR5.out.below hbm (Nat.le_refl _)) hbm.size)
    have HMM := hid (show Mc _ _ _ _ from Mp.made w5 Tryz.prog 3)
    have HOM2 := hid (HOM.out.below hbm)
    have kq := HXM.out
    clear hbm
    go_simp
    refine hK.out _ _ kq (fun hHeld => ?_)
    clear hK K
    (try simp only [Act.put, tkA, tk0, tk1])
    refine tkc 6 (some 27) rfl fun K hK => ?_
    refine wp_build4 70 (.tmp 21) (.tmp 22) (.tmp 25) (.tmp 26) rfl (.agg (cfgC c A2 n c2)) (.int .i64 T) (.iface ty (.pointer (some ⟨g5, 0, none⟩))) (.map (some (w5.heap.size))) rfl rfl rfl rfl _ (built_cache c A2 n c2 T ty (.pointer (some ⟨g5, 0, none⟩)) (w5.heap.size)) ?_
    refine hK.out _ _ kq (fun hHeld => ?_)
    clear hK K
    (try simp only [Act.put, tkA, tk0, tk1])
    refine tkc 7 (some 28) rfl fun K hK => ?_
    have kr := (HXM.out.next (below_alloc (w5.alloc (.map #[] 0)) (.cells (cc c A2 n c2 T (.iface ty (.pointer (some ⟨g5, 0, none⟩))) (w5.heap.size)) 70)))
    go_simp
    refine hK.out _ _ kr (fun hHeld => ?_)
    clear hK K
    (try simp only [Act.put, tkA, tk0, tk1])
    refine tkv 8 (some 4) rfl ?_
    refine tkv 9 (some 5) rfl ?_
    refine wpAnyH_done (by kernel_rfl) ?_ _
    refine NoPanic.normal ?_
    go_wp2
    go_ret2
    have h3 : w.heap.size ≤ w3.heap.size := HBD.out.size
    have hl : w3.heap.size ≤ w5.heap.size := HL5.out.size
    have hm : (w5.alloc (.map #[] 0)).heap.size = w5.heap.size + 1 := World.size_alloc _ _
    have f1 : ∀ ad, A2 = some ad → ad.block < (w5.alloc (.map #[] 0)).heap.size ∧ w.heap.size ≤ ad.block ∧ ¬ (w3.heap.size ≤ ad.block ∧ ad.block < w5.heap.size) ∧ ad.block ≠ w5.heap.size := fun ad e => by
      have h7 := HAD.out ad e
      exact ⟨by omega, h7.1, fun hf => by have := hf.1; omega, by omega⟩
    have hE := newc_of HRT.out HT.out.1 HT.out.2 HBM.out HRM.out f1 HC2.out HOM2.out HOK.out (fun j hj => ⟨by have h9 : w3.heap.size ≤ j := hj.1; omega, by have := hj.2; omega, by have := hj.2; omega⟩) HMM.out (by omega)
    rw [hm] at hE
    exact hE
  · rw [if_pos (by rfl)]
    have hbm := below_alloc w3.drew (.map #[] 0)
    have HXM := hid (HXD.out.next hbm)
    have HBM := hid (on HBD.out hbm)
    have HRM := hid (Rv.more (HRD.out.below hbm (Nat.le_refl _)) hbm.size)
    have HMM := hid (show Mc _ _ _ _ from Mp.made w3.drew Tryz.prog 3)
    have kq := HXM.out
    clear hbm
    go_simp
    refine hK.out _ _ kq (fun hHeld => ?_)
    clear hK K
    (try simp only [Act.put, tkA, tk0, tk1])
    refine tkc 4 (some 25) rfl fun K hK => ?_
    go_simp
    refine (HNO.out _ HRM.out).mono ?_
    rintro e w5 ⟨ty, g5, rfl, hom, hok, hb⟩
    have HOM := hid hom
    have HOK := hid hok
    have HX5 := hid (HXM.out.next hb)
    have HB5 := hid (on HBM.out hb)
    have HR5 := hid (Rv.more (HRM.out.below hb (Nat.le_refl _)) hb.size)
    have HS5 := hid hb.size
    have HL5 := hid hb
    have HM5 := hid (HMM.out.below hb)
    have kp := HX5.out
    clear hom hok hb
    go_simp
    refine hK.out _ _ kp (fun hHeld => ?_)
    clear hK K
    (try simp only [Act.put, tkA, tk0, tk1])
    refine tkc 6 (some 27) rfl fun K hK => ?_
    refine wp_build4 70 (.tmp 21) (.tmp 22) (.tmp 25) (.tmp 26) rfl (.agg (cfgC c A2 n c2)) (.int .i64 T) (.iface ty (.pointer (some ⟨g5, 0, none⟩))) (.map (some (w3.drew.heap.size))) rfl rfl rfl rfl _ (built_cache c A2 n c2 T ty (.pointer (some ⟨g5, 0, none⟩)) (w3.drew.heap.size)) ?_
    refine hK.out _ _ kp (fun hHeld => ?_)
    clear hK K
    (try simp only [Act.put, tkA, tk0, tk1])
    refine tkc 7 (some 28) rfl fun K hK => ?_
    have kr := (HX5.out.next (below_alloc w5 (.cells (cc c A2 n c2 T (.iface ty (.pointer (some ⟨g5, 0, none⟩))) (w3.drew.heap.size)) 70)))
    go_simp
    refine hK.out _ _ kr (fun hHeld => ?_)
    clear hK K
    (try simp only [Act.put, tkA, tk0, tk1])
    refine tkv 8 (some 4) rfl ?_
    refine tkv 9 (some 5) rfl ?_
    refine wpAnyH_done (by kernel_rfl) ?_ _
    refine NoPanic.normal ?_
    go_wp2
    go_ret2
    have h3 : w.heap.size ≤ w3.heap.size := HBD.out.size
    have hl := HL5.out.size
    have hm : (w3.drew.alloc (.map #[] 0)).heap.size = w3.heap.size + 1 := World.size_alloc _ _
    refine newc_of HRT.out HT.out.1 HT.out.2 HB5.out HR5.out (fun ad e => ?_) HC2.out HOM.out HOK.out (fun j hj => ?_) HM5.out h3
    · have h7 := HAD.out ad e
      exact ⟨by omega, h7.1, fun hf => by have := hf.1; omega, by omega⟩
    · have h8 := hj.1
      have h9 := hj.2
      exact ⟨by omega, h9, by omega⟩
end
end Go.Proofs.YtmfdlkkligjcbaaGreat
