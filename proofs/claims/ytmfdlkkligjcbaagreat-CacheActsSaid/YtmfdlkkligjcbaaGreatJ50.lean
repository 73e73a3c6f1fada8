/-
  What is proved: CacheActs holds for every configuration, tier and all acts. Condition: the arguments are what a caller may hand in.
-/
import Derived.Test.YtmfdlkkligjcbaaGreatJ01
import Derived.Test.YtmfdlkkligjcbaaGreatJ48
import Derived.Test.YtmfdlkkligjcbaaGreatJ46
import Derived.Test.YtmfdlkkligjcbaaGreatJ45
import Derived.Test.YtmfdlkkligjcbaaGreatJ49
namespace Go.Proofs.YtmfdlkkligjcbaaGreat
open Go.RowKit

/-- a law's two caches: w0 the law's first world, the configuration's box at r -/
def Ai16 (w0 w : World) (G g : Nat) (c : Nat → Int) (A0 : Option Addr) (n c0 r : Nat) (hh : Nat → Hn) (T B : Nat) : Prop :=
  ∃ Z M F A cp v o D Y d A2 cp2 lv mv pv cv us E, Bo16 w Z G M F c A n cp hh T v o D B Y g d A2 cp2 lv mv pv cv us E ∧ Below w0.heap.size w0 w ∧ Bx w r 25 (cfgC c A0 n c0) ∧ (∀ j, Z j → w0.heap.size ≤ j) ∧ ¬ Z r
/-- both are new -/
theorem bo_first {w w1 w2 : World} {X0 F Y : Nat → Prop} {G M n cp T g d cp2 cv : Nat} {c : Nat → Int} {A A2 : Option Addr} {hh : Nat → Hn} {v lv mv pv : Value} {us : List Value}
    (_ : ∀ j, X0 j → j < w.heap.size) (_ : Below w1.heap.size w1 w2) (_ : w.heap.size ≤ w1.heap.size)
    (hcm : ∀ Z' : Nat → Prop, (∀ j, (X0 j ∨ Own16 F G M j) → Z' j) → (∀ j, Z' j → (X0 j ∨ Own16 F G M j) ∨ (w1.heap.size ≤ j ∧ j < w2.heap.size)) → Cm w2 Z' G M F c A n cp hh T v (Ob.new c hh n T) (fun _ => []) 0)
    (ho : ∀ j, (Y j ∨ j = g ∨ j = d) → w1.heap.size ≤ j ∧ j < w2.heap.size) (hlt : ∀ j, Own16 F G M j → j < w1.heap.size)
    (hrc : Rc w2 (fun j => (X0 j ∨ Own16 F G M j) ∨ Y j ∨ j = g ∨ j = d) Y g d c A2 n cp2 T lv mv pv cv us (Ob.new c hh n T) (fun _ => [])) :
    Bo16 w2 (fun j => (X0 j ∨ Own16 F G M j) ∨ Y j ∨ j = g ∨ j = d) G M F c A n cp hh T v (Ob.new c hh n T) (fun _ => []) 0 Y g d A2 cp2 lv mv pv cv us (fun _ => []) :=
  ⟨hcm _ (fun j hj => .inl hj) fun j hj => hj.imp id fun h => ho j h, hrc, fun j hj hk => by have := hlt j hj; have := (ho j hk).1; omega, fun _ _ => rfl, fun x hx => (by rw [Ob.new_all] at hx; cases hx)⟩
set_option maxRecDepth 20000 in
set_option maxHeartbeats 4000000 in
theorem acts16_ok {c : Nat → Int} {A A2 : Option Addr} {n cq m c2 T : Nat} {hh : Nat → Hn} {f : Nat → A16} {w : World} (hr : Rv w w.heap.size A (hvs hh n)) (hn : n ≤ maxLen) (ca : A = none → cq = 0) (hm : m ≤ maxLen) (hac : ActsC w A2 m f) (hg : ∀ i, i < m → (f i).Good w) (rt : RightP c hh n) (t1 : 1 ≤ T) (t3 : T ≤ 3) :
    Calls Tryz.prog 3 #[.agg (cfgC c A n cq), .int .i64 T, .slice A2 m c2] w fun e w' => e = .returned (.bool true) ∧ Below w.heap.size w w' := by
  have HNW := hid (fun w (h : Rv w w.heap.size A (hvs hh n)) => cm_new_yes (w := w) rt h ca t1 t3)
  have HNR := hid (fun (w : World) (X0 : Nat → Prop) (h : Rv w w.heap.size A (hvs hh n)) (hx : ∀ j, X0 j → j < w.heap.size) => rc_new (cp := cq) (w := w) (X0 := X0) rt h t1 t3 hx)
  have HRI := hid (fun w (h : Rv w w.heap.size A (hvs hh n)) => rright_any A n cq c hh w hn h)
  rw [dec_true rt] at HRI
  have hb0 := below_alloc w (.cells (cfgC c A n cq) 25)
  have HX0 := hid (Bx.new w 25 (cfgC c A n cq))
  have HB0 := hid hb0
  have HRV := hid (fun (y : World) (hb : Below w.heap.size w y) => (hr.below hb (Nat.le_refl _)).more hb.size)
  have HAC := hid hac
  have HGD := hid hg
  have HLO := hid (fun (y : World) (hb : Below w.heap.size w y) => long16 (c := c) (A := A) (n := n) (cq := cq) (c2 := c2) hm (hac.below hb) fun i hi => (hg i hi).below hb)
  have d1 : decide ((T : Int) < 1) = false := decide_eq_false (by omega)
  have d3 : decide (3 < (T : Int)) = false := decide_eq_false (by omega)
  clear hr hn hb0 ca hac hg rt hm
  go_enter Tryz.func3, Tryz.ntmps3
  go_upto_region 1 with fail
  obtain ⟨W0, hW0⟩ : ∃ x, w.alloc (.cells (cfgC c A n cq) 25) = x := ⟨_, rfl⟩
  obtain ⟨r0, hr0⟩ : ∃ x, w.heap.size = x := ⟨_, rfl⟩
  rw [hW0] at HB0 HX0 ⊢
  rw [hr0] at HX0 ⊢
  have HZ := hid hr0
  clear hW0 hr0
  go_upto_region 3 with (go_at_call 8; refine (wakes16 _).mono ?_; rintro e w1 ⟨rfl, hb⟩; have HB1 := hid (on HB0.out hb); have HX1 := hid (HX0.out.next hb); clear hb)
  go_wp2_with (refine wpList_load_bxg (by rfl) 25 (.tmp 3) rfl r0 _ _ _ rfl HX1.out Tryz.underlying25 rfl (by kernel_rfl) ?_)
  refine (HLO.out _ HB1.out).mono ?_
  rintro e w2 ⟨bl, rfl, hb, hl⟩
  have HB2 := hid (on HB1.out hb)
  have HX2 := hid (HX1.out.next hb)
  have HLI := hid hl
  clear hb hl
  cases bl with
  | true =>
    go_wp2
    go_ret
    exact ⟨rfl, HB2.out⟩
  | false =>
  have HLE := hid (HLI.out rfl)
  have HNC := hid (HNW.out _ (HRV.out _ HB2.out))
  go_upto_region 6 with (first
    | (go_at_call 10; refine HNC.out.mono ?_; rintro e w3 ⟨G, M, A5, cp5, v5, F5, rfl, hb, ho, hc⟩; have HB3 := hid (on HB2.out hb); have HX3 := hid (HX2.out.next hb); have HO3 := hid ho; have HC3 := hid (hc (fun _ => False) (fun _ => []) fun j hj => hj.elim); have HS3 := hid hb.size; clear hb ho hc)
    | (refine wpList_load_bx rfl 25 (.tmp 3) rfl r0 _ _ _ rfl HX2.out Tryz.underlying25 rfl (by kernel_rfl) ?_))
  have HRC := hid (HRI.out _ (HRV.out _ HB3.out))
  go_upto_region 8 with (first
    | (go_at_call 11; refine HRC.out.mono ?_; rintro e w4 ⟨rfl, hb⟩; have HB4 := hid (on HB3.out hb); have HX4 := hid (HX3.out.next hb); have HL4 := hid hb; clear hb)
    | (refine wpList_load_bx rfl 25 (.tmp 3) rfl r0 _ _ _ rfl HX3.out Tryz.underlying25 rfl (by kernel_rfl) ?_))
  have hO4 : ∀ j, (False ∨ Own16 F5 G M j) → j < w4.heap.size := fun j hj => Nat.lt_of_lt_of_le (hj.elim False.elim fun h => (HO3.out j h).2) HL4.out.size
  have HRN := hid (HNR.out w4 (fun j => False ∨ Own16 F5 G M j) (HRV.out _ HB4.out) hO4)
  go_upto_region 9 with (first
    | (go_at_call 12; refine HRN.out.mono ?_; rintro e w5 ⟨g, d, A6, cp6, lv, mv, pv, cv, us, Y, rfl, hb, ho, hrc⟩; have HI0 := hid (show Ai16 w w5 G g c A n cq r0 hh T (0 : Nat) from ⟨_, M, F5, A5, cp5, v5, _, _, Y, d, A6, cp6, lv, mv, pv, cv, us, _, bo_first (fun j hj => hj.elim) hb (Nat.le_refl _) (fun Z' h1 h2 => (HC3.out.below HL4.out).more hb h1 h2) ho (fun j hj => hO4 j (.inr hj)) hrc, on HB4.out hb, HX4.out.next hb, fun j hj => (show w.heap.size ≤ j from by
        rcases hj with (hj | hj) | hj
        · exact hj.elim
        · exact Nat.le_trans HB2.out.size (HO3.out j hj).1
        · exact Nat.le_trans HB4.out.size (ho j hj).1), fun hj => (show False from by
        have := HX2.out.lt
        rcases hj with (hj | hj) | hj
        · exact hj
        · have := (HO3.out _ hj).1; omega
        · have := (ho _ hj).1; have := HX4.out.lt; omega)⟩); clear hb ho hrc)
    | (refine wpList_load_bx rfl 25 (.tmp 3) rfl r0 _ _ _ rfl HX4.out Tryz.underlying25 rfl (by kernel_rfl) ?_))
  clear hO4 HX0 HX1 HX2 HX3 HX4 HB0 HB1 HB2 HB3 HB4 HL4 HO3 HC3 HS3 HRN HRC HNC HRI HNW HLO HLI
  go_wp2
  go_loopg [9, 45] m (fun gk tx tp wr => ∃ p g : Nat, p + gk = m ∧ tx = .pointer (some ⟨g, 0, none⟩) ∧ tp = .int .i64 p ∧ Ai16 w wr G g c A n cq r0 hh T p)
  case atStart => exact ⟨0, g, by omega, rfl, rfl, HI0.out⟩
  case round =>
    obtain ⟨p, g, hp, rfl, rfl, hi⟩ := hrel
    clear HI0
    by_cases hlt : p < m
    · have hlt' : (p : Int) < (m : Int) := by omega
      obtain ⟨Z, M, F, A5, cp, v, o, D, Y, d, A6, cp6, lv, mv, pv, cv, us, E, hbo, hbl, hbx, hzo, hzr⟩ := hi
      obtain ⟨ad, rfl, hat⟩ := (HAC.out.below hbl) p hlt
      have hgood := HGD.out p hlt
      have hlen := HLE.out.2.2 p hlt
      have hp120 : p < 120 := by have := HLE.out.2.1; omega
      obtain ⟨⟨κ, lv1, b, Bq, bc, l⟩, hf⟩ : ∃ y, f p = y := ⟨_, rfl⟩
      rw [hf] at hat hgood hlen
      obtain ⟨alt, c0, c1, c2', c3⟩ := hat
      dsimp only [A16.sl] at c0 c1 c2' c3
      obtain ⟨kl, hkl⟩ : ∃ x, l.length = x := ⟨_, rfl⟩
      have HKL := hid hkl
      rw [hkl] at c3
      have HGOOD := hid (fun (y : World) (hb : Below w.heap.size w y) => show By y Z (.slice Bq kl bc) l from hkl ▸ hgood.at_ hb Z hzo)
      dsimp only at hlen
      have HLEN := hid (show kl ≤ 100 from by omega)
      obtain ⟨ra, hra⟩ : ∃ g, wr.heap.size = g := ⟨_, rfl⟩
      obtain ⟨W, hW⟩ : ∃ W, wr.alloc (.cells #[.int .i64 κ, .int .i64 lv1, .int .i64 b, .slice Bq kl bc] 40) = W := ⟨_, rfl⟩
      have BW : Below wr.heap.size wr W := by rw [← hW]; exact below_alloc _ _
      have HXW := hid (show Bx W ra 40 #[.int .i64 κ, .int .i64 lv1, .int .i64 b, .slice Bq kl bc] from by rw [← hW, ← hra]; exact Bx.new _ _ _)
      have HBW := hid (hbo.below BW)
      have HBL := hid (hbl.trans (BW.mono hbl.size))
      have HXR := hid (hbx.next BW)
      have HZO := hid hzo
      have HZR := hid hzr
      have HWW := hid hW
      have HGG := hid hra
      have HRX := hid (show (¬ Z ra) ∧ r0 ≠ ra from ⟨fun hx => by have := hbo.cm.lt _ hx; omega, by have := hbx.lt; omega⟩)
      clear BW hf hW hra hgood hkl hlen hbo hbl hbx hzo hzr
      go_upto_region 12 with fail
      rw [HGG.out, HWW.out]
      clear c0 c1 c2' c3 HGG HWW alt
      have x0 : W.cell? ⟨ra, 0, none⟩ = some (.int .i64 κ) := HXW.out.cell 0
      by_cases h4 : κ = 4
      · have d4 : (κ == 4) = true := by rw [h4]; rfl
        have HCL := hid (cm_clear HBW.out.cm)
        clear h4
        go_upto_region 14 with (go_at_call 13; refine HCL.out.mono ?_; rintro e w3 ⟨rfl, v3, F3, hcm, hF, hch⟩; have HC3 := hid hcm; have HF3 := hid hF; have HH3 := hid hch; clear hcm hF hch)
        clear x0
        have hz3 : ∀ j, (j = G ∨ j = M) → Z j := fun j hj => hj.elim (fun e => e ▸ HBW.out.cm.xG) fun e => e ▸ HBW.out.cm.xM
        have HX3 := hid (HH3.out.bx HXW.out fun hf => HRX.out.1 (hz3 ra hf))
        have HXR3 := hid (HH3.out.bx HXR.out fun hf => HZR.out (hz3 r0 hf))
        have HBL3 := hid (HBL.out.trans (HH3.out.bel HBL.out.size fun j hj => HZO.out j (hz3 j hj)))
        have HRN := hid (HNR.out w3 (fun j => Z j ∨ F3 j) (HRV.out _ HBL3.out) HC3.out.lt)
        go_upto_region 17 with (first
          | (go_at_call 12; refine HRN.out.mono ?_; rintro e V7 ⟨g7, d7, A7, cp7, lv7, mv7, pv7, cv7, us7, Y7, rfl, hb, ho, hrc⟩; have HN7 := hid hb; have HO7 := hid ho; have HR7 := hid hrc; clear hb ho hrc)
          | (refine wpList_load_bx rfl 25 (.tmp 3) rfl r0 _ _ _ rfl HXR3.out Tryz.underlying25 rfl (by kernel_rfl) ?_))
        have hown : ∀ j, Own16 F3 G M j → j < w3.heap.size := fun j hj => HC3.out.lt j (hj.elim (HC3.out.fx j) fun e => e.elim (fun e => e ▸ HC3.out.xG) fun e => e ▸ HC3.out.xM)
        obtain ⟨o7, ho7⟩ : ∃ x, Ob.new c hh n T = x := ⟨_, rfl⟩
        have hal : ∀ x, x ∈ o7.all → False := fun x hx => by rw [← ho7, Ob.new_all] at hx; cases hx
        have hc7 := ((HC3.out.more HN7.out (Y := fun j => (Z j ∨ F3 j) ∨ Y7 j ∨ j = g7 ∨ j = d7) (fun j hj => .inl hj) fun j hj => hj.imp id fun h => HO7.out j h).up (Nat.zero_le (p + 1)))
        have hr7 := HR7.out
        rw [ho7] at hc7 hr7
        have HB7 := hid (show Bo16 V7 (fun j => (Z j ∨ F3 j) ∨ Y7 j ∨ j = g7 ∨ j = d7) G M F3 c A5 n cp hh T v3 o7 D (p + 1) Y7 g7 d7 A7 cp7 lv7 mv7 pv7 cv7 us7 (fun _ => []) from ⟨hc7, hr7, fun j hj hk => (by have := hown j hj; have := (HO7.out j hk).1; omega), fun x hx => (hal x hx).elim, fun x hx => (hal x hx).elim⟩)
        have HX7 := hid (HX3.out.next HN7.out)
        have HXR7 := hid (HXR3.out.next HN7.out)
        have HBL7 := hid (HBL3.out.trans (HN7.out.mono HBL3.out.size))
        have HZO7 := hid (show ∀ j, ((Z j ∨ F3 j) ∨ Y7 j ∨ j = g7 ∨ j = d7) → w.heap.size ≤ j from fun j hj => by
          rcases hj with (hj | hj) | hj
          · exact HZO.out j hj
          · exact Nat.le_trans HBL.out.size (HF3.out j hj).1
          · exact Nat.le_trans HBL3.out.size (HO7.out j hj).1)
        have HZR7 := hid (show ¬ ((Z r0 ∨ F3 r0) ∨ Y7 r0 ∨ r0 = g7 ∨ r0 = d7) from fun hj => by
          rcases hj with (hj | hj) | hj
          · exact HZR.out hj
          · have := (HF3.out _ hj).1; have := HXR.out.lt; omega
          · have := (HO7.out _ hj).1; have := HXR3.out.lt; omega)
        clear hz3 hown hal hc7 hr7 ho7 HZO HZR
        have HZO := HZO7
        have HZR := HZR7
        clear HZO7 HZR7
        have HOK := hid (HB7.out.rok (by omega))
        obtain ⟨tv, htv⟩ : ∃ t, (decide (0 ≤ b ∧ b < c 2) && o7.takes (c 5) T b lv1) = t := ⟨_, rfl⟩
        have HTV := hid htv
        obtain ⟨V8, hV8⟩ : ∃ x, V7.drew = x := ⟨_, rfl⟩
        have HE8 := hid hV8
        have hb8 : Below V7.heap.size V7 V8 := hV8 ▸ below_draws (Below.refl _ _) 1
        have HB8 := hid hb8
        have H8 := hid (HB7.out.below hb8)
        have X8 := hid (HX7.out.next hb8)
        clear hV8 hb8 htv
        refine wp_region_noPanic ?_
        refine wp_region_held_drew (S := fun w' => w'.cell? ⟨ra, 2, none⟩ = some (.int .i64 b) ∧ w'.cell? ⟨ra, 1, none⟩ = some (.int .i64 lv1)) (by kernel_rfl) ?_ (fun hHeld => ?_)
        · rw [HE8.out]; exact ⟨X8.out.cell 2, X8.out.cell 1⟩
        refine tkv 0 (some 62) rfl ?_
        refine tkv 2 (some 64) rfl ?_
        refine tkc 1 (some 63) rfl fun K hK => ?_
        rw [HE8.out]
        go_simp
        refine (cm_all H8.out.cm).mono ?_
        rintro e V101 ht
        obtain ⟨B101, b101, rfl, hr101, hl101, hm101, -, hb101⟩ := told_all ht H8.out.cm.lt
        have HR101 := hid (And.intro hr101 (And.intro hl101 hm101))
        clear ht hr101 hl101 hm101
        have HB101 := hid hb101
        have H101 := hid (H8.out.below hb101)
        have X101 := hid (X8.out.next hb101)
        have kp101 := And.intro (X101.out.cell 2) (X101.out.cell 1)
        clear hb101
        go_simp
        refine hK.out _ _ kp101 (fun hHeld => ?_)
        clear hK K
        (try simp only [Act.put, tkA, tk0, tk1])
        refine tkc 3 (some 65) rfl fun K hK => ?_
        go_simp
        refine (rc_all H101.out.rc HOK.out.ok).mono ?_
        rintro e V103 ht
        obtain ⟨B103, b103, rfl, hr103, hl103, hm103, -, hb103⟩ := ht
        have HR103 := hid (And.intro hr103 (And.intro hl103 hm103))
        clear hr103 hl103 hm103
        have HB103 := hid hb103
        have H103 := hid (H101.out.below hb103)
        have X103 := hid (X101.out.next hb103)
        have kp103 := And.intro (X103.out.cell 2) (X103.out.cell 1)
        clear hb103
        go_simp
        refine hK.out _ _ kp103 (fun hHeld => ?_)
        clear hK K
        (try simp only [Act.put, tkA, tk0, tk1])
        refine tkc 4 (some 66) rfl fun K hK => ?_
        go_simp
        refine (sameints_yes B101 B103 _ _ b101 b103 o7.all _ _ _ rfl rfl (by have := HR101.out.2.1; have := HR101.out.2.2; omega) (HR101.out.1.below HB103.out).rd HR103.out.1.rd).mono ?_
        rintro e V104 ⟨rfl, k104, rfl⟩
        have hb104 : Below V103.heap.size V103 (V103.drewN k104) := below_draws (Below.refl _ _) k104
        obtain ⟨V104, hV104⟩ : ∃ x, V103.drewN k104 = x := ⟨_, rfl⟩
        rw [hV104] at hb104 ⊢
        clear hV104
        have HB104 := hid hb104
        have H104 := hid (H103.out.below hb104)
        have X104 := hid (X103.out.next hb104)
        have kp104 := And.intro (X104.out.cell 2) (X104.out.cell 1)
        clear hb104
        go_simp
        refine hK.out _ _ kp104 (fun hHeld => ?_)
        clear hK K
        (try simp only [Act.put, tkA, tk0, tk1])
        refine tkv 5 (some 67) rfl ?_
        refine tkv 6 (some 68) rfl ?_
        refine tkv 7 (some 69) rfl ?_
        refine tkv 9 (some 71) rfl ?_
        refine tkc 8 (some 70) rfl fun K hK => ?_
        go_simp
        refine (cm_len H104.out.cm).mono ?_
        rintro e V108 ⟨rfl, hb108⟩
        have HB108 := hid hb108
        have H108 := hid (H104.out.below hb108)
        have X108 := hid (X104.out.next hb108)
        have kp108 := And.intro (X108.out.cell 2) (X108.out.cell 1)
        clear hb108
        go_simp
        refine hK.out _ _ kp108 (fun hHeld => ?_)
        clear hK K
        (try simp only [Act.put, tkA, tk0, tk1])
        refine tkc 10 (some 72) rfl fun K hK => ?_
        go_simp
        refine (rc_all H108.out.rc HOK.out.ok).mono ?_
        rintro e V110 ht
        obtain ⟨B110, b110, rfl, hr110, hl110, hm110, -, hb110⟩ := ht
        have HR110 := hid (And.intro hr110 (And.intro hl110 hm110))
        clear hr110 hl110 hm110
        have HB110 := hid hb110
        have H110 := hid (H108.out.below hb110)
        have X110 := hid (X108.out.next hb110)
        have kp110 := And.intro (X110.out.cell 2) (X110.out.cell 1)
        clear hb110
        go_simp
        refine hK.out _ _ kp110 (fun hHeld => ?_)
        clear hK K
        (try simp only [Act.put, tkA, tk0, tk1])
        refine tkv 11 (some 73) rfl ?_
        refine tkv 12 (some 74) rfl ?_
        refine tkv 13 (some 75) rfl ?_
        refine tkv 14 (some 76) rfl ?_
        refine tkv 15 (some 77) rfl ?_
        refine tkv 16 (some 78) rfl ?_
        refine tkv 17 (some 79) rfl ?_
        refine tkv 18 (some 80) rfl ?_
        refine tkv 20 (some 82) rfl ?_
        refine tkv 21 (some 83) rfl ?_
        refine tkv 22 (some 84) rfl ?_
        refine tkv 23 (some 85) rfl ?_
        refine tkc 19 (some 81) rfl fun K hK => ?_
        go_simp
        refine (cm_has H110.out.cm b).mono ?_
        rintro e V119 ⟨rfl, hw119⟩
        subst hw119
        obtain ⟨V119, hV119⟩ : ∃ x, V110 = x := ⟨_, rfl⟩
        have hb119 : Below V110.heap.size V110 V119 := hV119 ▸ Below.refl _ _
        rw [hV119]
        clear hV119
        have HB119 := hid hb119
        have H119 := hid (H110.out.below hb119)
        have X119 := hid (X110.out.next hb119)
        have kp119 := And.intro (X119.out.cell 2) (X119.out.cell 1)
        clear hb119
        go_simp
        refine hK.out _ _ kp119 (fun hHeld => ?_)
        clear hK K
        (try simp only [Act.put, tkA, tk0, tk1])
        refine tkc 24 (some 86) rfl fun K hK => ?_
        go_simp
        refine (rc_has H119.out.rc HOK.out.ok b).mono ?_
        rintro e V124 ⟨rfl, hb124⟩
        have HB124 := hid hb124
        have H124 := hid (H119.out.below hb124)
        have X124 := hid (X119.out.next hb124)
        have kp124 := And.intro (X124.out.cell 2) (X124.out.cell 1)
        clear hb124
        go_simp
        refine hK.out _ _ kp124 (fun hHeld => ?_)
        clear hK K
        (try simp only [Act.put, tkA, tk0, tk1])
        refine tkv 25 (some 87) rfl ?_
        refine tkv 26 (some 88) rfl ?_
        refine tkv 27 (some 89) rfl ?_
        refine tkv 28 (some 90) rfl ?_
        refine tkv 29 (some 91) rfl ?_
        refine tkv 30 (some 92) rfl ?_
        refine tkv 31 (some 93) rfl ?_
        refine tkv 32 (some 94) rfl ?_
        refine tkv 33 (some 95) rfl ?_
        refine tkv 35 (some 97) rfl ?_
        refine tkv 36 (some 98) rfl ?_
        refine tkv 37 (some 99) rfl ?_
        refine tkv 38 (some 100) rfl ?_
        refine tkv 39 (some 101) rfl ?_
        refine tkv 40 (some 102) rfl ?_
        refine tkc 34 (some 96) rfl fun K hK => ?_
        go_simp
        have ht34 := cm_Takes H124.out.cm b lv1
        rw [HTV.out] at ht34
        refine (ht34).mono ?_
        rintro e V134 ⟨rfl, hb134⟩
        clear ht34
        have HB134 := hid hb134
        have H134 := hid (H124.out.below hb134)
        have X134 := hid (X124.out.next hb134)
        have kp134 := And.intro (X134.out.cell 2) (X134.out.cell 1)
        clear hb134
        go_simp
        refine hK.out _ _ kp134 (fun hHeld => ?_)
        clear hK K
        (try simp only [Act.put, tkA, tk0, tk1])
        refine tkc 41 (some 103) rfl fun K hK => ?_
        go_simp
        have ht41 := rc_takes (b := b) (lev := lv1) H134.out.rc HOK.out
        rw [HTV.out] at ht41
        refine (ht41).mono ?_
        rintro e V141 ⟨rfl, hb141⟩
        clear ht41
        have HB141 := hid hb141
        have H141 := hid (H134.out.below hb141)
        have X141 := hid (X134.out.next hb141)
        have kp141 := And.intro (X141.out.cell 2) (X141.out.cell 1)
        clear hb141
        go_simp
        refine hK.out _ _ kp141 (fun hHeld => ?_)
        clear hK K
        (try simp only [Act.put, tkA, tk0, tk1])
        refine tkv 42 (some 104) rfl ?_
        refine tkv 43 (some 105) rfl ?_
        refine wpAnyH_done (by kernel_rfl) ?_ _
        refine NoPanic.normal ?_
        clear kp101 kp103 kp104 kp108 kp110 kp119 kp124 kp134 kp141
        have HBV := hid (on (on HB8.out HB101.out) (on HB103.out (on HB104.out (on HB108.out (on HB110.out (on HB119.out (on HB124.out (on HB134.out HB141.out))))))))
        go_wp2
        go_roundg (gk - 1)
        case measure => omega
        case rel => exact ⟨p + 1, _, by omega, rfl, by go_num, _, _, _, _, _, _, _, _, _, _, _, _, _, _, _, _, _, _, H141.out, HBL7.out.trans (HBV.out.mono HBL7.out.size), HXR7.out.next HBV.out, HZO.out, HZR.out⟩
      · have d4 : (κ == 4) = false := by simpa using h4
        have HDO := hid (do_any (κ := κ) (lev := lv1) (b := b) HBW.out (by omega) (HGOOD.out W HBL.out) HLEN.out)
        clear h4
        go_upto_region 17 with (first
          | (go_at_call 14; refine HDO.out.mono ?_; rintro e V7 ⟨rfl, o7, D7, lv7, us7, E7, hbo7, hch7⟩; have HB7 := hid hbo7; have HH7 := hid hch7; clear hbo7 hch7)
          | (refine wpList_load_bx rfl 40 (.tmp 11) rfl ra _ _ _ rfl HXW.out Tryz.underlying40 rfl (by kernel_rfl) ?_))
        clear x0
        have HX7 := hid (HH7.out.bx HXW.out HRX.out.1)
        have HXR7 := hid (HH7.out.bx HXR.out HZR.out)
        have HBL7 := hid (HBL.out.trans (HH7.out.bel HBL.out.size HZO.out))
        have HOK := hid (HB7.out.rok (by omega))
        obtain ⟨tv, htv⟩ : ∃ t, (decide (0 ≤ b ∧ b < c 2) && o7.takes (c 5) T b lv1) = t := ⟨_, rfl⟩
        have HTV := hid htv
        obtain ⟨V8, hV8⟩ : ∃ x, V7.drew = x := ⟨_, rfl⟩
        have HE8 := hid hV8
        have hb8 : Below V7.heap.size V7 V8 := hV8 ▸ below_draws (Below.refl _ _) 1
        have HB8 := hid hb8
        have H8 := hid (HB7.out.below hb8)
        have X8 := hid (HX7.out.next hb8)
        clear hV8 hb8 htv
        refine wp_region_noPanic ?_
        refine wp_region_held_drew (S := fun w' => w'.cell? ⟨ra, 2, none⟩ = some (.int .i64 b) ∧ w'.cell? ⟨ra, 1, none⟩ = some (.int .i64 lv1)) (by kernel_rfl) ?_ (fun hHeld => ?_)
        · rw [HE8.out]; exact ⟨X8.out.cell 2, X8.out.cell 1⟩
        refine tkv 0 (some 62) rfl ?_
        refine tkv 2 (some 64) rfl ?_
        refine tkc 1 (some 63) rfl fun K hK => ?_
        rw [HE8.out]
        go_simp
        refine (cm_all H8.out.cm).mono ?_
        rintro e V101 ht
        obtain ⟨B101, b101, rfl, hr101, hl101, hm101, -, hb101⟩ := told_all ht H8.out.cm.lt
        have HR101 := hid (And.intro hr101 (And.intro hl101 hm101))
        clear ht hr101 hl101 hm101
        have HB101 := hid hb101
        have H101 := hid (H8.out.below hb101)
        have X101 := hid (X8.out.next hb101)
        have kp101 := And.intro (X101.out.cell 2) (X101.out.cell 1)
        clear hb101
        go_simp
        refine hK.out _ _ kp101 (fun hHeld => ?_)
        clear hK K
        (try simp only [Act.put, tkA, tk0, tk1])
        refine tkc 3 (some 65) rfl fun K hK => ?_
        go_simp
        refine (rc_all H101.out.rc HOK.out.ok).mono ?_
        rintro e V103 ht
        obtain ⟨B103, b103, rfl, hr103, hl103, hm103, -, hb103⟩ := ht
        have HR103 := hid (And.intro hr103 (And.intro hl103 hm103))
        clear hr103 hl103 hm103
        have HB103 := hid hb103
        have H103 := hid (H101.out.below hb103)
        have X103 := hid (X101.out.next hb103)
        have kp103 := And.intro (X103.out.cell 2) (X103.out.cell 1)
        clear hb103
        go_simp
        refine hK.out _ _ kp103 (fun hHeld => ?_)
        clear hK K
        (try simp only [Act.put, tkA, tk0, tk1])
        refine tkc 4 (some 66) rfl fun K hK => ?_
        go_simp
        refine (sameints_yes B101 B103 _ _ b101 b103 o7.all _ _ _ rfl rfl (by have := HR101.out.2.1; have := HR101.out.2.2; omega) (HR101.out.1.below HB103.out).rd HR103.out.1.rd).mono ?_
        rintro e V104 ⟨rfl, k104, rfl⟩
        have hb104 : Below V103.heap.size V103 (V103.drewN k104) := below_draws (Below.refl _ _) k104
        obtain ⟨V104, hV104⟩ : ∃ x, V103.drewN k104 = x := ⟨_, rfl⟩
        rw [hV104] at hb104 ⊢
        clear hV104
        have HB104 := hid hb104
        have H104 := hid (H103.out.below hb104)
        have X104 := hid (X103.out.next hb104)
        have kp104 := And.intro (X104.out.cell 2) (X104.out.cell 1)
        clear hb104
        go_simp
        refine hK.out _ _ kp104 (fun hHeld => ?_)
        clear hK K
        (try simp only [Act.put, tkA, tk0, tk1])
        refine tkv 5 (some 67) rfl ?_
        refine tkv 6 (some 68) rfl ?_
        refine tkv 7 (some 69) rfl ?_
        refine tkv 9 (some 71) rfl ?_
        refine tkc 8 (some 70) rfl fun K hK => ?_
        go_simp
        refine (cm_len H104.out.cm).mono ?_
        rintro e V108 ⟨rfl, hb108⟩
        have HB108 := hid hb108
        have H108 := hid (H104.out.below hb108)
        have X108 := hid (X104.out.next hb108)
        have kp108 := And.intro (X108.out.cell 2) (X108.out.cell 1)
        clear hb108
        go_simp
        refine hK.out _ _ kp108 (fun hHeld => ?_)
        clear hK K
        (try simp only [Act.put, tkA, tk0, tk1])
        refine tkc 10 (some 72) rfl fun K hK => ?_
        go_simp
        refine (rc_all H108.out.rc HOK.out.ok).mono ?_
        rintro e V110 ht
        obtain ⟨B110, b110, rfl, hr110, hl110, hm110, -, hb110⟩ := ht
        have HR110 := hid (And.intro hr110 (And.intro hl110 hm110))
        clear hr110 hl110 hm110
        have HB110 := hid hb110
        have H110 := hid (H108.out.below hb110)
        have X110 := hid (X108.out.next hb110)
        have kp110 := And.intro (X110.out.cell 2) (X110.out.cell 1)
        clear hb110
        go_simp
        refine hK.out _ _ kp110 (fun hHeld => ?_)
        clear hK K
        (try simp only [Act.put, tkA, tk0, tk1])
        refine tkv 11 (some 73) rfl ?_
        refine tkv 12 (some 74) rfl ?_
        refine tkv 13 (some 75) rfl ?_
        refine tkv 14 (some 76) rfl ?_
        refine tkv 15 (some 77) rfl ?_
        refine tkv 16 (some 78) rfl ?_
        refine tkv 17 (some 79) rfl ?_
        refine tkv 18 (some 80) rfl ?_
        refine tkv 20 (some 82) rfl ?_
        refine tkv 21 (some 83) rfl ?_
        refine tkv 22 (some 84) rfl ?_
        refine tkv 23 (some 85) rfl ?_
        refine tkc 19 (some 81) rfl fun K hK => ?_
        go_simp
        refine (cm_has H110.out.cm b).mono ?_
        rintro e V119 ⟨rfl, hw119⟩
        subst hw119
        obtain ⟨V119, hV119⟩ : ∃ x, V110 = x := ⟨_, rfl⟩
        have hb119 : Below V110.heap.size V110 V119 := hV119 ▸ Below.refl _ _
        rw [hV119]
        clear hV119
        have HB119 := hid hb119
        have H119 := hid (H110.out.below hb119)
        have X119 := hid (X110.out.next hb119)
        have kp119 := And.intro (X119.out.cell 2) (X119.out.cell 1)
        clear hb119
        go_simp
        refine hK.out _ _ kp119 (fun hHeld => ?_)
        clear hK K
        (try simp only [Act.put, tkA, tk0, tk1])
        refine tkc 24 (some 86) rfl fun K hK => ?_
        go_simp
        refine (rc_has H119.out.rc HOK.out.ok b).mono ?_
        rintro e V124 ⟨rfl, hb124⟩
        have HB124 := hid hb124
        have H124 := hid (H119.out.below hb124)
        have X124 := hid (X119.out.next hb124)
        have kp124 := And.intro (X124.out.cell 2) (X124.out.cell 1)
        clear hb124
        go_simp
        refine hK.out _ _ kp124 (fun hHeld => ?_)
        clear hK K
        (try simp only [Act.put, tkA, tk0, tk1])
        refine tkv 25 (some 87) rfl ?_
        refine tkv 26 (some 88) rfl ?_
        refine tkv 27 (some 89) rfl ?_
        refine tkv 28 (some 90) rfl ?_
        refine tkv 29 (some 91) rfl ?_
        refine tkv 30 (some 92) rfl ?_
        refine tkv 31 (some 93) rfl ?_
        refine tkv 32 (some 94) rfl ?_
        refine tkv 33 (some 95) rfl ?_
        refine tkv 35 (some 97) rfl ?_
        refine tkv 36 (some 98) rfl ?_
        refine tkv 37 (some 99) rfl ?_
        refine tkv 38 (some 100) rfl ?_
        refine tkv 39 (some 101) rfl ?_
        refine tkv 40 (some 102) rfl ?_
        refine tkc 34 (some 96) rfl fun K hK => ?_
        go_simp
        have ht34 := cm_Takes H124.out.cm b lv1
        rw [HTV.out] at ht34
        refine (ht34).mono ?_
        rintro e V134 ⟨rfl, hb134⟩
        clear ht34
        have HB134 := hid hb134
        have H134 := hid (H124.out.below hb134)
        have X134 := hid (X124.out.next hb134)
        have kp134 := And.intro (X134.out.cell 2) (X134.out.cell 1)
        clear hb134
        go_simp
        refine hK.out _ _ kp134 (fun hHeld => ?_)
        clear hK K
        (try simp only [Act.put, tkA, tk0, tk1])
        refine tkc 41 (some 103) rfl fun K hK => ?_
        go_simp
        have ht41 := rc_takes (b := b) (lev := lv1) H134.out.rc HOK.out
        rw [HTV.out] at ht41
        refine (ht41).mono ?_
        rintro e V141 ⟨rfl, hb141⟩
        clear ht41
        have HB141 := hid hb141
        have H141 := hid (H134.out.below hb141)
        have X141 := hid (X134.out.next hb141)
        have kp141 := And.intro (X141.out.cell 2) (X141.out.cell 1)
        clear hb141
        go_simp
        refine hK.out _ _ kp141 (fun hHeld => ?_)
        clear hK K
        (try simp only [Act.put, tkA, tk0, tk1])
        refine tkv 42 (some 104) rfl ?_
        refine tkv 43 (some 105) rfl ?_
        refine wpAnyH_done (by kernel_rfl) ?_ _
        refine NoPanic.normal ?_
        clear kp101 kp103 kp104 kp108 kp110 kp119 kp124 kp134 kp141
        have HBV := hid (on (on HB8.out HB101.out) (on HB103.out (on HB104.out (on HB108.out (on HB110.out (on HB119.out (on HB124.out (on HB134.out HB141.out))))))))
        go_wp2
        go_roundg (gk - 1)
        case measure => omega
        case rel => exact ⟨p + 1, _, by omega, rfl, by go_num, _, _, _, _, _, _, _, _, _, _, _, _, _, _, _, _, _, _, H141.out, HBL7.out.trans (HBV.out.mono HBL7.out.size), HXR7.out.next HBV.out, HZO.out, HZR.out⟩
    · obtain rfl : p = m := by omega
      obtain ⟨Z, M, F, A5, cp, v, o, D, Y, d, A6, cp6, lv, mv, pv, cv, us, E, hbo, hbl, -⟩ := hi
      have HBL := hid hbl
      have h1 : ¬ (p : Int) < (p : Int) := by omega
      clear hbo hbl
      go_wp2
      go_ret
      exact ⟨rfl, HBL.out⟩
set_option maxRecDepth 20000 in
set_option maxHeartbeats 1000000 in
theorem acts16_wrong {c : Nat → Int} {A A2 : Option Addr} {n cq m c2 : Nat} {hh : Nat → Hn} {f : Nat → A16} {w : World} {τ : Int} (hr : Rv w w.heap.size A (hvs hh n)) (hn : n ≤ maxLen) (hm : m ≤ maxLen) (hac : ActsC w A2 m f) (hg : ∀ i, i < m → (f i).Good w) (rt : ¬ RightP c hh n) :
    Calls Tryz.prog 3 #[.agg (cfgC c A n cq), .int .i64 τ, .slice A2 m c2] w fun e w' => e = .returned (.bool true) ∧ Below w.heap.size w w' := by
  have hnot : ¬ (RightP c hh n ∧ 1 ≤ τ ∧ τ ≤ 3) := by exact fun h => rt h.1
  have HNW := hid (fun w (h : Rv w w.heap.size A (hvs hh n)) => cm_new_no (cq := cq) (τ := τ) h hn hnot)
  have HRI := hid (fun w (h : Rv w w.heap.size A (hvs hh n)) => rright_any A n cq c hh w hn h)
  rw [dec_false rt] at HRI
  have hb0 := below_alloc w (.cells (cfgC c A n cq) 25)
  have HX0 := hid (Bx.new w 25 (cfgC c A n cq))
  have HB0 := hid hb0
  have HRV := hid (fun (y : World) (hb : Below w.heap.size w y) => (hr.below hb (Nat.le_refl _)).more hb.size)
  have HLO := hid (fun (y : World) (hb : Below w.heap.size w y) => long16 (c := c) (A := A) (n := n) (cq := cq) (c2 := c2) hm (hac.below hb) fun i hi => (hg i hi).below hb)
  clear hr hb0 hn hac hg hm hnot
  go_enter Tryz.func3, Tryz.ntmps3
  go_upto_region 1 with fail
  obtain ⟨W0, hW0⟩ : ∃ x, w.alloc (.cells (cfgC c A n cq) 25) = x := ⟨_, rfl⟩
  obtain ⟨r0, hr0⟩ : ∃ x, w.heap.size = x := ⟨_, rfl⟩
  rw [hW0] at HB0 HX0 ⊢
  rw [hr0] at HX0 ⊢
  clear hW0 hr0
  go_upto_region 3 with (go_at_call 8; refine (wakes16 _).mono ?_; rintro e w1 ⟨rfl, hb⟩; have HB1 := hid (on HB0.out hb); have HX1 := hid (HX0.out.next hb); clear hb)
  go_wp2_with (refine wpList_load_bxg (by rfl) 25 (.tmp 3) rfl r0 _ _ _ rfl HX1.out Tryz.underlying25 rfl (by kernel_rfl) ?_)
  refine (HLO.out _ HB1.out).mono ?_
  rintro e w2 ⟨bl, rfl, hb, hl⟩
  have HB2 := hid (on HB1.out hb)
  have HX2 := hid (HX1.out.next hb)
  clear hb hl
  cases bl with
  | true =>
    go_wp2
    go_ret
    exact ⟨rfl, HB2.out⟩
  | false =>
  have HNC := hid (HNW.out _ (HRV.out _ HB2.out))
  go_upto_region 6 with (first
    | (go_at_call 10; refine HNC.out.mono ?_; rintro e w3 ⟨rfl, hb⟩; have HB3 := hid (on HB2.out hb); have HX3 := hid (HX2.out.next hb); clear hb)
    | (refine wpList_load_bx rfl 25 (.tmp 3) rfl r0 _ _ _ rfl HX2.out Tryz.underlying25 rfl (by kernel_rfl) ?_))
  have HRC := hid (HRI.out _ (HRV.out _ HB3.out))
  go_wp2_with (first
    | (go_at_call 11; refine HRC.out.mono ?_; rintro e w4 ⟨rfl, hb⟩; have HB4 := hid (on HB3.out hb); clear hb)
    | (refine wpList_load_bx rfl 25 (.tmp 3) rfl r0 _ _ _ rfl HX3.out Tryz.underlying25 rfl (by kernel_rfl) ?_))
  go_ret
  exact ⟨rfl, HB4.out⟩
set_option maxRecDepth 20000 in
set_option maxHeartbeats 1000000 in
theorem acts16_low {c : Nat → Int} {A A2 : Option Addr} {n cq m c2 : Nat} {hh : Nat → Hn} {f : Nat → A16} {w : World} {τ : Int} (hr : Rv w w.heap.size A (hvs hh n)) (hn : n ≤ maxLen) (hm : m ≤ maxLen) (hac : ActsC w A2 m f) (hg : ∀ i, i < m → (f i).Good w) (rt : RightP c hh n) (ht : τ < 1) :
    Calls Tryz.prog 3 #[.agg (cfgC c A n cq), .int .i64 τ, .slice A2 m c2] w fun e w' => e = .returned (.bool true) ∧ Below w.heap.size w w' := by
  have hnot : ¬ (RightP c hh n ∧ 1 ≤ τ ∧ τ ≤ 3) := by omega
  have HNW := hid (fun w (h : Rv w w.heap.size A (hvs hh n)) => cm_new_no (cq := cq) (τ := τ) h hn hnot)
  have HRI := hid (fun w (h : Rv w w.heap.size A (hvs hh n)) => rright_any A n cq c hh w hn h)
  rw [dec_true rt] at HRI
  have d1 : decide (τ < 1) = true := decide_eq_true ht
  have hb0 := below_alloc w (.cells (cfgC c A n cq) 25)
  have HX0 := hid (Bx.new w 25 (cfgC c A n cq))
  have HB0 := hid hb0
  have HRV := hid (fun (y : World) (hb : Below w.heap.size w y) => (hr.below hb (Nat.le_refl _)).more hb.size)
  have HLO := hid (fun (y : World) (hb : Below w.heap.size w y) => long16 (c := c) (A := A) (n := n) (cq := cq) (c2 := c2) hm (hac.below hb) fun i hi => (hg i hi).below hb)
  clear hr hb0 hn hac hg hm hnot
  go_enter Tryz.func3, Tryz.ntmps3
  go_upto_region 1 with fail
  obtain ⟨W0, hW0⟩ : ∃ x, w.alloc (.cells (cfgC c A n cq) 25) = x := ⟨_, rfl⟩
  obtain ⟨r0, hr0⟩ : ∃ x, w.heap.size = x := ⟨_, rfl⟩
  rw [hW0] at HB0 HX0 ⊢
  rw [hr0] at HX0 ⊢
  clear hW0 hr0
  go_upto_region 3 with (go_at_call 8; refine (wakes16 _).mono ?_; rintro e w1 ⟨rfl, hb⟩; have HB1 := hid (on HB0.out hb); have HX1 := hid (HX0.out.next hb); clear hb)
  go_wp2_with (refine wpList_load_bxg (by rfl) 25 (.tmp 3) rfl r0 _ _ _ rfl HX1.out Tryz.underlying25 rfl (by kernel_rfl) ?_)
  refine (HLO.out _ HB1.out).mono ?_
  rintro e w2 ⟨bl, rfl, hb, hl⟩
  have HB2 := hid (on HB1.out hb)
  have HX2 := hid (HX1.out.next hb)
  clear hb hl
  cases bl with
  | true =>
    go_wp2
    go_ret
    exact ⟨rfl, HB2.out⟩
  | false =>
  have HNC := hid (HNW.out _ (HRV.out _ HB2.out))
  go_upto_region 6 with (first
    | (go_at_call 10; refine HNC.out.mono ?_; rintro e w3 ⟨rfl, hb⟩; have HB3 := hid (on HB2.out hb); have HX3 := hid (HX2.out.next hb); clear hb)
    | (refine wpList_load_bx rfl 25 (.tmp 3) rfl r0 _ _ _ rfl HX2.out Tryz.underlying25 rfl (by kernel_rfl) ?_))
  have HRC := hid (HRI.out _ (HRV.out _ HB3.out))
  go_wp2_with (first
    | (go_at_call 11; refine HRC.out.mono ?_; rintro e w4 ⟨rfl, hb⟩; have HB4 := hid (on HB3.out hb); clear hb)
    | (refine wpList_load_bx rfl 25 (.tmp 3) rfl r0 _ _ _ rfl HX3.out Tryz.underlying25 rfl (by kernel_rfl) ?_))
  go_ret
  exact ⟨rfl, HB4.out⟩
set_option maxRecDepth 20000 in
set_option maxHeartbeats 1000000 in
theorem acts16_high {c : Nat → Int} {A A2 : Option Addr} {n cq m c2 : Nat} {hh : Nat → Hn} {f : Nat → A16} {w : World} {τ : Int} (hr : Rv w w.heap.size A (hvs hh n)) (hn : n ≤ maxLen) (hm : m ≤ maxLen) (hac : ActsC w A2 m f) (hg : ∀ i, i < m → (f i).Good w) (rt : RightP c hh n) (h1 : ¬ τ < 1) (ht : 3 < τ) :
    Calls Tryz.prog 3 #[.agg (cfgC c A n cq), .int .i64 τ, .slice A2 m c2] w fun e w' => e = .returned (.bool true) ∧ Below w.heap.size w w' := by
  have hnot : ¬ (RightP c hh n ∧ 1 ≤ τ ∧ τ ≤ 3) := by omega
  have HNW := hid (fun w (h : Rv w w.heap.size A (hvs hh n)) => cm_new_no (cq := cq) (τ := τ) h hn hnot)
  have HRI := hid (fun w (h : Rv w w.heap.size A (hvs hh n)) => rright_any A n cq c hh w hn h)
  rw [dec_true rt] at HRI
  have d1 : decide (τ < 1) = false := decide_eq_false h1
  have d3 : decide (3 < τ) = true := decide_eq_true ht
  have hb0 := below_alloc w (.cells (cfgC c A n cq) 25)
  have HX0 := hid (Bx.new w 25 (cfgC c A n cq))
  have HB0 := hid hb0
  have HRV := hid (fun (y : World) (hb : Below w.heap.size w y) => (hr.below hb (Nat.le_refl _)).more hb.size)
  have HLO := hid (fun (y : World) (hb : Below w.heap.size w y) => long16 (c := c) (A := A) (n := n) (cq := cq) (c2 := c2) hm (hac.below hb) fun i hi => (hg i hi).below hb)
  clear hr hb0 hn hac hg hm hnot
  go_enter Tryz.func3, Tryz.ntmps3
  go_upto_region 1 with fail
  obtain ⟨W0, hW0⟩ : ∃ x, w.alloc (.cells (cfgC c A n cq) 25) = x := ⟨_, rfl⟩
  obtain ⟨r0, hr0⟩ : ∃ x, w.heap.size = x := ⟨_, rfl⟩
  rw [hW0] at HB0 HX0 ⊢
  rw [hr0] at HX0 ⊢
  clear hW0 hr0
  go_upto_region 3 with (go_at_call 8; refine (wakes16 _).mono ?_; rintro e w1 ⟨rfl, hb⟩; have HB1 := hid (on HB0.out hb); have HX1 := hid (HX0.out.next hb); clear hb)
  go_wp2_with (refine wpList_load_bxg (by rfl) 25 (.tmp 3) rfl r0 _ _ _ rfl HX1.out Tryz.underlying25 rfl (by kernel_rfl) ?_)
  refine (HLO.out _ HB1.out).mono ?_
  rintro e w2 ⟨bl, rfl, hb, hl⟩
  have HB2 := hid (on HB1.out hb)
  have HX2 := hid (HX1.out.next hb)
  clear hb hl
  cases bl with
  | true =>
    go_wp2
    go_ret
    exact ⟨rfl, HB2.out⟩
  | false =>
  have HNC := hid (HNW.out _ (HRV.out _ HB2.out))
  go_upto_region 6 with (first
    | (go_at_call 10; refine HNC.out.mono ?_; rintro e w3 ⟨rfl, hb⟩; have HB3 := hid (on HB2.out hb); have HX3 := hid (HX2.out.next hb); clear hb)
    | (refine wpList_load_bx rfl 25 (.tmp 3) rfl r0 _ _ _ rfl HX2.out Tryz.underlying25 rfl (by kernel_rfl) ?_))
  have HRC := hid (HRI.out _ (HRV.out _ HB3.out))
  go_wp2_with (first
    | (go_at_call 11; refine HRC.out.mono ?_; rintro e w4 ⟨rfl, hb⟩; have HB4 := hid (on HB3.out hb); clear hb)
    | (refine wpList_load_bx rfl 25 (.tmp 3) rfl r0 _ _ _ rfl HX3.out Tryz.underlying25 rfl (by kernel_rfl) ?_))
  go_ret
  exact ⟨rfl, HB4.out⟩
theorem acts16 {c : Nat → Int} {A A2 : Option Addr} {n cq m c2 : Nat} {hh : Nat → Hn} {f : Nat → A16} {w : World} {τ : Int} (hr : Rv w w.heap.size A (hvs hh n)) (hn : n ≤ maxLen) (ca : A = none → cq = 0) (hm : m ≤ maxLen) (hac : ActsC w A2 m f) (hg : ∀ i, i < m → (f i).Good w) :
    Calls Tryz.prog 3 #[.agg (cfgC c A n cq), .int .i64 τ, .slice A2 m c2] w fun e w' => e = .returned (.bool true) ∧ Below w.heap.size w w' := by
  by_cases rt : RightP c hh n
  · by_cases h1 : τ < 1
    · exact acts16_low hr hn hm hac hg rt h1
    · by_cases h3 : 3 < τ
      · exact acts16_high hr hn hm hac hg rt h1 h3
      · obtain ⟨T, rfl⟩ : ∃ T : Nat, τ = T := ⟨τ.toNat, by omega⟩
        exact acts16_ok hr hn ca hm hac hg rt (by omega) (by omega)
  · exact acts16_wrong hr hn hm hac hg rt
end Go.Proofs.YtmfdlkkligjcbaaGreat
