/-
  What is proved: the walk of PartBound: never are there more blocks than the tier's capacity, nor more of a range than its part, nor one that isn't taken. Condition: the hints and the acts are read as such.
-/
import Derived.Test.YtibppolcchhmaaaK34
import Derived.Test.YtibppolcchhmaaaK38
namespace Go.Proofs.Ytibppolcchhmaaa
open Go.RowKit

/-- 32 numbers -/
def n32 (a : Int → Int) : Array Value := Array.ofFn (n := 32) fun i => .int .i64 (a ((i : Nat) : Int))
theorem n32_at (a : Int → Int) {p : Nat} (h : p < 32) : (n32 a)[p]? = some (.int .i64 (a p)) := by simp [n32, h]
theorem n32_set (a : Int → Int) (p : Nat) (x : Int) : (n32 a).setIfInBounds p (.int .i64 x) = n32 (upd a p x) := by
  refine Array.ext (by simp [n32]) fun j h1 h2 => ?_
  rw [Array.getElem_setIfInBounds (by simpa using h1)]
  simp only [n32, Array.getElem_ofFn, upd]
  by_cases e : p = j
  · subst e; rw [if_pos rfl, if_pos rfl]
  · rw [if_neg e, if_neg (show ¬ ((j : Nat) : Int) = p from by omega)]
theorem n32_zero : Array.replicate 32 (Value.int .i64 0) = n32 (fun _ => 0) := by
  refine Array.ext (by simp [n32]) fun j h1 h2 => ?_
  simp [n32]
theorem n32_congr {a a' : Int → Int} (h : ∀ p : Nat, p < 32 → a p = a' p) : n32 a = n32 a' := by
  refine Array.ext (by simp [n32]) fun j h1 h2 => ?_
  simp only [n32, Array.getElem_ofFn]
  rw [h j (by simpa [n32] using h1)]
/-- how many of a row's first ones are of a range -/
def cnt (rg : Int → Option Nat) (L : List Int) (j : Nat) (i : Int) : Int := (((L.take j).filter (fun x => rg x == some i.toNat)).length : Nat)
theorem cnt_succ {rg : Int → Option Nat} {L : List Int} {j r : Nat} (hj : j < L.length) (hr : rg L[j] = some r) : n32 (upd (cnt rg L j) r (cnt rg L j r + 1)) = n32 (cnt rg L (j + 1)) := n32_congr fun p _ => by
  unfold cnt upd
  rw [List.take_succ_eq_append_getElem hj, List.filter_append, List.length_append]
  by_cases e : p = r
  · subst e
    rw [if_pos rfl]
    simp [hr]
  · rw [if_neg (by omega)]
    have : (some r == some p) = false := by simp; omega
    simp [hr, this]
theorem cnt_zero (rg : Int → Option Nat) (L : List Int) : n32 (fun _ => 0) = n32 (cnt rg L 0) := n32_congr fun p _ => by simp [cnt]
theorem n32_lit : (#[.int .i64 0, .int .i64 0, .int .i64 0, .int .i64 0, .int .i64 0, .int .i64 0, .int .i64 0, .int .i64 0, .int .i64 0, .int .i64 0, .int .i64 0, .int .i64 0, .int .i64 0, .int .i64 0, .int .i64 0, .int .i64 0, .int .i64 0, .int .i64 0, .int .i64 0, .int .i64 0, .int .i64 0, .int .i64 0, .int .i64 0, .int .i64 0, .int .i64 0, .int .i64 0, .int .i64 0, .int .i64 0, .int .i64 0, .int .i64 0, .int .i64 0, .int .i64 0] : Array Value) = n32 (fun _ => 0) := n32_zero
theorem cnt_le (rg : Int → Option Nat) (L : List Int) (j : Nat) (i : Int) : cnt rg L j i ≤ j := by
  have := List.length_filter_le (fun x => rg x == some i.toNat) (L.take j)
  rw [List.length_take] at this
  unfold cnt
  omega
/-- what there is of one block that is there -/
theorem okp_at {rg : Int → Option Nat} {pt : Nat → Nat} {n : Nat} {S : List (List Int)} (h : Okp rg pt n S) {L : List Int} (hL : allp S n = L) {j : Nat} (hj : j < L.length) : ∃ r, rg L[j] = some r ∧ r < n ∧ 0 < pt r ∧ cnt rg L j r + 1 ≤ pt r := by
  subst hL
  obtain ⟨r, h1, h2⟩ := mem_allp.1 (List.getElem_mem hj)
  have h3 := h.own r _ h2
  have h4 := h.le r h1
  have h5 : 0 < (S.getD r []).length := List.length_pos_of_mem h2
  refine ⟨r, h3, h1, by omega, ?_⟩
  have h6 := h.many h1 (j + 1)
  rw [List.take_succ_eq_append_getElem hj, List.filter_append, List.length_append] at h6
  unfold cnt
  simp [h3] at h6 ⊢
  omega
set_option maxRecDepth 20000 in
set_option maxHeartbeats 4000000 in
theorem bound15_ok (A : Option Addr) (n c : Nat) (hh : Nat → Hn) (b : Int) (u : Nat → Nat) (τ : Int) (D : Option Addr) (m c2 : Nat) (f : Nat → A2) (w : World) (hcA : A = none → c = 0) (hr : Rv w w.heap.size A (hvs hh n))
    (hcp : CapP b (u 0 : Nat) (u 1 : Nat) (u 2 : Nat)) (hu : cN (u 0 : Nat) (u 1 : Nat) (u 2 : Nat) = u) (hu16 : ∀ t, t < 3 → u t ≤ 16) (hhp : HintsP hh n b) (hτ : 0 ≤ τ ∧ τ < 256) (hm : m ≤ 150) (hac : Acts w D m f) :
    Calls Try.prog 4 #[.agg #[.slice A n c, .int .i64 b, .int .i64 (u 0 : Nat), .int .i64 (u 1 : Nat), .int .i64 (u 2 : Nat)], .int .u8 τ, .slice D m c2] w fun e w' => e = .returned (.bool true) ∧ Below w.heap.size w w' := by
  have hn8 := hhp.1
  have HLO := hid (fun w => long15 A n c b (u 0 : Nat) (u 1 : Nat) (u 2 : Nat) D m c2 w)
  rw [decide_eq_false (show ¬ (20 < n ∨ 150 < m) by omega)] at HLO
  have HR := hid hr
  have HAC := hid hac
  have HX0 := hid (Lx.new w A n c b (u 0 : Nat) (u 1 : Nat) (u 2 : Nat))
  obtain ⟨s, hs⟩ : ∃ q, w.heap.size = q := ⟨_, rfl⟩
  have HS2 := hid hs
  rw [hs] at HX0
  obtain ⟨T, hT, hT1, hT3⟩ : ∃ T : Nat, 1 + τ % 3 = (T : Int) ∧ 1 ≤ T ∧ T ≤ 3 := ⟨(1 + τ % 3).toNat, by omega, by omega, by omega⟩
  have HN := hid (fun w (hr : Rv w w.heap.size A (hvs hh n)) => new_pn (u := u) (w := w) (c := c) (by omega) hcA hr hcp hu hhp hT1 hT3)
  have HH := hid hhp
  have HU := hid hu16
  have HT := hid (And.intro hT (And.intro hT1 hT3))
  clear hr hs hcp hu hu16 hhp hcA hac hT hT1 hT3
  go_enter Try.func4, Try.ntmps4
  go_upto_region 1 with fail
  rw [HS2.out]
  generalize w.alloc (.cells #[.slice A n c, .int .i64 b, .int .i64 (u 0 : Nat), .int .i64 (u 1 : Nat), .int .i64 (u 2 : Nat)] 25) = w1 at *
  go_upto_region 6 with (first
    | (go_at_call 7; refine (wakes15 _).mono ?_; rintro e w2 ⟨rfl, hb⟩; have HX2 := hid (HX0.out.below hb); obtain ⟨p0, p1, p2, p3, p4⟩ := HX2.out.all; clear hb)
    | (go_at_call 8; refine (HLO.out _).mono ?_; rintro e w3 ⟨rfl, hb⟩; have HX3 := hid (HX2.out.below hb); obtain ⟨r0, r1, r2, r3, r4⟩ := HX3.out.all; clear hb))
  rw [HT.out.1]
  go_upto_region 9 with (go_at_call 9; refine (HN.out _ (HR.out.now HX3.out.bel)).mono ?_; rintro e w4 ⟨q, rg, pt, lp, rfl, hpn, hls, -, -, -, hb⟩; have HPN := hid hpn; have HLS := hid hls; have HX4 := hid (HX3.out.below hb); clear hpn hls hb)
  clear p0 p1 p2 p3 p4 r0 r1 r2 r3 r4 HX0 HX2 HX3 HN HLO
  go_upto_region 12 with (go_at_call 10; refine (pt_new HPN.out).mono ?_; rintro e w5 ⟨g, k, rfl, hp⟩; have HB0 := hid (show Lb w w4 w5 s A n c b (u 0 : Nat) (u 1 : Nat) (u 2 : Nat) g k q T rg pt lp n (empt (cl n)) from ⟨HX4.out.below hp.bel, hp, HX4.out.lt, HX4.out.bel.size⟩); clear hp)
  go_wp2
  go_loopg [50] m (fun gk t wr => ∃ p : Nat, p + gk = m ∧ t = .int .i64 p ∧ ∃ S, Lb w w4 wr s A n c b (u 0 : Nat) (u 1 : Nat) (u 2 : Nat) g k q T rg pt lp n S)
  case atStart => exact ⟨0, by omega, rfl, _, HB0.out⟩
  case round =>
    obtain ⟨p, hp, rfl, S, hT⟩ := hrel
    have HB := hid hT
    clear hT HB0 HX4
    by_cases hlt : p < m
    · obtain ⟨ad, rfl, hat⟩ := (HAC.out.below HB.out.x.bel) p hlt
      obtain ⟨⟨κ, v⟩, hH⟩ : ∃ y, f p = y := ⟨_, rfl⟩
      rw [hH] at hat
      obtain ⟨alt, c0, c1⟩ := hat
      dsimp only at c0 c1
      obtain ⟨r, hg⟩ : ∃ g, wr.heap.size = g := ⟨_, rfl⟩
      obtain ⟨W, hW⟩ : ∃ W, wr.alloc (.cells #[.int .i64 κ, .int .i64 v] 39) = W := ⟨_, rfl⟩
      have BW : Below wr.heap.size wr W := by rw [← hW]; exact below_alloc _ _
      have HXW := hid (show Bx W r 39 #[.int .i64 κ, .int .i64 v] from by rw [← hW, ← hg]; exact Bx.new _ _ _)
      have HBW := hid (HB.out.below BW)
      have HWW := hid hW
      have HGG := hid hg
      have hpm : (p : Int) < (m : Int) := by omega
      clear BW hH hW hg
      go_upto_region 15 with fail
      rw [HGG.out, HWW.out]
      clear c0 c1 HGG HWW alt
      have y1 : W.cell? ⟨r, 1, none⟩ = some (.int .i64 v) := HXW.out.cell 1
      have HADD := hid (pt_add HBW.out.p v)
      generalize adV pt lp (rg v) v S = V1 at *
      generalize adG pt (rg v) v S = G1 at *
      generalize adE pt (rg v) = E1 at *
      generalize adS pt lp (rg v) v S = S1 at *
      go_upto_region 16 with (go_at_call 14; refine HADD.out.mono ?_; rintro e w6 ⟨rfl, hq, hc⟩; have HB6 := hid (HBW.out.step hq hc); clear hq hc)
      clear y1 HADD HXW HBW HB
      obtain ⟨W7, hW7⟩ : ∃ W, w6.alloc (.cells #[.int .i64 0, .int .i64 0, .int .i64 0, .int .i64 0, .int .i64 0, .int .i64 0, .int .i64 0, .int .i64 0, .int .i64 0, .int .i64 0, .int .i64 0, .int .i64 0, .int .i64 0, .int .i64 0, .int .i64 0, .int .i64 0, .int .i64 0, .int .i64 0, .int .i64 0, .int .i64 0, .int .i64 0, .int .i64 0, .int .i64 0, .int .i64 0, .int .i64 0, .int .i64 0, .int .i64 0, .int .i64 0, .int .i64 0, .int .i64 0, .int .i64 0, .int .i64 0] 52) = W := ⟨_, rfl⟩
      obtain ⟨a, ha⟩ : ∃ a, w6.heap.size = a := ⟨_, rfl⟩
      have HX7 := hid (show Bx W7 a 52 (n32 (fun _ => 0)) from by rw [← hW7, ← ha, ← n32_lit]; exact Bx.new _ _ _)
      have HB7 := hid (HB6.out.below (show Below w6.heap.size w6 W7 from by rw [← hW7]; exact below_alloc _ _))
      have HAA := hid (show w4.heap.size ≤ a ∧ a ≠ g ∧ a ≠ k from by
        have h1 := HB6.out.p.box.lt
        have h2 := HB6.out.p.sq.lt
        have h3 := HB6.out.p.bel.size
        omega)
      have HWW := hid hW7
      have HGG := hid ha
      clear hW7 ha
      go_upto_region 17 with fail
      rw [HGG.out, HWW.out]
      clear HGG HWW HB6
      obtain ⟨L, hL⟩ : ∃ L, allp S1 n = L := ⟨_, rfl⟩
      have HALL := hid (pt_all HB7.out.p)
      have HLEN := hid (fun (y : World) (hy : Pt w4 y g k q T rg pt lp n S1) => pt_len hy)
      have HFA := hid (fun j (hj : j < L.length) => okp_at HB7.out.p.ok hL hj)
      have HLE := hid (show L.length ≤ u (T - 1) from by rw [← hL]; exact Nat.le_trans HB7.out.p.ok.bound HLS.out)
      rw [hL] at HALL HLEN
      obtain ⟨ln, hln⟩ : ∃ x, L.length = x := ⟨_, rfl⟩
      have HLN := hid hln
      have hl64 : ln ≤ 16 := by have := HLE.out; have := HU.out (T - 1) (by have := HT.out.2; omega); omega
      clear hln hL
      go_wp2_with (go_at_call 17; refine HALL.out.mono ?_; rintro e w8 ⟨A8, c8, rfl, ho, hg⟩; have HB8 := hid (HB7.out.below hg.nilBelow); have HX8 := hid (HX7.out.next hg.nilBelow); have HR8 := hid (rw_told ho hg).1.rd; have HNA := hid (fun ad (e : A8 = some ad) => (show ad.block ≠ a from by { have h1 := (rw_told ho hg).2.1 ad e; have h2 := HX7.out.lt; omega })); rw [HLN.out]; clear ho hg)
      generalize gk = K0 at *
      go_loopg [61] ln (fun gk t wr => ∃ j : Nat, j + gk = ln ∧ t = .int .i64 j ∧ Lb w w4 wr s A n c b (u 0 : Nat) (u 1 : Nat) (u 2 : Nat) g k q T rg pt lp n S1 ∧ Bx wr a 52 (n32 (cnt rg L j)) ∧ Rv wr wr.heap.size A8 (ints L))
      case atStart => exact ⟨0, by omega, rfl, HB8.out, by rw [← cnt_zero]; exact HX8.out, HR8.out⟩
      case round =>
        obtain ⟨j, hj, rfl, hbi, hxi, hri⟩ := hrel
        have HBI := hid hbi
        have HXI := hid hxi
        have HRI := hid hri
        clear hbi hxi hri HB8 HX8 HR8
        by_cases hjl : j < ln
        · have hjL : j < L.length := by rw [HLN.out]; exact hjl
          obtain ⟨a8, rfl, _, hca⟩ := rv_at HRI.out hjL
          obtain ⟨rr, hrr, hrn, hpp, hcp⟩ := HFA.out j hjL
          have HCS := hid (cnt_succ hjL hrr)
          generalize L[j] = x at *
          have hrr32 : (rr : Int) < 32 := by omega
          have hq0 := HXI.out.cell rr
          rw [n32_at _ (by omega)] at hq0
          have hC16 := cnt_le rg L j rr
          obtain ⟨C, hC⟩ : ∃ C : Nat, cnt rg L j rr = (C : Int) := ⟨_, rfl⟩
          rw [hC] at hq0 hcp HCS hC16
          have hC32 : C < 32 := by omega
          have HQ1 := hid (fun (y : World) (hy : Bx y a 52 (n32 (cnt rg L (j + 1)))) => show y.cell? ⟨a, rr, none⟩ = some (.int .i64 ((C : Int) + 1)) from by rw [hy.cell, ← HCS.out, n32_at _ (by omega), upd_same])
          have HQ0 := hid (fun (y : World) (hy : Bx y a 52 (n32 (cnt rg L j))) => show y.cell? ⟨a, rr, none⟩ = some (.int .i64 (C : Int)) from by rw [hy.cell, n32_at _ (by omega), hC])
          have HRG := hid (fun (y : World) (hy : Pt w4 y g k q T rg pt lp n S1) => pn_range hy.plan x)
          have HTK := hid (fun (y : World) (hy : Pt w4 y g k q T rg pt lp n S1) => pt_takes hy x)
          have HPT := hid (fun (y : World) (hy : Pt w4 y g k q T rg pt lp n S1) => pn_part hy.plan x)
          rw [hrr] at HRG HTK HPT
          rw [decide_eq_true (show 0 < ptO pt (some rr) from hpp)] at HTK
          rw [show ptO pt (some rr) = pt rr from rfl] at HPT
          rw [show rgV (some rr) = .tuple #[.int .i64 (rr : Nat), .bool true] from rfl] at HRG
          generalize pt rr = P at *
          have HCP := hid hcp
          have hjn : (j : Int) < (ln : Int) := by omega
          clear hrr hrn hpp hcp hjL hC hq0 hC16
          go_upto_region 23 with (first
            | (go_at_call 24; refine (HRG.out _ HBI.out.p).mono ?_; rintro e w9 ⟨rfl, hb⟩; have HB9 := hid (HBI.out.below hb); have HX9 := hid (HXI.out.next hb); have HR9 := hid (HRI.out.now hb); clear hb hca)
            | (go_at_call 22; refine (HTK.out _ HB9.out.p).mono ?_; rintro e w10 ⟨rfl, hb⟩; have HB10 := hid (HB9.out.below hb); have HX10 := hid (HX9.out.next hb); have HR10 := hid (HR9.out.now hb); clear hb))
          have hq1 := HQ0.out _ HX10.out
          have hq2 := HX10.out.free rr
          go_upto_region 24 with fail
          have HX11 := hid (show Bx (w10.setCell ⟨a, rr, none⟩ (.int .i64 ((C : Int) + 1))) a 52 (n32 (cnt rg L (j + 1))) from by rw [← HCS.out, ← n32_set]; exact HX10.out.set rr _)
          have HB11 := hid (HB10.out.far (i := rr) (v := .int .i64 ((C : Int) + 1)) HAA.out.1 HAA.out.2.1 HAA.out.2.2)
          have HR11 := hid (show Rv (w10.setCell ⟨a, rr, none⟩ (.int .i64 ((C : Int) + 1))) (w10.setCell ⟨a, rr, none⟩ (.int .i64 ((C : Int) + 1))).heap.size (some a8) (ints L) from by rw [setSize]; exact HR10.out.off _ _ HNA.out)
          have hq3 : (w10.setCell ⟨a, rr, none⟩ (.int .i64 ((C : Int) + 1))).cell? ⟨a, rr, none⟩ = some (.int .i64 ((C : Int) + 1)) := HQ1.out _ HX11.out
          clear hq1 hq2 HX10 HB10 HR10
          generalize w10.setCell ⟨a, rr, none⟩ (.int .i64 ((C : Int) + 1)) = w11 at *
          have HPD := hid (HB11.out.draws 1)
          rw [show w11.drewN 1 = w11.drew from rfl] at HPD
          have hle : ¬ ((C : Int) + 1 > (P : Int)) := by have := HCP.out; omega
          go_region_held3 (fun w' => w'.cell? ⟨a, rr, none⟩ = some (.int .i64 ((C : Int) + 1))) (first | exact kp | exact hq3) (first | (go_at_call 25; refine (HPT.out _ HPD.out.p).mono ?_; rintro e w12 ⟨rfl, hb⟩; have HB12 := hid (HPD.out.below hb); have HX12 := hid ((show Bx w11.drew a 52 (n32 (cnt rg L (j + 1))) from HX11.out).next hb); have HR12 := hid ((show Rv w11.drew w11.drew.heap.size (some a8) (ints L) from HR11.out).now hb); have kp := HQ1.out _ HX12.out; clear hb))
          all_goals
            go_wp2
            go_roundg (gk - 1)
            case measure => omega
            case rel => exact ⟨j + 1, by omega, by go_num, HB12.out, HX12.out, HR12.out⟩
        · obtain rfl : j = ln := by omega
          have hjn : ¬ (j : Int) < (j : Int) := by omega
          go_upto_region 27 with fail
          have key : ∃ t : Nat, t < 3 ∧ T = t + 1 := ⟨T - 1, by have := HT.out.2; omega, by have := HT.out.2; omega⟩
          obtain ⟨t, ht3, hTt⟩ := key
          have HCU := hid (fun (y : World) (hy : Lb w w4 y s A n c b (u 0 : Nat) (u 1 : Nat) (u 2 : Nat) g k q T rg pt lp n S1) => show y.cell? ⟨s, 2 + t, none⟩ = some (.int .i64 (u t : Nat)) from by
            obtain ⟨b0, b1, b2, b3, b4⟩ := hy.x.all
            have h4 : t = 0 ∨ t = 1 ∨ t = 2 := by omega
            rcases h4 with rfl | rfl | rfl
            · exact b2
            · exact b3
            · exact b4)
          have hleu := HLE.out
          rw [show T - 1 = t from by omega] at hleu
          generalize u t = U at *
          rw [HLN.out] at hleu
          have hle : ¬ ((j : Int) > (U : Int)) := by omega
          have hTm : (T : Int) - 1 = (t : Int) := by omega
          have ht0 : (0 : Int) ≤ (t : Int) := by omega
          have ht3' : (t : Int) < 3 := by omega
          have hcu : ∀ s_ : Since wr, s_.at_.cell? ⟨s, 2 + t, none⟩ = some (.int .i64 (U : Nat)) := fun s_ => HCU.out _ (HBI.out.below s_.bel)
          have HLD := hid (fun (s_ : Since wr) => HLEN.out _ (HBI.out.below s_.bel).p)
          rw [HLN.out] at HLD
          clear hTt ht3 hleu
          refine wp_region_since (by kernel_rfl) (by kernel_rfl) ?_
          repeat (go_big_quiet_step ((go_at_call 19; exact Calls.since _ (HLD.out _))))
          refine wpQuiet_nil ?_
          rintro _ ⟨s_, rfl⟩
          have HB12 := hid (HBI.out.below s_.bel)
          go_wp2
          go_roundg (K0 - 1)
          case measure => omega
          case rel => exact ⟨p + 1, by omega, by go_num, _, HB12.out⟩
    · obtain rfl : p = m := by omega
      have hpm : ¬ (p : Int) < (p : Int) := by omega
      go_wp2
      go_ret
      exact ⟨rfl, HB.out.x.bel⟩
set_option maxRecDepth 20000 in
set_option maxHeartbeats 1000000 in
theorem bound15_bad (A : Option Addr) (n c : Nat) (hh : Nat → Hn) (b x y z τ : Int) (D : Option Addr) (m c2 : Nat) (w : World) (hn : n ≤ 20) (hm : m ≤ 150) (hcA : A = none → c = 0) (hr : Rv w w.heap.size A (hvs hh n)) (hτ : 0 ≤ τ ∧ τ < 256) (hok : ¬ (CapP b x y z ∧ HintsP hh n b)) :
    Calls Try.prog 4 #[.agg #[.slice A n c, .int .i64 b, .int .i64 x, .int .i64 y, .int .i64 z], .int .u8 τ, .slice D m c2] w fun e w' => e = .returned (.bool true) ∧ Below w.heap.size w w' := by
  have HLO := hid (fun w => long15 A n c b x y z D m c2 w)
  rw [decide_eq_false (show ¬ (20 < n ∨ 150 < m) by omega)] at HLO
  have HR := hid hr
  have HX0 := hid (Lx.new w A n c b x y z)
  obtain ⟨q, hq⟩ : ∃ q, w.heap.size = q := ⟨_, rfl⟩
  have HQ2 := hid hq
  rw [hq] at HX0
  have HN := hid (fun w (hr : Rv w w.heap.size A (hvs hh n)) => new_bad (w := w) (c := c) (b := b) (x := x) (y := y) (z := z) (by omega) hcA hr hok)
  clear hr hq hok hcA
  go_enter Try.func4, Try.ntmps4
  go_upto_region 1 with fail
  rw [HQ2.out]
  generalize w.alloc (.cells #[.slice A n c, .int .i64 b, .int .i64 x, .int .i64 y, .int .i64 z] 25) = w1 at *
  go_wp2_with (first
    | (go_at_call 7; refine (wakes15 _).mono ?_; rintro e w2 ⟨rfl, hb⟩; have HX2 := hid (HX0.out.below hb); obtain ⟨p0, p1, p2, p3, p4⟩ := HX2.out.all; clear hb)
    | (go_at_call 8; refine (HLO.out _).mono ?_; rintro e w3 ⟨rfl, hb⟩; have HX3 := hid (HX2.out.below hb); obtain ⟨r0, r1, r2, r3, r4⟩ := HX3.out.all; clear hb)
    | (go_at_call 9; refine (HN.out _ (HR.out.now HX3.out.bel)).mono ?_; rintro e w4 ⟨r, rfl, -, hr0, hb⟩; have HX4 := hid (HX3.out.below hb); clear hb))
  go_ret
  exact ⟨rfl, HX4.out.bel⟩
set_option maxRecDepth 20000 in
set_option maxHeartbeats 1000000 in
theorem bound15_walk (A : Option Addr) (n c : Nat) (hh : Nat → Hn) (b x y z τ : Int) (D : Option Addr) (m c2 : Nat) (f : Nat → A2) (w : World) (hcA : A = none → c = 0) (hr : Rv w w.heap.size A (hvs hh n)) (hτ : 0 ≤ τ ∧ τ < 256) (hac : Acts w D m f) :
    Calls Try.prog 4 #[.agg #[.slice A n c, .int .i64 b, .int .i64 x, .int .i64 y, .int .i64 z], .int .u8 τ, .slice D m c2] w fun e w' => e = .returned (.bool true) ∧ Below w.heap.size w w' := by
  by_cases hn : 20 < n ∨ 150 < m
  · have HLO := hid (fun w => long15 A n c b x y z D m c2 w)
    rw [decide_eq_true hn] at HLO
    have HX0 := hid (Lx.new w A n c b x y z)
    obtain ⟨q, hq⟩ : ∃ q, w.heap.size = q := ⟨_, rfl⟩
    have HQ2 := hid hq
    rw [hq] at HX0
    clear hr hq hcA hn hac
    go_enter Try.func4, Try.ntmps4
    go_upto_region 1 with fail
    rw [HQ2.out]
    generalize w.alloc (.cells #[.slice A n c, .int .i64 b, .int .i64 x, .int .i64 y, .int .i64 z] 25) = w1 at *
    go_wp2_with (first
      | (go_at_call 7; refine (wakes15 _).mono ?_; rintro e w2 ⟨rfl, hb⟩; have HX2 := hid (HX0.out.below hb); obtain ⟨p0, p1, p2, p3, p4⟩ := HX2.out.all; clear hb)
      | (go_at_call 8; refine (HLO.out _).mono ?_; rintro e w3 ⟨rfl, hb⟩; have HX3 := hid (HX2.out.below hb); clear hb))
    go_ret
    exact ⟨rfl, HX3.out.bel⟩
  · by_cases hok : CapP b x y z ∧ HintsP hh n b
    · obtain ⟨hcp, hhp⟩ := hok
      obtain ⟨u, hu, rfl, rfl, rfl, hu16⟩ := capN hcp
      exact bound15_ok A n c hh b u τ D m c2 f w hcA hr hcp hu hu16 hhp hτ (by omega) hac
    · exact bound15_bad A n c hh b x y z τ D m c2 w (by omega) (by omega) hcA hr hτ hok
end Go.Proofs.Ytibppolcchhmaaa
