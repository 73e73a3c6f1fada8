/-
  What is proved: the walk of PartApart: what is done with blocks of one range leaves what there is of all others as it was. Condition: the hints and the acts are read as such.
-/
import Derived.Test.YtibppolcchhmaaaK34
import Derived.Test.YtibppolcchhmaaaK38
namespace Go.Proofs.Ytibppolcchhmaaa
open Go.RowKit

/-- the blocks that are of another range than r0 -/
def flt (rg : Int → Option Nat) (r0 : Nat) (L : List Int) : List Int := L.filter (fun x => (rg x).getD 0 != r0)
theorem flt_yes {rg : Int → Option Nat} {r0 r j : Nat} {L : List Int} (hj : j < L.length) (hr : rg L[j] = some r) (hn : r ≠ r0) : ints (flt rg r0 (L.take (j + 1))) = ints (flt rg r0 (L.take j)) ++ [.int .i64 L[j]] := by
  unfold flt ints
  rw [List.take_succ_eq_append_getElem hj, List.filter_append, List.map_append]
  simp [hr, hn]
theorem flt_no {rg : Int → Option Nat} {r0 r j : Nat} {L : List Int} (hj : j < L.length) (hr : rg L[j] = some r) (hn : r = r0) : ints (flt rg r0 (L.take (j + 1))) = ints (flt rg r0 (L.take j)) := by
  unfold flt ints
  rw [List.take_succ_eq_append_getElem hj, List.filter_append, List.map_append]
  simp [hr, hn]
theorem flt_len {rg : Int → Option Nat} {r0 j : Nat} {L : List Int} (h : L.length ≤ 64) : (flt rg r0 (L.take j)).length ≤ 64 := by
  have h1 : (flt rg r0 (L.take j)).length ≤ (L.take j).length := List.length_filter_le _ _
  rw [List.length_take] at h1
  omega
section
variable {rg : Int → Option Nat} {pt : Nat → Nat} {lp : Nat → Bool} {n : Nat} {S S' : List (List Int)}
theorem flt_all (h : Okp rg pt n S) (r0 : Nat) : flt rg r0 (allp S n) = (allp S n).filter (fun x => rg x != some r0) := List.filter_congr fun x hx => by
  obtain ⟨i, _, hx⟩ := mem_allp.1 hx
  rw [h.own i x hx]
  by_cases e : i = r0
  · subst e; simp
  · have e2 : ¬ some i = some r0 := fun h => e (by injection h)
    show (i != r0) = _
    rw [bne_iff_ne.2 e, bne_iff_ne.2 e2]
theorem apart_set (h : Okp rg pt n S) (h' : Okp rg pt n S') {r : Nat} {l : List Int} (hr : r < S.length) (hl : ∀ x ∈ l, rg x = some r) (e : S' = S.set r l) : flt rg r (allp S' n) = flt rg r (allp S n) := by
  rw [flt_all h, flt_all h', e]
  exact h.apart hr hl n
/-- what is put in, or used, leaves all others -/
theorem apart_add (h : Okp rg pt n S) {v : Int} (hv : ∀ i, rg v = some i → i < n ∧ 0 ≤ v ∧ v < 64) : flt rg ((rg v).getD 0) (allp (adS pt lp (rg v) v S) n) = flt rg ((rg v).getD 0) (allp S n) := by
  cases hr : rg v with
  | none => rfl
  | some i =>
    obtain ⟨hi, hb⟩ := hv i hr
    by_cases hp : pt i = 0
    · rw [show adS pt lp (some i) v S = S from if_pos hp]
    · have e : adS pt lp (some i) v S = S.set i (addl (lp i) (pt i) v (S.getD i [])) := if_neg hp
      rw [e]
      have h1 := addl_ok (loop := lp i) (b := v) (h.wf.ndg i) (by omega) (h.le i hi)
      refine apart_set h (h.add (lp i) hi hr hb (by omega)) (Nat.lt_of_lt_of_le hi h.len) (fun x hx => ?_) rfl
      rcases h1.2.1 x hx with rfl | hx
      · exact hr
      · exact h.own i x hx
theorem apart_wo (h : Okp rg pt n S) {v : Int} (hv : ∀ i, rg v = some i → i < n ∧ 0 ≤ v ∧ v < 64) : flt rg ((rg v).getD 0) (allp (woS v S) n) = flt rg ((rg v).getD 0) (allp S n) := by
  cases hr : rg v with
  | none => rw [woS_out (okp_none h hr)]
  | some i =>
    obtain ⟨hi, hb⟩ := hv i hr
    exact apart_set h (h.wo v) (Nat.lt_of_lt_of_le hi h.len) (fun x hx => h.own i x (mem_wo.1 hx).1) (okp_woset h hr hi)
theorem own_at (h : Okp rg pt n S) {L : List Int} (hL : allp S n = L) {j : Nat} (hj : j < L.length) : ∃ r, rg L[j] = some r := by
  subst hL
  obtain ⟨r, h1, h2⟩ := mem_allp.1 (List.getElem_mem hj)
  exact ⟨r, h.own r _ h2⟩
end
set_option maxRecDepth 20000 in
set_option maxHeartbeats 4000000 in
theorem apart15_ok (A : Option Addr) (n c : Nat) (hh : Nat → Hn) (b : Int) (u : Nat → Nat) (τ : Int) (D : Option Addr) (m c2 : Nat) (f : Nat → A2) (w : World) (hcA : A = none → c = 0) (hr : Rv w w.heap.size A (hvs hh n))
    (hcp : CapP b (u 0 : Nat) (u 1 : Nat) (u 2 : Nat)) (hu : cN (u 0 : Nat) (u 1 : Nat) (u 2 : Nat) = u) (hhp : HintsP hh n b) (hτ : 0 ≤ τ ∧ τ < 256) (hm : m ≤ 150) (hac : Acts w D m f) :
    Calls Try.prog 6 #[.agg #[.slice A n c, .int .i64 b, .int .i64 (u 0 : Nat), .int .i64 (u 1 : Nat), .int .i64 (u 2 : Nat)], .int .u8 τ, .slice D m c2] w fun e w' => e = .returned (.bool true) ∧ Below w.heap.size w w' := by
  have hn8 := hhp.1
  have HLO := hid (fun w => long15 A n c b (u 0 : Nat) (u 1 : Nat) (u 2 : Nat) D m c2 w)
  rw [decide_eq_false (show ¬ (20 < n ∨ 150 < m) by omega)] at HLO
  have HR := hid hr
  have HAC := hid hac
  have HX0 := hid (Lx.new w A n c b (u 0 : Nat) (u 1 : Nat) (u 2 : Nat))
  obtain ⟨s, hs⟩ : ∃ q, w.heap.size = q := ⟨_, rfl⟩
  have HS2 := hid hs
  rw [hs] at HX0
  obtain ⟨T, hT, hT1, hT3⟩ : ∃ T : Nat, 1 + τ % 3 = (T : Int) ∧ 1 ≤ T ∧ T ≤ 3 := ⟨(1 + τ % 3).toNat, by omega, by omega, by omega⟩
  have HN := hid (fun w (hr : Rv w w.heap.size A (hvs hh n)) => new_pn (u := u) (w := w) (c := c) (by omega) hcA hr hcp hu hhp hT1 hT3)
  have HT := hid (And.intro hT (And.intro hT1 hT3))
  clear hr hs hcp hu hhp hcA hac hT hT1 hT3
  go_enter Try.func6, Try.ntmps6
  go_upto_region 1 with fail
  rw [HS2.out]
  generalize w.alloc (.cells #[.slice A n c, .int .i64 b, .int .i64 (u 0 : Nat), .int .i64 (u 1 : Nat), .int .i64 (u 2 : Nat)] 25) = w1 at *
  go_upto_region 8 with (first
    | (go_at_call 7; refine (wakes15 _).mono ?_; rintro e w2 ⟨rfl, hb⟩; have HX2 := hid (HX0.out.below hb); obtain ⟨p0, p1, p2, p3, p4⟩ := HX2.out.all; clear hb)
    | (go_at_call 8; refine (HLO.out _).mono ?_; rintro e w3 ⟨rfl, hb⟩; have HX3 := hid (HX2.out.below hb); obtain ⟨r0, r1, r2, r3, r4⟩ := HX3.out.all; clear hb)
    | (go_at_call 9; refine (HN.out _ (HR.out.now HX3.out.bel)).mono ?_; rintro e w4 ⟨q, rg, pt, lp, rfl, hpn, hls, -, -, -, hb⟩; have HPN := hid hpn; have HX4 := hid (HX3.out.below hb); clear hpn hls hb))
  clear p0 p1 p2 p3 p4 r0 r1 r2 r3 r4 HX0 HX2 HX3 HN HLO
  have HNW := hid (pt_new HPN.out)
  rw [← HT.out.1] at HNW
  go_upto_region 11 with (go_at_call 10; refine HNW.out.mono ?_; rintro e w5 ⟨g, k, rfl, hp⟩; have HB0 := hid (show Lb w w4 w5 s A n c b (u 0 : Nat) (u 1 : Nat) (u 2 : Nat) g k q T rg pt lp n (empt (cl n)) from ⟨HX4.out.below hp.bel, hp, HX4.out.lt, HX4.out.bel.size⟩); clear hp)
  have HRL := hid (fun (v : Int) i (h : rg v = some i) => (show i < n ∧ 0 ≤ v ∧ v < 64 from by have := HPN.out.rl h; omega))
  go_wp2
  go_loopg [56] m (fun gk t wr => ∃ p : Nat, p + gk = m ∧ t = .int .i64 p ∧ ∃ S, Lb w w4 wr s A n c b (u 0 : Nat) (u 1 : Nat) (u 2 : Nat) g k q T rg pt lp n S)
  case atStart => exact ⟨0, by omega, rfl, _, HB0.out⟩
  case round =>
    obtain ⟨p, hp, rfl, S, hT⟩ := hrel
    have HB := hid hT
    clear hT HB0 HX4 HNW
    by_cases hlt : p < m
    · obtain ⟨ad, rfl, hat⟩ := (HAC.out.below HB.out.x.bel) p hlt
      obtain ⟨⟨κ, v⟩, hH⟩ : ∃ y, f p = y := ⟨_, rfl⟩
      rw [hH] at hat
      obtain ⟨alt, c0, c1⟩ := hat
      dsimp only at c0 c1
      obtain ⟨r, hg⟩ : ∃ g, wr.heap.size = g := ⟨_, rfl⟩
      obtain ⟨W, hW⟩ : ∃ W, wr.alloc (.cells #[.int .i64 κ, .int .i64 v] 39) = W := ⟨_, rfl⟩
      have BW : Below wr.heap.size wr W := by rw [← hW]; exact below_alloc _ _
      have HXW := hid (show Bx W r 39 #[.int .i64 κ, .int .i64 v] from by rw [← hW, ← hg]; exact Bx.new _ _ _)
      have HRW := hid (show w4.heap.size ≤ r ∧ r ≠ k from by
        have h1 := HB.out.p.sq.lt
        have h2 := HB.out.p.bel.size
        omega)
      have HBW := hid (HB.out.below BW)
      have HWW := hid hW
      have HGG := hid hg
      have hpm : (p : Int) < (m : Int) := by omega
      clear BW hH hW hg
      go_upto_region 14 with fail
      rw [HGG.out, HWW.out]
      clear c0 c1 HGG HWW alt
      obtain ⟨L, hL⟩ : ∃ L, allp S n = L := ⟨_, rfl⟩
      have HALL := hid (pt_all HBW.out.p)
      have HL64 := hid (HBW.out.p.ok.len64 n)
      have HFA := hid (fun j (hj : j < L.length) => own_at HBW.out.p.ok hL hj)
      have HAA := hid (apart_add (lp := lp) HBW.out.p.ok (HRL.out v))
      have HAW := hid (apart_wo HBW.out.p.ok (HRL.out v))
      rw [hL] at HALL HL64 HAA HAW
      obtain ⟨ln, hln⟩ : ∃ x, L.length = x := ⟨_, rfl⟩
      have HLN := hid hln
      have hl64 : ln ≤ 64 := by have := HL64.out; omega
      have HRG := hid (fun (y : World) (hy : Pn y q T rg pt lp n) => pn_range hy v)
      obtain ⟨r0, hr0⟩ : ∃ x, (rg v).getD 0 = x := ⟨_, rfl⟩
      rw [hr0] at HAA HAW
      unfold rgV at HRG
      rw [hr0] at HRG
      generalize (rg v).isSome = is0 at *
      clear hln hL hr0
      go_upto_region 15 with (go_at_call 17; refine HALL.out.mono ?_; rintro e w8 ⟨A8, c8, rfl, ho, hg⟩; have HB8 := hid (HBW.out.below hg.nilBelow); have HX8 := hid (HXW.out.next hg.nilBelow); have HR8 := hid (rw_told ho hg); rw [HLN.out]; clear ho hg)
      have hc8 : ln ≤ c8 := by have := HR8.out.2.2.1; rw [HLN.out] at this; exact this
      have y1 : w8.cell? ⟨r, 1, none⟩ = some (.int .i64 v) := HX8.out.cell 1
      go_upto_region 16 with (go_at_call 24; refine (HRG.out _ HB8.out.p.plan).mono ?_; rintro e w9 ⟨rfl, hb⟩; have HB9 := hid (HB8.out.below hb); have HX9 := hid (HX8.out.next hb); have HR9 := hid (HR8.out.1.below hb); clear hb)
      clear y1 HB8 HX8
      have HAR := hid (show ∀ ad', A8 = some ad' → ad'.block ≠ k from fun ad' e => by
        have h1 := HR8.out.2.1 ad' e
        have h2 := HBW.out.p.sq.lt
        omega)
      clear HR8 HBW HXW
      have y0 : w9.cell? ⟨r, 0, none⟩ = some (.int .i64 κ) := HX9.out.cell 0
      have y1 : w9.cell? ⟨r, 1, none⟩ = some (.int .i64 v) := HX9.out.cell 1
      have HADD := hid (pt_add HB9.out.p v)
      have HREM := hid (pt_remove HB9.out.p v)
      generalize adV pt lp (rg v) v S = V1 at *
      generalize adG pt (rg v) v S = G1 at *
      generalize adE pt (rg v) = E1 at *
      generalize adS pt lp (rg v) v S = S1 at *
      generalize woS v S = S2 at *
      generalize dec (inS S v) = I1 at *
      go_upto_if 71 with fail
      go_cut [] (fun wx => ∃ S' y, y = wx ∧ Lb w w4 y s A n c b (u 0 : Nat) (u 1 : Nat) (u 2 : Nat) g k q T rg pt lp n S' ∧ Rw y A8 L ∧ flt rg r0 (allp S' n) = flt rg r0 L)
      case first =>
        by_cases hk : κ = 2
        · have hd : (κ == (2 : Int)) = true := by simpa using hk
          have hd2 : decide (κ = 2) = true := by simpa using hk
          clear hk
          go_wp2_with (go_at_call 15; refine HREM.out.mono ?_; rintro e w10 ⟨rfl, hq, hc⟩; have HB10 := hid (HB9.out.step hq hc); have HR10 := hid (HR9.out.chg hc HAR.out); clear hq hc)
          go_meet
          exact ⟨_, _, rfl, HB10.out, HR10.out, HAW.out⟩
        · have hd : (κ == (2 : Int)) = false := by simpa using hk
          have hd2 : decide (κ = 2) = false := by simpa using hk
          clear hk
          go_wp2_with (go_at_call 14; refine HADD.out.mono ?_; rintro e w10 ⟨rfl, hq, hc⟩; have HB10 := hid (HB9.out.step hq hc); have HR10 := hid (HR9.out.chg hc HAR.out); clear hq hc)
          go_meet
          exact ⟨_, _, rfl, HB10.out, HR10.out, HAA.out⟩
      case rest =>
        obtain ⟨S', wy, rfl, hb, hr, hf⟩ := hcut
        have HB11 := hid hb
        have HR11 := hid hr
        have HF := hid hf
        clear hb hr hf y0 y1 HADD HREM HB9 HX9 HR9 HAA HAW HAR
        go_wp2
        have HG0 := hid (GrW.refl wy nl)
        generalize gk = K0 at *
        go_loopg [16, 82] ln (fun gk s t wr => ∃ (j : Nat) (vv : Value), j + gk = ln ∧ vv = s ∧ t = .int .i64 j ∧ OwnW wr 3 vv (ints (flt rg r0 (L.take j))) ∧ GrW wy wr nl vv)
        case atStart => exact ⟨0, _, by omega, rfl, rfl, ownW_nil _ _, HG0.out⟩
        case round =>
          obtain ⟨j, vv, hj, rfl, rfl, ho, hg⟩ := hrel
          clear HG0
          by_cases hlt2 : j < ln
          · have hjL : j < L.length := by rw [HLN.out]; exact hlt2
            have HB12 := hid (HB11.out.below hg.nilBelow)
            obtain ⟨a8, rfl, _, hca⟩ := rv_at (HR11.out.below hg.nilBelow).rd hjL
            obtain ⟨rr, hrr⟩ := HFA.out j hjL
            have HRX := hid (pn_range HB12.out.p.plan L[j])
            rw [hrr] at HRX
            rw [show rgV (some rr) = .tuple #[.int .i64 (rr : Nat), .bool true] from rfl] at HRX
            have hjl' : (j : Int) < (ln : Int) := by omega
            have HO := hid ho
            have HG := hid hg
            obtain ⟨mm, hmm⟩ : ∃ x, (ints (flt rg r0 (L.take j))).length = x := ⟨_, rfl⟩
            have hm64 : mm ≤ 64 := by rw [← hmm, ints_length]; exact flt_len (by rw [HLN.out]; exact hl64)
            have HMM := hid hmm
            obtain ⟨B, cb, e0, -⟩ := ho.read
            rw [hmm] at e0
            subst e0
            by_cases hx : rr = r0
            · have HT := hid (flt_no hjL hrr hx)
              have hd : ((rr : Int) != (r0 : Int)) = false := by simp; omega
              clear hmm ho hg hx hrr
              generalize L[j] = x at *
              go_wp2_with (go_at_call 24; refine HRX.out.mono ?_; rintro e w13 ⟨rfl, hb⟩; have HO3 := hid (HO.out.below hb); have HG3 := hid (HG.out.trans (GrW.of hb _)); clear hb)
              go_roundg (gk - 1)
              case measure => omega
              case rel => exact ⟨j + 1, _, by omega, rfl, by go_num, by rw [HT.out]; exact HO3.out, HG3.out⟩
            · have HT := hid (flt_yes hjL hrr hx)
              have hd : ((rr : Int) != (r0 : Int)) = true := by simp; omega
              clear hmm ho hg hx hrr
              generalize L[j] = x at *
              go_wp2_with (first
                | (go_at_call 24; refine HRX.out.mono ?_; rintro e w13 ⟨rfl, hb⟩; have HO4 := hid ((HO.out.below hb).below (below_alloc w13 (.cells #[.int .i64 x] 3))); have HG4 := hid ((HG.out.trans (GrW.of hb _)).trans (GrW.of (below_alloc w13 (.cells #[.int .i64 x] 3)) _)); have HR4 := hid (rv_new w13 3 #[.int .i64 x]); clear hb)
                | (at_builtin; (refine wpList_appW elt_int rfl (.tmp 95) (.tmp 97) rfl _ _ HO4.out rfl _ _ 1 1 [.int .i64 x] rfl rfl HR4.out (fun u hu => by simp at hu; subst hu; rfl) (by rw [HMM.out]; unfold maxLen; omega) (by rw [HMM.out]; omega) ?_); (intro v2 w14 hown2 hg2; have HG5 := hid (HG4.out.trans hg2); have HO5 := hid hown2; clear hown2 hg2)))
              go_roundg (gk - 1)
              case measure => omega
              case rel => exact ⟨j + 1, v2, by omega, rfl, by go_num, by rw [HT.out]; exact HO5.out, HG5.out⟩
          · obtain rfl : j = ln := by omega
            have hjl' : ¬ (j : Int) < (j : Int) := by omega
            rw [show L.take j = L from List.take_of_length_le (by rw [HLN.out]; exact Nat.le_refl _)] at ho
            have HO := hid ho
            have HG := hid hg
            obtain ⟨mm1, hmm⟩ : ∃ x, (ints (flt rg r0 L)).length = x := ⟨_, rfl⟩
            have HMM := hid hmm
            obtain ⟨B1, cb1, e0, hrb, -⟩ := ho.read
            rw [hmm] at e0
            subst e0
            have HRB := hid hrb
            clear hmm ho hg hrb
            have HB12 := hid (HB11.out.below HG.out.nilBelow)
            obtain ⟨L2, hL2⟩ : ∃ L, allp S' n = L := ⟨_, rfl⟩
            have HALL2 := hid (pt_all HB12.out.p)
            have HL642 := hid (HB12.out.p.ok.len64 n)
            have HFA2 := hid (fun j (hj : j < L2.length) => own_at HB12.out.p.ok hL2 hj)
            rw [hL2] at HALL2 HL642 HF
            obtain ⟨ln2, hln2⟩ : ∃ x, L2.length = x := ⟨_, rfl⟩
            have HLN2 := hid hln2
            have hl264 : ln2 ≤ 64 := by have := HL642.out; omega
            clear hln2 hL2
            go_wp2_with (go_at_call 17; refine HALL2.out.mono ?_; rintro e w15 ⟨A13, c13, rfl, ho, hg⟩; have HB13 := hid (HB12.out.below hg.nilBelow); have HR13 := hid (rw_told ho hg).1; have HRB1 := hid (HRB.out.now hg.nilBelow); rw [HLN2.out]; clear ho hg)
            have HMM1 := hid HMM.out
            have HG0 := hid (GrW.refl w15 nl)
            clear HRB HMM HG HO
            go_loopg [17, 103] ln2 (fun gk s t wr => ∃ (j : Nat) (vv : Value), j + gk = ln2 ∧ vv = s ∧ t = .int .i64 j ∧ OwnW wr 3 vv (ints (flt rg r0 (L2.take j))) ∧ GrW w15 wr nl vv)
            case atStart => exact ⟨0, _, by omega, rfl, rfl, ownW_nil _ _, HG0.out⟩
            case round =>
              obtain ⟨j, vv, hj, rfl, rfl, ho, hg⟩ := hrel
              clear HG0
              by_cases hlt2 : j < ln2
              · have hjL : j < L2.length := by rw [HLN2.out]; exact hlt2
                have HB12 := hid (HB13.out.below hg.nilBelow)
                obtain ⟨a8, rfl, _, hca⟩ := rv_at (HR13.out.below hg.nilBelow).rd hjL
                obtain ⟨rr, hrr⟩ := HFA2.out j hjL
                have HRX := hid (pn_range HB12.out.p.plan L2[j])
                rw [hrr] at HRX
                rw [show rgV (some rr) = .tuple #[.int .i64 (rr : Nat), .bool true] from rfl] at HRX
                have hjl' : (j : Int) < (ln2 : Int) := by omega
                have HO := hid ho
                have HG := hid hg
                obtain ⟨mm, hmm⟩ : ∃ x, (ints (flt rg r0 (L2.take j))).length = x := ⟨_, rfl⟩
                have hm64 : mm ≤ 64 := by rw [← hmm, ints_length]; exact flt_len (by rw [HLN2.out]; exact hl264)
                have HMM := hid hmm
                obtain ⟨B, cb, e0, -⟩ := ho.read
                rw [hmm] at e0
                subst e0
                by_cases hx : rr = r0
                · have HT := hid (flt_no hjL hrr hx)
                  have hd : ((rr : Int) != (r0 : Int)) = false := by simp; omega
                  clear hmm ho hg hx hrr
                  generalize L2[j] = x at *
                  go_wp2_with (go_at_call 24; refine HRX.out.mono ?_; rintro e w13 ⟨rfl, hb⟩; have HO3 := hid (HO.out.below hb); have HG3 := hid (HG.out.trans (GrW.of hb _)); clear hb)
                  go_roundg (gk - 1)
                  case measure => omega
                  case rel => exact ⟨j + 1, _, by omega, rfl, by go_num, by rw [HT.out]; exact HO3.out, HG3.out⟩
                · have HT := hid (flt_yes hjL hrr hx)
                  have hd : ((rr : Int) != (r0 : Int)) = true := by simp; omega
                  clear hmm ho hg hx hrr
                  generalize L2[j] = x at *
                  go_wp2_with (first
                    | (go_at_call 24; refine HRX.out.mono ?_; rintro e w13 ⟨rfl, hb⟩; have HO4 := hid ((HO.out.below hb).below (below_alloc w13 (.cells #[.int .i64 x] 3))); have HG4 := hid ((HG.out.trans (GrW.of hb _)).trans (GrW.of (below_alloc w13 (.cells #[.int .i64 x] 3)) _)); have HR4 := hid (rv_new w13 3 #[.int .i64 x]); clear hb)
                    | (at_builtin; (refine wpList_appW elt_int rfl (.tmp 116) (.tmp 118) rfl _ _ HO4.out rfl _ _ 1 1 [.int .i64 x] rfl rfl HR4.out (fun u hu => by simp at hu; subst hu; rfl) (by rw [HMM.out]; unfold maxLen; omega) (by rw [HMM.out]; omega) ?_); (intro v2 w14 hown2 hg2; have HG5 := hid (HG4.out.trans hg2); have HO5 := hid hown2; clear hown2 hg2)))
                  go_roundg (gk - 1)
                  case measure => omega
                  case rel => exact ⟨j + 1, v2, by omega, rfl, by go_num, by rw [HT.out]; exact HO5.out, HG5.out⟩
              · obtain rfl : j = ln2 := by omega
                have hjl' : ¬ (j : Int) < (j : Int) := by omega
                rw [show L2.take j = L2 from List.take_of_length_le (by rw [HLN2.out]; exact Nat.le_refl _)] at ho
                have HO := hid ho
                have HG := hid hg
                obtain ⟨mm, hmm⟩ : ∃ x, (ints (flt rg r0 L2)).length = x := ⟨_, rfl⟩
                have HMM := hid hmm
                obtain ⟨B, cb, e0, hrb, -⟩ := ho.read
                rw [hmm] at e0
                subst e0
                have HRB := hid hrb
                clear hmm ho hg hrb
                have HWS := hid (HG.out.nilBelow)
                have HBE := hid (HB13.out.below HG.out.nilBelow)
                have HRA := hid (HRB1.out.now HG.out.nilBelow)
                rw [HF.out] at HMM HRB
                have hmm2 : mm1 = mm := by have h1 := HMM1.out; have h2 := HMM.out; omega
                subst hmm2
                have HSI := hid (sameints_yes B1 B mm1 mm1 cb1 cb (flt rg r0 L) _ _ _ (by rw [← ints_length]; exact HMM.out) (by rw [← ints_length]; exact HMM.out) (by have h1 := HMM.out; have h2 := flt_len (rg := rg) (r0 := r0) (j := L.length) (L := L) (by rw [HLN.out]; exact hl64); rw [List.take_length] at h2; rw [ints_length] at h1; unfold maxLen; omega) HRA.out HRB.out)
                go_wp2_with (go_at_call 16; refine HSI.out.mono ?_; rintro e w16 ⟨rfl, d, rfl⟩)
                go_roundg (K0 - 1)
                case measure => omega
                case rel => exact ⟨p + 1, by omega, by go_num, _, HBE.out.draws _⟩
    · obtain rfl : p = m := by omega
      have hpm : ¬ (p : Int) < (p : Int) := by omega
      go_wp2
      go_ret
      exact ⟨rfl, HB.out.x.bel⟩
set_option maxRecDepth 20000 in
set_option maxHeartbeats 1000000 in
theorem apart15_bad (A : Option Addr) (n c : Nat) (hh : Nat → Hn) (b x y z τ : Int) (D : Option Addr) (m c2 : Nat) (w : World) (hn : n ≤ 20) (hm : m ≤ 150) (hcA : A = none → c = 0) (hr : Rv w w.heap.size A (hvs hh n)) (_ : 0 ≤ τ ∧ τ < 256) (hok : ¬ (CapP b x y z ∧ HintsP hh n b)) :
    Calls Try.prog 6 #[.agg #[.slice A n c, .int .i64 b, .int .i64 x, .int .i64 y, .int .i64 z], .int .u8 τ, .slice D m c2] w fun e w' => e = .returned (.bool true) ∧ Below w.heap.size w w' := by
  have HLO := hid (fun w => long15 A n c b x y z D m c2 w)
  rw [decide_eq_false (show ¬ (20 < n ∨ 150 < m) by omega)] at HLO
  have HR := hid hr
  have HX0 := hid (Lx.new w A n c b x y z)
  obtain ⟨q, hq⟩ : ∃ q, w.heap.size = q := ⟨_, rfl⟩
  have HQ2 := hid hq
  rw [hq] at HX0
  have HN := hid (fun w (hr : Rv w w.heap.size A (hvs hh n)) => new_bad (w := w) (c := c) (b := b) (x := x) (y := y) (z := z) (by omega) hcA hr hok)
  clear hr hq hok hcA
  go_enter Try.func6, Try.ntmps6
  go_upto_region 1 with fail
  rw [HQ2.out]
  generalize w.alloc (.cells #[.slice A n c, .int .i64 b, .int .i64 x, .int .i64 y, .int .i64 z] 25) = w1 at *
  go_wp2_with (first
    | (go_at_call 7; refine (wakes15 _).mono ?_; rintro e w2 ⟨rfl, hb⟩; have HX2 := hid (HX0.out.below hb); obtain ⟨p0, p1, p2, p3, p4⟩ := HX2.out.all; clear hb)
    | (go_at_call 8; refine (HLO.out _).mono ?_; rintro e w3 ⟨rfl, hb⟩; have HX3 := hid (HX2.out.below hb); obtain ⟨r0, r1, r2, r3, r4⟩ := HX3.out.all; clear hb)
    | (go_at_call 9; refine (HN.out _ (HR.out.now HX3.out.bel)).mono ?_; rintro e w4 ⟨r, rfl, -, hr0, hb⟩; have HX4 := hid (HX3.out.below hb); clear hb))
  go_ret
  exact ⟨rfl, HX4.out.bel⟩
set_option maxRecDepth 20000 in
set_option maxHeartbeats 1000000 in
theorem apart15_walk (A : Option Addr) (n c : Nat) (hh : Nat → Hn) (b x y z τ : Int) (D : Option Addr) (m c2 : Nat) (f : Nat → A2) (w : World) (hcA : A = none → c = 0) (hr : Rv w w.heap.size A (hvs hh n)) (hτ : 0 ≤ τ ∧ τ < 256) (hac : Acts w D m f) :
    Calls Try.prog 6 #[.agg #[.slice A n c, .int .i64 b, .int .i64 x, .int .i64 y, .int .i64 z], .int .u8 τ, .slice D m c2] w fun e w' => e = .returned (.bool true) ∧ Below w.heap.size w w' := by
  by_cases hn : 20 < n ∨ 150 < m
  · have HLO := hid (fun w => long15 A n c b x y z D m c2 w)
    rw [decide_eq_true hn] at HLO
    have HX0 := hid (Lx.new w A n c b x y z)
    obtain ⟨q, hq⟩ : ∃ q, w.heap.size = q := ⟨_, rfl⟩
    have HQ2 := hid hq
    rw [hq] at HX0
    clear hr hq hcA hn hac
    go_enter Try.func6, Try.ntmps6
    go_upto_region 1 with fail
    rw [HQ2.out]
    generalize w.alloc (.cells #[.slice A n c, .int .i64 b, .int .i64 x, .int .i64 y, .int .i64 z] 25) = w1 at *
    go_wp2_with (first
      | (go_at_call 7; refine (wakes15 _).mono ?_; rintro e w2 ⟨rfl, hb⟩; have HX2 := hid (HX0.out.below hb); obtain ⟨p0, p1, p2, p3, p4⟩ := HX2.out.all; clear hb)
      | (go_at_call 8; refine (HLO.out _).mono ?_; rintro e w3 ⟨rfl, hb⟩; have HX3 := hid (HX2.out.below hb); clear hb))
    go_ret
    exact ⟨rfl, HX3.out.bel⟩
  · by_cases hok : CapP b x y z ∧ HintsP hh n b
    · obtain ⟨hcp, hhp⟩ := hok
      obtain ⟨u, hu, rfl, rfl, rfl, hu16⟩ := capN hcp
      exact apart15_ok A n c hh b u τ D m c2 f w hcA hr hcp hu hhp hτ (by omega) hac
    · exact apart15_bad A n c hh b x y z τ D m c2 w (by omega) (by omega) hcA hr hτ hok
end Go.Proofs.Ytibppolcchhmaaa
