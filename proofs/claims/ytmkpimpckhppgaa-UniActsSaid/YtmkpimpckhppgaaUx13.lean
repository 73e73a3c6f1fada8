/-
  What is proved: uni's takes, next, settle, trim, Use, Drop. Condition: the stack lies in memory as one.
-/
import Derived.Test.YtmkpimpckhppgaaYs13
import Derived.BigRegion
namespace Go.Proofs.Ytmkpimpckhppgaa
open Go.RowKit

theorem behind_px {L : List Int} (hd : L.Nodup) {b : Int} (hb : b ∈ L) {j : Nat} : behind L j b ↔ j < px b L := by
  constructor
  · rintro ⟨q, h1, h2⟩
    rw [px_of hd h2]
    exact h1
  · exact fun h => ⟨_, h, px_at hb⟩
theorem okp_one {L : List Int} {x : Int} : okp [L] 0 x ↔ vb x := by
  unfold okp isl
  simp
theorem putE_one (L : List Int) {x : Int} (h : vb x) : putE [L] 0 x = 0 := by
  unfold putE
  rw [if_pos (okp_one.2 h)]
theorem front_one {L : List Int} {x : Int} (h : vb x) : frontS [L] 0 x = [x :: wo x L] := by
  unfold frontS
  rw [if_pos (okp_one.2 h)]
  rfl
section
variable {w : World} {g k : Nat} {c : Nat → Nat} {s : Us}
theorem nx_is {b : Int} {l : Nat} (h1 : 1 ≤ l) (h3 : l ≤ 3) (hno : ∀ q, 1 ≤ q → q < l → ¬ s.tk c b q) (h : s.tk c b l) : s.nx c b = l := by
  have hle := nx_min h1 h3 h
  have hb := nx_le (c := c) s b
  rcases Nat.lt_or_ge (s.nx c b) l with hlt | hge
  · exact absurd (nx_tk (by omega)) (hno _ hb.1 hlt)
  · omega
theorem nx_four {b : Int} (hno : ∀ q, 1 ≤ q → q < 4 → ¬ s.tk c b q) : s.nx c b = 4 := by
  have hb := nx_le (c := c) s b
  rcases Nat.lt_or_ge (s.nx c b) 4 with hlt | hge
  · exact absurd (nx_tk (by omega)) (hno _ hb.1 hlt)
  · omega
set_option maxHeartbeats 1000000 in
theorem un_takes (h : Un w g k c s) (ok : Oku s) {l : Nat} (h1 : 1 ≤ l) (h3 : l ≤ 3) (b : Int) : Calls Try.prog 41 #[.pointer (some ⟨g, 0, none⟩), .int .i64 l, .int .i64 b] w fun e w' => e = .returned (.bool (decide (s.tk c b l))) ∧ Below w.heap.size w w' := by
  have HLV := hid (un_level h ok b)
  have HU := hid h
  by_cases hb : b ∈ s.L
  · have hv := ok.inn b hb
    have HY := hid (un_yard h ok l ⟨by omega, by omega⟩)
    have e1 : s.tk c b l ↔ (px b s.L : Int) ≤ s.yp l := by unfold Us.tk; rw [if_pos hb]
    by_cases hy : 0 ≤ s.yp l
    · obtain ⟨p, e2, hp, hat, -⟩ := Us.yp_some hy
      have e3 : yv s l = .tuple #[.int .i64 (s.yb l), .bool true] := by unfold yv; rw [if_pos hy]
      rw [e3] at HY
      have HAH := hid (fun (w' : World) (hu : Un w' g k c s) => ahead_in hu.sq (i := 0) (l := s.L) (x := s.yb l) rfl hat b)
      have e4 : decide (s.tk c b l) = !(dec (behind s.L p b)) := by
        by_cases hbh : behind s.L p b
        · rw [dec_true hbh, decide_eq_false fun e => by have := e1.1 e; have := (behind_px ok.nd hb).1 hbh; omega]
          rfl
        · have hnl : ¬ p < px b s.L := fun e => hbh ((behind_px ok.nd hb).2 e)
          rw [dec_false hbh, decide_eq_true (e1.2 (by omega))]
          rfl
      rw [e4]
      generalize dec (behind s.L p b) = z at *
      generalize s.yb l = y at *
      generalize s.v b = vb0 at *
      have hz : (vb0 == 0) = false := by have := hv.1; simp; omega
      have hz2 : decide (vb0 = 0) = false := by have := hv.1; simp; omega
      clear h ok hb hv e1 hy e2 hp hat e3 e4
      go_enter Try.func41, Try.ntmps41
      go_upto_region 4 with (first
        | (go_at_call 19; refine HLV.out.mono ?_; rintro e w' ⟨rfl, rfl⟩)
        | (go_at_call 21; refine HY.out.mono ?_; rintro e w1 ⟨rfl, hb⟩; have HU1 := hid (HU.out.below hb); have HB := hid hb; clear hb))
      have c0 := HU1.out.c0
      go_wp2_with (go_at_call 51; refine (HAH.out _ HU1.out).mono ?_; rintro e w' ⟨rfl, rfl⟩)
      go_ret
      exact ⟨rfl, HB.out⟩
    · have e3 : yv s l = .tuple #[.int .i64 0, .bool false] := by unfold yv; rw [if_neg hy]
      rw [e3] at HY
      rw [decide_eq_false (show ¬ s.tk c b l from fun e => by have := e1.1 e; omega)]
      generalize s.v b = vb0 at *
      have hz : (vb0 == 0) = false := by have := hv.1; simp; omega
      have hz2 : decide (vb0 = 0) = false := by have := hv.1; simp; omega
      clear h ok hb hv e1 hy e3
      go_enter Try.func41, Try.ntmps41
      go_wp2_with (first
        | (go_at_call 19; refine HLV.out.mono ?_; rintro e w' ⟨rfl, rfl⟩)
        | (go_at_call 21; refine HY.out.mono ?_; rintro e w1 ⟨rfl, hb⟩; have HB := hid hb; clear hb))
      go_ret
      exact ⟨rfl, HB.out⟩
  · rw [ok.out b hb] at HLV
    have e1 : decide (s.tk c b l) = decide ((s.ct l : Int) < c l) := decide_eq_decide.2 (by unfold Us.tk; rw [if_neg hb]; omega)
    rw [e1]
    have HC := hid (un_count h ok l)
    have HP := hid (fun (w' : World) (hu : Un w' g k c s) => un_cap hu h1 h3)
    generalize c l = n at *
    generalize s.ct l = m at *
    clear h ok hb e1
    go_enter Try.func41, Try.ntmps41
    go_wp2_with (first
      | (go_at_call 19; refine HLV.out.mono ?_; rintro e w' ⟨rfl, rfl⟩)
      | (go_at_call 20; refine HC.out.mono ?_; rintro e w1 ⟨rfl, hb⟩; have HU1 := hid (HU.out.below hb); have HB := hid hb; clear hb)
      | (go_at_call 45; refine (HP.out _ HU1.out).mono ?_; rintro e w' ⟨rfl, rfl⟩))
    go_ret
    exact ⟨by simp, HB.out⟩
set_option maxHeartbeats 1000000 in
theorem un_next (h : Un w g k c s) (ok : Oku s) (b : Int) : Calls Try.prog 29 #[.pointer (some ⟨g, 0, none⟩), .int .i64 b] w fun e w' => e = .returned (.int .i64 (s.nx c b)) ∧ Below w.heap.size w w' := by
  have HU := hid h
  have HK := hid ok
  clear h ok
  go_enter Try.func29, Try.ntmps29
  go_wp2
  go_loopg [5] 3 (fun gk t wr => ∃ l : Nat, l + gk = 4 ∧ 1 ≤ l ∧ t = .int .i64 l ∧ (∀ q, 1 ≤ q → q < l → ¬ s.tk c b q) ∧ Un wr g k c s ∧ Below w.heap.size w wr)
  case atStart => exact ⟨1, by omega, by omega, rfl, fun q h1 h2 => by omega, HU.out, Below.refl _ _⟩
  case round =>
    obtain ⟨l, hl, h1, rfl, hno, hu, hb⟩ := hrel
    have HNO := hid hno
    have HU1 := hid hu
    have HB1 := hid hb
    clear hno hu hb
    have HI := hid (fun w => ulevel_any w (l : Int))
    by_cases h3 : l ≤ 3
    · rw [decide_eq_true (show lv l from ⟨by omega, by omega⟩)] at HI
      have HT := hid (un_takes HU1.out HK.out h1 h3 b)
      by_cases ht : s.tk c b l
      · rw [decide_eq_true ht] at HT
        have HE := hid (nx_is h1 h3 HNO.out ht)
        clear ht
        go_wp2_with (first
          | (go_at_call 35; refine (HI.out _).mono ?_; rintro e w' ⟨rfl, rfl⟩)
          | (go_at_call 41; refine HT.out.mono ?_; rintro e w1 ⟨rfl, hb⟩; have HB2 := hid (on HB1.out hb); clear hb))
        go_ret
        exact ⟨by rw [HE.out]; rfl, HB2.out⟩
      · rw [decide_eq_false ht] at HT
        have HNT := hid ht
        clear ht
        go_wp2_with (first
          | (go_at_call 35; refine (HI.out _).mono ?_; rintro e w' ⟨rfl, rfl⟩)
          | (go_at_call 41; refine HT.out.mono ?_; rintro e w1 ⟨rfl, hb⟩; have HB2 := hid (on HB1.out hb); have HU2 := hid (HU1.out.below hb); clear hb))
        go_roundg (gk - 1)
        case measure => omega
        case rel => exact ⟨l + 1, by omega, by omega, by go_num, fun q q1 q2 => by
          by_cases e : q = l
          · rw [e]; exact HNT.out
          · exact HNO.out q q1 (by omega), HU2.out, HB2.out⟩
    · rw [decide_eq_false (show ¬ lv l from fun e => by have := e.2; omega)] at HI
      have HE := hid (nx_four (s := s) (c := c) (b := b) fun q q1 q2 => HNO.out q q1 (by omega))
      go_wp2_with (go_at_call 35; refine (HI.out _).mono ?_; rintro e w' ⟨rfl, rfl⟩)
      go_ret
      exact ⟨by rw [HE.out]; rfl, HB1.out⟩
theorem tr_nil (hn : s.L = []) : s.trm = s := by
  unfold Us.trm
  rw [hn]
  rfl
theorem tr_stop {x : Int} (hl : s.L.getLast? = some x) (hv : s.v x ≠ 4) : s.trm = s := by
  unfold Us.trm
  cases hn : s.L.length with
  | zero => rfl
  | succ n =>
    unfold Us.tr
    rw [hl]
    exact if_neg hv
theorem tr_go (ok : Oku s) {x : Int} (hl : s.L.getLast? = some x) (hv : s.v x = 4) : s.trm = (s.fg x).trm ∧ (s.fg x).L.length + 1 = s.L.length := by
  have hn : s.L ≠ [] := fun e => by rw [e] at hl; cases hl
  have hlen : (s.fg x).L.length + 1 = s.L.length := by
    show (wo x s.L).length + 1 = _
    rw [last_wo hl ok.nd, List.length_dropLast]
    have := List.length_pos_iff.2 hn
    omega
  refine ⟨?_, hlen⟩
  unfold Us.trm
  rw [← hlen]
  show Us.tr ((s.fg x).L.length + 1) s = _
  conv => lhs; unfold Us.tr
  rw [hl]
  exact if_pos hv
set_option maxHeartbeats 1000000 in
theorem un_trim (h : Un w g k c s) (ok : Oku s) : Calls Try.prog 25 #[.pointer (some ⟨g, 0, none⟩)] w fun e w' => e = .returned (.tuple #[]) ∧ Un w' g k c s.trm ∧ Chg w w' (Uf g k) (Uf g k) := by
  have HU := hid h
  have HK := hid ok
  clear h ok
  go_enter Try.func25, Try.ntmps25
  go_wp2
  go_loopg [] s.L.length (fun gk wr => ∃ s' : Us, s'.L.length = gk ∧ s'.trm = s.trm ∧ Oku s' ∧ Un wr g k c s' ∧ Chg w wr (Uf g k) (Uf g k))
  case atStart => exact ⟨s, rfl, rfl, HK.out, HU.out, Chg.refl _ _⟩
  case round =>
    obtain ⟨s', hlen, he, ok, hu, hc⟩ := hrel
    have HE := hid he
    have HU1 := hid hu
    have HC1 := hid hc
    have HLEN := hid hlen
    have HLA := hid (last_in hu.sq (i := 0) (l := s'.L) rfl)
    have c0 := hu.c0
    clear he hlen HU HK
    by_cases hn : s'.L = []
    · rw [show lastV s'.L = .tuple #[.int .i64 0, .bool false] from by unfold lastV; rw [dif_pos hn]] at HLA
      have HTR := hid (tr_nil hn)
      clear hu hc ok hn
      go_wp2_with (go_at_call 40; refine HLA.out.mono ?_; rintro e w1 ⟨rfl, d, rfl⟩; have HU2 := hid (HU1.out.draws d); have HC2 := hid (Chg.draws HC1.out d))
      refine bodyPost_ret (results_none rfl _ _ _) rfl ?_
      exact ⟨rfl, by rw [← HE.out, HTR.out]; exact HU2.out, HC2.out⟩
    · have hl := List.getLast?_eq_some_getLast hn
      have hm := List.getLast_mem hn
      rw [show lastV s'.L = .tuple #[.int .i64 (s'.L.getLast hn), .bool true] from by unfold lastV; rw [dif_neg hn]] at HLA
      have hlt := ok.lt _ hm
      generalize s'.L.getLast hn = x at *
      obtain ⟨p, rfl⟩ : ∃ p : Nat, x = p := ⟨x.toNat, by omega⟩
      have hp : p < 64 := by omega
      have hpp : (p : Int) < 64 := by omega
      have cV := hu.cV hp
      by_cases hv : s'.v p = 4
      · have HV := hid hv
        obtain ⟨e1, e2⟩ := tr_go ok hl hv
        have HT1 := hid e1
        have HT2 := hid e2
        have HOK := hid (ok.fg (p : Int))
        have hvb : vb (p : Int) := ⟨by omega, by omega⟩
        have HVB := hid hvb
        clear hu hc ok hn hl hm hlt hv e1 e2 hvb
        go_upto_region 1 with (go_at_call 40; refine HLA.out.mono ?_; rintro e w1 ⟨rfl, d, rfl⟩; have HU2 := hid (HU1.out.draws d); have HC2 := hid (Chg.draws HC1.out d))
        have cV2 := HU2.out.cV hp
        rw [HV.out] at cV2
        have HF := hid (un_forget HU2.out HVB.out)
        go_wp2_with (go_at_call 24; refine HF.out.mono ?_; rintro e w2 ⟨rfl, hu2, hc2⟩; have HU3 := hid hu2; have HC3 := hid (HC2.out.trans hc2); clear hu2 hc2)
        go_roundg (s'.fg p).L.length
        case measure => have := HLEN.out; have := HT2.out; omega
        case rel => exact ⟨_, rfl, by rw [← HT1.out]; exact HE.out, HOK.out, HU3.out, HC3.out⟩
      · have HTR := hid (tr_stop hl hv)
        generalize s'.v p = y at *
        have h1 : (y != 4) = true := by simpa using hv
        have h2 : decide (y = 4) = false := by simpa using hv
        clear hu hc ok hn hl hm hlt hv
        go_wp2_with (go_at_call 40; refine HLA.out.mono ?_; rintro e w1 ⟨rfl, d, rfl⟩; have HU2 := hid (HU1.out.draws d); have HC2 := hid (Chg.draws HC1.out d))
        refine bodyPost_ret (results_none rfl _ _ _) rfl ?_
        exact ⟨rfl, by rw [← HE.out, HTR.out]; exact HU2.out, HC2.out⟩
end
end Go.Proofs.Ytmkpimpckhppgaa
