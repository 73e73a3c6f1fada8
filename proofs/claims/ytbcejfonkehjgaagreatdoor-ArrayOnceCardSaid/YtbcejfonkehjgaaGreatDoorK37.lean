/-
  What is proved: store's redo does once more what the journal tells; add does a newer write. Conditions: the store lies in memory as one; the write fits its shape.
-/
import Derived.Test.YtbcejfonkehjgaaGreatDoorK36
import Derived.Test.YtbcejfonkehjgaaGreatDoorRows
import Derived.Test.YtbcejfonkehjgaaGreatDoorK02
namespace Go.Proofs.YtbcejfonkehjgaaGreatDoor
open Go.RowKit

def rdo (sh : Sh) (s : St) (l : List Int) : St × Int :=
  if pok sh l then runs (wat (1 + nth l (some 0) 4) (sh.at_ (nth l (some 0) 0) (nth l (some 0) 1))) (pgs (nth l (some 0) 0) (nth l (some 0) 1) (nth l (some 0) 2) (nth l (some 0) 3) (nth l (some 0) 4) (nth l (some 0) 5) 0 (pnd l).1) s [1, 2, 3] else (s, 0)
theorem Bs.rn {w : World} {A : Option Addr} {n c : Nat} {l : List Int} (h : Bs w (.slice A n c) l) : Rn w A l := by
  obtain ⟨A', c', e, r, _⟩ := h
  injection e with e1 e2 e3
  subst e1
  exact r
section
variable {w : World} {bb kd ks : Nat} {vv : Value} {st : St} {sh : Sh}
set_option maxRecDepth 100000 in
set_option maxHeartbeats 1600000 in
theorem redo_any (h : Sx w bb kd ks vv st sh) (l : List Int) (hl : st.L[0]? = some l) :
    Calls Tryz.prog 55 #[.pointer (some ⟨ks, 0, none⟩)] w fun e w' => e = .returned (.int .i64 (rdo sh st l).2) ∧ Sx w' bb kd ks vv (rdo sh st l).1 sh ∧ Only w w' kd vv := by
  have hl1 : Ok1 l := h.by_ l (List.mem_of_getElem? hl)
  have HP := hid (pending_any h l hl)
  have HX := hid h
  have HN := hid (fun i => nth_bnd (o := some 0) hl1 i)
  have HT := hid (show Byt (pnd l).1 ∧ (pnd l).1.length ≤ 16 from ⟨tx_byte hl1.2 _, (tx_bnd hl1).2⟩)
  clear h hl hl1
  by_cases hp : pok sh l
  · have hpk : nth l (some 0) 4 < sh.B ∧ (nth l (some 0) 0 < sh.C ∧ nth l (some 0) 1 < sh.S) := ⟨hp.2.1, hp.2.2.1⟩
    have hR : rdo sh st l = runs (wat (1 + nth l (some 0) 4) (sh.at_ (nth l (some 0) 0) (nth l (some 0) 1))) (pgs (nth l (some 0) 0) (nth l (some 0) 1) (nth l (some 0) 2) (nth l (some 0) 3) (nth l (some 0) 4) (nth l (some 0) 5) 0 (pnd l).1) st [1, 2, 3] := if_pos hp
    rw [decide_eq_true hp] at HP
    rw [hR]
    clear hR hp
    have n0 := HN.out 0
    have n1 := HN.out 1
    have n2 := HN.out 2
    have n3 := HN.out 3
    have n4 := HN.out 4
    have n5 := HN.out 5
    generalize nth l (some 0) 0 = a0 at *
    generalize nth l (some 0) 1 = a1 at *
    generalize nth l (some 0) 2 = a2 at *
    generalize nth l (some 0) 3 = a3 at *
    generalize nth l (some 0) 4 = a4 at *
    generalize nth l (some 0) 5 = a5 at *
    generalize (pnd l).1 = t at *
    obtain ⟨hk1, hc1, hs1⟩ := hpk
    have HWR := hid (fun w1 (h1 : Sx w1 bb kd ks vv st sh) A q (r1 : Rn w1 A t) => writer_any (w := w1) h1 a0 a1 a2 a3 a4 a5 0 t.length q A t rfl HT.out.2 n0 n1 n2 n3 n4 n5 (by omega) r1 hk1 hc1 hs1)
    have HRU := hid (fun w1 h1 t2 g hw1 gs (hg : Bx w1 gs 3 #[.int .i64 1, .int .i64 2, .int .i64 3]) => runs_any (w := w1) (b := bb) (kd := kd) (ks := ks) (v := vv) (s := st) (sh := sh) h1 (t2 := t2) (g := g) (a1 := 1 + a4) (a2 := sh.at_ a0 a1) (f := pgs a0 a1 a2 a3 a4 a5 0 t) hw1 rfl [1, 2, 3] 3 rfl (by omega) (fun i hi => by
      have h3 : 1 ≤ i ∧ i < 4 := by simp at hi; omega
      exact ⟨h3.2, pgs_ok a0 a1 a2 a3 a4 a5 0 t HT.out.1 HT.out.2 n2 n3 n5 (by omega) i h3.1 h3.2⟩) (some ⟨gs, 0, none⟩) 3 _ (Nat.le_refl _) (rv_ints [1, 2, 3] hg rfl) (fun y hy => rv_ints [1, 2, 3] (hg.dsk h1.dk hy (by decide) (by decide)) rfl))
    clear n0 n1 n2 n3 n4 n5 hk1 hc1 hs1 HN
    generalize runs (wat (1 + a4) (sh.at_ a0 a1)) (pgs a0 a1 a2 a3 a4 a5 0 t) st [1, 2, 3] = RR at *
    obtain ⟨st', er⟩ := RR
    go_enter Tryz.func55, Tryz.ntmps55
    go_wp2_with fail
    refine HP.out.mono ?_
    rintro e w1 ⟨u, rfl, hu, hb1⟩
    have HU := hid hu
    obtain ⟨A, q, rfl, -⟩ := hu
    obtain ⟨W, hW, B1, HBb, sb⟩ := below_new w1 167 #[.int .i64 a0, .int .i64 a1, .int .i64 a2, .int .i64 a3, .int .i64 a4, .slice A t.length q, .int .i64 a5, .int .i64 0]
    have HW := hid hW
    have HB := hid (on hb1 HBb)
    have HX1 := hid (HX.out.below HB.out)
    have HU1 := hid (HU.out.below HBb)
    have HE := hid B1
    clear hb1 hW B1 HBb sb HU HX HP
    obtain ⟨L, hL⟩ : ∃ L, t.length = L := ⟨_, rfl⟩
    have HL := hid hL
    rw [hL] at HW HE ⊢
    clear hL
    go_upto_region 2 with fail
    rw [HW.out]
    clear HW
    go_wp2_with (refine wpList_load_bx rfl 167 (.tmp 3) rfl _ _ _ _ rfl HE.out Tryz.underlying167 rfl (by kernel_rfl) ?_)
    rw [← HL.out]
    refine (HWR.out W HX1.out A q HU1.out.rn).mono ?_
    rintro e w2 ⟨t2, g, rfl, hw2, hb2⟩
    obtain ⟨w3, hw3, BG, HB3, -⟩ := below_new w2 3 #[.int .i64 1, .int .i64 2, .int .i64 3]
    have HW3 := hid hw3
    have HG3 := hid BG
    have HX3 := hid ((HX1.out.below hb2).below HB3)
    have HT3 := hid (hw2.below HB3)
    have HB3' := hid (on (on HB.out hb2) HB3)
    clear hw2 hb2 hw3 BG HB3 HWR HX1 HU1 HE HB
    go_wp2_with fail
    rw [HW3.out]
    refine (HRU.out w3 HX3.out t2 g HT3.out w2.heap.size HG3.out).mono ?_
    rintro e w4 ⟨rfl, hx4, ho4⟩
    have HX4 := hid hx4
    have HO4 := hid (Only.trans (Only.of HB3'.out kd vv) ho4)
    clear hx4 ho4 HRU HX3 HT3 HG3 HB3' HW3
    go_wp2
    go_ret
    exact ⟨rfl, HX4.out, HO4.out⟩
  · have hR : rdo sh st l = (st, 0) := if_neg hp
    rw [hR]
    rw [decide_eq_false hp] at HP
    clear hR hp HN HT
    generalize nth l (some 0) 0 = a0 at *
    generalize nth l (some 0) 1 = a1 at *
    generalize nth l (some 0) 2 = a2 at *
    generalize nth l (some 0) 3 = a3 at *
    generalize nth l (some 0) 4 = a4 at *
    generalize nth l (some 0) 5 = a5 at *
    generalize (pnd l).1 = t at *
    go_enter Tryz.func55, Tryz.ntmps55
    go_wp2_with fail
    refine HP.out.mono ?_
    rintro e w1 ⟨u, rfl, hu, hb1⟩
    have HB1 := hid hb1
    obtain ⟨A, q, rfl, -⟩ := hu
    have HX1 := hid (HX.out.below HB1.out)
    clear HX HP hb1
    go_wp2
    go_ret
    exact ⟨rfl, HX1.out.below (below_alloc _ _), Only.of (on HB1.out (below_alloc _ _)) _ _⟩
end
end Go.Proofs.YtbcejfonkehjgaaGreatDoor
namespace Go.Proofs.YtbcejfonkehjgaaGreatDoor
open Go.RowKit

def adr (sh : Sh) (s : St) (v c t b o k : Nat) (l : List Int) : (St × Int) × Int :=
  let R := if v = 1000 then runs (wat (1 + k) (sh.at_ c t)) (pgs c t b o k 0 11 l) s [2] else runs (wat (1 + k) (sh.at_ c t)) (pgs c t b o k (v + 1) 0 l) s [0, 1, 2, 3]
  (R, okc (if v = 1000 then 11 else 0) R.2)
section
variable {w : World} {bb kd ks : Nat} {vv : Value} {st : St} {sh : Sh}
set_option maxRecDepth 100000 in
set_option maxHeartbeats 1600000 in
theorem add_any (h : Sx w bb kd ks vv st sh) (c s b o k L cap : Nat) (A : Option Addr) (l : List Int) (hL : l.length = L) (hl : L ≤ 16) (hb : b ≤ great) (ho : o ≤ great) (r : Rn w A l) (hy : Byt l) (hk1 : k < sh.B) (hc1 : c < sh.C) (hs1 : s < sh.S) (lb : List Int) (hlb : st.L[1 + k]? = some lb) :
    Calls Tryz.prog 127 #[.pointer (some ⟨ks, 0, none⟩), .agg #[.int .i64 (c : Nat), .int .i64 (s : Nat), .int .i64 (b : Nat), .int .i64 (o : Nat), .int .i64 (k : Nat), .slice A L cap]] w fun e w' =>
      e = .returned (.tuple #[.int .i64 (adr sh st (blk sh.Z lb).1 c s b o k l).2, .int .i64 (adr sh st (blk sh.Z lb).1 c s b o k l).1.2]) ∧ Sx w' bb kd ks vv (adr sh st (blk sh.Z lb).1 c s b o k l).1.1 sh ∧ Only w w' kd vv := by
  obtain ⟨W, hW, B1, HBb, sb⟩ := below_new w 133 #[.int .i64 (c : Nat), .int .i64 (s : Nat), .int .i64 (b : Nat), .int .i64 (o : Nat), .int .i64 (k : Nat), .slice A L cap]
  have HW := hid hW
  have HX := hid (h.below HBb)
  have HE := hid B1
  have HB := hid HBb
  have HR := hid (r.now HBb)
  have HBK := hid (block_any HX.out k hk1 lb hlb)
  have hv1 := (blk_len sh.Z lb).2
  have hB := h.ok.b
  have hC := h.ok.c
  have hS := h.ok.s
  have HF := hid (And.intro hb (And.intro ho (And.intro hk1 (And.intro hc1 hs1))))
  unfold great at hb ho
  have HDO := hid (fun w1 (h1 : Sx w1 bb kd ks vv st sh) (v x : Nat) (hv : v ≤ 1000) (hx : x < 9223372036854775808) (r1 : Rn w1 A l) (ns : List Nat) n hn hn4 hns gs q cs hgs hcs =>
    sdo_any (w := w1) h1 c s b o k v x L cap A l hL hl (by omega) (by omega) (by omega) (by omega) (by omega) (by omega) hx r1 hk1 hc1 hs1 ns n hn hn4 hns gs q cs hgs hcs)
  have HP1 := hid (fun x (hx : x < 9223372036854775808) => pgs_ok c s b o k 0 x l hy (by omega) (by omega) (by omega) (by omega) hx)
  have HP0 := hid (fun v (hv : v ≤ 1000) => pgs_ok0 c s b o k v 0 l hy (by omega) (by omega) (by omega) (by omega) (by unfold great; omega) (by unfold great; omega) hv)
  have HP2 := hid (fun v (hv : v ≤ 1000) => pgs_ok c s b o k v 0 l hy (by omega) (by omega) (by omega) (by omega) (by omega))
  clear h hW B1 HBb sb hL hl r hk1 hc1 hs1 hb ho hy hlb hB hC hS
  generalize hvv : (blk sh.Z lb).1 = ver at *
  have HVV := hid hvv
  clear hvv
  go_enter Tryz.func127, Tryz.ntmps127
  go_upto_region 1 with fail
  rw [HW.out]
  have k4 : W.cell? ⟨w.heap.size, 4, none⟩ = some (.int .i64 (k : Nat)) := HE.out.cell 4
  go_wp2_with fail
  refine HBK.out.mono ?_
  rintro e w1 ⟨u, rfl, hu, hb1⟩
  have HB1 := hid (on HB.out hb1)
  have HX1 := hid (HX.out.below hb1)
  have HE1 := hid (HE.out.next hb1)
  have HR1 := hid (HR.out.now hb1)
  clear hu hb1 HW HX HE HR HB HBK k4
  by_cases hv : ver = 1000
  · subst hv
    have HRES := hid (show adr sh st 1000 c s b o k l = (runs (wat (1 + k) (sh.at_ c s)) (pgs c s b o k 0 11 l) st [2], okc 11 (runs (wat (1 + k) (sh.at_ c s)) (pgs c s b o k 0 11 l) st [2]).2) from rfl)
    obtain ⟨w2, hw2, BG, HB2, -⟩ := below_new w1 3 #[.int .i64 2]
    have HW2 := hid hw2
    have HG2 := hid BG
    have HX2 := hid (HX1.out.below HB2)
    have HR2 := hid (HR1.out.now HB2)
    have HB3 := hid (on HB1.out HB2)
    clear hw2 BG HB2
    go_wp2_with (refine wpList_load_bx rfl 133 (.tmp 3) rfl _ _ _ _ rfl HE1.out Tryz.underlying133 rfl (by kernel_rfl) ?_)
    rw [HW2.out]
    refine (HDO.out w2 HX2.out 0 11 (by omega) (by omega) HR2.out [2] 1 rfl (by omega) (fun i hi => by
      have h2 : i = 2 := by simpa using hi
      subst h2
      exact And.intro (by omega) (HP1.out 11 (by omega) 2 (by omega) (by omega))) w1.heap.size 1 _ HG2.out rfl).mono ?_
    rintro e w3 ⟨rfl, hx3, ho3⟩
    have HX3 := hid hx3
    have HO3 := hid (Only.trans (Only.of HB3.out kd vv) ho3)
    clear hx3 ho3 HDO HP0 HP1 HP2 HX1 HX2 HR1 HR2 HB1 HB3 HE1 HG2 HW2
    go_wp2
    go_ret2
    refine ⟨?_, ?_, HO3.out⟩
    · rw [HRES.out]
      rfl
    · rw [HRES.out]
      exact HX3.out
  · have HRES := hid (show adr sh st ver c s b o k l = (runs (wat (1 + k) (sh.at_ c s)) (pgs c s b o k (ver + 1) 0 l) st [0, 1, 2, 3], okc 0 (runs (wat (1 + k) (sh.at_ c s)) (pgs c s b o k (ver + 1) 0 l) st [0, 1, 2, 3]).2) by unfold adr; simp only [if_neg hv])
    have q1 : ((ver : Int) == 1000) = false := by simpa using fun h : (ver : Int) = 1000 => hv (by omega)
    have q2 : ver + 1 ≤ 1000 := by omega
    have HQ2 := hid q2
    clear q2 hv
    obtain ⟨w2, hw2, BG, HB2, -⟩ := below_new w1 3 #[.int .i64 0, .int .i64 1, .int .i64 2, .int .i64 3]
    have HW2 := hid hw2
    have HG2 := hid BG
    have HX2 := hid (HX1.out.below HB2)
    have HR2 := hid (HR1.out.now HB2)
    have HB3 := hid (on HB1.out HB2)
    clear hw2 BG HB2
    go_wp2_with (refine wpList_load_bx rfl 133 (.tmp 3) rfl _ _ _ _ rfl HE1.out Tryz.underlying133 rfl (by kernel_rfl) ?_)
    rw [HW2.out]
    rw [show ((ver : Int) + 1) = ((ver + 1 : Nat) : Int) from rfl]
    refine (HDO.out w2 HX2.out (ver + 1) 0 HQ2.out (by omega) HR2.out [0, 1, 2, 3] 4 rfl (by omega) (fun i hi => by
      have h4 : i < 4 := by simp at hi; omega
      refine ⟨h4, ?_⟩
      by_cases h0 : i = 0
      · subst h0; exact HP0.out _ HQ2.out
      · exact HP2.out _ HQ2.out i (by omega) h4) w1.heap.size 4 _ HG2.out rfl).mono ?_
    rintro e w3 ⟨rfl, hx3, ho3⟩
    have HX3 := hid hx3
    have HO3 := hid (Only.trans (Only.of HB3.out kd vv) ho3)
    clear hx3 ho3 HDO HP0 HP1 HP2 HX1 HX2 HR1 HR2 HB1 HB3 HE1 HG2 HW2
    go_wp2
    go_ret2
    refine ⟨?_, ?_, HO3.out⟩
    · rw [HRES.out]
      rfl
    · rw [HRES.out]
      exact HX3.out
end
end Go.Proofs.YtbcejfonkehjgaaGreatDoor
namespace Go.Proofs.YtbcejfonkehjgaaGreatDoor
open Go.RowKit

def cmpI6 (a b : Int) : Int := if a < b then -1 else if b < a then 1 else 0
def orI (a b : Int) : Int := if a ≠ 0 then a else b
set_option maxHeartbeats 400000 in
theorem isNaN_any (a : Int) (w : World) : Calls Tryz.prog 154 #[.int .i64 a] w fun e w' => e = .returned (.bool false) ∧ w' = w := by
  have h : (a == a) = true := by simp
  go_enter Tryz.func154, Tryz.ntmps154
  go_wp2
  go_ret
  exact ⟨by simp, rfl⟩
set_option maxHeartbeats 400000 in
theorem compare6_any (a b : Int) (w : World) : Calls Tryz.prog 126 #[.int .i64 a, .int .i64 b] w fun e w' => e = .returned (.int .i64 (cmpI6 a b)) ∧ w' = w := by
  rcases Int.lt_trichotomy a b with h | h | h
  · have HR := hid (show cmpI6 a b = -1 from if_pos h)
    go_enter Tryz.func126, Tryz.ntmps126
    go_wp2_with (go_at_call 154; refine (isNaN_any _ _).mono ?_; rintro e w' ⟨rfl, rfl⟩)
    go_ret
    exact ⟨by rw [HR.out]; rfl, rfl⟩
  · subst h
    have HR := hid (show cmpI6 a a = 0 by unfold cmpI6; rw [if_neg (by omega), if_neg (by omega)])
    go_enter Tryz.func126, Tryz.ntmps126
    go_wp2_with (go_at_call 154; refine (isNaN_any _ _).mono ?_; rintro e w' ⟨rfl, rfl⟩)
    go_ret
    exact ⟨by rw [HR.out]; rfl, rfl⟩
  · have HR := hid (show cmpI6 a b = 1 by unfold cmpI6; rw [if_neg (by omega), if_pos h])
    have h2 : decide (a < b) = false := by simp; omega
    go_enter Tryz.func126, Tryz.ntmps126
    go_wp2_with (go_at_call 154; refine (isNaN_any _ _).mono ?_; rintro e w' ⟨rfl, rfl⟩)
    go_ret
    exact ⟨by rw [HR.out]; rfl, rfl⟩
set_option maxRecDepth 100000 in
set_option maxHeartbeats 800000 in
theorem or_any (a b : Int) (g c : Nat) (w : World) (h0 : w.cell? ⟨g, 0, none⟩ = some (.int .i64 a)) (h1 : w.cell? ⟨g, 1, none⟩ = some (.int .i64 b)) :
    Calls Tryz.prog 125 #[.slice (some ⟨g, 0, none⟩) 2 c] w fun e w' => e = .returned (.int .i64 (orI a b)) ∧ w' = w := by
  by_cases ha : a = 0
  · subst ha
    have HR := hid (show orI 0 b = b from rfl)
    have HD := hid (Decidable.em (b = 0))
    go_enter Tryz.func125, Tryz.ntmps125
    go_wp2
    go_loopw [8] (fun i wr => (i = .int .i64 0 ∨ i = .int .i64 1 ∨ i = .int .i64 2 ∧ Hid (b = 0)) ∧ wr = w) (fun i _ => 2 - (intOf i).toNat)
    case atStart => exact ⟨.inl rfl, rfl⟩
    case round =>
      obtain ⟨h, rfl⟩ := hrel
      rcases h with rfl | rfl | ⟨rfl, hb⟩
      · go_wp2
        go_roundw
        case rel => exact ⟨.inr (.inl (by go_num)), by simp⟩
        case measure => simp [intOf]
      · rcases HD.out with hb | hb
        · have HB := hid hb
          have q1 : (b == 0) = true := by simpa using hb
          have q2 : (b != 0) = false := by simpa using hb
          clear hb
          go_wp2
          go_roundw
          case rel => exact ⟨.inr (.inr ⟨by go_num, HB⟩), by simp⟩
          case measure => simp [intOf]
        · have q1 : (b == 0) = false := by simpa using hb
          have q2 : (b != 0) = true := by simpa using hb
          clear hb
          go_wp2
          go_ret
          exact ⟨by rw [HR.out]; rfl, rfl⟩
      · go_wp2
        go_ret
        exact ⟨by rw [HR.out, hb.out]; rfl, rfl⟩
  · have HR := hid (show orI a b = a from if_pos ha)
    have q1 : (a == 0) = false := by simpa using ha
    have q2 : (a != 0) = true := by simpa using ha
    clear ha
    go_enter Tryz.func125, Tryz.ntmps125
    go_wp2
    go_loopw [8] (fun i wr => i = .int .i64 0 ∧ wr = w) (fun i _ => 2 - (intOf i).toNat)
    case atStart => exact ⟨rfl, rfl⟩
    case round =>
      obtain ⟨rfl, rfl⟩ := hrel
      go_wp2
      go_ret
      exact ⟨by rw [HR.out]; rfl, rfl⟩
end Go.Proofs.YtbcejfonkehjgaaGreatDoor
namespace Go.Proofs.YtbcejfonkehjgaaGreatDoor
open Go.RowKit

def updN {α : Type} (f : Nat → α) (i : Nat) (a : α) : Nat → α := fun j => if j = i then a else f j
theorem upd_self {α : Type} (f : Nat → α) (i : Nat) (a : α) : updN f i a i = a := if_pos rfl
theorem updN_ne {α : Type} (f : Nat → α) {i j : Nat} (a : α) (h : j ≠ i) : updN f i a j = f j := if_neg h

structure RS where
  V : Nat → Nat
  T : Nat → List Int
  P : Nat → Nat
  O : Nat → Nat
  K : Nat → Nat
def RS.zero (Z : Nat) : RS := ⟨fun _ => 0, fun _ => List.replicate Z 0, fun _ => 0, fun _ => 0, fun _ => 0⟩
def sec (L : List (List Int)) (i : Nat) : List Int := L.getD i []
theorem sec_set {L : List (List Int)} {i : Nat} (hi : i < L.length) (l : List Int) (j : Nat) : sec (L.set i l) j = if j = i then l else sec L j := by
  unfold sec
  by_cases h : j = i
  · subst h; simp [List.getD, hi]
  · rw [if_neg h, List.getD, List.getD, List.getElem?_set_ne (fun e => h e.symm)]
theorem sec_some {L : List (List Int)} {i : Nat} (hi : i < L.length) : L[i]? = some (sec L i) := by
  unfold sec
  rw [List.getD, List.getElem?_eq_getElem hi]
  rfl
structure Agr (sh : Sh) (L : List (List Int)) (X : RS) : Prop where
  b : ∀ k, k < sh.B → blk sh.Z (sec L (1 + k)) = (X.V k, X.T k)
  s : ∀ i, i < sh.S * sh.C → slt (sec L (1 + sh.B + i)) = (X.P i, X.O i, X.K i)
def RS.put (X : RS) (i b o k : Nat) (l : List Int) : RS × Nat :=
  if X.V k = 1000 then (⟨X.V, X.T, updN X.P i b, updN X.O i o, updN X.K i 11⟩, 11)
  else (⟨updN X.V k (X.V k + 1), updN X.T k l, updN X.P i b, updN X.O i o, updN X.K i 0⟩, 0)

/-! ### one write of a sector -/
theorem told_ok {L : List (List Int)} {f : Int} (hf : f ≠ 0) {i : Nat} {l : List Int} (hi : i < L.length) (hl : l.length ≤ 64) :
    St.told ⟨L, f, false⟩ i l = 0 ∧ St.write ⟨L, f, false⟩ i l = ⟨L.set i l, if 0 < f then f - 1 else f, false⟩ := by
  unfold St.told St.write St.burn
  simp only
  have h1 : ¬ ((i : Int) < 0 ∨ (L.length : Int) ≤ i) := by omega
  rw [if_neg (by simp), if_neg h1, if_neg (by omega), if_neg hf, if_neg (by simp), if_neg h1, if_neg (by omega), if_neg hf, if_neg hf]
  refine ⟨rfl, ?_⟩
  by_cases h : 0 < f
  · rw [if_pos h, if_pos h, Int.toNat_natCast]
  · rw [if_neg h, if_neg h, Int.toNat_natCast]
theorem told_stop {L : List (List Int)} {i : Nat} {l : List Int} (hi : i < L.length) (hl : l.length ≤ 64) :
    St.told ⟨L, 0, false⟩ i l = 8 ∧ St.write ⟨L, 0, false⟩ i l = ⟨L, 0, true⟩ := by
  unfold St.told St.write
  simp only
  have h1 : ¬ ((i : Int) < 0 ∨ (L.length : Int) ≤ i) := by omega
  rw [if_neg (by simp), if_neg h1, if_neg (by omega), if_pos trivial, if_neg (by simp), if_neg h1, if_neg (by omega), if_pos trivial]
  exact ⟨rfl, rfl⟩
theorem runs_ok (a : Nat → Nat) (g : Nat → List Int) (L : List (List Int)) (f : Int) (i : Nat) (r : List Nat) (hf : f ≠ 0) (hi : a i < L.length) (hl : (g i).length ≤ 64) :
    runs a g ⟨L, f, false⟩ (i :: r) = runs a g ⟨L.set (a i) (g i), if 0 < f then f - 1 else f, false⟩ r := by
  obtain ⟨h1, h2⟩ := told_ok hf hi hl
  show (if St.told ⟨L, f, false⟩ (a i : Nat) (g i) = 0 then _ else _) = _
  rw [h1, if_pos rfl, h2]
theorem runs_stop (a : Nat → Nat) (g : Nat → List Int) (L : List (List Int)) (i : Nat) (r : List Nat) (hi : a i < L.length) (hl : (g i).length ≤ 64) :
    runs a g ⟨L, 0, false⟩ (i :: r) = (⟨L, 0, true⟩, 8) := by
  obtain ⟨h1, h2⟩ := told_stop hi hl
  show (if St.told ⟨L, 0, false⟩ (a i : Nat) (g i) = 0 then _ else _) = _
  rw [h1, h2, if_neg (by omega)]
/-! ### the journal -/
theorem gnum_nil (p : Nat) : gnum [] p = none := by
  unfold gnum
  rw [List.drop_nil]
  rfl
theorem nx_nil (o : Option Nat) : nx [] o = (0, none) := by
  cases o with
  | none => rfl
  | some p => simp only [nx, gnum_nil]
theorem stt_nil (o : Option Nat) (i : Nat) : stt [] o (i + 1) = none := by
  show (nx [] _).2 = none
  rw [nx_nil]
theorem pok_nil (sh : Sh) : ¬ pok sh [] := by
  intro h
  have h1 := h.1
  unfold pnd at h1
  rw [stt_nil] at h1
  simp [tx, endd] at h1
theorem blk_nil (Z : Nat) : blk Z [] = (0, List.replicate Z 0) := by
  unfold blk
  simp only
  rw [stt_nil, if_neg]
  simp [tx, endd]
theorem slt_nil : slt [] = (0, 0, 0) := by
  unfold slt
  rw [stt_nil, if_neg]
  simp [endd]
theorem jrn {c t b o k v : Nat} {l : List Int} (h : ∀ m ∈ [c, t, b, o, k, v], m < 9223372036854775808) (hl : l.length ≤ 16) :
    (∀ i m, [c, t, b, o, k, v][i]? = some m → nth (pgs c t b o k v 0 l 0) (some 0) i = m) ∧ pnd (pgs c t b o k v 0 l 0) = (l, some (pgs c t b o k v 0 l 0).length) := by
  have e : pgs c t b o k v 0 l 0 = encs [c, t, b, o, k, v] ++ (enc l.length ++ l) := by simp only [pgs, List.append_assoc]
  rw [e]
  obtain ⟨h1, h2⟩ := stt_encs (l := encs [c, t, b, o, k, v] ++ (enc l.length ++ l)) (r := enc l.length ++ l) [c, t, b, o, k, v] 0 h (by simp)
  refine ⟨h2, ?_⟩
  have h1' : stt (encs [c, t, b, o, k, v] ++ (enc l.length ++ l)) (some 0) 6 = some (encs [c, t, b, o, k, v]).length := by simpa using h1
  have h4 := tx_enc (l := encs [c, t, b, o, k, v] ++ (enc l.length ++ l)) (t := l) (r := []) (p := (encs [c, t, b, o, k, v]).length) hl (by rw [List.drop_left]; simp)
  unfold pnd
  rw [h1', h4]
  simp [Nat.add_assoc]
theorem pok_jrn {sh : Sh} {c t b o k v : Nat} {l : List Int} (h : ∀ m ∈ [c, t, b, o, k, v], m < 9223372036854775808) (hl : l.length ≤ 16) (hz : l.length = sh.Z) (hk : k < sh.B) (hc : c < sh.C) (ht : t < sh.S) : pok sh (pgs c t b o k v 0 l 0) := by
  obtain ⟨h1, h2⟩ := jrn h hl
  unfold pok
  rw [h2, h1 4 k rfl, h1 0 c rfl, h1 1 t rfl]
  exact ⟨by simp [endd], hk, ⟨hc, ht⟩, hz⟩

/-! ### what sectors tell behind a write -/
structure Fit (sh : Sh) (c t b o k : Nat) (l : List Int) : Prop where
  ok : sh.ok
  k : k < sh.B
  z : l.length = sh.Z
  c : c < sh.C
  t : t < sh.S
  b : b ≤ great
  o : o ≤ great
section
variable {sh : Sh} {c t b o k : Nat} {l : List Int}
theorem Fit.i (h : Fit sh c t b o k l) : sh.S * c + t < sh.S * sh.C := by
  have h1 := h.c
  have h2 := h.t
  have h3 : sh.S * (c + 1) ≤ sh.S * sh.C := Nat.mul_le_mul_left _ h1
  rw [Nat.mul_add] at h3
  omega
theorem Fit.h16 (h : Fit sh c t b o k l) : l.length ≤ 16 := by have := h.ok.z; rw [h.z]; omega
theorem Fit.nums (h : Fit sh c t b o k l) {v : Nat} (hv : v ≤ 1000) : ∀ m ∈ [c, t, b, o, k, v], m < 9223372036854775808 := by
  obtain ⟨ok, h1, h2, h3, h4, h5, h6⟩ := h
  have := ok.b
  have := ok.c
  have := ok.s
  unfold great at h5 h6
  intro m hm
  simp at hm
  omega
theorem at_eq (sh : Sh) (c t : Nat) : sh.at_ c t = 1 + sh.B + (sh.S * c + t) := rfl
theorem top_eq (sh : Sh) : sh.at_ sh.C 0 = 1 + sh.B + sh.S * sh.C := rfl
theorem blk_pgs (h : Fit sh c t b o k l) {v : Nat} (hv : v ≤ 1000) (x : Nat) : blk sh.Z (pgs c t b o k v x l 1) = (v, l) := by
  have := blk_put v l hv h.h16
  rw [h.z] at this
  simpa [pgs, encs, h.z] using this
theorem slt_pgs (h : Fit sh c t b o k l) (v : Nat) {x : Nat} (hx : x ≤ 16) : slt (pgs c t b o k v x l 2) = (b, o, x) := slt_put b o x h.b h.o hx
theorem pgs_short (h : Fit sh c t b o k l) {v x : Nat} (hv : v ≤ 1000) (hx : x ≤ 16) (hy : Byt l) : ∀ i, i < 4 → (pgs c t b o k v x l i).length ≤ 64 := by
  have h1 := h.ok.b
  have h2 := h.ok.c
  have h3 := h.ok.s
  have := h.k
  have := h.c
  have := h.t
  have hb := h.b
  have ho := h.o
  intro i hi
  by_cases h0 : i = 0
  · subst h0
    exact (pgs_ok0 c t b o k v x l hy h.h16 (by omega) (by omega) (by omega) hb ho hv).1
  · unfold great at hb ho
    exact (pgs_ok c t b o k v x l hy h.h16 (by omega) (by omega) (by omega) (by omega) i (by omega) hi).1
theorem Agr.put {L L' : List (List Int)} {X : RS} (h : Agr sh L X) (fit : Fit sh c t b o k l) (hv : X.V k ≠ 1000) (hle : X.V k ≤ 1000)
    (hs : ∀ j, 0 < j → sec L' j = if j = 1 + k then pgs c t b o k (X.V k + 1) 0 l 1 else if j = sh.at_ c t then pgs c t b o k (X.V k + 1) 0 l 2 else sec L j) : Agr sh L' (X.put (sh.S * c + t) b o k l).1 := by
  have e : (X.put (sh.S * c + t) b o k l).1 = ⟨updN X.V k (X.V k + 1), updN X.T k l, updN X.P (sh.S * c + t) b, updN X.O (sh.S * c + t) o, updN X.K (sh.S * c + t) 0⟩ := by unfold RS.put; rw [if_neg hv]
  rw [e]
  have hk := fit.k
  refine ⟨fun j hj => ?_, fun i hi => ?_⟩
  · rw [hs (1 + j) (by omega)]
    by_cases hjk : j = k
    · subst hjk
      rw [if_pos rfl, blk_pgs fit (by omega)]
      simp only [upd_self]
    · rw [if_neg (by omega), if_neg (by rw [at_eq]; omega), h.b j hj]
      simp only [updN_ne _ _ hjk]
  · rw [hs _ (by omega), if_neg (by omega)]
    by_cases hik : i = sh.S * c + t
    · subst hik
      rw [if_pos (at_eq sh c t).symm, slt_pgs fit _ (by omega)]
      simp only [upd_self]
    · rw [if_neg (by rw [at_eq]; omega), h.s i hi]
      simp only [updN_ne _ _ hik]
theorem Agr.last {L L' : List (List Int)} {X : RS} (h : Agr sh L X) (fit : Fit sh c t b o k l) (hv : X.V k = 1000)
    (hs : ∀ j, 0 < j → sec L' j = if j = sh.at_ c t then pgs c t b o k 0 11 l 2 else sec L j) : Agr sh L' (X.put (sh.S * c + t) b o k l).1 := by
  have e : (X.put (sh.S * c + t) b o k l).1 = ⟨X.V, X.T, updN X.P (sh.S * c + t) b, updN X.O (sh.S * c + t) o, updN X.K (sh.S * c + t) 11⟩ := by unfold RS.put; rw [if_pos hv]
  rw [e]
  refine ⟨fun j hj => ?_, fun i hi => ?_⟩
  · rw [hs (1 + j) (by omega), if_neg (by rw [at_eq]; omega), h.b j hj]
  · rw [hs _ (by omega)]
    by_cases hik : i = sh.S * c + t
    · subst hik
      rw [if_pos (at_eq sh c t).symm, slt_pgs fit _ (by omega)]
      simp only [upd_self]
    · rw [if_neg (by rw [at_eq]; omega), h.s i hi]
      simp only [updN_ne _ _ hik]
theorem Agr.same {L L' : List (List Int)} {X : RS} (h : Agr sh L X) (hs : ∀ j, 0 < j → sec L' j = sec L j) : Agr sh L' X :=
  ⟨fun j hj => by rw [hs _ (by omega)]; exact h.b j hj, fun i hi => by rw [hs _ (by omega)]; exact h.s i hi⟩
theorem Agr.le {L : List (List Int)} {X : RS} (h : Agr sh L X) {k : Nat} (hk : k < sh.B) : X.V k ≤ 1000 ∧ (X.T k).length = sh.Z := by
  have h1 := blk_len sh.Z (sec L (1 + k))
  rw [h.b k hk] at h1
  exact ⟨h1.2, h1.1⟩
theorem Agr.lt {L : List (List Int)} {X : RS} (h : Agr sh L X) {i : Nat} (hi : i < sh.S * sh.C) : X.P i ≤ great ∧ X.O i ≤ great ∧ X.K i ≤ 16 := by
  have h1 := slt_bnd (sec L (1 + sh.B + i))
  rw [h.s i hi] at h1
  exact h1
theorem agr_zero (sh : Sh) (n : Nat) : Agr sh (List.replicate n []) (RS.zero sh.Z) := by
  have e : ∀ j, sec (List.replicate n []) j = [] := fun j => by
    unfold sec
    rw [List.getD, List.getElem?_replicate]
    split <;> rfl
  exact ⟨fun k _ => by rw [e, blk_nil]; rfl, fun i _ => by rw [e, slt_nil]; rfl⟩
end
end Go.Proofs.YtbcejfonkehjgaaGreatDoor
