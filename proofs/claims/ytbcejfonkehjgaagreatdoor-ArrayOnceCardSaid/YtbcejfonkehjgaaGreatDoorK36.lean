/-
  What is proved: store's do goes the steps of an entry; Conditions: the store lies in memory as one; the write fits its shape.
-/
import Derived.Test.YtbcejfonkehjgaaGreatDoorK35
import Derived.Test.YtbcejfonkehjgaaGreatDoorK34
import Derived.BigRegion
namespace Go.Proofs.YtbcejfonkehjgaaGreatDoor
open Go.RowKit

def okc (x er : Int) : Int := if er = 0 then x else 0
section
variable {w : World} {bb kd ks : Nat} {vv : Value} {st : St} {sh : Sh}
set_option maxRecDepth 100000 in
set_option maxHeartbeats 1600000 in
theorem sdo_any (h : Sx w bb kd ks vv st sh) (c s b o k v x L cap : Nat) (A : Option Addr) (l : List Int) (hL : l.length = L) (hl : L ≤ 16) (hc : c < 9223372036854775808) (hs : s < 9223372036854775808) (hb : b < 9223372036854775808) (ho : o < 9223372036854775808) (hk : k < 9223372036854775808) (hv : v < 9223372036854775808) (hx : x < 9223372036854775808) (r : Rn w A l) (hk1 : k < sh.B) (hc1 : c < sh.C) (hs1 : s < sh.S) (ns : List Nat) (n : Nat) (hn : ns.length = n) (hn4 : n ≤ 4) (hns : ∀ i ∈ ns, i < 4 ∧ Ok1 (pgs c s b o k v x l i)) (gs q : Nat) (cs : Array Value) (hgs : Bx w gs 3 cs) (hcs : cs.toList = nats6 ns) :
    Calls Tryz.prog 155 #[.pointer (some ⟨ks, 0, none⟩), .agg #[.int .i64 (c : Nat), .int .i64 (s : Nat), .int .i64 (b : Nat), .int .i64 (o : Nat), .int .i64 (k : Nat), .slice A L cap, .int .i64 (v : Nat), .int .i64 (x : Nat)], .slice (some ⟨gs, 0, none⟩) n q] w fun e w' =>
      e = .returned (.tuple #[.int .i64 (okc x (runs (wat (1 + k) (sh.at_ c s)) (pgs c s b o k v x l) st ns).2), .int .i64 (runs (wat (1 + k) (sh.at_ c s)) (pgs c s b o k v x l) st ns).2]) ∧ Sx w' bb kd ks vv (runs (wat (1 + k) (sh.at_ c s)) (pgs c s b o k v x l) st ns).1 sh ∧ Only w w' kd vv := by
  obtain ⟨W, hW, B1, HBb, sb⟩ := below_new w 167 #[.int .i64 (c : Nat), .int .i64 (s : Nat), .int .i64 (b : Nat), .int .i64 (o : Nat), .int .i64 (k : Nat), .slice A L cap, .int .i64 (v : Nat), .int .i64 (x : Nat)]
  have HW := hid hW
  have HX := hid (h.below HBb)
  have HE := hid B1
  have HB := hid HBb
  have HGS := hid (hgs.next HBb)
  have HWR := hid (fun w1 (h1 : Sx w1 bb kd ks vv st sh) r1 => writer_any (w := w1) h1 c s b o k v x L cap A l hL hl hc hs hb ho hk hv hx r1 hk1 hc1 hs1)
  have HR := hid (r.now HBb)
  have HRU := hid (fun w1 h1 t2 g hw1 (hr1 : Rv w1 w1.heap.size (some ⟨gs, 0, none⟩) (nats6 ns)) hrk1 => runs_any (w := w1) (b := bb) (kd := kd) (ks := ks) (v := vv) (s := st) (sh := sh) h1 (t2 := t2) (g := g) (a1 := 1 + k) (a2 := sh.at_ c s) (f := pgs c s b o k v x l) hw1 rfl ns n hn hn4 hns (some ⟨gs, 0, none⟩) q _ (Nat.le_refl _) hr1 hrk1)
  have HCS := hid hcs
  clear h hW B1 HBb sb hgs hL hc hs hb ho hk hv hx r hk1 hc1 hs1 hn hns hcs
  generalize hRR : runs (wat (1 + k) (sh.at_ c s)) (pgs c s b o k v x l) st ns = RR at *
  obtain ⟨st', er⟩ := RR
  clear hRR
  go_enter Tryz.func155, Tryz.ntmps155
  go_upto_region 1 with fail
  rw [HW.out]
  go_wp2_with (refine wpList_load_bx rfl 167 (.tmp 4) rfl _ _ _ _ rfl HE.out Tryz.underlying167 rfl (by kernel_rfl) ?_)
  refine (HWR.out W HX.out HR.out).mono ?_
  rintro e w1 ⟨t2, g, rfl, hw1, hb1⟩
  have HX1 := hid (HX.out.below hb1)
  have HW1 := hid hw1
  have HB1 := hid (on HB.out hb1)
  have HE1 := hid (HE.out.next hb1)
  have HGS1 := hid (HGS.out.next hb1)
  clear hw1 hb1 HX HE HGS HW HR HWR
  go_wp2_with fail
  refine (HRU.out w1 HX1.out t2 g HW1.out (rv_ints ns HGS1.out HCS.out) (fun y hy => rv_ints ns (HGS1.out.dsk HX1.out.dk hy (by decide) (by decide)) HCS.out)).mono ?_
  rintro e w2 ⟨rfl, hx2, ho2⟩
  have HX2 := hid hx2
  have HO2 := hid (Only.trans (Only.of HB1.out kd vv) ho2)
  have HE2 := hid (HE1.out.dsk HX1.out.dk ho2 (by decide) (by decide))
  clear hx2 ho2 HRU HX1 HW1 HE1 HGS1 HB1
  by_cases he : er = 0
  · subst he
    have HK := hid (show okc x 0 = x from if_pos rfl)
    have c7 := HE2.out.cell 7
    simp at c7
    go_wp2
    go_ret2
    refine ⟨?_, HX2.out, HO2.out⟩
    rw [HK.out]
    rfl
  · have h1 : (er == 0) = false := by simpa using he
    have h2 : (er != 0) = true := by simpa using he
    have HK := hid (show okc x er = 0 from if_neg he)
    clear he
    go_wp2
    go_ret2
    refine ⟨?_, HX2.out, HO2.out⟩
    rw [HK.out]
    rfl
end
end Go.Proofs.YtbcejfonkehjgaaGreatDoor
namespace Go.Proofs.YtbcejfonkehjgaaGreatDoor
open Go.RowKit

theorem run_mk (w : World) (n : Nat) (hn : n ≤ 16) : (Instr.makeSlice 38 (.int .i64 n) (.int .i64 n)).run Tryz.prog w = .ok (.slice (some ⟨w.heap.size, 0, none⟩) n n) (w.alloc (.cells (List.replicate n (Value.int .u8 0)).toArray 5)) := by
  obtain ⟨i, hi, hz, hs, hb⟩ := info_parts elt_byte.info
  have hb' : (i.bytes : Int) * (n : Int) ≤ 281474976710656 := by rw [hb]; omega
  have hrun := run_make (P := Tryz.prog) w 38 5 i (.int .u8 0) elt_byte.und hi hz .i64 .i64 n n (by omega) (Int.le_refl _) hb' (by omega)
  have hc : madeCells (Value.int .u8 0).cells ((n : Int).toNat * i.size) = (List.replicate n (Value.int .u8 0)).toArray := by
    rw [show (Value.int .u8 0).cells = #[.int .u8 0] from rfl, hs, Nat.mul_one, Int.toNat_natCast]
    apply Array.toList_inj.1
    rw [toList_madeCells_one]
  rw [hc, Int.toNat_natCast] at hrun
  exact hrun

theorem own_rep {X : World} {g Z B0 : Nat} (h : Bx X g 5 (Array.replicate Z (.int .u8 0))) (hz : Z ≤ 16) (hg : B0 ≤ g) : Own X B0 (.slice (some ⟨g, 0, none⟩) Z Z) (List.replicate Z 0) := by
  refine ⟨by rw [bytes_length, Nat.mul_one], .inr ⟨g, Z, _, by rw [List.length_replicate], hg, h, by rw [List.length_replicate]; exact Nat.le_refl _, by unfold maxLen; omega, by simp, ?_⟩⟩
  simp [bytes]
theorem make_end {w5 W : World} {B0 k d n0 Z : Nat} (hv : Bx w5 k 3 #[.int .i64 n0]) (hb : Below B0 w5 w5) (hB : B0 ≤ k) (hz : Z ≤ 16) (hsz : B0 ≤ w5.heap.size)
    (e : W = ((w5.drewN d).alloc (.cells (Array.replicate Z (.int .u8 0)) 5)).setCell ⟨k, 0, none⟩ (.int .i64 0) ∨ W = ((w5.drewN d).setCell ⟨k, 0, none⟩ (.int .i64 0)).alloc (.cells (Array.replicate Z (.int .u8 0)) 5)) :
    Bx W k 3 #[.int .i64 0] ∧ Own W B0 (.slice (some ⟨w5.heap.size, 0, none⟩) Z Z) (List.replicate Z 0) ∧ Below B0 w5 W := by
  rcases e with rfl | rfl
  · have h1 := Bx.new (w5.drewN d) 5 (Array.replicate Z (.int .u8 0))
    have hne : k ≠ w5.heap.size := fun e => by have := hv.lt; omega
    refine ⟨((hv.draws d).alloc _).set 0 _, own_rep (Bx.far h1 ⟨k, 0, none⟩ _ hne) hz hsz, ?_⟩
    exact below_set ((below_draws hb d).trans ((below_alloc _ _).mono hsz)) _ _ hB
  · have h2 := below_set (below_draws hb d) ⟨k, 0, none⟩ (.int .i64 0) hB
    have h1 := Bx.new ((w5.drewN d).setCell ⟨k, 0, none⟩ (.int .i64 0)) 5 (Array.replicate Z (.int .u8 0))
    rw [setSize] at h1
    exact ⟨((hv.draws d).set 0 _).alloc _, own_rep h1 hz hsz, h2.trans ((below_alloc _ _).mono (Nat.le_trans hsz h2.size))⟩

section
variable {w : World} {b kd ks : Nat} {v : Value} {s : St} {sh : Sh}
set_option maxRecDepth 100000 in
set_option maxHeartbeats 800000 in
theorem block_own (h : Sx w b kd ks v s sh) (k : Nat) (hk : k < sh.B) (l : List Int) (hl : s.L[1 + k]? = some l) :
    Calls Tryz.prog 75 #[.pointer (some ⟨ks, 0, none⟩), .int .i64 k] w fun e w' => ∃ u, e = .returned (.tuple #[.int .i64 ((blk sh.Z l).1 : Nat), u]) ∧ Own w' w.heap.size u (blk sh.Z l).2 ∧ Below w.heap.size w w' := by
  have hl1 : Ok1 l := h.by_ l (List.mem_of_getElem? hl)
  obtain ⟨W, hW, BV, HB, hs⟩ := below_new w 3 #[.int .i64 0]
  have HW := hid hW
  have HX := hid (h.below HB)
  have HX0 := hid h
  have hz := h.ok.z
  have hb := h.ok.b
  have HBA := hid (blockAt_any sh h.ok W k (by omega))
  obtain ⟨c0, c1, c2, c3, c4⟩ := (h.below HB).bx.all5
  have HBV := hid BV
  have HBel := hid HB
  have HL := hid hl
  have HL1 := hid hl1
  clear h hl hW BV HB hl1
  obtain ⟨B, Z, C, S⟩ := sh
  simp only [Sh.v] at hk hz hb HBA HX0 c0 c1 c2 c3 c4 ⊢
  go_enter Tryz.func75, Tryz.ntmps75
  go_upto_region 1 with (fail)
  rw [HW.out]
  go_wp2_with fail
  refine (HBA.out).mono ?_
  rintro e w1 ⟨rfl, hb1⟩
  have HX1 := hid (HX.out.below hb1)
  have HB1 := hid (on HBel.out hb1)
  have hw1s : w.heap.size + 1 ≤ w1.heap.size := by rw [← hs]; exact hb1.size
  have HV1 := hid (HBV.out.next hb1)
  clear hb1 c0 c1 c2 c3 c4
  go_wp2_with fail
  refine (reader_any HX1.out _ l HL.out).mono ?_
  rintro e w2 ⟨kr, rfl, hkr, hrq, hb2⟩
  obtain ⟨W3, hW3, BG, HB3, hs3⟩ := below_new w2 119 #[.pointer (some ⟨w.heap.size, 0, none⟩)]
  have HRQ := hid (show Rdq W3 kr l (some 0) from hrq.next HB3)
  have HB3' := hid (on (on HB1.out hb2) HB3)
  have HV3 := hid ((HV1.out.next hb2).next HB3)
  have HX3 := hid ((HX1.out.below hb2).below HB3)
  have HG3 := hid BG
  have HW3 := hid hW3
  have HK := hid (show w.heap.size + 1 ≤ kr ∧ kr < w2.heap.size from ⟨Nat.le_trans (by have := HB1.out.size; have := hw1s; omega) hkr, hrq.lt⟩)
  clear hW3 hrq hkr hb2 BG HB3
  go_wp2_with fail
  rw [HW3.out]
  obtain ⟨I, hI⟩ : ∃ I : Nat → World → Prop, I = fun i w1 => Bx w1 w.heap.size 3 #[.int .i64 (if i = 0 then 0 else (nth l (some 0) 0 : Nat))] ∧ Bx w1 w2.heap.size 119 #[.pointer (some ⟨w.heap.size, 0, none⟩)] ∧ Below w.heap.size w w1 := ⟨_, rfl⟩
  refine (fill_any HL1.out kr (some 0) [⟨w.heap.size, 0, none⟩] 1 rfl (by omega) (some ⟨w2.heap.size, 0, none⟩) 1 I W3 HRQ.out (by rw [hI]; exact ⟨HV3.out, HG3.out, HB3'.out⟩) ?_ ?_ ?_).mono ?_
  · intro i w' h
    rw [hI] at h
    exact rv_places _ _ rfl h.2.1
  · intro i a c h ho
    rw [hI] at h ⊢
    obtain ⟨k1, k2⟩ := HK.out
    exact ⟨h.1.only ho (by omega), h.2.1.only ho (by omega), h.2.2.trans (ho.below (by omega) h.2.2.size)⟩
  · intro i p a hp h
    rw [hI] at h
    obtain ⟨k1, k2⟩ := HK.out
    match i, hp with
    | 0, hp =>
      simp only [List.getElem?_cons_zero, Option.some.injEq] at hp
      subst hp
      refine ⟨by show w.heap.size ≠ kr; omega, h.1.free 0, ⟨_, h.1.cell 0⟩, ?_⟩
      rw [hI]
      exact ⟨h.1.set 0 _, h.2.1.far _ _ (by show w.heap.size ≠ w2.heap.size; omega), below_set h.2.2 _ _ (Nat.le_refl _)⟩
  rintro e w4 ⟨rfl, hi4, hrq4⟩
  rw [hI] at hi4
  obtain ⟨v4, g4, b4⟩ := hi4
  have HV4 := hid v4
  have HB4 := hid b4
  have HRQ4 := hid hrq4
  clear v4 g4 b4 hrq4 hI
  go_wp2_with fail
  refine (rtext_any HL1.out HRQ4.out).mono ?_
  rintro e w5 ⟨⟨u, rfl, hu⟩, hrq5, ho5⟩
  have HU := hid hu.bs
  have HUO := hid hu
  have hw4 : w.heap.size < w4.heap.size := HV4.out.lt
  have HRQ5 := hid hrq5
  have HB5 := hid (HB4.out.trans (ho5.below (B := w.heap.size) (by have := HK.out.1; omega) HB4.out.size))
  have HV5 := hid (HV4.out.only ho5 (by have := HK.out.1; omega))
  have HX5 := hid (HX0.out.below HB5.out)
  clear hu hrq5 ho5
  have HM := hid (fun w' => run_mk w' Z hz.2)
  have hblk : blk Z l = if endd l (tx l (stt l (some 0) 1)).2 = true ∧ nth l (some 0) 0 ≤ 1000 ∧ (tx l (stt l (some 0) 1)).1.length = Z then (nth l (some 0) 0, (tx l (stt l (some 0) 1)).1) else (0, List.replicate Z 0) := rfl
  have HE := hid (ended_any HRQ5.out HL1.out)
  have n63 : nth l (some 0) 0 < 9223372036854775808 := nth_bnd HL1.out 0
  generalize nth l (some 0) 0 = n0 at *
  generalize tx l (stt l (some 0) 1) = tt at *
  obtain ⟨t, o2⟩ := tt
  simp only at hblk HU HUO HE HV5 HRQ5 ⊢
  generalize endd l o2 = en at *
  have cV : w5.cell? ⟨w.heap.size, 0, none⟩ = some (.int .i64 (n0 : Nat)) := HV5.out.cell 0
  have fV : w5.frozen? ⟨w.heap.size, 0, none⟩ = false := HV5.out.free 0
  have c2 : w5.cell? ⟨ks, 2, none⟩ = some (.int .i64 (Z : Nat)) := HX5.out.bx.cell 2
  obtain ⟨A, uc, rfl, hr, hc, hm⟩ := HU.out
  have HR := hid hr
  have HC := hid (And.intro hc hm)
  clear hr hc hm
  have HLT := hid (show w.heap.size < w5.heap.size from HV5.out.lt)
  clear HU HRQ5 HRQ4 HV4 HV3 HV1 HBV HX1 HX3 HRQ HG3 HL HBA HW HW3
  obtain ⟨L, hL⟩ : ∃ L, t.length = L := ⟨_, rfl⟩
  have HT := hid hL
  have HBK := hid hblk
  rw [hL] at HC hblk ⊢
  clear hL hblk
  obtain ⟨MK, hMK⟩ : ∃ m, Instr.makeSlice 38 (.int .i64 Z) (.int .i64 Z) = m := ⟨_, rfl⟩
  have hrun : ∀ w', MK.run Tryz.prog w' = .ok (.slice (some ⟨w'.heap.size, 0, none⟩) Z Z) (w'.alloc (.cells (List.replicate Z (Value.int .u8 0)).toArray 5)) := fun w' => by rw [← hMK]; exact HM.out w'
  have hal : ∀ d o, ((w5.drewN d).alloc o).cell? ⟨w.heap.size, 0, none⟩ = some (.int .i64 (n0 : Nat)) := fun d o => (World.cell?_alloc_lt (w5.drewN d) o ⟨w.heap.size, 0, none⟩ HLT.out).trans cV
  have hfl : ∀ d o, ((w5.drewN d).alloc o).frozen? ⟨w.heap.size, 0, none⟩ = false := fun d o => ((HV5.out.draws d).alloc o).free 0
  have HEND := hid (fun W d e => make_end (W := W) (d := d) (Z := Z) HV5.out (Below.refl w.heap.size w5) (Nat.le_refl _) hz.2 HB5.out.size e)
  by_cases hg : en = true ∧ n0 ≤ 1000 ∧ L = Z
  · obtain ⟨rfl, hn, rfl⟩ := hg
    have HB := hid (HBK.out.trans (if_pos ⟨rfl, hn, HT.out⟩))
    go_wp2_with fail
    refine HE.out.mono ?_
    rintro e w6 ⟨rfl, d, rfl⟩
    go_wp2
    refine bodyPost_ret (results_ci rfl _ rfl (((HV5.out.draws _).set 0 _).cell 0)) rfl ?_
    rw [HB.out]
    have ho := O1.set (w5.drewN d) ⟨w.heap.size, 0, none⟩ (.int .i64 n0) (fun y e => by rw [show (w5.drewN d).cell? ⟨w.heap.size, 0, none⟩ = _ from cV] at e; cases e)
    refine ⟨.slice A L uc, rfl, ?_, below_set (below_draws HB5.out _) _ _ (Nat.le_refl _)⟩
    have hown := HUO.out
    rw [HT.out] at hown
    have hx : Own (w5.drewN d) w4.heap.size (.slice A L uc) t := hown
    exact (hx.o1 ho (fun e => by have := (World.ownsRow.lt hown w.heap.size e).1; omega)).lower (Nat.le_of_lt hw4)
  · have HB := hid (HBK.out.trans (if_neg (fun h => hg ⟨h.1, h.2.1, HT.out ▸ h.2.2⟩)))
    by_cases he : en = true
    · subst he
      by_cases hn : n0 ≤ 1000
      · have hz2 : L ≠ Z := fun e => hg ⟨rfl, hn, e⟩
        have q1 : ((L : Int) == (Z : Int)) = false := by simpa using fun h : (L : Int) = Z => hz2 (by omega)
        have q2 : ((L : Int) != (Z : Int)) = true := by simpa using fun h : (L : Int) = Z => hz2 (by omega)
        clear hg hz2
        go_wp2_with fail
        refine HE.out.mono ?_
        rintro e w6 ⟨rfl, d, rfl⟩
        go_wp2
        go_region
        all_goals
          go_wp2
          first
            | (have hx := HEND.out _ (d + 1) (.inl rfl); refine bodyPost_ret (results_ci rfl _ rfl (hx.1.cell 0)) rfl ?_; rw [HB.out]; exact ⟨_, rfl, hx.2.1, HB5.out.trans hx.2.2⟩)
            | (have hx := HEND.out _ (d + 1) (.inr rfl); refine bodyPost_ret (results_ci rfl _ rfl (hx.1.cell 0)) rfl ?_; rw [HB.out]; exact ⟨_, rfl, hx.2.1, HB5.out.trans hx.2.2⟩)
      · have hn2 : 1000 < n0 := by omega
        clear hg hn
        go_wp2_with fail
        refine HE.out.mono ?_
        rintro e w6 ⟨rfl, d, rfl⟩
        go_wp2
        go_region
        all_goals
          go_wp2
          first
            | (have hx := HEND.out _ (d + 1) (.inl rfl); refine bodyPost_ret (results_ci rfl _ rfl (hx.1.cell 0)) rfl ?_; rw [HB.out]; exact ⟨_, rfl, hx.2.1, HB5.out.trans hx.2.2⟩)
            | (have hx := HEND.out _ (d + 1) (.inr rfl); refine bodyPost_ret (results_ci rfl _ rfl (hx.1.cell 0)) rfl ?_; rw [HB.out]; exact ⟨_, rfl, hx.2.1, HB5.out.trans hx.2.2⟩)
    · have he2 : en = false := by simpa using he
      subst he2
      clear hg he
      go_wp2_with fail
      refine HE.out.mono ?_
      rintro e w6 ⟨rfl, d, rfl⟩
      go_wp2
      go_region
      all_goals
        go_wp2
        first
          | (have hx := HEND.out _ (d + 1) (.inl rfl); refine bodyPost_ret (results_ci rfl _ rfl (hx.1.cell 0)) rfl ?_; rw [HB.out]; exact ⟨_, rfl, hx.2.1, HB5.out.trans hx.2.2⟩)
          | (have hx := HEND.out _ (d + 1) (.inr rfl); refine bodyPost_ret (results_ci rfl _ rfl (hx.1.cell 0)) rfl ?_; rw [HB.out]; exact ⟨_, rfl, hx.2.1, HB5.out.trans hx.2.2⟩)
theorem block_any (h : Sx w b kd ks v s sh) (k : Nat) (hk : k < sh.B) (l : List Int) (hl : s.L[1 + k]? = some l) :
    Calls Tryz.prog 75 #[.pointer (some ⟨ks, 0, none⟩), .int .i64 k] w fun e w' => ∃ u, e = .returned (.tuple #[.int .i64 ((blk sh.Z l).1 : Nat), u]) ∧ Bs w' u (blk sh.Z l).2 ∧ Below w.heap.size w w' :=
  (block_own h k hk l hl).mono fun _ _ ⟨u, h1, h2, h3⟩ => ⟨u, h1, h2.bs, h3⟩
end
end Go.Proofs.YtbcejfonkehjgaaGreatDoor
namespace Go.Proofs.YtbcejfonkehjgaaGreatDoor
open Go.RowKit

def pnd (l : List Int) : List Int × Option Nat := tx l (stt l (some 0) 6)
def pok (sh : Sh) (l : List Int) : Prop := endd l (pnd l).2 = true ∧ nth l (some 0) 4 < sh.B ∧ (nth l (some 0) 0 < sh.C ∧ nth l (some 0) 1 < sh.S) ∧ (pnd l).1.length = sh.Z
instance (sh : Sh) (l : List Int) : Decidable (pok sh l) := by unfold pok; infer_instance

theorem below_row {w : World} {g : Nat} {t : TypeId} {cs : Array Value} (h : Bx w g t cs) : Below w.heap.size w (w.setRow g cs) :=
  ⟨rfl, rfl, rfl, by rw [setRow_size]; exact Nat.le_refl _, fun j _ => by
    by_cases hj : j = g
    · subst hj; exact h.row.trans h.symm
    · exact setRow_other w g j cs hj⟩

section
variable {w : World} {b kd ks : Nat} {v : Value} {s : St} {sh : Sh}
set_option maxRecDepth 100000 in
set_option maxHeartbeats 1600000 in
theorem pending_any (h : Sx w b kd ks v s sh) (l : List Int) (hl : s.L[0]? = some l) :
    Calls Tryz.prog 84 #[.pointer (some ⟨ks, 0, none⟩)] w fun e w' => ∃ u, e = .returned (.tuple #[.agg #[.int .i64 (nth l (some 0) 0 : Nat), .int .i64 (nth l (some 0) 1 : Nat), .int .i64 (nth l (some 0) 2 : Nat), .int .i64 (nth l (some 0) 3 : Nat), .int .i64 (nth l (some 0) 4 : Nat), u, .int .i64 (nth l (some 0) 5 : Nat), .int .i64 0], .bool (decide (pok sh l))]) ∧ Bs w' u (pnd l).1 ∧ Below w.heap.size w w' := by
  have hl1 : Ok1 l := h.by_ l (List.mem_of_getElem? hl)
  obtain ⟨W, hW, BV, HB, hs⟩ := below_new w 167 #[.int .i64 0, .int .i64 0, .int .i64 0, .int .i64 0, .int .i64 0, .slice none 0 0, .int .i64 0, .int .i64 0]
  have HW := hid hW
  have HX := hid (h.below HB)
  have HX0 := hid h
  have HBV := hid BV
  have HBel := hid HB
  have HL := hid hl
  have HL1 := hid hl1
  have HOK := hid h.ok
  clear h hl hW BV HB hl1
  go_enter Tryz.func84, Tryz.ntmps84
  go_upto_region 1 with (fail)
  rw [HW.out]
  go_wp2_with fail
  refine (reader_any HX.out 0 l HL.out).mono ?_
  rintro e w2 ⟨kr, rfl, hkr, hrq, hb2⟩
  obtain ⟨W3, hW3, BG, HB3, hs3⟩ := below_new w2 119 #[.pointer (some ⟨w.heap.size, 0, none⟩), .pointer (some ⟨w.heap.size, 1, none⟩), .pointer (some ⟨w.heap.size, 2, none⟩), .pointer (some ⟨w.heap.size, 3, none⟩), .pointer (some ⟨w.heap.size, 4, none⟩), .pointer (some ⟨w.heap.size, 6, none⟩)]
  have HRQ := hid (show Rdq W3 kr l (some 0) from hrq.next HB3)
  have HB3' := hid (on (on HBel.out hb2) HB3)
  have HV3 := hid ((HBV.out.next hb2).next HB3)
  have HG3 := hid BG
  have HW3 := hid hW3
  have HK := hid (show w.heap.size + 1 ≤ kr ∧ kr < w2.heap.size from ⟨by rw [← hs]; exact hkr, hrq.lt⟩)
  clear hW3 hrq hkr hb2 BG HB3
  go_wp2_with fail
  rw [HW3.out]
  obtain ⟨I, hI⟩ : ∃ I : Nat → World → Prop, I = fun i w1 => Bx w1 w.heap.size 167 #[.int .i64 (if 0 < i then (nth l (some 0) 0 : Nat) else 0), .int .i64 (if 1 < i then (nth l (some 0) 1 : Nat) else 0), .int .i64 (if 2 < i then (nth l (some 0) 2 : Nat) else 0), .int .i64 (if 3 < i then (nth l (some 0) 3 : Nat) else 0), .int .i64 (if 4 < i then (nth l (some 0) 4 : Nat) else 0), .slice none 0 0, .int .i64 (if 5 < i then (nth l (some 0) 5 : Nat) else 0), .int .i64 0] ∧ Bx w1 w2.heap.size 119 #[.pointer (some ⟨w.heap.size, 0, none⟩), .pointer (some ⟨w.heap.size, 1, none⟩), .pointer (some ⟨w.heap.size, 2, none⟩), .pointer (some ⟨w.heap.size, 3, none⟩), .pointer (some ⟨w.heap.size, 4, none⟩), .pointer (some ⟨w.heap.size, 6, none⟩)] ∧ Below w.heap.size w w1 := ⟨_, rfl⟩
  refine (fill_any HL1.out kr (some 0) [⟨w.heap.size, 0, none⟩, ⟨w.heap.size, 1, none⟩, ⟨w.heap.size, 2, none⟩, ⟨w.heap.size, 3, none⟩, ⟨w.heap.size, 4, none⟩, ⟨w.heap.size, 6, none⟩] 6 rfl (by omega) (some ⟨w2.heap.size, 0, none⟩) 6 I W3 HRQ.out (by rw [hI]; exact ⟨HV3.out, HG3.out, HB3'.out⟩) ?_ ?_ ?_).mono ?_
  · intro i w' h
    rw [hI] at h
    exact rv_places _ _ rfl h.2.1
  · intro i a c h ho
    rw [hI] at h ⊢
    obtain ⟨k1, k2⟩ := HK.out
    exact ⟨h.1.only ho (by omega), h.2.1.only ho (by omega), h.2.2.trans (ho.below (by omega) h.2.2.size)⟩
  · intro i p a hp h
    rw [hI] at h
    obtain ⟨k1, k2⟩ := HK.out
    match i, hp with
    | 0, hp =>
      simp only [List.getElem?_cons_zero, Option.some.injEq] at hp
      subst hp
      refine ⟨by show w.heap.size ≠ kr; omega, h.1.free 0, ⟨_, h.1.cell 0⟩, ?_⟩
      rw [hI]
      exact ⟨h.1.set 0 _, h.2.1.far _ _ (by show w.heap.size ≠ w2.heap.size; omega), below_set h.2.2 _ _ (Nat.le_refl _)⟩
    | 1, hp =>
      simp only [List.getElem?_cons_succ, List.getElem?_cons_zero, Option.some.injEq] at hp
      subst hp
      refine ⟨by show w.heap.size ≠ kr; omega, h.1.free 1, ⟨_, h.1.cell 1⟩, ?_⟩
      rw [hI]
      exact ⟨h.1.set 1 _, h.2.1.far _ _ (by show w.heap.size ≠ w2.heap.size; omega), below_set h.2.2 _ _ (Nat.le_refl _)⟩
    | 2, hp =>
      simp only [List.getElem?_cons_succ, List.getElem?_cons_zero, Option.some.injEq] at hp
      subst hp
      refine ⟨by show w.heap.size ≠ kr; omega, h.1.free 2, ⟨_, h.1.cell 2⟩, ?_⟩
      rw [hI]
      exact ⟨h.1.set 2 _, h.2.1.far _ _ (by show w.heap.size ≠ w2.heap.size; omega), below_set h.2.2 _ _ (Nat.le_refl _)⟩
    | 3, hp =>
      simp only [List.getElem?_cons_succ, List.getElem?_cons_zero, Option.some.injEq] at hp
      subst hp
      refine ⟨by show w.heap.size ≠ kr; omega, h.1.free 3, ⟨_, h.1.cell 3⟩, ?_⟩
      rw [hI]
      exact ⟨h.1.set 3 _, h.2.1.far _ _ (by show w.heap.size ≠ w2.heap.size; omega), below_set h.2.2 _ _ (Nat.le_refl _)⟩
    | 4, hp =>
      simp only [List.getElem?_cons_succ, List.getElem?_cons_zero, Option.some.injEq] at hp
      subst hp
      refine ⟨by show w.heap.size ≠ kr; omega, h.1.free 4, ⟨_, h.1.cell 4⟩, ?_⟩
      rw [hI]
      exact ⟨h.1.set 4 _, h.2.1.far _ _ (by show w.heap.size ≠ w2.heap.size; omega), below_set h.2.2 _ _ (Nat.le_refl _)⟩
    | 5, hp =>
      simp only [List.getElem?_cons_succ, List.getElem?_cons_zero, Option.some.injEq] at hp
      subst hp
      refine ⟨by show w.heap.size ≠ kr; omega, h.1.free 6, ⟨_, h.1.cell 6⟩, ?_⟩
      rw [hI]
      exact ⟨h.1.set 6 _, h.2.1.far _ _ (by show w.heap.size ≠ w2.heap.size; omega), below_set h.2.2 _ _ (Nat.le_refl _)⟩
  rintro e w4 ⟨rfl, hi4, hrq4⟩
  rw [hI] at hi4
  obtain ⟨v4, g4, b4⟩ := hi4
  simp only [Nat.lt_add_one, Nat.reduceLT, if_true] at v4
  have HV4 := hid v4
  have HB4 := hid b4
  have HRQ4 := hid hrq4
  clear v4 g4 b4 hrq4 hI HW HW3 HV3 HG3 HB3' HRQ HBV HX
  go_wp2_with fail
  refine (rtext_any HL1.out HRQ4.out).mono ?_
  rintro e w5 ⟨⟨u, rfl, hu0⟩, hrq5, ho5⟩
  have hu := hu0.bs
  clear hu0
  have HRQ5 := hid hrq5
  have HB5 := hid (HB4.out.trans (ho5.below (B := w.heap.size) (by have := HK.out.1; omega) HB4.out.size))
  have HV5 := hid (HV4.out.only ho5 (by have := HK.out.1; omega))
  obtain ⟨e0, e1, e2, e3, e4, e5, e6, e7⟩ := HV5.out.all8
  have f5 : w5.frozen? ⟨w.heap.size, 5, none⟩ = false := HV5.out.free 5
  have HPN := hid (show (pnd l).1 = (tx l (stt l (some 0) 6)).1 from rfl)
  have HBK := hid (show pok sh l ↔ endd l (tx l (stt l (some 0) 6)).2 = true ∧ nth l (some 0) 4 < sh.B ∧ (nth l (some 0) 0 < sh.C ∧ nth l (some 0) 1 < sh.S) ∧ (tx l (stt l (some 0) 6)).1.length = sh.Z from Iff.rfl)
  generalize tx l (stt l (some 0) 6) = tt at *
  obtain ⟨t, o2⟩ := tt
  simp only at hu HBK HPN
  have HU := hid hu
  obtain ⟨A, uc, rfl, hr, hc, hm⟩ := hu
  obtain ⟨L, hL⟩ : ∃ L, t.length = L := ⟨_, rfl⟩
  have HT := hid hL
  rw [hL]
  clear hrq5 ho5 HRQ4 HV4 hr hc hm hL
  go_upto_region 4 with fail
  have hset := O1.set w5 ⟨w.heap.size, 5, none⟩ (.slice A L uc) (fun y e => by rw [e5] at e; cases e)
  have HV6 := hid (show Bx (w5.setCell ⟨w.heap.size, 5, none⟩ (.slice A L uc)) w.heap.size 167 #[.int .i64 (nth l (some 0) 0 : Nat), .int .i64 (nth l (some 0) 1 : Nat), .int .i64 (nth l (some 0) 2 : Nat), .int .i64 (nth l (some 0) 3 : Nat), .int .i64 (nth l (some 0) 4 : Nat), .slice A L uc, .int .i64 (nth l (some 0) 5 : Nat), .int .i64 0] from HV5.out.set 5 _)
  have HB6 := hid (below_set HB5.out ⟨w.heap.size, 5, none⟩ (.slice A L uc) (Nat.le_refl _))
  have HR6 := hid (HRQ5.out.only hset (by show kr ≠ w.heap.size; have := HK.out.1; omega))
  have HU6 := hid (HU.out.stay hset.stay hset.size)
  clear hset e0 e1 e2 e3 e4 e5 e6 e7 f5 HV5 HB5 HRQ5 HU
  generalize w5.setCell ⟨w.heap.size, 5, none⟩ (.slice A L uc) = w6 at *
  have HX6 := hid (HX0.out.below HB6.out)
  have n0b : nth l (some 0) 0 < 9223372036854775808 := nth_bnd HL1.out 0
  have n1b : nth l (some 0) 1 < 9223372036854775808 := nth_bnd HL1.out 1
  have n4b : nth l (some 0) 4 < 9223372036854775808 := nth_bnd HL1.out 4
  have HE := hid (fun (s : Since w6) => ended_any (HR6.out.next s.bel) HL1.out)
  obtain ⟨B, Z, C, S⟩ := sh
  simp only at HX6 HBK HX0 ⊢
  generalize hn0 : nth l (some 0) 0 = n0 at *
  have HN0 := hid hn0
  clear hn0
  generalize hn1 : nth l (some 0) 1 = n1 at *
  have HN1 := hid hn1
  clear hn1
  generalize hn2 : nth l (some 0) 2 = n2 at *
  have HN2 := hid hn2
  clear hn2
  generalize hn3 : nth l (some 0) 3 = n3 at *
  have HN3 := hid hn3
  clear hn3
  generalize hn4 : nth l (some 0) 4 = n4 at *
  have HN4 := hid hn4
  clear hn4
  generalize hn5 : nth l (some 0) 5 = n5 at *
  have HN5 := hid hn5
  clear hn5
  generalize endd l o2 = en at *
  have HBY := hid (fun (s : Since w6) (h : n4 < B) => hasBlock_yes ⟨B, Z, C, S⟩ HOK.out s.at_ n4 ⟨by omega, by show (n4 : Int) < (B : Nat); omega⟩)
  have HBN := hid (fun (s : Since w6) (h : ¬ n4 < B) => hasBlock_no ⟨B, Z, C, S⟩ HOK.out s.at_ n4 (fun g => h (by have : (n4 : Int) < (B : Nat) := g.2; omega)))
  have HSY := hid (fun (s : Since w6) (h : n0 < C ∧ n1 < S) => hasSlot_yes ⟨B, Z, C, S⟩ HOK.out s.at_ n0 n1 ⟨⟨by omega, by show (n0 : Int) < (C : Nat); omega⟩, by omega, by show (n1 : Int) < (S : Nat); omega⟩)
  have HSN := hid (fun (s : Since w6) (h : ¬ (n0 < C ∧ n1 < S)) => hasSlot_no ⟨B, Z, C, S⟩ HOK.out s.at_ n0 n1 (fun g => h ⟨by have : (n0 : Int) < (C : Nat) := g.1.2; omega, by have : (n1 : Int) < (S : Nat) := g.2.2; omega⟩))
  simp only [Sh.v] at HBY HBN HSY HSN
  have c1 : ∀ s : Since w6, s.at_.cell? ⟨ks, 1, none⟩ = some (.int .i64 (B : Nat)) := fun s => (HX6.out.bx.next s.bel).cell 1
  have c2 : ∀ s : Since w6, s.at_.cell? ⟨ks, 2, none⟩ = some (.int .i64 (Z : Nat)) := fun s => (HX6.out.bx.next s.bel).cell 2
  have c3 : ∀ s : Since w6, s.at_.cell? ⟨ks, 3, none⟩ = some (.int .i64 (C : Nat)) := fun s => (HX6.out.bx.next s.bel).cell 3
  have c4 : ∀ s : Since w6, s.at_.cell? ⟨ks, 4, none⟩ = some (.int .i64 (S : Nat)) := fun s => (HX6.out.bx.next s.bel).cell 4
  have e0 : ∀ s : Since w6, s.at_.cell? ⟨w.heap.size, 0, none⟩ = some (.int .i64 (n0 : Nat)) := fun s => (HV6.out.next s.bel).cell 0
  have e1 : ∀ s : Since w6, s.at_.cell? ⟨w.heap.size, 1, none⟩ = some (.int .i64 (n1 : Nat)) := fun s => (HV6.out.next s.bel).cell 1
  have e4 : ∀ s : Since w6, s.at_.cell? ⟨w.heap.size, 4, none⟩ = some (.int .i64 (n4 : Nat)) := fun s => (HV6.out.next s.bel).cell 4
  have e5 : ∀ s : Since w6, s.at_.cell? ⟨w.heap.size, 5, none⟩ = some (.slice A L uc) := fun s => (HV6.out.next s.bel).cell 5
  have FIN := hid (fun (s : Since w6) => (And.intro (HV6.out.next s.bel) (And.intro (HB6.out.trans (s.bel.mono HB6.out.size)) (HU6.out.below s.bel))))
  by_cases he : en = true
  · subst he
    by_cases hb : n4 < B
    · by_cases hs : n0 < C ∧ n1 < S
      · by_cases hz : L = Z
        · have PK := decide_eq_true (HBK.out.2 ⟨rfl, hb, hs, HT.out.trans hz⟩)
          subst hz
          refine wp_region_since (by kernel_rfl) (by kernel_rfl) ?_
          repeat (go_big_quiet_step (first | (go_at_call 107; refine Calls.sinceN _ (HE.out _)) | (go_at_call 74; refine Calls.since _ (HBY.out _ hb)) | (go_at_call 115; refine Calls.since _ (HSY.out _ hs))))
          refine wpQuiet_nil ?_
          rintro _ ⟨s', rfl⟩
          obtain ⟨d1, d2, d3⟩ := FIN.out s'
          clear c1 c2 c3 c4 e0 e1 e4 e5
          generalize s'.at_ = w7 at *
          go_wp2_with (first | (refine wpList_load_bx rfl 167 (.tmp 2) rfl w.heap.size _ _ _ rfl d1 Tryz.underlying167 rfl (by kernel_rfl) ?_) | (refine wpList_store_bx rfl 167 (.tmp 2) (.tmp 63) rfl rfl w.heap.size _ _ #[.int .i64 n0, .int .i64 n1, .int .i64 n2, .int .i64 n3, .int .i64 n4, .slice A L uc, .int .i64 n5, .int .i64 0] rfl rfl d1 (by kernel_rfl) rfl (by simp [Value.oneCell']) ?_))
          refine bodyPost_ret (results_bx2 rfl _ rfl d1.row Tryz.underlying167 rfl (by kernel_rfl)) rfl ?_
          have hB7 := below_row d1
          first | rw [HPN.out, HN0.out, HN1.out, HN2.out, HN3.out, HN4.out, HN5.out, PK] | rw [HPN.out, HN0.out, HN1.out, HN2.out, HN3.out, HN4.out, HN5.out]
          have d4 := d3.below hB7
          rw [HT.out] at d4
          exact ⟨.slice A L uc, rfl, d4, d2.trans (hB7.mono d2.size)⟩
        · have PK := decide_eq_false (fun h => hz (HT.out.symm.trans (HBK.out.1 h).2.2.2))
          have q1 : ((L : Int) == (Z : Int)) = false := by simpa using fun h : (L : Int) = Z => hz (by omega)
          refine wp_region_since (by kernel_rfl) (by kernel_rfl) ?_
          repeat (go_big_quiet_step (first | (go_at_call 107; refine Calls.sinceN _ (HE.out _)) | (go_at_call 74; refine Calls.since _ (HBY.out _ hb)) | (go_at_call 115; refine Calls.since _ (HSY.out _ hs))))
          refine wpQuiet_nil ?_
          rintro _ ⟨s', rfl⟩
          obtain ⟨d1, d2, d3⟩ := FIN.out s'
          clear c1 c2 c3 c4 e0 e1 e4 e5
          generalize s'.at_ = w7 at *
          go_wp2_with (first | (refine wpList_load_bx rfl 167 (.tmp 2) rfl w.heap.size _ _ _ rfl d1 Tryz.underlying167 rfl (by kernel_rfl) ?_) | (refine wpList_store_bx rfl 167 (.tmp 2) (.tmp 63) rfl rfl w.heap.size _ _ #[.int .i64 n0, .int .i64 n1, .int .i64 n2, .int .i64 n3, .int .i64 n4, .slice A L uc, .int .i64 n5, .int .i64 0] rfl rfl d1 (by kernel_rfl) rfl (by simp [Value.oneCell']) ?_))
          refine bodyPost_ret (results_bx2 rfl _ rfl d1.row Tryz.underlying167 rfl (by kernel_rfl)) rfl ?_
          have hB7 := below_row d1
          first | rw [HPN.out, HN0.out, HN1.out, HN2.out, HN3.out, HN4.out, HN5.out, PK] | rw [HPN.out, HN0.out, HN1.out, HN2.out, HN3.out, HN4.out, HN5.out]
          have d4 := d3.below hB7
          rw [HT.out] at d4
          exact ⟨.slice A L uc, rfl, d4, d2.trans (hB7.mono d2.size)⟩
      · have PK := decide_eq_false (fun h => hs (HBK.out.1 h).2.2.1)
        refine wp_region_since (by kernel_rfl) (by kernel_rfl) ?_
        repeat (go_big_quiet_step (first | (go_at_call 107; refine Calls.sinceN _ (HE.out _)) | (go_at_call 74; refine Calls.since _ (HBY.out _ hb)) | (go_at_call 115; refine Calls.since _ (HSN.out _ hs))))
        refine wpQuiet_nil ?_
        rintro _ ⟨s', rfl⟩
        obtain ⟨d1, d2, d3⟩ := FIN.out s'
        clear c1 c2 c3 c4 e0 e1 e4 e5
        generalize s'.at_ = w7 at *
        go_wp2_with (first | (refine wpList_load_bx rfl 167 (.tmp 2) rfl w.heap.size _ _ _ rfl d1 Tryz.underlying167 rfl (by kernel_rfl) ?_) | (refine wpList_store_bx rfl 167 (.tmp 2) (.tmp 63) rfl rfl w.heap.size _ _ #[.int .i64 n0, .int .i64 n1, .int .i64 n2, .int .i64 n3, .int .i64 n4, .slice A L uc, .int .i64 n5, .int .i64 0] rfl rfl d1 (by kernel_rfl) rfl (by simp [Value.oneCell']) ?_))
        refine bodyPost_ret (results_bx2 rfl _ rfl d1.row Tryz.underlying167 rfl (by kernel_rfl)) rfl ?_
        have hB7 := below_row d1
        first | rw [HPN.out, HN0.out, HN1.out, HN2.out, HN3.out, HN4.out, HN5.out, PK] | rw [HPN.out, HN0.out, HN1.out, HN2.out, HN3.out, HN4.out, HN5.out]
        have d4 := d3.below hB7
        rw [HT.out] at d4
        exact ⟨.slice A L uc, rfl, d4, d2.trans (hB7.mono d2.size)⟩
    · have PK := decide_eq_false (fun h => hb (HBK.out.1 h).2.1)
      refine wp_region_since (by kernel_rfl) (by kernel_rfl) ?_
      repeat (go_big_quiet_step (first | (go_at_call 107; refine Calls.sinceN _ (HE.out _)) | (go_at_call 74; refine Calls.since _ (HBN.out _ hb))))
      refine wpQuiet_nil ?_
      rintro _ ⟨s', rfl⟩
      obtain ⟨d1, d2, d3⟩ := FIN.out s'
      clear c1 c2 c3 c4 e0 e1 e4 e5
      generalize s'.at_ = w7 at *
      go_wp2_with (first | (refine wpList_load_bx rfl 167 (.tmp 2) rfl w.heap.size _ _ _ rfl d1 Tryz.underlying167 rfl (by kernel_rfl) ?_) | (refine wpList_store_bx rfl 167 (.tmp 2) (.tmp 63) rfl rfl w.heap.size _ _ #[.int .i64 n0, .int .i64 n1, .int .i64 n2, .int .i64 n3, .int .i64 n4, .slice A L uc, .int .i64 n5, .int .i64 0] rfl rfl d1 (by kernel_rfl) rfl (by simp [Value.oneCell']) ?_))
      refine bodyPost_ret (results_bx2 rfl _ rfl d1.row Tryz.underlying167 rfl (by kernel_rfl)) rfl ?_
      have hB7 := below_row d1
      first | rw [HPN.out, HN0.out, HN1.out, HN2.out, HN3.out, HN4.out, HN5.out, PK] | rw [HPN.out, HN0.out, HN1.out, HN2.out, HN3.out, HN4.out, HN5.out]
      have d4 := d3.below hB7
      rw [HT.out] at d4
      exact ⟨.slice A L uc, rfl, d4, d2.trans (hB7.mono d2.size)⟩
  · have he2 : en = false := by simpa using he
    subst he2
    have PK := decide_eq_false (fun h => by have := (HBK.out.1 h).1; cases this)
    refine wp_region_since (by kernel_rfl) (by kernel_rfl) ?_
    repeat (go_big_quiet_step (first | (go_at_call 107; refine Calls.sinceN _ (HE.out _))))
    refine wpQuiet_nil ?_
    rintro _ ⟨s', rfl⟩
    obtain ⟨d1, d2, d3⟩ := FIN.out s'
    clear c1 c2 c3 c4 e0 e1 e4 e5
    generalize s'.at_ = w7 at *
    go_wp2_with (first | (refine wpList_load_bx rfl 167 (.tmp 2) rfl w.heap.size _ _ _ rfl d1 Tryz.underlying167 rfl (by kernel_rfl) ?_) | (refine wpList_store_bx rfl 167 (.tmp 2) (.tmp 63) rfl rfl w.heap.size _ _ #[.int .i64 n0, .int .i64 n1, .int .i64 n2, .int .i64 n3, .int .i64 n4, .slice A L uc, .int .i64 n5, .int .i64 0] rfl rfl d1 (by kernel_rfl) rfl (by simp [Value.oneCell']) ?_))
    refine bodyPost_ret (results_bx2 rfl _ rfl d1.row Tryz.underlying167 rfl (by kernel_rfl)) rfl ?_
    have hB7 := below_row d1
    first | rw [HPN.out, HN0.out, HN1.out, HN2.out, HN3.out, HN4.out, HN5.out, PK] | rw [HPN.out, HN0.out, HN1.out, HN2.out, HN3.out, HN4.out, HN5.out]
    have d4 := d3.below hB7
    rw [HT.out] at d4
    exact ⟨.slice A L uc, rfl, d4, d2.trans (hB7.mono d2.size)⟩
end
end Go.Proofs.YtbcejfonkehjgaaGreatDoor
namespace Go.Proofs.YtbcejfonkehjgaaGreatDoor
open Go.RowKit

theorem enc_byte (n : Nat) : ∀ x ∈ enc n, 0 ≤ x ∧ x ≤ 255 := by
  induction n using Nat.strongRecOn with
  | _ n ih =>
    intro x hx
    by_cases h : n < 128
    · rw [enc_small n h] at hx; simp at hx; omega
    · rw [enc_big n h] at hx
      rcases List.mem_cons.1 hx with e | e
      · omega
      · exact ih (n / 128) (by omega) x e
theorem encs_byte (ns : List Nat) : ∀ x ∈ encs ns, 0 ≤ x ∧ x ≤ 255 := by
  induction ns with
  | nil => intro x hx; cases hx
  | cons m r ih =>
    intro x hx
    simp only [encs, List.mem_append] at hx
    rcases hx with h | h
    · exact enc_byte m x h
    · exact ih x h
def Byt (l : List Int) : Prop := ∀ x ∈ l, 0 ≤ x ∧ x ≤ 255
theorem Byt.app {l m : List Int} (h : Byt l) (k : Byt m) : Byt (l ++ m) := fun x hx => by
  rcases List.mem_append.1 hx with e | e
  · exact h x e
  · exact k x e
theorem pgs_byte (c s b o k v x : Nat) (l : List Int) (hl : Byt l) : ∀ i, Byt (pgs c s b o k v x l i)
  | 0 => (Byt.app (Byt.app (encs_byte _) (enc_byte _)) hl)
  | 1 => (Byt.app (Byt.app (encs_byte _) (enc_byte _)) hl)
  | 2 => encs_byte _
  | _ + 3 => fun x hx => by cases hx
theorem pgs_ok (c s b o k v x : Nat) (l : List Int) (hl : Byt l) (h16 : l.length ≤ 16) (hb : b < 9223372036854775808) (ho : o < 9223372036854775808) (hv : v < 9223372036854775808) (hx : x < 9223372036854775808) : ∀ i, 1 ≤ i → i < 4 → Ok1 (pgs c s b o k v x l i)
  | 0, h, _ => by omega
  | 1, _, _ => ⟨by
    have h1 := encs_len [v] (by simpa using hv)
    have h2 := enc_len_le 0 l.length (by omega)
    simp only [pgs, List.length_append, List.length_cons, List.length_nil] at h1 ⊢
    omega, pgs_byte c s b o k v x l hl 1⟩
  | 2, _, _ => ⟨by
    have h1 := encs_len [b, o, x] (by simp [hb, ho, hx])
    simp only [pgs, List.length_cons, List.length_nil] at h1 ⊢
    omega, pgs_byte c s b o k v x l hl 2⟩
  | 3, _, _ => ⟨by simp [pgs], fun x hx => by cases hx⟩
  | n + 4, _, h => by omega
theorem pgs_ok0 (c s b o k v x : Nat) (l : List Int) (hl : Byt l) (h16 : l.length ≤ 16) (hc : c < 4) (hs : s < 4) (hk : k < 32) (hb : b ≤ great) (ho : o ≤ great) (hv : v ≤ 1000) : Ok1 (pgs c s b o k v x l 0) := ⟨by
    have h0 := enc_len_le 0 c (by omega)
    have h1 := enc_len_le 0 s (by omega)
    have h2 := enc_len_le 5 b (by unfold great at hb; omega)
    have h3 := enc_len_le 5 o (by unfold great at ho; omega)
    have h4 := enc_len_le 0 k (by omega)
    have h5 := enc_len_le 1 v (by omega)
    have h6 := enc_len_le 0 l.length (by omega)
    simp only [pgs, encs, List.length_append, List.length_nil]
    omega, pgs_byte c s b o k v x l hl 0⟩
theorem tx_byte {l : List Int} (h : Byt l) (o : Option Nat) : Byt (tx l o).1 := by
  unfold tx
  split
  · exact fun x hx => by cases hx
  · split
    · exact fun x hx => by cases hx
    · rename_i hg
      unfold gtext at hg
      split at hg
      · split at hg
        · cases hg
        · split at hg
          · cases hg
          · injection hg with hg
            injection hg with hg _
            rw [← hg]
            exact fun x hx => h x (List.mem_of_mem_drop (List.mem_of_mem_take hx))
      · cases hg
theorem blk_byte {l : List Int} (h : Byt l) (Z : Nat) : Byt (blk Z l).2 := by
  unfold blk
  simp only
  split
  · exact tx_byte h _
  · intro x hx
    have := (List.mem_replicate.1 hx).2
    omega
end Go.Proofs.YtbcejfonkehjgaaGreatDoor
