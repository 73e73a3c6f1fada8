/-
  What is proved: store's redo does once more what the journal tells; add does a newer write. Conditions: the store lies in memory as one; the write fits its shape.
-/
import Derived.Test.YtincndblpbdnlaaDo
import Derived.Test.YtincndblpbdnlaaBlk
import Derived.Test.YtincndblpbdnlaaPgs
namespace Go.Proofs.Ytincndblpbdnlaa
open Go.RowKit

/-- what redo does to a disk whose journal is l -/
def rdo (sh : Sh) (s : St) (l : List Int) : St × Int :=
  if pok sh l then runs (wat (1 + nth l (some 0) 4) (sh.at_ (nth l (some 0) 0) (nth l (some 0) 1))) (pgs (nth l (some 0) 0) (nth l (some 0) 1) (nth l (some 0) 2) (nth l (some 0) 3) (nth l (some 0) 4) (nth l (some 0) 5) 0 (pnd l).1) s [1, 2, 3] else (s, 0)
theorem Bs.rn {w : World} {A : Option Addr} {n c : Nat} {l : List Int} (h : Bs w (.slice A n c) l) : Rn w A l := by
  obtain ⟨A', c', e, r, _⟩ := h
  injection e with e1 e2 e3
  subst e1
  exact r
section
variable {w : World} {bb kd ks : Nat} {vv : Value} {st : St} {sh : Sh}
set_option maxRecDepth 100000 in
set_option maxHeartbeats 1600000 in
theorem redo_any (h : Sx w bb kd ks vv st sh) (l : List Int) (hl : st.L[0]? = some l) :
    Calls Try.prog 32 #[.pointer (some ⟨ks, 0, none⟩)] w fun e w' => e = .returned (.int .i64 (rdo sh st l).2) ∧ Sx w' bb kd ks vv (rdo sh st l).1 sh ∧ Only w w' kd vv := by
  have hl1 : Ok1 l := h.by_ l (List.mem_of_getElem? hl)
  have HP := hid (pending_any h l hl)
  have HX := hid h
  have HN := hid (fun i => nth_bnd (o := some 0) hl1 i)
  have HT := hid (show Byt (pnd l).1 ∧ (pnd l).1.length ≤ 16 from ⟨tx_byte hl1.2 _, (tx_bnd hl1).2⟩)
  clear h hl hl1
  by_cases hp : pok sh l
  · have hpk : nth l (some 0) 4 < sh.B ∧ (nth l (some 0) 0 < sh.C ∧ nth l (some 0) 1 < sh.S) := ⟨hp.2.1, hp.2.2.1⟩
    have hR : rdo sh st l = runs (wat (1 + nth l (some 0) 4) (sh.at_ (nth l (some 0) 0) (nth l (some 0) 1))) (pgs (nth l (some 0) 0) (nth l (some 0) 1) (nth l (some 0) 2) (nth l (some 0) 3) (nth l (some 0) 4) (nth l (some 0) 5) 0 (pnd l).1) st [1, 2, 3] := if_pos hp
    rw [decide_eq_true hp] at HP
    rw [hR]
    clear hR hp
    have n0 := HN.out 0
    have n1 := HN.out 1
    have n2 := HN.out 2
    have n3 := HN.out 3
    have n4 := HN.out 4
    have n5 := HN.out 5
    generalize nth l (some 0) 0 = a0 at *
    generalize nth l (some 0) 1 = a1 at *
    generalize nth l (some 0) 2 = a2 at *
    generalize nth l (some 0) 3 = a3 at *
    generalize nth l (some 0) 4 = a4 at *
    generalize nth l (some 0) 5 = a5 at *
    generalize (pnd l).1 = t at *
    obtain ⟨hk1, hc1, hs1⟩ := hpk
    have HWR := hid (fun w1 (h1 : Sx w1 bb kd ks vv st sh) A q (r1 : Rn w1 A t) => writer_any (w := w1) h1 a0 a1 a2 a3 a4 a5 0 t.length q A t rfl HT.out.2 n0 n1 n2 n3 n4 n5 (by omega) r1 hk1 hc1 hs1)
    have HRU := hid (fun w1 h1 t2 g hw1 gs (hg : Bx w1 gs 3 #[.int .i64 1, .int .i64 2, .int .i64 3]) => runs_any (w := w1) (b := bb) (kd := kd) (ks := ks) (v := vv) (s := st) (sh := sh) h1 (t2 := t2) (g := g) (a1 := 1 + a4) (a2 := sh.at_ a0 a1) (f := pgs a0 a1 a2 a3 a4 a5 0 t) hw1 rfl [1, 2, 3] 3 rfl (by omega) (fun i hi => by
      have h3 : 1 ≤ i ∧ i < 4 := by simp at hi; omega
      exact ⟨h3.2, pgs_ok a0 a1 a2 a3 a4 a5 0 t HT.out.1 HT.out.2 n2 n3 n5 (by omega) i h3.1 h3.2⟩) (some ⟨gs, 0, none⟩) 3 _ (Nat.le_refl _) (rv_ints [1, 2, 3] hg rfl) (fun y hy => rv_ints [1, 2, 3] (hg.dsk h1.dk hy (by decide) (by decide)) rfl))
    clear n0 n1 n2 n3 n4 n5 hk1 hc1 hs1 HN
    generalize runs (wat (1 + a4) (sh.at_ a0 a1)) (pgs a0 a1 a2 a3 a4 a5 0 t) st [1, 2, 3] = RR at *
    obtain ⟨st', er⟩ := RR
    go_enter Try.func32, Try.ntmps32
    go_wp2_with fail
    refine HP.out.mono ?_
    rintro e w1 ⟨u, rfl, hu, hb1⟩
    have HU := hid hu
    obtain ⟨A, q, rfl, -⟩ := hu
    obtain ⟨W, hW, B1, HBb, sb⟩ := below_new w1 91 #[.int .i64 a0, .int .i64 a1, .int .i64 a2, .int .i64 a3, .int .i64 a4, .slice A t.length q, .int .i64 a5, .int .i64 0]
    have HW := hid hW
    have HB := hid (on hb1 HBb)
    have HX1 := hid (HX.out.below HB.out)
    have HU1 := hid (HU.out.below HBb)
    have HE := hid B1
    clear hb1 hW B1 HBb sb HU HX HP
    obtain ⟨L, hL⟩ : ∃ L, t.length = L := ⟨_, rfl⟩
    have HL := hid hL
    rw [hL] at HW HE ⊢
    clear hL
    go_upto_region 2 with fail
    rw [HW.out]
    clear HW
    go_wp2_with (refine wpList_load_bx rfl 91 (.tmp 3) rfl _ _ _ _ rfl HE.out Try.underlying91 rfl (by kernel_rfl) ?_)
    rw [← HL.out]
    refine (HWR.out W HX1.out A q HU1.out.rn).mono ?_
    rintro e w2 ⟨t2, g, rfl, hw2, hb2⟩
    obtain ⟨w3, hw3, BG, HB3, -⟩ := below_new w2 3 #[.int .i64 1, .int .i64 2, .int .i64 3]
    have HW3 := hid hw3
    have HG3 := hid BG
    have HX3 := hid ((HX1.out.below hb2).below HB3)
    have HT3 := hid (hw2.below HB3)
    have HB3' := hid (on (on HB.out hb2) HB3)
    clear hw2 hb2 hw3 BG HB3 HWR HX1 HU1 HE HB
    go_wp2_with fail
    rw [HW3.out]
    refine (HRU.out w3 HX3.out t2 g HT3.out w2.heap.size HG3.out).mono ?_
    rintro e w4 ⟨rfl, hx4, ho4⟩
    have HX4 := hid hx4
    have HO4 := hid (Only.trans (Only.of HB3'.out kd vv) ho4)
    clear hx4 ho4 HRU HX3 HT3 HG3 HB3' HW3
    go_wp2
    go_ret
    exact ⟨rfl, HX4.out, HO4.out⟩
  · have hR : rdo sh st l = (st, 0) := if_neg hp
    rw [hR]
    rw [decide_eq_false hp] at HP
    clear hR hp HN HT
    generalize nth l (some 0) 0 = a0 at *
    generalize nth l (some 0) 1 = a1 at *
    generalize nth l (some 0) 2 = a2 at *
    generalize nth l (some 0) 3 = a3 at *
    generalize nth l (some 0) 4 = a4 at *
    generalize nth l (some 0) 5 = a5 at *
    generalize (pnd l).1 = t at *
    go_enter Try.func32, Try.ntmps32
    go_wp2_with fail
    refine HP.out.mono ?_
    rintro e w1 ⟨u, rfl, hu, hb1⟩
    have HB1 := hid hb1
    obtain ⟨A, q, rfl, -⟩ := hu
    have HX1 := hid (HX.out.below HB1.out)
    clear HX HP hb1
    go_wp2
    go_ret
    exact ⟨rfl, HX1.out.below (below_alloc _ _), Only.of (on HB1.out (below_alloc _ _)) _ _⟩
end
end Go.Proofs.Ytincndblpbdnlaa
