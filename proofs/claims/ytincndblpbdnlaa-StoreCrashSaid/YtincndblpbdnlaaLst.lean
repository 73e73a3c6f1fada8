/-
  What is proved: store's last answers what a slot's sector tells. Condition: the store lies in memory as one.
-/
import Derived.Test.YtincndblpbdnlaaSx
namespace Go.Proofs.Ytincndblpbdnlaa
open Go.RowKit

/-- two whole numbers in blocks of their own are made 0 -/
theorem zero2 {w w5 : World} {k0 k1 : Nat} {a b : Int} (hb : Below w.heap.size w w5) (h0 : Bx w5 k0 3 #[.int .i64 a]) (h1 : Bx w5 k1 3 #[.int .i64 b]) (hne : k0 ≠ k1) (l0 : w.heap.size ≤ k0) (l1 : w.heap.size ≤ k1) (d : Nat) (x y : Int) :
    Bx (((w5.drewN d).setCell ⟨k0, 0, none⟩ (.int .i64 x)).setCell ⟨k1, 0, none⟩ (.int .i64 y)) k0 3 #[.int .i64 x] ∧ Bx (((w5.drewN d).setCell ⟨k0, 0, none⟩ (.int .i64 x)).setCell ⟨k1, 0, none⟩ (.int .i64 y)) k1 3 #[.int .i64 y] ∧
    Below w.heap.size w (((w5.drewN d).setCell ⟨k0, 0, none⟩ (.int .i64 x)).setCell ⟨k1, 0, none⟩ (.int .i64 y)) :=
  ⟨((h0.draws d).set 0 _).far _ _ (fun e => hne e.symm), ((h1.draws d).far _ _ hne).set 0 _, below_set (below_set (below_draws hb d) _ _ l0) _ _ l1⟩

section
variable {w : World} {b kd ks : Nat} {v : Value} {s : St} {sh : Sh}
set_option maxRecDepth 100000 in
set_option maxHeartbeats 800000 in
theorem last_any (h : Sx w b kd ks v s sh) (c i : Nat) (hc : c < sh.C) (hi : i < sh.S) (l : List Int) (hl : s.L[sh.at_ c i]? = some l) :
    Calls Try.prog 34 #[.pointer (some ⟨ks, 0, none⟩), .int .i64 c, .int .i64 i] w fun e w' => e = .returned (.tuple #[.int .i64 ((slt l).1 : Nat), .int .i64 ((slt l).2.1 : Nat), .int .i64 ((slt l).2.2 : Nat)]) ∧ Below w.heap.size w w' := by
  have hl1 : Ok1 l := h.by_ l (List.mem_of_getElem? hl)
  obtain ⟨Wa, hWa, V0, B0, s0⟩ := below_new w 3 #[.int .i64 0]
  obtain ⟨Wb, hWb, V1, B1, s1⟩ := below_new Wa 3 #[.int .i64 0]
  obtain ⟨W, hW, V2, B2, s2⟩ := below_new Wb 3 #[.int .i64 0]
  rw [s0] at V1
  rw [s1, s0] at V2
  have HW := hid (show ((w.alloc (.cells #[.int .i64 0] 3)).alloc (.cells #[.int .i64 0] 3)).alloc (.cells #[.int .i64 0] 3) = W by rw [hWa, hWb, hW])
  have HBel := hid (on (on B0 B1) B2)
  have HX0 := hid h
  have HX := hid (h.below HBel.out)
  have hsz : W.heap.size = w.heap.size + 3 := by omega
  have HV0 := hid ((V0.next B1).next B2)
  have HV1 := hid (V1.next B2)
  have HV2 := hid V2
  have HBA := hid (slotAt_any sh h.ok W c i (by have := h.ok.c; omega) (by have := h.ok.s; omega))
  obtain ⟨c0, c1, c2, c3, c4⟩ := HX.out.bx.all5
  have HL := hid hl
  have HL1 := hid hl1
  generalize sh.at_ c i = at1 at *
  clear h hl V0 V1 V2 B0 B1 B2 hWa hWb hW s0 s1 s2 hl1
  obtain ⟨B, Z, C, S⟩ := sh
  simp only [Sh.v] at hc hi HBA HX HX0 c0 c1 c2 c3 c4 ⊢
  go_enter Try.func34, Try.ntmps34
  go_upto_region 2 with (fail)
  rw [show w.heap.size + 1 + 1 = w.heap.size + 2 from rfl] at *
  rw [HW.out]
  go_wp2_with fail
  refine (HBA.out).mono ?_
  rintro e w1 ⟨rfl, hb1⟩
  have HX1 := hid (HX.out.below hb1)
  have HB1 := hid (on HBel.out hb1)
  have hw1s : w.heap.size + 3 ≤ w1.heap.size := by rw [← hsz]; exact hb1.size
  have HV01 := hid (HV0.out.next hb1)
  have HV11 := hid (HV1.out.next hb1)
  have HV21 := hid (HV2.out.next hb1)
  clear hb1 c0 c1 c2 c3 c4
  go_wp2_with fail
  refine (reader_any HX1.out _ l HL.out).mono ?_
  rintro e w2 ⟨kr, rfl, hkr, hrq, hb2⟩
  obtain ⟨W3, hW3, BG, HB3, hs3⟩ := below_new w2 100 #[.pointer (some ⟨w.heap.size, 0, none⟩), .pointer (some ⟨w.heap.size + 1, 0, none⟩), .pointer (some ⟨w.heap.size + 2, 0, none⟩)]
  have HRQ := hid (show Rq W3 kr l (some 0) from hrq.next HB3)
  have HB3' := hid (on (on HB1.out hb2) HB3)
  have HV03 := hid ((HV01.out.next hb2).next HB3)
  have HV13 := hid ((HV11.out.next hb2).next HB3)
  have HV23 := hid ((HV21.out.next hb2).next HB3)
  have HG3 := hid BG
  have HW3 := hid hW3
  have HK := hid (show w.heap.size + 3 ≤ kr ∧ kr < w2.heap.size from ⟨Nat.le_trans hw1s hkr, hrq.lt⟩)
  clear hW3 hrq hkr hb2 BG HB3
  go_wp2_with fail
  rw [HW3.out]
  obtain ⟨I, hI⟩ : ∃ I : Nat → World → Prop, I = fun i w1 => Bx w1 w.heap.size 3 #[.int .i64 (if 0 < i then (nth l (some 0) 0 : Nat) else 0)] ∧ Bx w1 (w.heap.size + 1) 3 #[.int .i64 (if 1 < i then (nth l (some 0) 1 : Nat) else 0)] ∧ Bx w1 (w.heap.size + 2) 3 #[.int .i64 (if 2 < i then (nth l (some 0) 2 : Nat) else 0)] ∧
    Bx w1 w2.heap.size 100 #[.pointer (some ⟨w.heap.size, 0, none⟩), .pointer (some ⟨w.heap.size + 1, 0, none⟩), .pointer (some ⟨w.heap.size + 2, 0, none⟩)] ∧ Below w.heap.size w w1 := ⟨_, rfl⟩
  refine (fill_any HL1.out kr (some 0) [⟨w.heap.size, 0, none⟩, ⟨w.heap.size + 1, 0, none⟩, ⟨w.heap.size + 2, 0, none⟩] 3 rfl (by omega) (some ⟨w2.heap.size, 0, none⟩) 3 I W3 HRQ.out (by rw [hI]; exact ⟨HV03.out, HV13.out, HV23.out, HG3.out, HB3'.out⟩) ?_ ?_ ?_).mono ?_
  · intro i w' h
    rw [hI] at h
    exact rv_places _ _ rfl h.2.2.2.1
  · intro i a c h ho
    rw [hI] at h ⊢
    obtain ⟨k1, k2⟩ := HK.out
    exact ⟨h.1.only ho (by omega), h.2.1.only ho (by omega), h.2.2.1.only ho (by omega), h.2.2.2.1.only ho (by omega), h.2.2.2.2.trans (ho.below (by omega) h.2.2.2.2.size)⟩
  · intro i p a hp h
    rw [hI] at h
    obtain ⟨k1, k2⟩ := HK.out
    have hw2 : w.heap.size + 3 ≤ w2.heap.size := by omega
    match i, hp with
    | 0, hp =>
      simp only [List.getElem?_cons_zero, Option.some.injEq] at hp
      subst hp
      refine ⟨by show w.heap.size ≠ kr; omega, h.1.free 0, ⟨_, h.1.cell 0⟩, ?_⟩
      rw [hI]
      exact ⟨h.1.set 0 _, h.2.1.far _ _ (by show w.heap.size ≠ _; omega), h.2.2.1.far _ _ (by show w.heap.size ≠ _; omega), h.2.2.2.1.far _ _ (by show w.heap.size ≠ w2.heap.size; omega), below_set h.2.2.2.2 _ _ (Nat.le_refl _)⟩
    | 1, hp =>
      simp only [List.getElem?_cons_succ, List.getElem?_cons_zero, Option.some.injEq] at hp
      subst hp
      refine ⟨by show w.heap.size + 1 ≠ kr; omega, h.2.1.free 0, ⟨_, h.2.1.cell 0⟩, ?_⟩
      rw [hI]
      exact ⟨h.1.far _ _ (by show w.heap.size + 1 ≠ _; omega), h.2.1.set 0 _, h.2.2.1.far _ _ (by show w.heap.size + 1 ≠ _; omega), h.2.2.2.1.far _ _ (by show w.heap.size + 1 ≠ w2.heap.size; omega), below_set h.2.2.2.2 _ _ (by show w.heap.size ≤ w.heap.size + 1; omega)⟩
    | 2, hp =>
      simp only [List.getElem?_cons_succ, List.getElem?_cons_zero, Option.some.injEq] at hp
      subst hp
      refine ⟨by show w.heap.size + 2 ≠ kr; omega, h.2.2.1.free 0, ⟨_, h.2.2.1.cell 0⟩, ?_⟩
      rw [hI]
      exact ⟨h.1.far _ _ (by show w.heap.size + 2 ≠ _; omega), h.2.1.far _ _ (by show w.heap.size + 2 ≠ _; omega), h.2.2.1.set 0 _, h.2.2.2.1.far _ _ (by show w.heap.size + 2 ≠ w2.heap.size; omega), below_set h.2.2.2.2 _ _ (by show w.heap.size ≤ w.heap.size + 2; omega)⟩
  rintro e w5 ⟨rfl, hi4, hrq4⟩
  rw [hI] at hi4
  obtain ⟨v04, v14, v24, g4, b4⟩ := hi4
  simp only [Nat.lt_add_one, Nat.reduceLT, if_true] at v04 v14 v24
  have HB5 := hid b4
  have HE := hid (ended_any hrq4 HL1.out)
  have n0b : nth l (some 0) 0 < 9223372036854775808 := nth_bnd HL1.out 0
  have n1b : nth l (some 0) 1 < 9223372036854775808 := nth_bnd HL1.out 1
  have n2b : nth l (some 0) 2 < 9223372036854775808 := nth_bnd HL1.out 2
  have HBK := hid (show slt l = if endd l (stt l (some 0) 3) = true ∧ nth l (some 0) 0 ≤ 1099511627776 ∧ nth l (some 0) 1 ≤ 1099511627776 ∧ nth l (some 0) 2 ≤ 16 then (nth l (some 0) 0, nth l (some 0) 1, nth l (some 0) 2) else (0, 0, 0) from rfl)
  generalize nth l (some 0) 0 = n0 at *
  generalize nth l (some 0) 1 = n1 at *
  generalize nth l (some 0) 2 = n2 at *
  generalize endd l (stt l (some 0) 3) = en at *
  have cV0 : w5.cell? ⟨w.heap.size, 0, none⟩ = some (.int .i64 (n0 : Nat)) := v04.cell 0
  have fV0 : w5.frozen? ⟨w.heap.size, 0, none⟩ = false := v04.free 0
  have cV1 : w5.cell? ⟨w.heap.size + 1, 0, none⟩ = some (.int .i64 (n1 : Nat)) := v14.cell 0
  have fV1 : w5.frozen? ⟨w.heap.size + 1, 0, none⟩ = false := v14.free 0
  have cV2 : w5.cell? ⟨w.heap.size + 2, 0, none⟩ = some (.int .i64 (n2 : Nat)) := v24.cell 0
  have HF := hid (fun d => zero2 HB5.out v04 v14 (by omega) (Nat.le_refl _) (by omega) d 0 0)
  have HG := hid (fun d => zero2 HB5.out v04 v14 (by omega) (Nat.le_refl _) (by omega) d n0 n1)
  clear v04 v14 v24 g4 b4 hrq4 hI HX1 HV01 HV11 HV21 HV03 HV13 HV23 HG3 HW3 HRQ HBA HL HW HX
  by_cases hg : en = true ∧ n0 ≤ 1099511627776 ∧ n1 ≤ 1099511627776 ∧ n2 ≤ 16
  · have HB := hid (HBK.out.trans (if_pos hg))
    obtain ⟨rfl, g0, g1, g2⟩ := hg
    go_wp2_with fail
    refine HE.out.mono ?_
    rintro e w6 ⟨rfl, d, rfl⟩
    go_wp2
    refine bodyPost_ret (results_cci rfl _ rfl rfl ((HG.out d).1.cell 0) ((HG.out d).2.1.cell 0)) rfl ?_
    rw [HB.out]
    exact ⟨rfl, (HG.out d).2.2⟩
  · have HB := hid (HBK.out.trans (if_neg hg))
    by_cases he : en = true
    · subst he
      by_cases g0 : n0 ≤ 1099511627776
      · by_cases g1 : n1 ≤ 1099511627776
        · have g2 : 16 < n2 := by
            rcases Nat.lt_or_ge 16 n2 with h | h
            · exact h
            · exact absurd ⟨rfl, g0, g1, h⟩ hg
          clear hg
          go_wp2_with fail
          refine HE.out.mono ?_
          rintro e w6 ⟨rfl, d, rfl⟩
          go_wp2
          refine bodyPost_ret (results_cci rfl _ rfl rfl ((HF.out d).1.cell 0) ((HF.out d).2.1.cell 0)) rfl ?_
          rw [HB.out]
          exact ⟨rfl, (HF.out d).2.2⟩
        · have g1 : 1099511627776 < n1 := by omega
          clear hg
          go_wp2_with fail
          refine HE.out.mono ?_
          rintro e w6 ⟨rfl, d, rfl⟩
          go_wp2
          refine bodyPost_ret (results_cci rfl _ rfl rfl ((HF.out d).1.cell 0) ((HF.out d).2.1.cell 0)) rfl ?_
          rw [HB.out]
          exact ⟨rfl, (HF.out d).2.2⟩
      · have g0 : 1099511627776 < n0 := by omega
        clear hg
        go_wp2_with fail
        refine HE.out.mono ?_
        rintro e w6 ⟨rfl, d, rfl⟩
        go_wp2
        refine bodyPost_ret (results_cci rfl _ rfl rfl ((HF.out d).1.cell 0) ((HF.out d).2.1.cell 0)) rfl ?_
        rw [HB.out]
        exact ⟨rfl, (HF.out d).2.2⟩
    · have he2 : en = false := by simpa using he
      subst he2
      clear hg he
      go_wp2_with fail
      refine HE.out.mono ?_
      rintro e w6 ⟨rfl, d, rfl⟩
      go_wp2
      refine bodyPost_ret (results_cci rfl _ rfl rfl ((HF.out d).1.cell 0) ((HF.out d).2.1.cell 0)) rfl ?_
      rw [HB.out]
      exact ⟨rfl, (HF.out d).2.2⟩
end
end Go.Proofs.Ytincndblpbdnlaa
