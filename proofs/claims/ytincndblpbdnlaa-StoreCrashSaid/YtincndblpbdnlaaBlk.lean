/-
  What is proved: store's block answers what a block's sector tells. Condition: the store lies in memory as one.
-/
import Derived.Test.YtincndblpbdnlaaSx
import Derived.BigRegion
namespace Go.Proofs.Ytincndblpbdnlaa
open Go.RowKit

theorem run_mk (w : World) (n : Nat) (hn : n ≤ 16) : (Instr.makeSlice 36 (.int .i64 n) (.int .i64 n)).run Try.prog w = .ok (.slice (some ⟨w.heap.size, 0, none⟩) n n) (w.alloc (.cells (List.replicate n (Value.int .u8 0)).toArray 5)) := by
  obtain ⟨i, hi, hz, hs, hb⟩ := info_parts elt_byte.info
  have hb' : (i.bytes : Int) * (n : Int) ≤ 281474976710656 := by rw [hb]; omega
  have hrun := run_make (P := Try.prog) w 36 5 i (.int .u8 0) elt_byte.und hi hz .i64 .i64 n n (by omega) (Int.le_refl _) hb' (by omega)
  have hc : madeCells (Value.int .u8 0).cells ((n : Int).toNat * i.size) = (List.replicate n (Value.int .u8 0)).toArray := by
    rw [show (Value.int .u8 0).cells = #[.int .u8 0] from rfl, hs, Nat.mul_one, Int.toNat_natCast]
    apply Array.toList_inj.1
    rw [toList_madeCells_one]
  rw [hc, Int.toNat_natCast] at hrun
  exact hrun

/-- noughts in a new block -/
theorem own_rep {X : World} {g Z B0 : Nat} (h : Bx X g 5 (Array.replicate Z (.int .u8 0))) (hz : Z ≤ 16) (hg : B0 ≤ g) : Own X B0 (.slice (some ⟨g, 0, none⟩) Z Z) (List.replicate Z 0) := by
  refine ⟨by rw [bytes_length, Nat.mul_one], .inr ⟨g, Z, _, by rw [List.length_replicate], hg, h, by rw [List.length_replicate]; exact Nat.le_refl _, by unfold maxLen; omega, by simp, ?_⟩⟩
  simp [bytes]
theorem make_end {w5 W : World} {B0 k d n0 Z : Nat} (hv : Bx w5 k 3 #[.int .i64 n0]) (hb : Below B0 w5 w5) (hB : B0 ≤ k) (hz : Z ≤ 16) (hsz : B0 ≤ w5.heap.size)
    (e : W = ((w5.drewN d).alloc (.cells (Array.replicate Z (.int .u8 0)) 5)).setCell ⟨k, 0, none⟩ (.int .i64 0) ∨ W = ((w5.drewN d).setCell ⟨k, 0, none⟩ (.int .i64 0)).alloc (.cells (Array.replicate Z (.int .u8 0)) 5)) :
    Bx W k 3 #[.int .i64 0] ∧ Own W B0 (.slice (some ⟨w5.heap.size, 0, none⟩) Z Z) (List.replicate Z 0) ∧ Below B0 w5 W := by
  rcases e with rfl | rfl
  · have h1 := Bx.new (w5.drewN d) 5 (Array.replicate Z (.int .u8 0))
    have hne : k ≠ w5.heap.size := fun e => by have := hv.lt; omega
    refine ⟨((hv.draws d).alloc _).set 0 _, own_rep (Bx.far h1 ⟨k, 0, none⟩ _ hne) hz hsz, ?_⟩
    exact below_set ((below_draws hb d).trans ((below_alloc _ _).mono hsz)) _ _ hB
  · have h2 := below_set (below_draws hb d) ⟨k, 0, none⟩ (.int .i64 0) hB
    have h1 := Bx.new ((w5.drewN d).setCell ⟨k, 0, none⟩ (.int .i64 0)) 5 (Array.replicate Z (.int .u8 0))
    rw [setSize] at h1
    exact ⟨((hv.draws d).set 0 _).alloc _, own_rep h1 hz hsz, h2.trans ((below_alloc _ _).mono (Nat.le_trans hsz h2.size))⟩

section
variable {w : World} {b kd ks : Nat} {v : Value} {s : St} {sh : Sh}
set_option maxRecDepth 100000 in
set_option maxHeartbeats 800000 in
theorem block_own (h : Sx w b kd ks v s sh) (k : Nat) (hk : k < sh.B) (l : List Int) (hl : s.L[1 + k]? = some l) :
    Calls Try.prog 47 #[.pointer (some ⟨ks, 0, none⟩), .int .i64 k] w fun e w' => ∃ u, e = .returned (.tuple #[.int .i64 ((blk sh.Z l).1 : Nat), u]) ∧ Own w' w.heap.size u (blk sh.Z l).2 ∧ Below w.heap.size w w' := by
  have hl1 : Ok1 l := h.by_ l (List.mem_of_getElem? hl)
  obtain ⟨W, hW, BV, HB, hs⟩ := below_new w 3 #[.int .i64 0]
  have HW := hid hW
  have HX := hid (h.below HB)
  have HX0 := hid h
  have hz := h.ok.z
  have hb := h.ok.b
  have HBA := hid (blockAt_any sh h.ok W k (by omega))
  obtain ⟨c0, c1, c2, c3, c4⟩ := (h.below HB).bx.all5
  have HBV := hid BV
  have HBel := hid HB
  have HL := hid hl
  have HL1 := hid hl1
  clear h hl hW BV HB hl1
  obtain ⟨B, Z, C, S⟩ := sh
  simp only [Sh.v] at hk hz hb HBA HX0 c0 c1 c2 c3 c4 ⊢
  go_enter Try.func47, Try.ntmps47
  go_upto_region 1 with (fail)
  rw [HW.out]
  go_wp2_with fail
  refine (HBA.out).mono ?_
  rintro e w1 ⟨rfl, hb1⟩
  have HX1 := hid (HX.out.below hb1)
  have HB1 := hid (on HBel.out hb1)
  have hw1s : w.heap.size + 1 ≤ w1.heap.size := by rw [← hs]; exact hb1.size
  have HV1 := hid (HBV.out.next hb1)
  clear hb1 c0 c1 c2 c3 c4
  go_wp2_with fail
  refine (reader_any HX1.out _ l HL.out).mono ?_
  rintro e w2 ⟨kr, rfl, hkr, hrq, hb2⟩
  obtain ⟨W3, hW3, BG, HB3, hs3⟩ := below_new w2 100 #[.pointer (some ⟨w.heap.size, 0, none⟩)]
  have HRQ := hid (show Rq W3 kr l (some 0) from hrq.next HB3)
  have HB3' := hid (on (on HB1.out hb2) HB3)
  have HV3 := hid ((HV1.out.next hb2).next HB3)
  have HX3 := hid ((HX1.out.below hb2).below HB3)
  have HG3 := hid BG
  have HW3 := hid hW3
  have HK := hid (show w.heap.size + 1 ≤ kr ∧ kr < w2.heap.size from ⟨Nat.le_trans (by have := HB1.out.size; have := hw1s; omega) hkr, hrq.lt⟩)
  clear hW3 hrq hkr hb2 BG HB3
  go_wp2_with fail
  rw [HW3.out]
  obtain ⟨I, hI⟩ : ∃ I : Nat → World → Prop, I = fun i w1 => Bx w1 w.heap.size 3 #[.int .i64 (if i = 0 then 0 else (nth l (some 0) 0 : Nat))] ∧ Bx w1 w2.heap.size 100 #[.pointer (some ⟨w.heap.size, 0, none⟩)] ∧ Below w.heap.size w w1 := ⟨_, rfl⟩
  refine (fill_any HL1.out kr (some 0) [⟨w.heap.size, 0, none⟩] 1 rfl (by omega) (some ⟨w2.heap.size, 0, none⟩) 1 I W3 HRQ.out (by rw [hI]; exact ⟨HV3.out, HG3.out, HB3'.out⟩) ?_ ?_ ?_).mono ?_
  · intro i w' h
    rw [hI] at h
    exact rv_places _ _ rfl h.2.1
  · intro i a c h ho
    rw [hI] at h ⊢
    obtain ⟨k1, k2⟩ := HK.out
    exact ⟨h.1.only ho (by omega), h.2.1.only ho (by omega), h.2.2.trans (ho.below (by omega) h.2.2.size)⟩
  · intro i p a hp h
    rw [hI] at h
    obtain ⟨k1, k2⟩ := HK.out
    match i, hp with
    | 0, hp =>
      simp only [List.getElem?_cons_zero, Option.some.injEq] at hp
      subst hp
      refine ⟨by show w.heap.size ≠ kr; omega, h.1.free 0, ⟨_, h.1.cell 0⟩, ?_⟩
      rw [hI]
      exact ⟨h.1.set 0 _, h.2.1.far _ _ (by show w.heap.size ≠ w2.heap.size; omega), below_set h.2.2 _ _ (Nat.le_refl _)⟩
  rintro e w4 ⟨rfl, hi4, hrq4⟩
  rw [hI] at hi4
  obtain ⟨v4, g4, b4⟩ := hi4
  have HV4 := hid v4
  have HB4 := hid b4
  have HRQ4 := hid hrq4
  clear v4 g4 b4 hrq4 hI
  go_wp2_with fail
  refine (rtext_any HL1.out HRQ4.out).mono ?_
  rintro e w5 ⟨⟨u, rfl, hu⟩, hrq5, ho5⟩
  have HU := hid hu.bs
  have HUO := hid hu
  have hw4 : w.heap.size < w4.heap.size := HV4.out.lt
  have HRQ5 := hid hrq5
  have HB5 := hid (HB4.out.trans (ho5.below (B := w.heap.size) (by have := HK.out.1; omega) HB4.out.size))
  have HV5 := hid (HV4.out.only ho5 (by have := HK.out.1; omega))
  have HX5 := hid (HX0.out.below HB5.out)
  clear hu hrq5 ho5
  have HM := hid (fun w' => run_mk w' Z hz.2)
  have hblk : blk Z l = if endd l (tx l (stt l (some 0) 1)).2 = true ∧ nth l (some 0) 0 ≤ 1000 ∧ (tx l (stt l (some 0) 1)).1.length = Z then (nth l (some 0) 0, (tx l (stt l (some 0) 1)).1) else (0, List.replicate Z 0) := rfl
  have HE := hid (ended_any HRQ5.out HL1.out)
  have n63 : nth l (some 0) 0 < 9223372036854775808 := nth_bnd HL1.out 0
  generalize nth l (some 0) 0 = n0 at *
  generalize tx l (stt l (some 0) 1) = tt at *
  obtain ⟨t, o2⟩ := tt
  simp only at hblk HU HUO HE HV5 HRQ5 ⊢
  generalize endd l o2 = en at *
  have cV : w5.cell? ⟨w.heap.size, 0, none⟩ = some (.int .i64 (n0 : Nat)) := HV5.out.cell 0
  have fV : w5.frozen? ⟨w.heap.size, 0, none⟩ = false := HV5.out.free 0
  have c2 : w5.cell? ⟨ks, 2, none⟩ = some (.int .i64 (Z : Nat)) := HX5.out.bx.cell 2
  obtain ⟨A, uc, rfl, hr, hc, hm⟩ := HU.out
  have HR := hid hr
  have HC := hid (And.intro hc hm)
  clear hr hc hm
  have HLT := hid (show w.heap.size < w5.heap.size from HV5.out.lt)
  clear HU HRQ5 HRQ4 HV4 HV3 HV1 HBV HX1 HX3 HRQ HG3 HL HBA HW HW3
  obtain ⟨L, hL⟩ : ∃ L, t.length = L := ⟨_, rfl⟩
  have HT := hid hL
  have HBK := hid hblk
  rw [hL] at HC hblk ⊢
  clear hL hblk
  obtain ⟨MK, hMK⟩ : ∃ m, Instr.makeSlice 36 (.int .i64 Z) (.int .i64 Z) = m := ⟨_, rfl⟩
  have hrun : ∀ w', MK.run Try.prog w' = .ok (.slice (some ⟨w'.heap.size, 0, none⟩) Z Z) (w'.alloc (.cells (List.replicate Z (Value.int .u8 0)).toArray 5)) := fun w' => by rw [← hMK]; exact HM.out w'
  have hal : ∀ d o, ((w5.drewN d).alloc o).cell? ⟨w.heap.size, 0, none⟩ = some (.int .i64 (n0 : Nat)) := fun d o => (World.cell?_alloc_lt (w5.drewN d) o ⟨w.heap.size, 0, none⟩ HLT.out).trans cV
  have hfl : ∀ d o, ((w5.drewN d).alloc o).frozen? ⟨w.heap.size, 0, none⟩ = false := fun d o => ((HV5.out.draws d).alloc o).free 0
  have HEND := hid (fun W d e => make_end (W := W) (d := d) (Z := Z) HV5.out (Below.refl w.heap.size w5) (Nat.le_refl _) hz.2 HB5.out.size e)
  by_cases hg : en = true ∧ n0 ≤ 1000 ∧ L = Z
  · obtain ⟨rfl, hn, rfl⟩ := hg
    have HB := hid (HBK.out.trans (if_pos ⟨rfl, hn, HT.out⟩))
    go_wp2_with fail
    refine HE.out.mono ?_
    rintro e w6 ⟨rfl, d, rfl⟩
    go_wp2
    refine bodyPost_ret (results_ci rfl _ rfl (((HV5.out.draws _).set 0 _).cell 0)) rfl ?_
    rw [HB.out]
    have ho := O1.set (w5.drewN d) ⟨w.heap.size, 0, none⟩ (.int .i64 n0) (fun y e => by rw [show (w5.drewN d).cell? ⟨w.heap.size, 0, none⟩ = _ from cV] at e; cases e)
    refine ⟨.slice A L uc, rfl, ?_, below_set (below_draws HB5.out _) _ _ (Nat.le_refl _)⟩
    have hown := HUO.out
    rw [HT.out] at hown
    have hx : Own (w5.drewN d) w4.heap.size (.slice A L uc) t := hown
    exact (hx.o1 ho (fun e => by have := (World.ownsRow.lt hown w.heap.size e).1; omega)).lower (Nat.le_of_lt hw4)
  · have HB := hid (HBK.out.trans (if_neg (fun h => hg ⟨h.1, h.2.1, HT.out ▸ h.2.2⟩)))
    by_cases he : en = true
    · subst he
      by_cases hn : n0 ≤ 1000
      · have hz2 : L ≠ Z := fun e => hg ⟨rfl, hn, e⟩
        have q1 : ((L : Int) == (Z : Int)) = false := by simpa using fun h : (L : Int) = Z => hz2 (by omega)
        have q2 : ((L : Int) != (Z : Int)) = true := by simpa using fun h : (L : Int) = Z => hz2 (by omega)
        clear hg hz2
        go_wp2_with fail
        refine HE.out.mono ?_
        rintro e w6 ⟨rfl, d, rfl⟩
        go_wp2
        go_region
        all_goals
          go_wp2
          first
            | (have hx := HEND.out _ (d + 1) (.inl rfl); refine bodyPost_ret (results_ci rfl _ rfl (hx.1.cell 0)) rfl ?_; rw [HB.out]; exact ⟨_, rfl, hx.2.1, HB5.out.trans hx.2.2⟩)
            | (have hx := HEND.out _ (d + 1) (.inr rfl); refine bodyPost_ret (results_ci rfl _ rfl (hx.1.cell 0)) rfl ?_; rw [HB.out]; exact ⟨_, rfl, hx.2.1, HB5.out.trans hx.2.2⟩)
      · have hn2 : 1000 < n0 := by omega
        clear hg hn
        go_wp2_with fail
        refine HE.out.mono ?_
        rintro e w6 ⟨rfl, d, rfl⟩
        go_wp2
        go_region
        all_goals
          go_wp2
          first
            | (have hx := HEND.out _ (d + 1) (.inl rfl); refine bodyPost_ret (results_ci rfl _ rfl (hx.1.cell 0)) rfl ?_; rw [HB.out]; exact ⟨_, rfl, hx.2.1, HB5.out.trans hx.2.2⟩)
            | (have hx := HEND.out _ (d + 1) (.inr rfl); refine bodyPost_ret (results_ci rfl _ rfl (hx.1.cell 0)) rfl ?_; rw [HB.out]; exact ⟨_, rfl, hx.2.1, HB5.out.trans hx.2.2⟩)
    · have he2 : en = false := by simpa using he
      subst he2
      clear hg he
      go_wp2_with fail
      refine HE.out.mono ?_
      rintro e w6 ⟨rfl, d, rfl⟩
      go_wp2
      go_region
      all_goals
        go_wp2
        first
          | (have hx := HEND.out _ (d + 1) (.inl rfl); refine bodyPost_ret (results_ci rfl _ rfl (hx.1.cell 0)) rfl ?_; rw [HB.out]; exact ⟨_, rfl, hx.2.1, HB5.out.trans hx.2.2⟩)
          | (have hx := HEND.out _ (d + 1) (.inr rfl); refine bodyPost_ret (results_ci rfl _ rfl (hx.1.cell 0)) rfl ?_; rw [HB.out]; exact ⟨_, rfl, hx.2.1, HB5.out.trans hx.2.2⟩)
theorem block_any (h : Sx w b kd ks v s sh) (k : Nat) (hk : k < sh.B) (l : List Int) (hl : s.L[1 + k]? = some l) :
    Calls Try.prog 47 #[.pointer (some ⟨ks, 0, none⟩), .int .i64 k] w fun e w' => ∃ u, e = .returned (.tuple #[.int .i64 ((blk sh.Z l).1 : Nat), u]) ∧ Bs w' u (blk sh.Z l).2 ∧ Below w.heap.size w w' :=
  (block_own h k hk l hl).mono fun _ _ ⟨u, h1, h2, h3⟩ => ⟨u, h1, h2.bs, h3⟩
end
end Go.Proofs.Ytincndblpbdnlaa
