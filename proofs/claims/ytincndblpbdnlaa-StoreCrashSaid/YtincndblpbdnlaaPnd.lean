/-
  What is proved: store's pending answers the write that the journal tells, and whether it is one for this shape. Condition: the store lies in memory as one.
-/
import Derived.Test.YtincndblpbdnlaaSx
import Derived.BigRegion
namespace Go.Proofs.Ytincndblpbdnlaa
open Go.RowKit

/-- the write that a journal tells -/
def pnd (l : List Int) : List Int × Option Nat := tx l (stt l (some 0) 6)
/-- it is one for this shape -/
def pok (sh : Sh) (l : List Int) : Prop := endd l (pnd l).2 = true ∧ nth l (some 0) 4 < sh.B ∧ (nth l (some 0) 0 < sh.C ∧ nth l (some 0) 1 < sh.S) ∧ (pnd l).1.length = sh.Z
instance (sh : Sh) (l : List Int) : Decidable (pok sh l) := by unfold pok; infer_instance

/-- a block is laid as it was -/
theorem below_row {w : World} {g : Nat} {t : TypeId} {cs : Array Value} (h : Bx w g t cs) : Below w.heap.size w (w.setRow g cs) :=
  ⟨rfl, rfl, rfl, by rw [setRow_size]; exact Nat.le_refl _, fun j _ => by
    by_cases hj : j = g
    · subst hj; exact h.row.trans h.symm
    · exact setRow_other w g j cs hj⟩

section
variable {w : World} {b kd ks : Nat} {v : Value} {s : St} {sh : Sh}
set_option maxRecDepth 100000 in
set_option maxHeartbeats 1600000 in
theorem pending_any (h : Sx w b kd ks v s sh) (l : List Int) (hl : s.L[0]? = some l) :
    Calls Try.prog 50 #[.pointer (some ⟨ks, 0, none⟩)] w fun e w' => ∃ u, e = .returned (.tuple #[.agg #[.int .i64 (nth l (some 0) 0 : Nat), .int .i64 (nth l (some 0) 1 : Nat), .int .i64 (nth l (some 0) 2 : Nat), .int .i64 (nth l (some 0) 3 : Nat), .int .i64 (nth l (some 0) 4 : Nat), u, .int .i64 (nth l (some 0) 5 : Nat), .int .i64 0], .bool (decide (pok sh l))]) ∧ Bs w' u (pnd l).1 ∧ Below w.heap.size w w' := by
  have hl1 : Ok1 l := h.by_ l (List.mem_of_getElem? hl)
  obtain ⟨W, hW, BV, HB, hs⟩ := below_new w 91 #[.int .i64 0, .int .i64 0, .int .i64 0, .int .i64 0, .int .i64 0, .slice none 0 0, .int .i64 0, .int .i64 0]
  have HW := hid hW
  have HX := hid (h.below HB)
  have HX0 := hid h
  have HBV := hid BV
  have HBel := hid HB
  have HL := hid hl
  have HL1 := hid hl1
  have HOK := hid h.ok
  clear h hl hW BV HB hl1
  go_enter Try.func50, Try.ntmps50
  go_upto_region 1 with (fail)
  rw [HW.out]
  go_wp2_with fail
  refine (reader_any HX.out 0 l HL.out).mono ?_
  rintro e w2 ⟨kr, rfl, hkr, hrq, hb2⟩
  obtain ⟨W3, hW3, BG, HB3, hs3⟩ := below_new w2 100 #[.pointer (some ⟨w.heap.size, 0, none⟩), .pointer (some ⟨w.heap.size, 1, none⟩), .pointer (some ⟨w.heap.size, 2, none⟩), .pointer (some ⟨w.heap.size, 3, none⟩), .pointer (some ⟨w.heap.size, 4, none⟩), .pointer (some ⟨w.heap.size, 6, none⟩)]
  have HRQ := hid (show Rq W3 kr l (some 0) from hrq.next HB3)
  have HB3' := hid (on (on HBel.out hb2) HB3)
  have HV3 := hid ((HBV.out.next hb2).next HB3)
  have HG3 := hid BG
  have HW3 := hid hW3
  have HK := hid (show w.heap.size + 1 ≤ kr ∧ kr < w2.heap.size from ⟨by rw [← hs]; exact hkr, hrq.lt⟩)
  clear hW3 hrq hkr hb2 BG HB3
  go_wp2_with fail
  rw [HW3.out]
  obtain ⟨I, hI⟩ : ∃ I : Nat → World → Prop, I = fun i w1 => Bx w1 w.heap.size 91 #[.int .i64 (if 0 < i then (nth l (some 0) 0 : Nat) else 0), .int .i64 (if 1 < i then (nth l (some 0) 1 : Nat) else 0), .int .i64 (if 2 < i then (nth l (some 0) 2 : Nat) else 0), .int .i64 (if 3 < i then (nth l (some 0) 3 : Nat) else 0), .int .i64 (if 4 < i then (nth l (some 0) 4 : Nat) else 0), .slice none 0 0, .int .i64 (if 5 < i then (nth l (some 0) 5 : Nat) else 0), .int .i64 0] ∧ Bx w1 w2.heap.size 100 #[.pointer (some ⟨w.heap.size, 0, none⟩), .pointer (some ⟨w.heap.size, 1, none⟩), .pointer (some ⟨w.heap.size, 2, none⟩), .pointer (some ⟨w.heap.size, 3, none⟩), .pointer (some ⟨w.heap.size, 4, none⟩), .pointer (some ⟨w.heap.size, 6, none⟩)] ∧ Below w.heap.size w w1 := ⟨_, rfl⟩
  refine (fill_any HL1.out kr (some 0) [⟨w.heap.size, 0, none⟩, ⟨w.heap.size, 1, none⟩, ⟨w.heap.size, 2, none⟩, ⟨w.heap.size, 3, none⟩, ⟨w.heap.size, 4, none⟩, ⟨w.heap.size, 6, none⟩] 6 rfl (by omega) (some ⟨w2.heap.size, 0, none⟩) 6 I W3 HRQ.out (by rw [hI]; exact ⟨HV3.out, HG3.out, HB3'.out⟩) ?_ ?_ ?_).mono ?_
  · intro i w' h
    rw [hI] at h
    exact rv_places _ _ rfl h.2.1
  · intro i a c h ho
    rw [hI] at h ⊢
    obtain ⟨k1, k2⟩ := HK.out
    exact ⟨h.1.only ho (by omega), h.2.1.only ho (by omega), h.2.2.trans (ho.below (by omega) h.2.2.size)⟩
  · intro i p a hp h
    rw [hI] at h
    obtain ⟨k1, k2⟩ := HK.out
    match i, hp with
    | 0, hp =>
      simp only [List.getElem?_cons_zero, Option.some.injEq] at hp
      subst hp
      refine ⟨by show w.heap.size ≠ kr; omega, h.1.free 0, ⟨_, h.1.cell 0⟩, ?_⟩
      rw [hI]
      exact ⟨h.1.set 0 _, h.2.1.far _ _ (by show w.heap.size ≠ w2.heap.size; omega), below_set h.2.2 _ _ (Nat.le_refl _)⟩
    | 1, hp =>
      simp only [List.getElem?_cons_succ, List.getElem?_cons_zero, Option.some.injEq] at hp
      subst hp
      refine ⟨by show w.heap.size ≠ kr; omega, h.1.free 1, ⟨_, h.1.cell 1⟩, ?_⟩
      rw [hI]
      exact ⟨h.1.set 1 _, h.2.1.far _ _ (by show w.heap.size ≠ w2.heap.size; omega), below_set h.2.2 _ _ (Nat.le_refl _)⟩
    | 2, hp =>
      simp only [List.getElem?_cons_succ, List.getElem?_cons_zero, Option.some.injEq] at hp
      subst hp
      refine ⟨by show w.heap.size ≠ kr; omega, h.1.free 2, ⟨_, h.1.cell 2⟩, ?_⟩
      rw [hI]
      exact ⟨h.1.set 2 _, h.2.1.far _ _ (by show w.heap.size ≠ w2.heap.size; omega), below_set h.2.2 _ _ (Nat.le_refl _)⟩
    | 3, hp =>
      simp only [List.getElem?_cons_succ, List.getElem?_cons_zero, Option.some.injEq] at hp
      subst hp
      refine ⟨by show w.heap.size ≠ kr; omega, h.1.free 3, ⟨_, h.1.cell 3⟩, ?_⟩
      rw [hI]
      exact ⟨h.1.set 3 _, h.2.1.far _ _ (by show w.heap.size ≠ w2.heap.size; omega), below_set h.2.2 _ _ (Nat.le_refl _)⟩
    | 4, hp =>
      simp only [List.getElem?_cons_succ, List.getElem?_cons_zero, Option.some.injEq] at hp
      subst hp
      refine ⟨by show w.heap.size ≠ kr; omega, h.1.free 4, ⟨_, h.1.cell 4⟩, ?_⟩
      rw [hI]
      exact ⟨h.1.set 4 _, h.2.1.far _ _ (by show w.heap.size ≠ w2.heap.size; omega), below_set h.2.2 _ _ (Nat.le_refl _)⟩
    | 5, hp =>
      simp only [List.getElem?_cons_succ, List.getElem?_cons_zero, Option.some.injEq] at hp
      subst hp
      refine ⟨by show w.heap.size ≠ kr; omega, h.1.free 6, ⟨_, h.1.cell 6⟩, ?_⟩
      rw [hI]
      exact ⟨h.1.set 6 _, h.2.1.far _ _ (by show w.heap.size ≠ w2.heap.size; omega), below_set h.2.2 _ _ (Nat.le_refl _)⟩
  rintro e w4 ⟨rfl, hi4, hrq4⟩
  rw [hI] at hi4
  obtain ⟨v4, g4, b4⟩ := hi4
  simp only [Nat.lt_add_one, Nat.reduceLT, if_true] at v4
  have HV4 := hid v4
  have HB4 := hid b4
  have HRQ4 := hid hrq4
  clear v4 g4 b4 hrq4 hI HW HW3 HV3 HG3 HB3' HRQ HBV HX
  go_wp2_with fail
  refine (rtext_any HL1.out HRQ4.out).mono ?_
  rintro e w5 ⟨⟨u, rfl, hu0⟩, hrq5, ho5⟩
  have hu := hu0.bs
  clear hu0
  have HRQ5 := hid hrq5
  have HB5 := hid (HB4.out.trans (ho5.below (B := w.heap.size) (by have := HK.out.1; omega) HB4.out.size))
  have HV5 := hid (HV4.out.only ho5 (by have := HK.out.1; omega))
  obtain ⟨e0, e1, e2, e3, e4, e5, e6, e7⟩ := HV5.out.all8
  have f5 : w5.frozen? ⟨w.heap.size, 5, none⟩ = false := HV5.out.free 5
  have HPN := hid (show (pnd l).1 = (tx l (stt l (some 0) 6)).1 from rfl)
  have HBK := hid (show pok sh l ↔ endd l (tx l (stt l (some 0) 6)).2 = true ∧ nth l (some 0) 4 < sh.B ∧ (nth l (some 0) 0 < sh.C ∧ nth l (some 0) 1 < sh.S) ∧ (tx l (stt l (some 0) 6)).1.length = sh.Z from Iff.rfl)
  generalize tx l (stt l (some 0) 6) = tt at *
  obtain ⟨t, o2⟩ := tt
  simp only at hu HBK HPN
  have HU := hid hu
  obtain ⟨A, uc, rfl, hr, hc, hm⟩ := hu
  obtain ⟨L, hL⟩ : ∃ L, t.length = L := ⟨_, rfl⟩
  have HT := hid hL
  rw [hL]
  clear hrq5 ho5 HRQ4 HV4 hr hc hm hL
  go_upto_region 4 with fail
  have hset := O1.set w5 ⟨w.heap.size, 5, none⟩ (.slice A L uc) (fun y e => by rw [e5] at e; cases e)
  have HV6 := hid (show Bx (w5.setCell ⟨w.heap.size, 5, none⟩ (.slice A L uc)) w.heap.size 91 #[.int .i64 (nth l (some 0) 0 : Nat), .int .i64 (nth l (some 0) 1 : Nat), .int .i64 (nth l (some 0) 2 : Nat), .int .i64 (nth l (some 0) 3 : Nat), .int .i64 (nth l (some 0) 4 : Nat), .slice A L uc, .int .i64 (nth l (some 0) 5 : Nat), .int .i64 0] from HV5.out.set 5 _)
  have HB6 := hid (below_set HB5.out ⟨w.heap.size, 5, none⟩ (.slice A L uc) (Nat.le_refl _))
  have HR6 := hid (HRQ5.out.only hset (by show kr ≠ w.heap.size; have := HK.out.1; omega))
  have HU6 := hid (HU.out.stay hset.stay hset.size)
  clear hset e0 e1 e2 e3 e4 e5 e6 e7 f5 HV5 HB5 HRQ5 HU
  generalize w5.setCell ⟨w.heap.size, 5, none⟩ (.slice A L uc) = w6 at *
  have HX6 := hid (HX0.out.below HB6.out)
  have n0b : nth l (some 0) 0 < 9223372036854775808 := nth_bnd HL1.out 0
  have n1b : nth l (some 0) 1 < 9223372036854775808 := nth_bnd HL1.out 1
  have n4b : nth l (some 0) 4 < 9223372036854775808 := nth_bnd HL1.out 4
  have HE := hid (fun (s : Since w6) => ended_any (HR6.out.next s.bel) HL1.out)
  obtain ⟨B, Z, C, S⟩ := sh
  simp only at HX6 HBK HX0 ⊢
  generalize hn0 : nth l (some 0) 0 = n0 at *
  have HN0 := hid hn0
  clear hn0
  generalize hn1 : nth l (some 0) 1 = n1 at *
  have HN1 := hid hn1
  clear hn1
  generalize hn2 : nth l (some 0) 2 = n2 at *
  have HN2 := hid hn2
  clear hn2
  generalize hn3 : nth l (some 0) 3 = n3 at *
  have HN3 := hid hn3
  clear hn3
  generalize hn4 : nth l (some 0) 4 = n4 at *
  have HN4 := hid hn4
  clear hn4
  generalize hn5 : nth l (some 0) 5 = n5 at *
  have HN5 := hid hn5
  clear hn5
  generalize endd l o2 = en at *
  have HBY := hid (fun (s : Since w6) (h : n4 < B) => hasBlock_yes ⟨B, Z, C, S⟩ HOK.out s.at_ n4 ⟨by omega, by show (n4 : Int) < (B : Nat); omega⟩)
  have HBN := hid (fun (s : Since w6) (h : ¬ n4 < B) => hasBlock_no ⟨B, Z, C, S⟩ HOK.out s.at_ n4 (fun g => h (by have : (n4 : Int) < (B : Nat) := g.2; omega)))
  have HSY := hid (fun (s : Since w6) (h : n0 < C ∧ n1 < S) => hasSlot_yes ⟨B, Z, C, S⟩ HOK.out s.at_ n0 n1 ⟨⟨by omega, by show (n0 : Int) < (C : Nat); omega⟩, by omega, by show (n1 : Int) < (S : Nat); omega⟩)
  have HSN := hid (fun (s : Since w6) (h : ¬ (n0 < C ∧ n1 < S)) => hasSlot_no ⟨B, Z, C, S⟩ HOK.out s.at_ n0 n1 (fun g => h ⟨by have : (n0 : Int) < (C : Nat) := g.1.2; omega, by have : (n1 : Int) < (S : Nat) := g.2.2; omega⟩))
  simp only [Sh.v] at HBY HBN HSY HSN
  have c1 : ∀ s : Since w6, s.at_.cell? ⟨ks, 1, none⟩ = some (.int .i64 (B : Nat)) := fun s => (HX6.out.bx.next s.bel).cell 1
  have c2 : ∀ s : Since w6, s.at_.cell? ⟨ks, 2, none⟩ = some (.int .i64 (Z : Nat)) := fun s => (HX6.out.bx.next s.bel).cell 2
  have c3 : ∀ s : Since w6, s.at_.cell? ⟨ks, 3, none⟩ = some (.int .i64 (C : Nat)) := fun s => (HX6.out.bx.next s.bel).cell 3
  have c4 : ∀ s : Since w6, s.at_.cell? ⟨ks, 4, none⟩ = some (.int .i64 (S : Nat)) := fun s => (HX6.out.bx.next s.bel).cell 4
  have e0 : ∀ s : Since w6, s.at_.cell? ⟨w.heap.size, 0, none⟩ = some (.int .i64 (n0 : Nat)) := fun s => (HV6.out.next s.bel).cell 0
  have e1 : ∀ s : Since w6, s.at_.cell? ⟨w.heap.size, 1, none⟩ = some (.int .i64 (n1 : Nat)) := fun s => (HV6.out.next s.bel).cell 1
  have e4 : ∀ s : Since w6, s.at_.cell? ⟨w.heap.size, 4, none⟩ = some (.int .i64 (n4 : Nat)) := fun s => (HV6.out.next s.bel).cell 4
  have e5 : ∀ s : Since w6, s.at_.cell? ⟨w.heap.size, 5, none⟩ = some (.slice A L uc) := fun s => (HV6.out.next s.bel).cell 5
  have FIN := hid (fun (s : Since w6) => (And.intro (HV6.out.next s.bel) (And.intro (HB6.out.trans (s.bel.mono HB6.out.size)) (HU6.out.below s.bel))))
  by_cases he : en = true
  · subst he
    by_cases hb : n4 < B
    · by_cases hs : n0 < C ∧ n1 < S
      · by_cases hz : L = Z
        · have PK := decide_eq_true (HBK.out.2 ⟨rfl, hb, hs, HT.out.trans hz⟩)
          subst hz
          refine wp_region_since (by kernel_rfl) (by kernel_rfl) ?_
          repeat (go_big_quiet_step (first | (go_at_call 56; refine Calls.sinceN _ (HE.out _)) | (go_at_call 46; refine Calls.since _ (HBY.out _ hb)) | (go_at_call 52; refine Calls.since _ (HSY.out _ hs))))
          refine wpQuiet_nil ?_
          rintro _ ⟨s', rfl⟩
          obtain ⟨d1, d2, d3⟩ := FIN.out s'
          clear c1 c2 c3 c4 e0 e1 e4 e5
          generalize s'.at_ = w7 at *
          go_wp2_with (first | (refine wpList_load_bx rfl 91 (.tmp 2) rfl w.heap.size _ _ _ rfl d1 Try.underlying91 rfl (by kernel_rfl) ?_) | (refine wpList_store_bx rfl 91 (.tmp 2) (.tmp 63) rfl rfl w.heap.size _ _ #[.int .i64 n0, .int .i64 n1, .int .i64 n2, .int .i64 n3, .int .i64 n4, .slice A L uc, .int .i64 n5, .int .i64 0] rfl rfl d1 (by kernel_rfl) rfl (by simp [Value.oneCell']) ?_))
          refine bodyPost_ret (results_bx2 rfl _ rfl d1.row Try.underlying91 rfl (by kernel_rfl)) rfl ?_
          have hB7 := below_row d1
          first | rw [HPN.out, HN0.out, HN1.out, HN2.out, HN3.out, HN4.out, HN5.out, PK] | rw [HPN.out, HN0.out, HN1.out, HN2.out, HN3.out, HN4.out, HN5.out]
          have d4 := d3.below hB7
          rw [HT.out] at d4
          exact ⟨.slice A L uc, rfl, d4, d2.trans (hB7.mono d2.size)⟩
        · have PK := decide_eq_false (fun h => hz (HT.out.symm.trans (HBK.out.1 h).2.2.2))
          have q1 : ((L : Int) == (Z : Int)) = false := by simpa using fun h : (L : Int) = Z => hz (by omega)
          refine wp_region_since (by kernel_rfl) (by kernel_rfl) ?_
          repeat (go_big_quiet_step (first | (go_at_call 56; refine Calls.sinceN _ (HE.out _)) | (go_at_call 46; refine Calls.since _ (HBY.out _ hb)) | (go_at_call 52; refine Calls.since _ (HSY.out _ hs))))
          refine wpQuiet_nil ?_
          rintro _ ⟨s', rfl⟩
          obtain ⟨d1, d2, d3⟩ := FIN.out s'
          clear c1 c2 c3 c4 e0 e1 e4 e5
          generalize s'.at_ = w7 at *
          go_wp2_with (first | (refine wpList_load_bx rfl 91 (.tmp 2) rfl w.heap.size _ _ _ rfl d1 Try.underlying91 rfl (by kernel_rfl) ?_) | (refine wpList_store_bx rfl 91 (.tmp 2) (.tmp 63) rfl rfl w.heap.size _ _ #[.int .i64 n0, .int .i64 n1, .int .i64 n2, .int .i64 n3, .int .i64 n4, .slice A L uc, .int .i64 n5, .int .i64 0] rfl rfl d1 (by kernel_rfl) rfl (by simp [Value.oneCell']) ?_))
          refine bodyPost_ret (results_bx2 rfl _ rfl d1.row Try.underlying91 rfl (by kernel_rfl)) rfl ?_
          have hB7 := below_row d1
          first | rw [HPN.out, HN0.out, HN1.out, HN2.out, HN3.out, HN4.out, HN5.out, PK] | rw [HPN.out, HN0.out, HN1.out, HN2.out, HN3.out, HN4.out, HN5.out]
          have d4 := d3.below hB7
          rw [HT.out] at d4
          exact ⟨.slice A L uc, rfl, d4, d2.trans (hB7.mono d2.size)⟩
      · have PK := decide_eq_false (fun h => hs (HBK.out.1 h).2.2.1)
        refine wp_region_since (by kernel_rfl) (by kernel_rfl) ?_
        repeat (go_big_quiet_step (first | (go_at_call 56; refine Calls.sinceN _ (HE.out _)) | (go_at_call 46; refine Calls.since _ (HBY.out _ hb)) | (go_at_call 52; refine Calls.since _ (HSN.out _ hs))))
        refine wpQuiet_nil ?_
        rintro _ ⟨s', rfl⟩
        obtain ⟨d1, d2, d3⟩ := FIN.out s'
        clear c1 c2 c3 c4 e0 e1 e4 e5
        generalize s'.at_ = w7 at *
        go_wp2_with (first | (refine wpList_load_bx rfl 91 (.tmp 2) rfl w.heap.size _ _ _ rfl d1 Try.underlying91 rfl (by kernel_rfl) ?_) | (refine wpList_store_bx rfl 91 (.tmp 2) (.tmp 63) rfl rfl w.heap.size _ _ #[.int .i64 n0, .int .i64 n1, .int .i64 n2, .int .i64 n3, .int .i64 n4, .slice A L uc, .int .i64 n5, .int .i64 0] rfl rfl d1 (by kernel_rfl) rfl (by simp [Value.oneCell']) ?_))
        refine bodyPost_ret (results_bx2 rfl _ rfl d1.row Try.underlying91 rfl (by kernel_rfl)) rfl ?_
        have hB7 := below_row d1
        first | rw [HPN.out, HN0.out, HN1.out, HN2.out, HN3.out, HN4.out, HN5.out, PK] | rw [HPN.out, HN0.out, HN1.out, HN2.out, HN3.out, HN4.out, HN5.out]
        have d4 := d3.below hB7
        rw [HT.out] at d4
        exact ⟨.slice A L uc, rfl, d4, d2.trans (hB7.mono d2.size)⟩
    · have PK := decide_eq_false (fun h => hb (HBK.out.1 h).2.1)
      refine wp_region_since (by kernel_rfl) (by kernel_rfl) ?_
      repeat (go_big_quiet_step (first | (go_at_call 56; refine Calls.sinceN _ (HE.out _)) | (go_at_call 46; refine Calls.since _ (HBN.out _ hb))))
      refine wpQuiet_nil ?_
      rintro _ ⟨s', rfl⟩
      obtain ⟨d1, d2, d3⟩ := FIN.out s'
      clear c1 c2 c3 c4 e0 e1 e4 e5
      generalize s'.at_ = w7 at *
      go_wp2_with (first | (refine wpList_load_bx rfl 91 (.tmp 2) rfl w.heap.size _ _ _ rfl d1 Try.underlying91 rfl (by kernel_rfl) ?_) | (refine wpList_store_bx rfl 91 (.tmp 2) (.tmp 63) rfl rfl w.heap.size _ _ #[.int .i64 n0, .int .i64 n1, .int .i64 n2, .int .i64 n3, .int .i64 n4, .slice A L uc, .int .i64 n5, .int .i64 0] rfl rfl d1 (by kernel_rfl) rfl (by simp [Value.oneCell']) ?_))
      refine bodyPost_ret (results_bx2 rfl _ rfl d1.row Try.underlying91 rfl (by kernel_rfl)) rfl ?_
      have hB7 := below_row d1
      first | rw [HPN.out, HN0.out, HN1.out, HN2.out, HN3.out, HN4.out, HN5.out, PK] | rw [HPN.out, HN0.out, HN1.out, HN2.out, HN3.out, HN4.out, HN5.out]
      have d4 := d3.below hB7
      rw [HT.out] at d4
      exact ⟨.slice A L uc, rfl, d4, d2.trans (hB7.mono d2.size)⟩
  · have he2 : en = false := by simpa using he
    subst he2
    have PK := decide_eq_false (fun h => by have := (HBK.out.1 h).1; cases this)
    refine wp_region_since (by kernel_rfl) (by kernel_rfl) ?_
    repeat (go_big_quiet_step (first | (go_at_call 56; refine Calls.sinceN _ (HE.out _))))
    refine wpQuiet_nil ?_
    rintro _ ⟨s', rfl⟩
    obtain ⟨d1, d2, d3⟩ := FIN.out s'
    clear c1 c2 c3 c4 e0 e1 e4 e5
    generalize s'.at_ = w7 at *
    go_wp2_with (first | (refine wpList_load_bx rfl 91 (.tmp 2) rfl w.heap.size _ _ _ rfl d1 Try.underlying91 rfl (by kernel_rfl) ?_) | (refine wpList_store_bx rfl 91 (.tmp 2) (.tmp 63) rfl rfl w.heap.size _ _ #[.int .i64 n0, .int .i64 n1, .int .i64 n2, .int .i64 n3, .int .i64 n4, .slice A L uc, .int .i64 n5, .int .i64 0] rfl rfl d1 (by kernel_rfl) rfl (by simp [Value.oneCell']) ?_))
    refine bodyPost_ret (results_bx2 rfl _ rfl d1.row Try.underlying91 rfl (by kernel_rfl)) rfl ?_
    have hB7 := below_row d1
    first | rw [HPN.out, HN0.out, HN1.out, HN2.out, HN3.out, HN4.out, HN5.out, PK] | rw [HPN.out, HN0.out, HN1.out, HN2.out, HN3.out, HN4.out, HN5.out]
    have d4 := d3.below hB7
    rw [HT.out] at d4
    exact ⟨.slice A L uc, rfl, d4, d2.trans (hB7.mono d2.size)⟩
end
end Go.Proofs.Ytincndblpbdnlaa
