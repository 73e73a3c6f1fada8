/-
  What is proved: uni's Use, Drop and New. Condition: the stack lies in memory as one.
-/
import Derived.Test.YtmkpimpckhppgaaUv13
import Derived.Test.YtmkpimpckhppgaaNw10
import Derived.Laws.Tables
namespace Go.Proofs.Ytmkpimpckhppgaa
open Go.RowKit

theorem OwnV.stay {w w' : World} {b s n : Nat} {e : TypeId} {v : Value} {us : List Value} (h : OwnV w b e s v n us) (hk : ∀ j, b ≤ j → j < w.heap.size → w'.heap[j]? = w.heap[j]?) : OwnV w' b e s v n us := by
  refine ⟨h.1, ?_⟩
  rcases h.2 with ⟨hv, h0⟩ | ⟨g, cap, cur, hv, hb, hh, hnc, hm, hs, ht⟩
  · exact .inl ⟨hv, h0⟩
  · exact .inr ⟨g, cap, cur, hv, hb, (hk g hb (Array.getElem?_eq_some_iff.1 hh).1).trans hh, hnc, hm, hs, ht⟩
theorem OwnV.lower {w : World} {b b' s n : Nat} {e : TypeId} {v : Value} {us : List Value} (h : OwnV w b e s v n us) (hb : b' ≤ b) : OwnV w b' e s v n us := by
  refine ⟨h.1, ?_⟩
  rcases h.2 with ⟨hv, h0⟩ | ⟨g, cap, cur, hv, hg, r⟩
  · exact .inl ⟨hv, h0⟩
  · exact .inr ⟨g, cap, cur, hv, Nat.le_trans hb hg, r⟩
section
variable {w : World} {g k : Nat} {c : Nat → Nat} {s : Us}
/-- what a use tells, and what is there then -/
def UseQ (w : World) (g k : Nat) (c : Nat → Nat) (s : Us) (b : Int) (e : Ending) (w' : World) : Prop :=
  ∃ v, e = .returned (.tuple #[.int .i64 (s.nx c b), v, .int .i64 0]) ∧ Mvs w' w.heap.size v (s.ust c b).2 ∧ Un w' g k c (s.us c b) ∧ Chg w w' (Uf g k) (Uf g k)
set_option maxHeartbeats 1000000 in
theorem un_use (h : Un w g k c s) (ok : Oku s) {b : Int} (hv : vb b) : Calls Try.prog 14 #[.pointer (some ⟨g, 0, none⟩), .int .i64 b] w (UseQ w g k c s b) := by
  obtain ⟨hn1, hn4⟩ := nx_le (c := c) s b
  have HNX := hid (un_next h ok b)
  have HB := hid (fun w => ublock_any w b)
  rw [decide_eq_true hv] at HB
  have HU := hid h
  have HG := hid (And.intro h.box.lt h.sq.lt)
  have HOK := hid (ok.pt (b := b) (l := s.nx c b) hv ⟨by omega, by omega⟩)
  have HOT := hid (ok.ust (c := c) hv)
  have HFR := hid (fun (w' : World) (hu : Un w' g k c s) => front_any hu.sq 0 b)
  rw [putE_one _ hv, front_one hv] at HFR
  unfold UseQ Us.us
  obtain ⟨T, hT⟩ : ∃ T, s.ust c b = T := ⟨_, rfl⟩
  rw [hT] at HOT ⊢
  have HT := hid hT
  have HST := hid (fun (w' : World) (hu : Un w' g k c (s.pt b (s.nx c b))) => un_settle hu HOK.out (l := s.nx c b) hn1 hn4)
  unfold Us.ust at hT
  rw [hT] at HST
  generalize s.nx c b = l at *
  obtain ⟨p, rfl⟩ : ∃ p : Nat, b = p := ⟨b.toNat, by have := hv.1; omega⟩
  have hp : p < 64 := by have := hv.2; omega
  have hpp : (p : Int) < 64 := by omega
  clear h ok hv hT HT
  go_enter Try.func14, Try.ntmps14
  go_upto_region 6 with (first
    | (go_at_call 28; refine (HB.out _).mono ?_; rintro e w' ⟨rfl, rfl⟩)
    | (go_at_call 29; refine HNX.out.mono ?_; rintro e w1 ⟨rfl, hb⟩; have HU1 := hid (HU.out.below hb); have HC1 := hid (Chg.of hb (Uf g k)); clear hb))
  have c0 := HU1.out.c0
  go_upto_region 7 with (go_at_call 30; refine (HFR.out _ HU1.out).mono ?_; rintro e w2 ⟨rfl, hs, hc⟩; have HU2 := hid (HU1.out.step hs hc); have HC2 := hid (uf_k HC1.out hc); clear hs hc)
  clear c0
  have cV := HU2.out.cV hp
  have bf := HU2.out.free
  go_upto_region 8 with fail
  have HU3 := hid (show Un (w2.setCell ⟨g, 4 + p, none⟩ (.int .i64 l)) g k c (s.pt p l) from HU2.out.setV p l)
  have HC3 := hid (uf_set HC2.out (4 + p) (.int .i64 l))
  generalize w2.setCell ⟨g, 4 + p, none⟩ (.int .i64 l) = w3 at *
  clear cV bf
  have HSZ := hid HC3.out.size
  go_upto_region 9 with (go_at_call 31; refine (HST.out _ HU3.out).mono ?_; rintro e w4 ⟨v, rfl, ho, hu, hc⟩; have HO4 := hid (OwnV.lower ho HSZ.out); have HU4 := hid hu; have HC4 := hid (HC3.out.trans hc); obtain ⟨A, cp, rfl, -, -, -⟩ := OwnV.read ho; clear ho hu hc)
  have HTR := hid (un_trim HU4.out HOT.out)
  go_wp2_with (go_at_call 25; refine HTR.out.mono ?_; rintro e w5 ⟨rfl, hu, hc⟩; have HU5 := hid hu; have HC5 := hid (HC4.out.trans hc); have HO5 := hid (OwnV.stay HO4.out fun j h1 h2 => hc.block j h2 fun e => e.elim (fun e => by have := HG.out.1; omega) (fun e => by have := HG.out.2; omega)); clear hu hc)
  go_ret3
  exact ⟨_, rfl, HO5.out, HU5.out, HC5.out⟩
set_option maxHeartbeats 400000 in
theorem un_use_out (w : World) (g : Nat) {b : Int} (hv : ¬ vb b) : Calls Try.prog 14 #[.pointer (some ⟨g, 0, none⟩), .int .i64 b] w fun e w' => e = .returned (.tuple #[.int .i64 0, .slice none 0 0, .int .i64 3]) ∧ w = w' := by
  have HB := hid (fun w => ublock_any w b)
  rw [decide_eq_false hv] at HB
  clear hv
  go_enter Try.func14, Try.ntmps14
  go_wp2_with (go_at_call 28; refine (HB.out _).mono ?_; rintro e w' ⟨rfl, rfl⟩)
  go_ret3
  exact ⟨rfl, rfl⟩
set_option maxHeartbeats 400000 in
theorem un_use_nil (w : World) (b : Int) : Calls Try.prog 14 #[.pointer none, .int .i64 b] w fun e w' => e = .returned (.tuple #[.int .i64 0, .slice none 0 0, .int .i64 7]) ∧ w = w' := by
  go_enter Try.func14, Try.ntmps14
  go_wp2
  go_ret3
  exact ⟨rfl, rfl⟩
set_option maxHeartbeats 1000000 in
theorem un_drop (h : Un w g k c s) (ok : Oku s) (b : Int) : Calls Try.prog 12 #[.pointer (some ⟨g, 0, none⟩), .int .i64 b] w fun e w' =>
    e = .returned (.bool (decide (b ∈ s.L))) ∧ Un w' g k c (s.dr b) ∧ Chg w w' (Uf g k) (Uf g k) := by
  have HLV := hid (un_level h ok b)
  have HU := hid h
  by_cases hb : b ∈ s.L
  · have hv := ok.inn b hb
    have HF := hid (un_forget h (ok.lt b hb))
    have HOK := hid (ok.fg b)
    rw [decide_eq_true hb, show s.dr b = (s.fg b).trm from by unfold Us.dr; rw [if_pos hb]]
    generalize s.v b = y at *
    have h1 : (y == 0) = false := by have := hv.1; simp; omega
    have h2 : decide (y = 0) = false := by have := hv.1; simp; omega
    clear h ok hb hv
    go_enter Try.func12, Try.ntmps12
    go_upto_region 4 with (first
      | (go_at_call 19; refine HLV.out.mono ?_; rintro e w' ⟨rfl, rfl⟩)
      | (go_at_call 24; refine HF.out.mono ?_; rintro e w1 ⟨rfl, hu, hc⟩; have HU1 := hid hu; have HC1 := hid hc; clear hu hc))
    have HT := hid (un_trim HU1.out HOK.out)
    go_wp2_with (go_at_call 25; refine HT.out.mono ?_; rintro e w2 ⟨rfl, hu, hc⟩; have HU2 := hid hu; have HC2 := hid (HC1.out.trans hc); clear hu hc)
    go_ret
    exact ⟨rfl, HU2.out, HC2.out⟩
  · rw [ok.out b hb] at HLV
    rw [decide_eq_false hb, show s.dr b = s from by unfold Us.dr; rw [if_neg hb]]
    clear h ok hb
    go_enter Try.func12, Try.ntmps12
    go_wp2_with (go_at_call 19; refine HLV.out.mono ?_; rintro e w' ⟨rfl, rfl⟩)
    go_ret
    exact ⟨rfl, HU.out, Chg.refl _ _⟩
set_option maxHeartbeats 400000 in
theorem un_drop_nil (w : World) (b : Int) : Calls Try.prog 12 #[.pointer none, .int .i64 b] w fun e w' => e = .returned (.bool false) ∧ w = w' := by
  go_enter Try.func12, Try.ntmps12
  go_wp2_with (go_at_call 19; refine (un_level_nil _ _).mono ?_; rintro e w' ⟨rfl, rfl⟩)
  go_ret
  exact ⟨rfl, rfl⟩
end
/-- what a struct that is built of its first two fields becomes -/
theorem wp_build2 {P : Program} {o : Oper} {a : Act} {w : World} {K : Act → World → Prop} {Q : Exit → Act → World → Prop} (t : TypeId) (x y : Operand) (ho : o.op = .build t #[(0, x), (1, y)]) (u v : Value) (hx : a.eval x = u) (hy : a.eval y = v) (cs : Array Value)
    (hf : P.built t [(0, u), (1, v)] = some cs) (h : K (a.put o.dst (.agg cs)) w) : o.wp P a w K Q := by
  have hf2 : P.built t ((#[(0, x), (1, y)] : Array (Nat × Operand)).map fun (i, x) => (i, a.eval x)).toList = some cs := by
    subst hx
    subst hy
    simpa using hf
  exact wp_build t _ ho (by rw [hf2]; rfl) (by rw [hf2]; exact h)
/-- capacities: a list of three -/
def capf (l : List Int) (i : Nat) : Nat := (l.getD (i - 1) 0).toNat
/-- ones that may be -/
def capR (l : List Int) : Prop := ∀ x ∈ l, 1 ≤ x ∧ x ≤ 16
instance (l : List Int) : Decidable (capR l) := inferInstanceAs (Decidable (∀ x ∈ l, _))
set_option maxRecDepth 100000 in
theorem built_stack (k : Nat) (x y z : Int) : Try.prog.built 57 [(0, .pointer (some ⟨k, 0, none⟩)), (1, .agg #[.int .i64 x, .int .i64 y, .int .i64 z])] = some (#[.pointer (some ⟨k, 0, none⟩), .int .i64 x, .int .i64 y, .int .i64 z] ++ Array.replicate 64 (Value.int .i64 0)) := by kernel_rfl
theorem stack_cells (k : Nat) (c : Nat → Nat) : #[.pointer (some ⟨k, 0, none⟩), .int .i64 (c 1), .int .i64 (c 2), .int .i64 (c 3)] ++ Array.replicate 64 (Value.int .i64 0) = uc k c (fun _ => 0) := by
  refine Array.ext (by simp [uc]) fun j h1 h2 => ?_
  have hj : j < 68 := by rw [uc_size] at h2; exact h2
  simp only [uc, Array.getElem_ofFn, ucf]
  by_cases h4 : j < 4
  · have h5 : j = 0 ∨ j = 1 ∨ j = 2 ∨ j = 3 := by omega
    rw [Array.getElem_append_left (by simp; omega)]
    rcases h5 with rfl | rfl | rfl | rfl <;> rfl
  · rw [Array.getElem_append_right (by simp; omega)]
    rw [Array.getElem_replicate, if_neg (show ¬ j = 0 from by omega), if_neg h4]
theorem index3 (cs : Array Value) (q : Nat) (v : Value) (hq : q < 3) (hv : cs[q]? = some v) (w : World) : (Instr.index 22 (.agg cs) (.int .i64 q)).run Try.prog w = .ok v w := by
  obtain ⟨i, hi, hz, hs, hb⟩ := info_parts infoInt
  have hagg : ∀ w, (isAgg 3).run Try.prog w = .ok false w := fun w => by unfold isAgg; rw [Sem.run_bind, run_underlying Try.underlying3 w]; rfl
  have h0 : (q : Int) < 3 := by omega
  simp [Instr.index, asIntOf, run_underlying Try.underlying22, part, hagg, hv, sizeOf, typeInfo, hi, hs]
  intro h
  omega
theorem Bx.all3 {w : World} {g : Nat} {t : TypeId} {a0 a1 a2 : Value} (h : Bx w g t #[a0, a1, a2]) : w.cell? ⟨g, 0, none⟩ = some a0 ∧ w.cell? ⟨g, 1, none⟩ = some a1 ∧ w.cell? ⟨g, 2, none⟩ = some a2 := ⟨h.cell 0, h.cell 1, h.cell 2⟩
/-- a stack that New has made -/
def NewQ (w : World) (c : Nat → Nat) (e : Ending) (w' : World) : Prop :=
  ∃ g k, e = .returned (.tuple #[.pointer (some ⟨g, 0, none⟩), .int .i64 0]) ∧ Un w' g k c ⟨[], fun _ => 0⟩ ∧ Below w.heap.size w w' ∧ w.heap.size ≤ g ∧ w.heap.size ≤ k
def NewR (w : World) (l : List Int) (c : Nat → Nat) (e : Ending) (w' : World) : Prop := if capR l then NewQ w c e w' else e = .returned (.tuple #[.pointer none, .int .i64 6]) ∧ Below w.heap.size w w'
theorem NewR.no {w w' : World} {l : List Int} {c : Nat → Nat} {e : Ending} (h : ¬ capR l) (h2 : e = .returned (.tuple #[.pointer none, .int .i64 6]) ∧ Below w.heap.size w w') : NewR w l c e w' := by unfold NewR; rw [if_neg h]; exact h2
theorem NewR.yes {w w' : World} {l : List Int} {c : Nat → Nat} {e : Ending} (h : capR l) (h2 : NewQ w c e w') : NewR w l c e w' := by unfold NewR; rw [if_pos h]; exact h2
set_option maxRecDepth 10000 in
set_option maxHeartbeats 1000000 in
theorem un_new (x y z : Int) (w : World) : Calls Try.prog 9 #[.agg #[.int .i64 x, .int .i64 y, .int .i64 z]] w (NewR w [x, y, z] (capf [x, y, z])) := by
  have HX := hid (Bx.new w 22 #[.int .i64 x, .int .i64 y, .int .i64 z])
  have HB := hid (below_alloc w (.cells #[.int .i64 x, .int .i64 y, .int .i64 z] 22))
  obtain ⟨q, hq⟩ : ∃ q, w.heap.size = q := ⟨_, rfl⟩
  rw [hq] at HX
  have HQ := hid hq
  clear hq
  obtain ⟨c, hcf⟩ : ∃ c, capf [x, y, z] = c := ⟨_, rfl⟩
  rw [hcf]
  have HCF := hid hcf
  clear hcf
  have HIX := hid (fun (j : Nat) (hj : j < 3) (W : World) => index3 #[.int .i64 x, .int .i64 y, .int .i64 z] j (.int .i64 ([x, y, z].getD j 0)) hj (by
    have h3 : j = 0 ∨ j = 1 ∨ j = 2 := by omega
    rcases h3 with rfl | rfl | rfl <;> rfl) W)
  go_enter Try.func9, Try.ntmps9
  go_upto_region 1 with fail
  rw [HQ.out]
  generalize w.alloc (.cells #[.int .i64 x, .int .i64 y, .int .i64 z] 22) = w1 at *
  obtain ⟨c0, c1, c2⟩ := HX.out.all3
  go_wp2
  go_loopg [7] 3 (fun gk t7 wr => ∃ j : Nat, j + gk = 3 ∧ t7 = .int .i64 j ∧ (∀ q, q < j → 1 ≤ [x, y, z].getD q 0 ∧ [x, y, z].getD q 0 ≤ 16) ∧ wr = w1)
  case atStart => exact ⟨0, by omega, rfl, fun q hq => by omega, rfl⟩
  case round =>
    obtain ⟨j, hj, rfl, hall, rfl⟩ := hrel
    have HALL := hid hall
    clear hall
    by_cases hlt : j < 3
    · have i0 := HIX.out j hlt
      have hjl : (j : Int) < 3 := by omega
      have HMEM := hid (show [x, y, z].getD j 0 ∈ [x, y, z] from by
        rw [List.getD_eq_getElem?_getD, List.getElem?_eq_getElem (by simpa using hlt)]
        exact List.getElem_mem _)
      have HCR := hid (show (1 ≤ [x, y, z].getD j 0 ∧ [x, y, z].getD j 0 ≤ 16) → ∀ q, q < j + 1 → 1 ≤ [x, y, z].getD q 0 ∧ [x, y, z].getD q 0 ≤ 16 from fun h q hq => by
        by_cases e : q = j
        · rw [e]; exact h
        · exact HALL.out q (by omega))
      have HNO := hid (show ¬ (1 ≤ [x, y, z].getD j 0 ∧ [x, y, z].getD j 0 ≤ 16) → ¬ capR [x, y, z] from fun h e => h (e _ HMEM.out))
      clear HMEM
      generalize [x, y, z].getD j 0 = u at *
      by_cases h1 : u < 1
      · have HN := hid (HNO.out (by omega))
        clear HCR HNO
        go_wp2
        go_ret2
        exact NewR.no HN.out ⟨rfl, HB.out⟩
      · by_cases h16 : 16 < u
        · have HN := hid (HNO.out (by omega))
          clear HCR HNO
          go_wp2
          go_ret2
          exact NewR.no HN.out ⟨rfl, HB.out⟩
        · have HN2 := hid (HCR.out ⟨by omega, by omega⟩)
          clear HCR HNO
          go_wp2
          go_roundg (gk - 1)
          case measure => omega
          case rel => exact ⟨j + 1, by omega, by go_num, HN2.out, rfl⟩
    · obtain rfl : j = 3 := by omega
      have h0 : 1 ≤ x ∧ x ≤ 16 := HALL.out 0 (by omega)
      have h1 : 1 ≤ y ∧ y ≤ 16 := HALL.out 1 (by omega)
      have h2 : 1 ≤ z ∧ z ≤ 16 := HALL.out 2 (by omega)
      have hR : capR [x, y, z] := fun u hu => by
        simp only [List.mem_cons, List.not_mem_nil, or_false] at hu
        rcases hu with rfl | rfl | rfl
        · exact h0
        · exact h1
        · exact h2
      have e1 : ((capf [x, y, z] 1 : Nat) : Int) = x := by show ((x.toNat : Nat) : Int) = x; omega
      have e2 : ((capf [x, y, z] 2 : Nat) : Int) = y := by show ((y.toNat : Nat) : Int) = y; omega
      have e3 : ((capf [x, y, z] 3 : Nat) : Int) = z := by show ((z.toNat : Nat) : Int) = z; omega
      have HR := hid hR
      have HCAP := hid (show ∀ l, 1 ≤ l → l ≤ 3 → 1 ≤ capf [x, y, z] l ∧ capf [x, y, z] l ≤ 16 from fun l l1 l3 => by
        have l4 : l = 1 ∨ l = 2 ∨ l = 3 := by omega
        rcases l4 with rfl | rfl | rfl <;> omega)
      have HCE := hid (And.intro e1 (And.intro e2 e3))
      rw [HCF.out] at HCAP HCE
      have HXD := hid (show Bx wr.drew q 22 #[.int .i64 x, .int .i64 y, .int .i64 z] from HX.out)
      clear h0 h1 h2 hR e1 e2 e3 hlt hj HALL HIX
      go_upto_region 7 with fail
      -- drawn
      refine wp_region_noPanic ?_
      refine wp_region_held_drew (S := fun w' => w'.cell? ⟨q, 0, none⟩ = some (.int .i64 x) ∧ w'.cell? ⟨q, 1, none⟩ = some (.int .i64 y) ∧ w'.cell? ⟨q, 2, none⟩ = some (.int .i64 z)) (by kernel_rfl) ?_ (fun hHeld => ?_)
      · exact ⟨c0, c1, c2⟩
      refine wpAnyH_take (i := 1) (oi := ⟨some 18, _, _, _, _, _⟩) (v := ?_) rfl (by kernel_rfl) (by kernel_rfl) (by kernel_rfl) (fun _ _ _ h => h) (Or.inl ⟨by rfl, ?_⟩) (by assumption) ?_
      rotate_left 1
      · intro w0 hSw
        obtain ⟨s0, s1, s2⟩ := hSw
        go_simp
        try with_reducible rfl
      (try simp only [Act.put, List.setIfInBounds_toArray, List.set_cons_zero, List.set_cons_succ])
      refine wpAnyH_ready (rs := [0]) (by kernel_rfl) (by simp) ?_
      refine AllReadyH.cons (o := ⟨some 17, _, _, _, _, _⟩) rfl (fun K hK => ?_) AllReadyH.nil
      rw [if_pos (by rfl)]
      go_simp
      refine (lnew_any 1 _).mono ?_
      rintro e w2 ⟨k, rfl, hsq, hb, hk⟩
      have HX2 := hid (HXD.out.next hb)
      have kp := HX2.out.all3
      have HSQ := hid hsq
      have HB2 := hid hb
      have HK := hid hk
      have HBU := hid ((built_stack k x y z).trans (congrArg some (show _ = uc k c (fun _ => 0) from by rw [← stack_cells, HCE.out.1, HCE.out.2.1, HCE.out.2.2])))
      clear hsq hb hk
      go_simp
      refine hK.out _ _ kp (fun hHeld => ?_)
      clear hK K
      (try simp only [Act.put, List.setIfInBounds_toArray, List.set_cons_zero, List.set_cons_succ])
      refine wpAnyH_ready (rs := [2]) (by kernel_rfl) (by simp) ?_
      refine AllReadyH.cons (o := ⟨some 19, _, _, _, _, _⟩) rfl (fun K hK => ?_) AllReadyH.nil
      rw [if_pos (by rfl)]
      refine wp_build2 57 (.tmp 17) (.tmp 18) rfl (.pointer (some ⟨k, 0, none⟩)) (.agg #[.int .i64 x, .int .i64 y, .int .i64 z]) rfl rfl (uc k c (fun _ => 0)) HBU.out ?_
      refine hK.out _ _ kp (fun hHeld => ?_)
      clear hK K
      (try simp only [Act.put, List.setIfInBounds_toArray, List.set_cons_zero, List.set_cons_succ])
      refine wpAnyH_ready (rs := [3]) (by kernel_rfl) (by simp) ?_
      refine AllReadyH.cons (o := ⟨some 20, _, _, _, _, _⟩) rfl (fun K hK => ?_) AllReadyH.nil
      rw [if_pos (by rfl)]
      have HX3 := hid (HX2.out.alloc (.cells (uc k c (fun _ => 0)) 57))
      have kq := HX3.out.all3
      go_simp
      refine hK.out _ _ kq (fun hHeld => ?_)
      clear hK K
      (try simp only [Act.put, List.setIfInBounds_toArray, List.set_cons_zero, List.set_cons_succ])
      refine wpAnyH_take (i := 4) (oi := ⟨some 2, _, _, _, _, _⟩) (v := ?_) rfl (by kernel_rfl) (by kernel_rfl) (by kernel_rfl) (fun _ _ _ h => h) (Or.inl ⟨by rfl, ?_⟩) (by assumption) ?_
      rotate_left 1
      · intro w0 hSw
        obtain ⟨s0, s1, s2⟩ := hSw
        go_simp
        try with_reducible rfl
      (try simp only [Act.put, List.setIfInBounds_toArray, List.set_cons_zero, List.set_cons_succ])
      refine wpAnyH_take (i := 5) (oi := ⟨some 3, _, _, _, _, _⟩) (v := ?_) rfl (by kernel_rfl) (by kernel_rfl) (by kernel_rfl) (fun _ _ _ h => h) (Or.inl ⟨by rfl, ?_⟩) (by assumption) ?_
      rotate_left 1
      · intro w0 hSw
        obtain ⟨s0, s1, s2⟩ := hSw
        go_simp
        try with_reducible rfl
      (try simp only [Act.put, List.setIfInBounds_toArray, List.set_cons_zero, List.set_cons_succ])
      refine wpAnyH_done (by kernel_rfl) ?_ _
      refine NoPanic.normal ?_
      -- till here
      go_wp2
      go_ret2
      have hs9 := HSQ.out
      rw [show empt (cl 1) = [[]] from by decide] at hs9
      have hb2 : Below w.heap.size w w2 := on (below_draws HB.out 1) HB2.out
      have hk2 : wr.heap.size ≤ k := HK.out
      refine NewR.yes HR.out ⟨w2.heap.size, k, rfl, ⟨Bx.new w2 _ _, hs9.below (below_alloc w2 _), fun e => ?_, HCAP.out⟩, on hb2 (below_alloc w2 _), hb2.size, Nat.le_trans HB.out.size hk2⟩
      have := hs9.lt
      omega
end Go.Proofs.Ytmkpimpckhppgaa
