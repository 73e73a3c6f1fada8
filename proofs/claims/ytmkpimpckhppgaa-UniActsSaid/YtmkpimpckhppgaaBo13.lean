/-
  What is proved: the walk of UniBound: no level has more blocks than its capacity; as long as level 1 has room no block is in another one. Condition: the capacities and the numbers are read as such.
-/
import Derived.Test.YtmkpimpckhppgaaWk13
import Derived.Test.YtmkpimpckhppgaaPc13
import Derived.Test.YtmkpimpckhppgaaAr13
namespace Go.Proofs.Ytmkpimpckhppgaa
open Go.RowKit

/-- a stack that a law has made, beside the capacities' own block -/
structure Lc (w0 w : World) (g k : Nat) (c : Nat → Nat) (s : Us) (q C1 C2 C3 : Nat) : Prop where
  l : Ls w0 w g k c s
  oc : Okc c s
  box : Bx w q 22 #[.int .i64 C1, .int .i64 C2, .int .i64 C3]
  ng : q ≠ g
  nk : q ≠ k
section
variable {w0 w w' : World} {g k : Nat} {c : Nat → Nat} {s s' : Us} {q C1 C2 C3 : Nat}
theorem Lc.below (h : Lc w0 w g k c s q C1 C2 C3) (hb : Below w.heap.size w w') : Lc w0 w' g k c s q C1 C2 C3 := ⟨h.l.below hb, h.oc, h.box.next hb, h.ng, h.nk⟩
theorem Lc.draws (h : Lc w0 w g k c s q C1 C2 C3) (n : Nat) : Lc w0 (w.drewN n) g k c s q C1 C2 C3 := h.below (below_draws (Below.refl _ _) n)
theorem Lc.use (h : Lc w0 w g k c s q C1 C2 C3) {b : Int} (hb : vb b) (hu : Un w' g k c (s.us c b)) (hc : Chg w w' (Uf g k) (Uf g k)) : Lc w0 w' g k c (s.us c b) q C1 C2 C3 :=
  ⟨h.l.step hu hc (h.l.ok.us hb), h.oc.us h.l.ok (fun l l1 l3 => (h.l.u.cap l l1 l3).1) hb, hc.bx h.box (fun e => e.elim h.ng h.nk), h.ng, h.nk⟩
end
theorem lc_use {w0 w : World} {g k : Nat} {c : Nat → Nat} {s : Us} {q C1 C2 C3 : Nat} (h : Lc w0 w g k c s q C1 C2 C3) (b : Int) : Calls Try.prog 14 #[.pointer (some ⟨g, 0, none⟩), .int .i64 b] w fun e w' =>
    ∃ l A n cp f, e = .returned (.tuple #[.int .i64 l, .slice A n cp, .int .i64 f]) ∧ ∃ s', Lc w0 w' g k c s' q C1 C2 C3 := by
  by_cases hv : vb b
  · refine (un_use h.l.u h.l.ok hv).mono ?_
    rintro e w' ⟨v, rfl, ho, hu, hc⟩
    obtain ⟨A, cp, rfl⟩ := mvs_val ho
    exact ⟨_, _, _, _, _, rfl, _, h.use hv hu hc⟩
  · refine (un_use_out w g hv).mono ?_
    rintro e w' ⟨rfl, rfl⟩
    exact ⟨_, _, _, _, _, rfl, _, h⟩
/-- capacities that may be, as naturals -/
theorem caps_nat {x y z : Int} (h : capR [x, y, z]) : ∃ C1 C2 C3 : Nat, x = C1 ∧ y = C2 ∧ z = C3 ∧ capf [x, y, z] 1 = C1 ∧ capf [x, y, z] 2 = C2 ∧ capf [x, y, z] 3 = C3 := by
  have h0 := h x (by simp)
  have h1 := h y (by simp)
  have h2 := h z (by simp)
  exact ⟨x.toNat, y.toNat, z.toNat, by omega, by omega, by omega, rfl, rfl, rfl⟩
set_option maxRecDepth 100000 in
set_option maxHeartbeats 4000000 in
theorem bound_walk (x y z : Int) (A : Option Addr) (n cp : Nat) (L : List Int) (w : World) (hn : L.length = n) (hm : n ≤ maxLen) (h : Ns w .i64 A L) :
    Calls Try.prog 4 #[.agg #[.int .i64 x, .int .i64 y, .int .i64 z], .slice A n cp] w fun e w' => e = .returned (.bool true) ∧ Below w.heap.size w w' := by
  have HA := hid h
  have HLN := hid hn
  unfold maxLen at hm
  have HX0 := hid (Bx.new w 22 #[.int .i64 x, .int .i64 y, .int .i64 z])
  have HB0 := hid (below_alloc w (.cells #[.int .i64 x, .int .i64 y, .int .i64 z] 22))
  obtain ⟨q, hq⟩ : ∃ q, w.heap.size = q := ⟨_, rfl⟩
  rw [hq] at HX0
  have HQ := hid hq
  have HNEW := hid (fun w => un_new x y z w)
  clear h hq hn
  go_enter Try.func4, Try.ntmps4
  go_upto_region 3 with (go_at_call 8; refine (wakes_any _).mono ?_; rintro e w1 ⟨rfl, hb⟩; have HX1 := hid (HX0.out.next hb); have HB := hid (on HB0.out hb); clear hb)
  rw [HQ.out]
  by_cases h120 : 120 < n
  · have hd : decide ((120 : Int) < (n : Int)) = true := by simp; omega
    clear h120
    go_wp2
    go_ret
    exact ⟨rfl, HB.out⟩
  have hd : decide ((120 : Int) < (n : Int)) = false := by simp; omega
  obtain ⟨a0, a1, a2⟩ := HX1.out.all3
  by_cases hR : capR [x, y, z]
  · obtain ⟨C1, C2, C3, rfl, rfl, rfl, e1, e2, e3⟩ := caps_nat hR
    obtain ⟨c, hcf⟩ : ∃ c, capf [(C1 : Int), (C2 : Int), (C3 : Int)] = c := ⟨_, rfl⟩
    unfold NewR at HNEW
    rw [hcf] at e1 e2 e3 HNEW
    have HCE := hid (And.intro e1 (And.intro e2 e3))
    have HR := hid hR
    clear e1 e2 e3 hcf hR
    go_upto_region 6 with (go_at_call 9; refine (HNEW.out _).mono ?_; intro e w2 hq; rw [if_pos HR.out] at hq; obtain ⟨g, k, rfl, hu, hb, hg, hk⟩ := hq; have HL0 := hid (show Lc w w2 g k c s00 q C1 C2 C3 from ⟨Ls.new HB.out hu hb hg hk, Okc.new c, HX1.out.next hb, fun e => by have := HX1.out.lt; omega, fun e => by have := HX1.out.lt; omega⟩); clear hu hb hg hk)
    clear a0 a1 a2
    go_wp2
    go_loopg [26] n (fun gk t wr => ∃ p : Nat, p + gk = n ∧ t = .int .i64 p ∧ ∃ s, Lc w wr g k c s q C1 C2 C3)
    case atStart => exact ⟨0, by omega, rfl, _, HL0.out⟩
    case round =>
      obtain ⟨p, hp, rfl, s, hT⟩ := hrel
      have HT := hid hT
      clear hT HL0
      by_cases hlt : p < n
      · have hpl : p < L.length := by rw [HLN.out]; exact hlt
        obtain ⟨ad, rfl, hab, hca⟩ := (HA.out.below HT.out.l.bel) p _ (List.getElem?_eq_getElem hpl)
        generalize L[p] = b at *
        have hpn : (p : Int) < (n : Int) := by omega
        clear hpl hab
        generalize gk = K0 at *
        have HU := hid (lc_use HT.out b)
        go_wp2_with (go_at_call 14; refine HU.out.mono ?_; rintro e w3 ⟨l3, A3, n3, c3, f3, rfl, s3, ht⟩; have HT3 := hid ht; clear ht)
        clear HT HU hca
        go_loopg [33] 3 (fun gk t wr => ∃ j : Nat, j + gk = 3 ∧ t = .int .i64 j ∧ Lc w wr g k c s3 q C1 C2 C3)
        case atStart => exact ⟨0, by omega, rfl, HT3.out⟩
        case round =>
          obtain ⟨j, hj, rfl, hti⟩ := hrel
          have HTI := hid hti
          clear hti HT3
          generalize s3 = s at *
          by_cases hj3 : j < 3
          · have hj4 : j = 0 ∨ j = 1 ∨ j = 2 := by omega
            rcases hj4 with rfl | rfl | rfl
            · have HC := hid (un_count HTI.out.l.u HTI.out.l.ok 1)
              have HCA := hid (HTI.out.oc.cap 1 (by omega) (by omega))
              rw [HCE.out.1] at HCA
              obtain ⟨nl, hnl⟩ : ∃ x, s.ct 1 = x := ⟨_, rfl⟩
              have hle : ¬ (C1 : Int) < (nl : Int) := by have := HCA.out; have e : s.ct ((1 : Nat) : Int) = nl := hnl; omega
              have hle2 : decide (C1 < nl) = false := by simp; omega
              rw [hnl] at HC
              obtain ⟨b0, b1, b2⟩ := HTI.out.box.all3
              have HTJ := hid (show Lc w wr.drew g k c s q C1 C2 C3 from HTI.out.draws 1)
              clear HCA
              go_upto_region 15 with fail
              go_region_held3 (fun w' => w'.cell? ⟨q, 0, none⟩ = some (.int .i64 (C1 : Nat)) ∧ w'.cell? ⟨q, 1, none⟩ = some (.int .i64 (C2 : Nat)) ∧ w'.cell? ⟨q, 2, none⟩ = some (.int .i64 (C3 : Nat))) (first | exact kp | exact ⟨b0, b1, b2⟩) (first | (go_at_call 20; refine (un_count HTJ.out.l.u HTJ.out.l.ok 1).mono ?_; rintro e w5 ⟨rfl, hb⟩; have HT5 := hid (HTJ.out.below hb); have kp := HT5.out.box.all3; rw [show s.ct 1 = nl from by assumption]; clear hb))
              go_wp2
              go_roundg (gk - 1)
              case measure => omega
              case rel => exact ⟨1, by omega, rfl, HT5.out⟩
            · have HC := hid (un_count HTI.out.l.u HTI.out.l.ok 2)
              have HCA := hid (HTI.out.oc.cap 2 (by omega) (by omega))
              rw [HCE.out.2.1] at HCA
              obtain ⟨nl, hnl⟩ : ∃ x, s.ct 2 = x := ⟨_, rfl⟩
              have hle : ¬ (C2 : Int) < (nl : Int) := by have := HCA.out; have e : s.ct ((2 : Nat) : Int) = nl := hnl; omega
              have hle2 : decide (C2 < nl) = false := by simp; omega
              rw [hnl] at HC
              obtain ⟨b0, b1, b2⟩ := HTI.out.box.all3
              have HTJ := hid (show Lc w wr.drew g k c s q C1 C2 C3 from HTI.out.draws 1)
              clear HCA
              go_upto_region 15 with fail
              go_region_held3 (fun w' => w'.cell? ⟨q, 0, none⟩ = some (.int .i64 (C1 : Nat)) ∧ w'.cell? ⟨q, 1, none⟩ = some (.int .i64 (C2 : Nat)) ∧ w'.cell? ⟨q, 2, none⟩ = some (.int .i64 (C3 : Nat))) (first | exact kp | exact ⟨b0, b1, b2⟩) (first | (go_at_call 20; refine (un_count HTJ.out.l.u HTJ.out.l.ok 2).mono ?_; rintro e w5 ⟨rfl, hb⟩; have HT5 := hid (HTJ.out.below hb); have kp := HT5.out.box.all3; rw [show s.ct 2 = nl from by assumption]; clear hb))
              go_wp2
              go_roundg (gk - 1)
              case measure => omega
              case rel => exact ⟨2, by omega, rfl, HT5.out⟩
            · have HC := hid (un_count HTI.out.l.u HTI.out.l.ok 3)
              have HCA := hid (HTI.out.oc.cap 3 (by omega) (by omega))
              rw [HCE.out.2.2] at HCA
              obtain ⟨nl, hnl⟩ : ∃ x, s.ct 3 = x := ⟨_, rfl⟩
              have hle : ¬ (C3 : Int) < (nl : Int) := by have := HCA.out; have e : s.ct ((3 : Nat) : Int) = nl := hnl; omega
              have hle2 : decide (C3 < nl) = false := by simp; omega
              rw [hnl] at HC
              obtain ⟨b0, b1, b2⟩ := HTI.out.box.all3
              have HTJ := hid (show Lc w wr.drew g k c s q C1 C2 C3 from HTI.out.draws 1)
              clear HCA
              go_upto_region 15 with fail
              go_region_held3 (fun w' => w'.cell? ⟨q, 0, none⟩ = some (.int .i64 (C1 : Nat)) ∧ w'.cell? ⟨q, 1, none⟩ = some (.int .i64 (C2 : Nat)) ∧ w'.cell? ⟨q, 2, none⟩ = some (.int .i64 (C3 : Nat))) (first | exact kp | exact ⟨b0, b1, b2⟩) (first | (go_at_call 20; refine (un_count HTJ.out.l.u HTJ.out.l.ok 3).mono ?_; rintro e w5 ⟨rfl, hb⟩; have HT5 := hid (HTJ.out.below hb); have kp := HT5.out.box.all3; rw [show s.ct 3 = nl from by assumption]; clear hb))
              go_wp2
              go_roundg (gk - 1)
              case measure => omega
              case rel => exact ⟨3, by omega, rfl, HT5.out⟩
          · obtain rfl : j = 3 := by omega
            clear hj3 hj
            obtain ⟨b0, b1, b2⟩ := HTI.out.box.all3
            have HTD := hid (show Lc w wr.drew g k c s q C1 C2 C3 from HTI.out.draws 1)
            obtain ⟨n1, hn1⟩ : ∃ x : Nat, s.ct 1 = x := ⟨_, rfl⟩
            have HN1 := hid (show ((s.ct 1 : Nat) : Int) = (n1 : Int) from by rw [hn1])
            have HRM := hid (show n1 < C1 → s.ct 1 < c 1 from fun h => by rw [hn1, HCE.out.1]; exact h)
            clear hn1
            by_cases hr : n1 < C1
            · have HN2 := hid (show ((s.ct 2 : Nat) : Int) = 0 from by rw [HTI.out.oc.others (HRM.out hr) (by decide)]; rfl)
              have HN3 := hid (show ((s.ct 3 : Nat) : Int) = 0 from by rw [HTI.out.oc.others (HRM.out hr) (by decide)]; rfl)
              have HN4 := hid (show ((s.ct 4 : Nat) : Int) = 0 from by rw [HTI.out.oc.others (HRM.out hr) (by decide)]; rfl)
              have hd1 : decide (n1 < C1) = true := by simpa using hr
              clear HRM hr
              go_upto_region 18 with fail
              refine wp_region_noPanic ?_
              refine wp_region_held_drew (S := fun w' => w'.cell? ⟨q, 0, none⟩ = some (.int .i64 (C1 : Nat)) ∧ w'.cell? ⟨q, 1, none⟩ = some (.int .i64 (C2 : Nat)) ∧ w'.cell? ⟨q, 2, none⟩ = some (.int .i64 (C3 : Nat))) (by kernel_rfl) ?_ (fun hHeld => ?_)
              · exact ⟨b0, b1, b2⟩
              refine wpAnyH_take (i := 0) (oi := ⟨some 45, _, _, _, _, _⟩) (v := ?_) rfl (by kernel_rfl) (by kernel_rfl) (by kernel_rfl) (fun _ _ _ h => h) (Or.inl ⟨by rfl, ?_⟩) (by assumption) ?_
              rotate_left 1
              · intro w0 hSw
                obtain ⟨s0, s1, s2⟩ := hSw
                go_simp
                try with_reducible rfl
              (try simp only [Act.put, List.setIfInBounds_toArray, List.set_cons_zero, List.set_cons_succ])
              refine wpAnyH_take (i := 2) (oi := ⟨some 47, _, _, _, _, _⟩) (v := ?_) rfl (by kernel_rfl) (by kernel_rfl) (by kernel_rfl) (fun _ _ _ h => h) (Or.inl ⟨by rfl, ?_⟩) (by assumption) ?_
              rotate_left 1
              · intro w0 hSw
                obtain ⟨s0, s1, s2⟩ := hSw
                go_simp
                try with_reducible rfl
              (try simp only [Act.put, List.setIfInBounds_toArray, List.set_cons_zero, List.set_cons_succ])
              refine wpAnyH_take (i := 3) (oi := ⟨some 48, _, _, _, _, _⟩) (v := ?_) rfl (by kernel_rfl) (by kernel_rfl) (by kernel_rfl) (fun _ _ _ h => h) (Or.inl ⟨by rfl, ?_⟩) (by assumption) ?_
              rotate_left 1
              · intro w0 hSw
                obtain ⟨s0, s1, s2⟩ := hSw
                go_simp
                try with_reducible rfl
              (try simp only [Act.put, List.setIfInBounds_toArray, List.set_cons_zero, List.set_cons_succ])
              refine wpAnyH_ready (rs := [1]) (by kernel_rfl) (by simp) ?_
              refine AllReadyH.cons (o := ⟨some 46, _, _, _, _, _⟩) rfl (fun K hK => ?_) AllReadyH.nil
              rw [if_pos (by rfl)]
              go_simp
              refine (un_count HTD.out.l.u HTD.out.l.ok 1).mono ?_
              rintro e w5 ⟨rfl, hb⟩
              have HT5 := hid (HTD.out.below hb)
              have kp := HT5.out.box.all3
              rw [HN1.out]
              clear hb
              go_simp
              refine hK.out _ _ kp (fun hHeld => ?_)
              clear hK K
              (try simp only [Act.put, List.setIfInBounds_toArray, List.set_cons_zero, List.set_cons_succ])
              refine wpAnyH_take (i := 4) (oi := ⟨some 49, _, _, _, _, _⟩) (v := ?_) rfl (by kernel_rfl) (by kernel_rfl) (by kernel_rfl) (fun _ _ _ h => h) (Or.inl ⟨by rfl, ?_⟩) (by assumption) ?_
              rotate_left 1
              · intro w0 hSw
                obtain ⟨s0, s1, s2⟩ := hSw
                go_simp
                try with_reducible rfl
              (try simp only [Act.put, List.setIfInBounds_toArray, List.set_cons_zero, List.set_cons_succ])
              refine wpAnyH_take (i := 5) (oi := ⟨some 50, _, _, _, _, _⟩) (v := ?_) rfl (by kernel_rfl) (by kernel_rfl) (by kernel_rfl) (fun _ _ _ h => h) (Or.inl ⟨by rfl, ?_⟩) (by assumption) ?_
              rotate_left 1
              · intro w0 hSw
                obtain ⟨s0, s1, s2⟩ := hSw
                go_simp
                try with_reducible rfl
              (try simp only [Act.put, List.setIfInBounds_toArray, List.set_cons_zero, List.set_cons_succ])
              refine wpAnyH_take (i := 6) (oi := ⟨some 51, _, _, _, _, _⟩) (v := ?_) rfl (by kernel_rfl) (by kernel_rfl) (by kernel_rfl) (fun _ _ _ h => h) (Or.inl ⟨by rfl, ?_⟩) (by assumption) ?_
              rotate_left 1
              · intro w0 hSw
                obtain ⟨s0, s1, s2⟩ := hSw
                go_simp
                try with_reducible rfl
              (try simp only [Act.put, List.setIfInBounds_toArray, List.set_cons_zero, List.set_cons_succ])
              refine wpAnyH_take (i := 8) (oi := ⟨some 53, _, _, _, _, _⟩) (v := ?_) rfl (by kernel_rfl) (by kernel_rfl) (by kernel_rfl) (fun _ _ _ h => h) (Or.inl ⟨by rfl, ?_⟩) (by assumption) ?_
              rotate_left 1
              · intro w0 hSw
                obtain ⟨s0, s1, s2⟩ := hSw
                go_simp
                try with_reducible rfl
              (try simp only [Act.put, List.setIfInBounds_toArray, List.set_cons_zero, List.set_cons_succ])
              refine wpAnyH_take (i := 11) (oi := ⟨some 56, _, _, _, _, _⟩) (v := ?_) rfl (by kernel_rfl) (by kernel_rfl) (by kernel_rfl) (fun _ _ _ h => h) (Or.inl ⟨by rfl, ?_⟩) (by assumption) ?_
              rotate_left 1
              · intro w0 hSw
                obtain ⟨s0, s1, s2⟩ := hSw
                go_simp
                try with_reducible rfl
              (try simp only [Act.put, List.setIfInBounds_toArray, List.set_cons_zero, List.set_cons_succ])
              refine wpAnyH_ready (rs := [7]) (by kernel_rfl) (by simp) ?_
              refine AllReadyH.cons (o := ⟨some 52, _, _, _, _, _⟩) rfl (fun K hK => ?_) AllReadyH.nil
              rw [if_pos (by rfl)]
              go_simp
              refine (un_count HT5.out.l.u HT5.out.l.ok 2).mono ?_
              rintro e w6 ⟨rfl, hb⟩
              have HT6 := hid (HT5.out.below hb)
              have kp := HT6.out.box.all3
              rw [HN2.out]
              clear hb
              go_simp
              refine hK.out _ _ kp (fun hHeld => ?_)
              clear hK K
              (try simp only [Act.put, List.setIfInBounds_toArray, List.set_cons_zero, List.set_cons_succ])
              refine wpAnyH_ready (rs := [9]) (by kernel_rfl) (by simp) ?_
              refine AllReadyH.cons (o := ⟨some 54, _, _, _, _, _⟩) rfl (fun K hK => ?_) AllReadyH.nil
              rw [if_pos (by rfl)]
              go_simp
              refine (un_count HT6.out.l.u HT6.out.l.ok 3).mono ?_
              rintro e w7 ⟨rfl, hb⟩
              have HT7 := hid (HT6.out.below hb)
              have kp := HT7.out.box.all3
              rw [HN3.out]
              clear hb
              go_simp
              refine hK.out _ _ kp (fun hHeld => ?_)
              clear hK K
              (try simp only [Act.put, List.setIfInBounds_toArray, List.set_cons_zero, List.set_cons_succ])
              refine wpAnyH_take (i := 10) (oi := ⟨some 55, _, _, _, _, _⟩) (v := ?_) rfl (by kernel_rfl) (by kernel_rfl) (by kernel_rfl) (fun _ _ _ h => h) (Or.inl ⟨by rfl, ?_⟩) (by assumption) ?_
              rotate_left 1
              · intro w0 hSw
                obtain ⟨s0, s1, s2⟩ := hSw
                go_simp
                try with_reducible rfl
              (try simp only [Act.put, List.setIfInBounds_toArray, List.set_cons_zero, List.set_cons_succ])
              refine wpAnyH_ready (rs := [12]) (by kernel_rfl) (by simp) ?_
              refine AllReadyH.cons (o := ⟨some 57, _, _, _, _, _⟩) rfl (fun K hK => ?_) AllReadyH.nil
              rw [if_pos (by rfl)]
              go_simp
              refine (un_count HT7.out.l.u HT7.out.l.ok 4).mono ?_
              rintro e w8 ⟨rfl, hb⟩
              have HT8 := hid (HT7.out.below hb)
              have kp := HT8.out.box.all3
              rw [HN4.out]
              clear hb
              go_simp
              refine hK.out _ _ kp (fun hHeld => ?_)
              clear hK K
              (try simp only [Act.put, List.setIfInBounds_toArray, List.set_cons_zero, List.set_cons_succ])
              refine wpAnyH_take (i := 13) (oi := ⟨some 58, _, _, _, _, _⟩) (v := ?_) rfl (by kernel_rfl) (by kernel_rfl) (by kernel_rfl) (fun _ _ _ h => h) (Or.inl ⟨by rfl, ?_⟩) (by assumption) ?_
              rotate_left 1
              · intro w0 hSw
                obtain ⟨s0, s1, s2⟩ := hSw
                go_simp
                try with_reducible rfl
              (try simp only [Act.put, List.setIfInBounds_toArray, List.set_cons_zero, List.set_cons_succ])
              refine wpAnyH_take (i := 14) (oi := ⟨some 59, _, _, _, _, _⟩) (v := ?_) rfl (by kernel_rfl) (by kernel_rfl) (by kernel_rfl) (fun _ _ _ h => h) (Or.inl ⟨by rfl, ?_⟩) (by assumption) ?_
              rotate_left 1
              · intro w0 hSw
                obtain ⟨s0, s1, s2⟩ := hSw
                go_simp
                try with_reducible rfl
              (try simp only [Act.put, List.setIfInBounds_toArray, List.set_cons_zero, List.set_cons_succ])
              refine wpAnyH_take (i := 15) (oi := ⟨some 60, _, _, _, _, _⟩) (v := ?_) rfl (by kernel_rfl) (by kernel_rfl) (by kernel_rfl) (fun _ _ _ h => h) (Or.inl ⟨by rfl, ?_⟩) (by assumption) ?_
              rotate_left 1
              · intro w0 hSw
                obtain ⟨s0, s1, s2⟩ := hSw
                go_simp
                try with_reducible rfl
              (try simp only [Act.put, List.setIfInBounds_toArray, List.set_cons_zero, List.set_cons_succ])
              refine wpAnyH_done (by kernel_rfl) ?_ _
              refine NoPanic.normal ?_
              go_wp2
              go_roundg (K0 - 1)
              case measure => omega
              case rel => exact ⟨p + 1, by omega, by go_num, _, HT8.out⟩
            · have hd1 : decide (n1 < C1) = false := by simpa using hr
              clear HRM hr
              go_upto_region 18 with fail
              refine wp_region_noPanic ?_
              refine wp_region_held_drew (S := fun w' => w'.cell? ⟨q, 0, none⟩ = some (.int .i64 (C1 : Nat)) ∧ w'.cell? ⟨q, 1, none⟩ = some (.int .i64 (C2 : Nat)) ∧ w'.cell? ⟨q, 2, none⟩ = some (.int .i64 (C3 : Nat))) (by kernel_rfl) ?_ (fun hHeld => ?_)
              · exact ⟨b0, b1, b2⟩
              refine wpAnyH_take (i := 0) (oi := ⟨some 45, _, _, _, _, _⟩) (v := ?_) rfl (by kernel_rfl) (by kernel_rfl) (by kernel_rfl) (fun _ _ _ h => h) (Or.inl ⟨by rfl, ?_⟩) (by assumption) ?_
              rotate_left 1
              · intro w0 hSw
                obtain ⟨s0, s1, s2⟩ := hSw
                go_simp
                try with_reducible rfl
              (try simp only [Act.put, List.setIfInBounds_toArray, List.set_cons_zero, List.set_cons_succ])
              refine wpAnyH_take (i := 2) (oi := ⟨some 47, _, _, _, _, _⟩) (v := ?_) rfl (by kernel_rfl) (by kernel_rfl) (by kernel_rfl) (fun _ _ _ h => h) (Or.inl ⟨by rfl, ?_⟩) (by assumption) ?_
              rotate_left 1
              · intro w0 hSw
                obtain ⟨s0, s1, s2⟩ := hSw
                go_simp
                try with_reducible rfl
              (try simp only [Act.put, List.setIfInBounds_toArray, List.set_cons_zero, List.set_cons_succ])
              refine wpAnyH_take (i := 3) (oi := ⟨some 48, _, _, _, _, _⟩) (v := ?_) rfl (by kernel_rfl) (by kernel_rfl) (by kernel_rfl) (fun _ _ _ h => h) (Or.inl ⟨by rfl, ?_⟩) (by assumption) ?_
              rotate_left 1
              · intro w0 hSw
                obtain ⟨s0, s1, s2⟩ := hSw
                go_simp
                try with_reducible rfl
              (try simp only [Act.put, List.setIfInBounds_toArray, List.set_cons_zero, List.set_cons_succ])
              refine wpAnyH_ready (rs := [1]) (by kernel_rfl) (by simp) ?_
              refine AllReadyH.cons (o := ⟨some 46, _, _, _, _, _⟩) rfl (fun K hK => ?_) AllReadyH.nil
              rw [if_pos (by rfl)]
              go_simp
              refine (un_count HTD.out.l.u HTD.out.l.ok 1).mono ?_
              rintro e w5 ⟨rfl, hb⟩
              have HT5 := hid (HTD.out.below hb)
              have kp := HT5.out.box.all3
              rw [HN1.out]
              clear hb
              go_simp
              refine hK.out _ _ kp (fun hHeld => ?_)
              clear hK K
              (try simp only [Act.put, List.setIfInBounds_toArray, List.set_cons_zero, List.set_cons_succ])
              refine wpAnyH_take (i := 4) (oi := ⟨some 49, _, _, _, _, _⟩) (v := ?_) rfl (by kernel_rfl) (by kernel_rfl) (by kernel_rfl) (fun _ _ _ h => h) (Or.inl ⟨by rfl, ?_⟩) (by assumption) ?_
              rotate_left 1
              · intro w0 hSw
                obtain ⟨s0, s1, s2⟩ := hSw
                go_simp
                try with_reducible rfl
              (try simp only [Act.put, List.setIfInBounds_toArray, List.set_cons_zero, List.set_cons_succ])
              refine wpAnyH_take (i := 5) (oi := ⟨some 50, _, _, _, _, _⟩) (v := ?_) rfl (by kernel_rfl) (by kernel_rfl) (by kernel_rfl) (fun _ _ _ h => h) (Or.inl ⟨by rfl, ?_⟩) (by assumption) ?_
              rotate_left 1
              · intro w0 hSw
                obtain ⟨s0, s1, s2⟩ := hSw
                go_simp
                try with_reducible rfl
              (try simp only [Act.put, List.setIfInBounds_toArray, List.set_cons_zero, List.set_cons_succ])
              refine wpAnyH_take (i := 6) (oi := ⟨some 51, _, _, _, _, _⟩) (v := undef) rfl (by kernel_rfl) (by kernel_rfl) (by kernel_rfl) (fun _ _ _ h => h) (Or.inr ⟨by rfl, rfl⟩) (by assumption) ?_
              (try simp only [Act.put, List.setIfInBounds_toArray, List.set_cons_zero, List.set_cons_succ])
              refine wpAnyH_take (i := 7) (oi := ⟨some 52, _, _, _, _, _⟩) (v := undef) rfl (by kernel_rfl) (by kernel_rfl) (by kernel_rfl) (fun _ _ _ h => h) (Or.inr ⟨by rfl, rfl⟩) (by assumption) ?_
              (try simp only [Act.put, List.setIfInBounds_toArray, List.set_cons_zero, List.set_cons_succ])
              refine wpAnyH_take (i := 8) (oi := ⟨some 53, _, _, _, _, _⟩) (v := undef) rfl (by kernel_rfl) (by kernel_rfl) (by kernel_rfl) (fun _ _ _ h => h) (Or.inr ⟨by rfl, rfl⟩) (by assumption) ?_
              (try simp only [Act.put, List.setIfInBounds_toArray, List.set_cons_zero, List.set_cons_succ])
              refine wpAnyH_take (i := 9) (oi := ⟨some 54, _, _, _, _, _⟩) (v := undef) rfl (by kernel_rfl) (by kernel_rfl) (by kernel_rfl) (fun _ _ _ h => h) (Or.inr ⟨by rfl, rfl⟩) (by assumption) ?_
              (try simp only [Act.put, List.setIfInBounds_toArray, List.set_cons_zero, List.set_cons_succ])
              refine wpAnyH_take (i := 10) (oi := ⟨some 55, _, _, _, _, _⟩) (v := undef) rfl (by kernel_rfl) (by kernel_rfl) (by kernel_rfl) (fun _ _ _ h => h) (Or.inr ⟨by rfl, rfl⟩) (by assumption) ?_
              (try simp only [Act.put, List.setIfInBounds_toArray, List.set_cons_zero, List.set_cons_succ])
              refine wpAnyH_take (i := 11) (oi := ⟨some 56, _, _, _, _, _⟩) (v := undef) rfl (by kernel_rfl) (by kernel_rfl) (by kernel_rfl) (fun _ _ _ h => h) (Or.inr ⟨by rfl, rfl⟩) (by assumption) ?_
              (try simp only [Act.put, List.setIfInBounds_toArray, List.set_cons_zero, List.set_cons_succ])
              refine wpAnyH_take (i := 12) (oi := ⟨some 57, _, _, _, _, _⟩) (v := undef) rfl (by kernel_rfl) (by kernel_rfl) (by kernel_rfl) (fun _ _ _ h => h) (Or.inr ⟨by rfl, rfl⟩) (by assumption) ?_
              (try simp only [Act.put, List.setIfInBounds_toArray, List.set_cons_zero, List.set_cons_succ])
              refine wpAnyH_take (i := 13) (oi := ⟨some 58, _, _, _, _, _⟩) (v := undef) rfl (by kernel_rfl) (by kernel_rfl) (by kernel_rfl) (fun _ _ _ h => h) (Or.inr ⟨by rfl, rfl⟩) (by assumption) ?_
              (try simp only [Act.put, List.setIfInBounds_toArray, List.set_cons_zero, List.set_cons_succ])
              refine wpAnyH_take (i := 14) (oi := ⟨some 59, _, _, _, _, _⟩) (v := undef) rfl (by kernel_rfl) (by kernel_rfl) (by kernel_rfl) (fun _ _ _ h => h) (Or.inr ⟨by rfl, rfl⟩) (by assumption) ?_
              (try simp only [Act.put, List.setIfInBounds_toArray, List.set_cons_zero, List.set_cons_succ])
              refine wpAnyH_take (i := 15) (oi := ⟨some 60, _, _, _, _, _⟩) (v := ?_) rfl (by kernel_rfl) (by kernel_rfl) (by kernel_rfl) (fun _ _ _ h => h) (Or.inl ⟨by rfl, ?_⟩) (by assumption) ?_
              rotate_left 1
              · intro w0 hSw
                obtain ⟨s0, s1, s2⟩ := hSw
                go_simp
                try with_reducible rfl
              (try simp only [Act.put, List.setIfInBounds_toArray, List.set_cons_zero, List.set_cons_succ])
              refine wpAnyH_done (by kernel_rfl) ?_ _
              refine NoPanic.normal ?_
              go_wp2
              go_roundg (K0 - 1)
              case measure => omega
              case rel => exact ⟨p + 1, by omega, by go_num, _, HT5.out⟩
      · obtain rfl : p = n := by omega
        clear hlt hp
        go_wp2
        go_ret
        exact ⟨rfl, HT.out.l.bel⟩
  · unfold NewR at HNEW
    have HR := hid hR
    clear hR
    go_wp2_with (go_at_call 9; refine (HNEW.out _).mono ?_; intro e w2 hq; rw [if_neg HR.out] at hq; obtain ⟨rfl, hb⟩ := hq; have HB2 := hid (on HB.out hb); clear hb)
    go_ret
    exact ⟨rfl, HB2.out⟩
end Go.Proofs.Ytmkpimpckhppgaa
