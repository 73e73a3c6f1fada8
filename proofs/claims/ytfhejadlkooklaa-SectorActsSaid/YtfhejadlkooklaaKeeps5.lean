/-
  What is proved: the walk of SectorKeeps: what is written to one sector leaves all others as they were. Condition: the acts and the text are read as such.
-/
import Derived.Test.YtfhejadlkooklaaLong5
import Derived.Test.YtfhejadlkooklaaFuse5
namespace Go.Proofs.Ytfhejadlkooklaa
open Go.RowKit

theorem write_free (L : List (List Int)) (i : Int) (l : List Int) (hs : ∀ l ∈ L, l.length ≤ 64) : ∃ L', St.write ⟨L, -1, false⟩ i l = ⟨L', -1, false⟩ ∧ L'.length = L.length ∧ ∀ l ∈ L', l.length ≤ 64 := by
  by_cases h1 : i < 0 ∨ (L.length : Int) ≤ i
  · refine ⟨L, ?_, rfl, hs⟩
    unfold St.write
    simp only
    rw [if_neg (by simp), if_pos h1]
  · by_cases h2 : 64 < l.length
    · refine ⟨L, ?_, rfl, hs⟩
      unfold St.write
      simp only
      rw [if_neg (by simp), if_neg h1, if_pos h2]
    · refine ⟨L.set i.toNat l, (told_free ⟨L, -1, false⟩ i l rfl (by omega) (by show i < (L.length : Int); omega) (by omega) (by show (-1 : Int) < 0; omega)).2, List.length_set, set_short hs _ _ (by omega)⟩

/-- a disk of eight sectors that takes what is written -/
def Eight (w : World) (b k : Nat) (v : Value) (L : List (List Int)) : Prop := L.length = 8 ∧ (∀ l ∈ L, l.length ≤ 64) ∧ Dk w 49 b k v ⟨L, -1, false⟩
/-- block q holds slices that read as these texts -/
def Was (w : World) (q : Nat) (g : Nat → List Int) : Prop := ∃ cs : Array Value, cs.size = 8 ∧ Bx w q 46 cs ∧ ∀ j, j < 8 → ∃ u, cs[j]? = some u ∧ Bs w u (g j)
theorem Was.kept {w w' : World} {q : Nat} {g : Nat → List Int} (h : Was w q g) (hs : w.heap.size ≤ w'.heap.size) (st : Stay w w') (hb : w'.heap[q]? = w.heap[q]?) : Was w' q g := by
  obtain ⟨cs, h1, h2, h3⟩ := h
  exact ⟨cs, h1, hb.trans h2, fun j hj => by obtain ⟨u, e1, e2⟩ := h3 j hj; exact ⟨u, e1, e2.stay st hs⟩⟩
theorem Was.lt {w : World} {q : Nat} {g : Nat → List Int} (h : Was w q g) : q < w.heap.size := by obtain ⟨cs, _, h2, _⟩ := h; exact h2.lt
theorem Was.below {w w' : World} {q : Nat} {g : Nat → List Int} (h : Was w q g) (hb : Below w.heap.size w w') : Was w' q g := h.kept hb.size (Stay.below hb) (hb.block q h.lt)
theorem Was.cell {w : World} {q : Nat} {g : Nat → List Int} (h : Was w q g) {j : Nat} (hj : j < 8) : ∃ u, w.cell? ⟨q, j, none⟩ = some u ∧ w.frozen? ⟨q, j, none⟩ = false ∧ Bs w u (g j) := by
  obtain ⟨cs, _, h2, h3⟩ := h
  obtain ⟨u, e1, e2⟩ := h3 j hj
  exact ⟨u, (h2.cell j).trans e1, h2.free j, e2⟩
theorem Was.stay {w : World} {q : Nat} {g : Nat → List Int} (h : Was w q g) {j : Nat} (hj : j < 8) (u : Value) : Stay w (w.setCell ⟨q, j, none⟩ u) := by
  obtain ⟨u0, e1, _, e3⟩ := h.cell hj
  refine Stay.set w _ u fun x e => ?_
  rw [e1] at e
  injection e with e
  exact e3.no8 x e
theorem Was.set {w : World} {q : Nat} {g : Nat → List Int} (h : Was w q g) {j : Nat} (hj : j < 8) {u : Value} {l : List Int} (hu : Bs w u l) : Was (w.setCell ⟨q, j, none⟩ u) q (fun i => if i = j then l else g i) := by
  have st := h.stay hj u
  have hs : w.heap.size ≤ (w.setCell ⟨q, j, none⟩ u).heap.size := by rw [setSize]; exact Nat.le_refl _
  obtain ⟨cs, h1, h2, h3⟩ := h
  refine ⟨cs.setIfInBounds j u, by simpa using h1, h2.set j u, fun i hi => ?_⟩
  by_cases e : i = j
  · subst e
    refine ⟨u, by rw [Array.getElem?_setIfInBounds_self_of_lt (by omega)], ?_⟩
    show Bs _ _ (if i = i then l else g i)
    rw [if_pos rfl]
    exact hu.stay st hs
  · obtain ⟨u', e1, e2⟩ := h3 i hi
    refine ⟨u', by rw [Array.getElem?_setIfInBounds_ne (fun h => e h.symm)]; exact e1, ?_⟩
    show Bs _ _ (if i = j then l else g i)
    rw [if_neg e]
    exact e2.stay st hs
theorem Was.alike {w : World} {q : Nat} {g g' : Nat → List Int} (h : Was w q g) (e : ∀ i, i < 8 → g' i = g i) : Was w q g' := by
  obtain ⟨cs, h1, h2, h3⟩ := h
  exact ⟨cs, h1, h2, fun j hj => by rw [e j hj]; exact h3 j hj⟩
theorem Dk.far {w : World} {T : TypeId} {b k q j : Nat} {v : Value} {s : St} (h : Dk w T b k v s) (u : Value) (st : Stay w (w.setCell ⟨q, j, none⟩ u)) (h1 : k ≠ q) (h2 : v.ownBlock ≠ some q) : Dk (w.setCell ⟨q, j, none⟩ u) T b k v s :=
  h.kept (by rw [setSize]; exact Nat.le_refl _) st fun i hi => Below.heap_setCell w ⟨q, j, none⟩ u i (fun e => by
    have e' : i = q := e
    subst e'
    rcases hi with rfl | e2
    · exact h1 rfl
    · exact h2 e2)

set_option maxHeartbeats 400000 in
theorem keeps_walk (A : Option Addr) (n c : Nat) (f : Nat → Ac) (x : Nat) (hx : x ≤ 255) (B : Option Addr) (m mc : Nat) (ds : List Int) (w : World) (hn : n ≤ maxLen) (h : Acts w A n f) (hm : ds.length = m) (hmm : m ≤ maxLen) (r : Rn w B ds) :
    Calls Try.prog 6 #[.slice A n c, .int .u8 x, .slice B m mc] w fun e w' => e = .returned (.bool true) ∧ Below w.heap.size w w' := by
  have HNN := hid hn
  have HA := hid h
  have HM := hid hm
  have HR := hid r
  unfold maxLen at hn hmm
  clear h hm r
  go_enter Try.func6, Try.ntmps6
  go_upto_region 3 with (go_at_call 7; refine (wakes_any _).mono ?_; rintro e w1 ⟨rfl, hb⟩; have HB := hid hb; clear hb)
  have HA1 := hid (HA.out.below HB.out)
  by_cases h64 : 64 < m
  · go_wp2_with (go_at_call 8; refine (long_any A n c f _ HNN.out HA1.out).mono ?_; rintro e w' ⟨b, rfl, rfl, hb⟩; clear hb)
    all_goals
      go_ret
      exact ⟨rfl, HB.out⟩
  have h64' : m ≤ 64 := by omega
  clear h64
  go_wp2_with fail
  refine (long_any A n c f _ HNN.out HA1.out).mono ?_
  rintro e w' ⟨b, rfl, rfl, hb⟩
  cases b
  case true =>
    clear hb
    go_wp2
    go_ret
    exact ⟨rfl, HB.out⟩
  obtain ⟨hn1, hl2⟩ := hb rfl
  have HL2 := hid hl2
  clear hb hl2 hn
  go_wp2_with (go_at_call 9; refine (new_any 8 _).mono ?_; rintro e w2 ⟨k, v, rfl, hk, hb⟩; have HK := hid hk; have HB2 := hid hb; clear hk hb)
  have hw1 : w.heap.size ≤ w1.heap.size := HB.out.size
  have E2 : Eight w2 w1.heap.size k v (List.replicate 8 []) := ⟨by simp, fun l hl => by rw [List.eq_of_mem_replicate hl]; simp, HK.out⟩
  have HE2 := hid E2
  have hw2 : w1.heap.size ≤ w2.heap.size := HB2.out.size
  have HB3 := hid (HB.out.trans (HB2.out.mono hw1))
  clear E2 HK HB2
  go_loopw [28] (fun t wr => ∃ p : Nat, p ≤ n ∧ t = .int .i64 p ∧ (∃ L, Eight wr w1.heap.size k v L) ∧ Below w.heap.size w wr ∧ w1.heap.size ≤ wr.heap.size) (fun t _ => n - (intOf t).toNat)
  case atStart => exact ⟨0, Nat.zero_le _, rfl, ⟨_, HE2.out⟩, HB3.out, hw2⟩
  case round =>
    obtain ⟨p, hp, rfl, ⟨L, hL⟩, hbel, hsz⟩ := hrel
    have HBe := hid hbel
    have HL := hid hL
    clear hL hbel HE2 HB3
    by_cases hlt : p < n
    · obtain ⟨ad, rfl, hat⟩ := (HA.out.below HBe.out) p hlt
      have h200 := HL2.out p hlt
      obtain ⟨⟨ki, ai, Bi, ci, li⟩, hH⟩ : ∃ y, f p = y := ⟨_, rfl⟩
      rw [hH] at hat h200
      obtain ⟨alt, ck, ca, cb, cr, cle, cwa⟩ := hat
      dsimp only at ck ca cb cr cle cwa h200
      have CR := hid cr
      obtain ⟨li0, hli⟩ : ∃ q, li.length = q := ⟨_, rfl⟩
      rw [hli] at cb cle h200
      have HLI := hid hli
      obtain ⟨b0, hb0⟩ : ∃ b0, below_alloc wr (.cells #[.int .i64 ki, .int .i64 ai, .slice Bi li0 ci] 31) = b0 := ⟨_, rfl⟩
      clear hb0
      have HB0 := hid b0
      have HK0 := hid (HL.out.2.2.below b0)
      have CR0 := hid (cr.now b0)
      clear b0 cr hli hH
      by_cases hki : ki = 0
      · subst hki
        go_wp2_with (go_at_call 11; refine (write_any HK0.out ai Bi li0 ci li HLI.out (by omega) CR0.out).mono ?_; rintro e w4 ⟨rfl, hk4, ho4⟩; have HK4 := hid hk4; have HO4 := hid ho4; clear hk4 ho4)
        go_roundw
        case rel =>
          obtain ⟨L', e1, e2, e3⟩ := write_free L ai li HL.out.2.1
          have HK5 := HK4.out
          rw [e1] at HK5
          exact ⟨p + 1, by omega, by go_num, ⟨L', e2.trans HL.out.1, e3, HK5⟩, (on HBe.out HB0.out).trans ((HK0.out.onlyBel HO4.out (Nat.le_trans hsz HB0.out.size)).mono hw1), Nat.le_trans hsz (Nat.le_trans HB0.out.size HO4.out.size)⟩
        case measure => simp [intOf]; omega
      · have hkb : ((ki : Int) == 0) = false := by simpa using hki
        go_wp2
        go_roundw
        case rel => exact ⟨p + 1, by omega, by go_num, ⟨L, HL.out.1, HL.out.2.1, HK0.out⟩, on HBe.out HB0.out, Nat.le_trans hsz HB0.out.size⟩
        case measure => simp [intOf]; omega
    · obtain rfl : p = n := by omega
      obtain ⟨hL8, hS, hk⟩ := HL.out
      have HS := hid hS
      have HL8 := hid hL8
      have hq : ∃ q, wr.heap.size = q := ⟨_, rfl⟩
      obtain ⟨q, hq⟩ := hq
      have hkq : k < q := by rw [← hq]; exact hk.box.lt
      have HV := hid (show ∀ g, v.ownBlock = some g → g < q from fun g e => by rw [← hq]; exact (hk.rowLt e).2)
      have hwq : w.heap.size ≤ q := by omega
      obtain ⟨wq, hWq⟩ : ∃ wq, wr.alloc (.cells #[.slice none 0 0, .slice none 0 0, .slice none 0 0, .slice none 0 0, .slice none 0 0, .slice none 0 0, .slice none 0 0, .slice none 0 0] 46) = wq := ⟨_, rfl⟩
      have B0 : Below wr.heap.size wr wq := by rw [← hWq]; exact below_alloc _ _
      have W0 : Was wq q fun _ => [] := by
        refine ⟨_, ?_, by rw [← hWq, ← hq]; exact Bx.new wr _ #[.slice none 0 0, .slice none 0 0, .slice none 0 0, .slice none 0 0, .slice none 0 0, .slice none 0 0, .slice none 0 0, .slice none 0 0], fun j hj => ⟨.slice none 0 0, ?_, bs_nil _⟩⟩
        · rfl
        · match j, hj with
          | 0, _ | 1, _ | 2, _ | 3, _ | 4, _ | 5, _ | 6, _ | 7, _ => rfl
      have HK0 := hid (hk.below B0)
      have HW0 := hid W0
      have HBq := hid (on HBe.out B0)
      have HWQ := hid hWq
      have HQ := hid hq
      clear hk hS hL8 HL hlt hp B0 W0 hWq hq
      go_wp2_with fail
      rw [HQ.out, HWQ.out]
      have HX : Hid (w.heap.size ≤ q) := hwq
      go_loopw [42] (fun t wt => ∃ i : Nat, i ≤ 8 ∧ t = .int .i64 i ∧ Dk wt 49 w1.heap.size k v ⟨L, -1, false⟩ ∧ Was wt q (fun j => if j < i then L.getD j [] else []) ∧ Below w.heap.size w wt) (fun t _ => 8 - (intOf t).toNat)
      case atStart => exact ⟨0, Nat.zero_le _, rfl, HK0.out, HW0.out.alike fun i hi => by rw [if_neg (Nat.not_lt_zero i)], HBq.out⟩
      case round =>
        obtain ⟨i, hi, rfl, hkt, hwt, hbt⟩ := hrel
        have HKt := hid hkt
        have HWt := hid hwt
        have HBt := hid hbt
        clear hkt hwt hbt HK0 HW0 HBq HWQ HQ HBe
        by_cases hlt : i < 8
        · go_wp2_with (go_at_call 18; refine (read_any HKt.out HS.out i).mono ?_; rintro e w5 ⟨u, l, c5, rfl, hu, hb5, hor⟩; have HU := hid hu; obtain ⟨Au, cu, rfl, -⟩ := hu; have HOR := hid hor; have HB5 := hid hb5; clear hb5 hor; obtain ⟨u0, y1, y2, -⟩ := (HWt.out.below HB5.out).cell hlt)
          go_roundw
          case rel =>
            have W5 := HWt.out.below HB5.out
            have K5 := HKt.out.below HB5.out
            have st := W5.stay hlt (.slice Au l.length cu)
            have e : L[i]? = some l := by
              rcases HOR.out with ⟨h1, _⟩ | ⟨_, h2, _⟩
              · have := HL8.out
                omega
              · rw [Int.toNat_natCast] at h2; exact h2
            refine ⟨i + 1, by omega, by go_num, K5.far _ st (by omega) (fun e2 => by have := HV.out q e2; omega), (W5.set hlt HU.out).alike fun j hj => ?_, below_set (on HBt.out HB5.out) _ _ HX.out⟩
            by_cases e1 : j = i
            · subst e1
              rw [if_pos (by omega), if_pos rfl, List.getD, e]; rfl
            · rw [if_neg e1]
              by_cases e2 : j < i
              · rw [if_pos (by omega), if_pos e2]
              · rw [if_neg (by omega), if_neg e2]
          case measure => simp [intOf]; omega
        · obtain rfl : i = 8 := by omega
          have HW8 := hid (HWt.out.alike (g' := fun j => L.getD j []) fun j hj => by rw [if_pos hj])
          clear HWt hlt hi
          have T := told_free ⟨L, -1, false⟩ ((x : Int) % 8) ds rfl (by omega) (by show (x : Int) % 8 < (L.length : Int); rw [HL8.out]; omega) (by rw [HM.out]; exact h64') (by show (-1 : Int) < 0; omega)
          have HT := hid T
          have HQ8 := HW8.out.lt
          have HS1 := hid (set_short HS.out ((x : Int) % 8).toNat ds (by rw [HM.out]; exact h64'))
          have HLs := hid (show (L.set ((x : Int) % 8).toNat ds).length = 8 from by rw [List.length_set]; exact HL8.out)
          have HRt := hid (HR.out.now HBt.out)
          clear T
          go_wp2_with fail
          refine (write_any HKt.out ((x : Int) % 8) B m mc ds HM.out (by omega) HRt.out).mono ?_
          rintro e w6 ⟨rfl, hk6, ho6⟩
          rw [HT.out.1]
          rw [HT.out.2] at hk6
          have HK6 := hid hk6
          have HW6 := hid (HW8.out.kept ho6.size ho6.stay (ho6.block q HQ8 (by omega) (fun e2 => by have := HV.out q e2.symm; omega)))
          have HB6 := hid (HBt.out.trans ((HKt.out.onlyBel ho6 (Nat.le_of_lt (Nat.lt_of_le_of_lt HKt.out.low HKt.out.box.lt))).mono hw1))
          clear hk6 ho6 HKt HW8 HBt HRt HT HQ8
          go_wp2_with fail
          go_loopw [62] (fun t wt => ∃ i : Nat, i ≤ 8 ∧ t = .int .i64 i ∧ Dk wt 49 w1.heap.size k v ⟨L.set ((x : Int) % 8).toNat ds, -1, false⟩ ∧ Was wt q (fun j => L.getD j []) ∧ Below w.heap.size w wt) (fun t _ => 8 - (intOf t).toNat)
          case atStart => exact ⟨0, Nat.zero_le _, rfl, HK6.out, HW6.out, HB6.out⟩
          case round =>
            obtain ⟨i, hi, rfl, hkt, hwt, hbt⟩ := hrel
            have HKt := hid hkt
            have HWt := hid hwt
            have HBt := hid hbt
            clear hkt hwt hbt HK6 HW6 HB6
            by_cases hlt : i < 8
            · go_wp2_with fail
              refine (read_any HKt.out HS1.out i).mono ?_
              rintro e w7 ⟨u, l, c5, rfl, hu, hb7, hor⟩
              have hl : (L.set ((x : Int) % 8).toNat ds)[i]? = some l := by
                rcases hor with ⟨h1, _⟩ | ⟨_, h2, _⟩
                · have h1' : (i : Int) < 0 ∨ (((L.set ((x : Int) % 8).toNat ds).length : Nat) : Int) ≤ i := h1
                  rw [HLs.out] at h1'
                  omega
                · rw [Int.toNat_natCast] at h2; exact h2
              obtain ⟨Au, cu, rfl, hru, hcu, hmu⟩ := hu
              have HRU := hid hru
              have HK7 := hid (HKt.out.below hb7)
              have HW7 := hid (HWt.out.below hb7)
              have HB7 := hid (on HBt.out hb7)
              have HLI := hid hl
              clear hor hb7 hru hl HKt HWt HBt
              by_cases e : (i : Int) = (x : Int) % 8
              · have HE := hid e
                have hl2 : ds = l := by
                  have h2 := HLI.out
                  rw [show ((x : Int) % 8).toNat = i by omega, List.getElem?_set_self (by rw [HL8.out]; exact hlt)] at h2
                  injection h2
                subst hl2
                have e1 : decide ((i : Int) = (x : Int) % 8) = true := by simpa using e
                have e2 : ((i : Int) == (x : Int) % 8) = true := by simpa using e
                have e3 : ((i : Int) != (x : Int) % 8) = false := by simpa using e
                clear e
                go_wp2_with (go_at_call 13; refine (same_yes Au B _ m cu mc ds _ _ _ rfl HM.out (Nat.le_trans hcu hmu) HRU.out (HR.out.now HB7.out)).mono ?_; rintro e w8 ⟨rfl, d8, rfl⟩)
                go_roundw
                case rel => exact ⟨i + 1, by omega, by go_num, HK7.out.draws d8, HW7.out.kept (Nat.le_refl _) (fun _ _ h => h) rfl, below_draws HB7.out d8⟩
                case measure => simp [intOf]; omega
              · have hl2 : L.getD i [] = l := by
                  have h2 := HLI.out
                  rw [List.getElem?_set_ne (by omega)] at h2
                  rw [List.getD, h2]; rfl
                obtain ⟨u2, y1, y2, A2, c2, rfl, hr2, hc2, hm2⟩ := HW7.out.cell hlt
                have HL2 := hid hl2
                have HR2 := hid hr2
                have e1 : decide ((i : Int) = (x : Int) % 8) = false := by simpa using e
                have e2 : ((i : Int) == (x : Int) % 8) = false := by simpa using e
                have e3 : ((i : Int) != (x : Int) % 8) = true := by simpa using e
                generalize hd : L.getD i [] = d at *
                clear e hr2 hl2 hd
                obtain ⟨d0, hd0⟩ : ∃ d0, d.length = d0 := ⟨_, rfl⟩
                rw [hd0] at y1 hc2
                have HD0 := hid hd0
                clear hd0
                go_wp2_with (go_at_call 13; refine (same_yes Au A2 _ d0 cu c2 l _ _ _ rfl (by rw [← HL2.out]; exact HD0.out) (Nat.le_trans hcu hmu) HRU.out (by rw [← HL2.out]; exact HR2.out)).mono ?_; rintro e w8 ⟨rfl, d8, rfl⟩)
                go_roundw
                case rel => exact ⟨i + 1, by omega, by go_num, HK7.out.draws d8, HW7.out.kept (Nat.le_refl _) (fun _ _ h => h) rfl, below_draws HB7.out d8⟩
                case measure => simp [intOf]; omega
            · obtain rfl : i = 8 := by omega
              go_wp2
              go_ret
              exact ⟨rfl, HBt.out⟩
end Go.Proofs.Ytfhejadlkooklaa
