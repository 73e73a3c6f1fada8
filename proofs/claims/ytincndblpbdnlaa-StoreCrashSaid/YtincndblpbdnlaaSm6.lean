/-
  What is proved: the reference's comparison of two byte slices, both ways; the law's question whether a store has the blocks of a store in memory. Conditions: both lie in memory as such; nothing is pending.
-/
import Derived.Test.YtincndblpbdnlaaRst
import Derived.Test.YtincndblpbdnlaaRea
import Derived.Test.YtincndblpbdnlaaWake6
import Derived.Deep.QuietTactic
import Derived.BigQuiet
import Derived.BigRegion
namespace Go.Proofs.Ytincndblpbdnlaa
open Go.RowKit

theorem take_more {l r : List Int} {k : Nat} (h1 : k < l.length) (h2 : k < r.length) (h : l.take k = r.take k) (e : l[k] = r[k]) : l.take (k + 1) = r.take (k + 1) := by
  rw [List.take_succ_eq_append_getElem h1, List.take_succ_eq_append_getElem h2, h, e]
theorem drewN_two (w : World) (a b : Nat) : (w.drewN a).drewN b = w.drewN (a + b) := by simp [World.drewN, Nat.add_assoc]
set_option maxHeartbeats 400000 in
theorem same_dec (A B : Option Addr) (n m ca cb : Nat) (l r : List Int) (w : World) (C D : Nat) (hn : l.length = n) (hm : r.length = m) (hln : n ≤ maxLen) (hlm : m ≤ maxLen) (ra : Rd w C A l) (rb : Rd w D B r) :
    Calls Try.prog 18 #[.slice A n ca, .slice B m cb] w fun e w' => e = .returned (.bool (decide (l = r))) ∧ ∃ k, w' = w.drewN k := by
  subst hn
  subst hm
  unfold maxLen at hln hlm
  by_cases hl : l.length = r.length
  · have e0 : (((l.length : Nat) : Int) != ((r.length : Nat) : Int)) = false := by simp; omega
    have e0' : (l.length != r.length) = false := by simp; omega
    have HL := hid hl
    clear hl
    obtain ⟨t, hd⟩ : ∃ t, decide (l = r) = t := ⟨_, rfl⟩
    rw [hd]
    have HD := hid hd
    clear hd
    go_enter Try.func18, Try.ntmps18
    go_wp2
    go_loopw [5] (fun i wr => ∃ k d : Nat, k ≤ l.length ∧ l.take k = r.take k ∧ i = .int .i64 k ∧ wr = w.drewN d) (fun i _ => l.length - (intOf i).toNat)
    case atStart => exact ⟨0, 0, Nat.zero_le _, by simp, rfl, rfl⟩
    case round =>
      obtain ⟨k, d, hk, ht, rfl, rfl⟩ := hrel
      have HT := hid ht
      clear ht
      by_cases hlt : k < l.length
      · have hlr : k < r.length := by have := HL.out; omega
        obtain ⟨a, rfl, _, hca⟩ := ra.get hlt
        obtain ⟨b, rfl, _, hcb⟩ := rb.get hlr
        obtain ⟨lk, hlk⟩ : ∃ y, l[k] = y := ⟨_, rfl⟩
        obtain ⟨rk, hrk⟩ : ∃ y, r[k] = y := ⟨_, rfl⟩
        rw [hlk] at hca
        rw [hrk] at hcb
        have HLK := hid hlk
        have HRK := hid hrk
        clear hlk hrk
        by_cases hx : lk = rk
        · have HX := hid hx
          have e1 : (lk != rk) = false := by simpa using hx
          clear hx
          go_wp2
          go_quiet (fail)
          go_wp2
          go_roundw
          case rel => exact ⟨k + 1, _, by omega, take_more hlt hlr HT.out (by rw [HLK.out, HRK.out]; exact HX.out), by go_num, rfl⟩
          case measure => simp [intOf]; omega
        · have hne : decide (l = r) = false := by
            simp only [decide_eq_false_iff_not]
            intro e
            apply hx
            rw [← HLK.out, ← HRK.out]
            simp only [e]
          have e1 : (lk != rk) = true := by simpa using hx
          have ht : t = false := by rw [← HD.out]; exact hne
          subst ht
          clear hx hne
          go_wp2
          go_quiet (fail)
          go_wp2
          go_ret
          exact ⟨rfl, _, by first | rfl | exact drewN_two _ _ _⟩
      · have hnk : l.length ≤ k := by omega
        have he : decide (l = r) = true := by
          have h1 := HT.out
          rw [List.take_of_length_le hnk, List.take_of_length_le (by have := HL.out; omega)] at h1
          simpa using h1
        have ht : t = true := by rw [← HD.out]; exact he
        subst ht
        clear he hnk
        go_wp2
        go_ret
        exact ⟨rfl, _, rfl⟩
  · have e0 : (((l.length : Nat) : Int) != ((r.length : Nat) : Int)) = true := by simp; omega
    have e0' : (l.length != r.length) = true := by simp; omega
    have hne : decide (l = r) = false := by
      simp only [decide_eq_false_iff_not]
      rintro rfl
      exact hl rfl
    rw [hne]
    clear hl hne
    go_enter Try.func18, Try.ntmps18
    go_wp2
    go_ret
    exact ⟨rfl, 0, rfl⟩
/-- two stores in memory have the same blocks -/
def alike (sh : Sh) (X Y : RS) : Bool := decide (∀ k, k < sh.B → X.V k = Y.V k ∧ X.T k = Y.T k)
section
variable {w : World} {bb kd ks b0 kx : Nat} {vv r0 r1 r2 r3 r4 : Value} {s : St} {sh : Sh} {X Y : RS}
set_option maxRecDepth 100000 in
set_option maxHeartbeats 1600000 in
theorem lsame_any (h : Sx w bb kd ks vv s sh) (hf : Fine sh s.L X) (hr : Rf w b0 kx r0 r1 r2 r3 r4 sh Y) :
    Calls Try.prog 17 #[.pointer (some ⟨ks, 0, none⟩), .pointer (some ⟨kx, 0, none⟩)] w fun e w' => e = .returned (.bool (alike sh X Y)) ∧ Below w.heap.size w w' := by
  have HS := hid h
  have HF := hid hf
  have HR := hid hr
  have e0 : w.cell? ⟨kx, 0, none⟩ = some (.int .i64 (sh.B : Nat)) := hr.bx.cell 0
  have hB := hf.ok.b.2
  clear h hf hr
  obtain ⟨t, hd⟩ : ∃ t, alike sh X Y = t := ⟨_, rfl⟩
  rw [hd]
  have HD := hid hd
  clear hd
  go_enter Try.func17, Try.ntmps17
  go_wp2_with fail
  clear e0
  go_loopw [16] (fun i wr => ∃ k : Nat, k ≤ sh.B ∧ (∀ j, j < k → X.V j = Y.V j ∧ X.T j = Y.T j) ∧ i = .int .i64 k ∧ Below w.heap.size w wr) (fun i _ => sh.B - (intOf i).toNat)
  case atStart => exact ⟨0, Nat.zero_le _, fun j hj => absurd hj (Nat.not_lt_zero _), rfl, Below.refl _ _⟩
  case round =>
    obtain ⟨k, hk, ht, rfl, hb⟩ := hrel
    have HT := hid ht
    have B1 := hid hb
    clear ht hb
    by_cases hlt : k < sh.B
    · have q0 : decide ((k : Int) < ((sh.B : Nat) : Int)) = true := by simp; omega
      have HK := hid hlt
      clear hlt hk
      have HRY := hid (str_any (HS.out.below B1.out) HF.out k HK.out)
      go_wp2_with fail
      refine HRY.out.mono ?_
      rintro e w2 ⟨u2, rfl, hu2, hb2⟩
      obtain ⟨A2, c2, rfl, hr2, hc2, hm2⟩ := hu2.bs
      have B2 := hid (on B1.out hb2)
      have U2 := hid hr2
      have R2 := hid ((HR.out.below B1.out).below hb2)
      obtain ⟨g0, d0, hg0, x0, y0⟩ := R2.out.getV HK.out
      obtain ⟨g1, d1, v1, hg1, x1, y1, bs1⟩ := R2.out.getT HK.out
      obtain ⟨A3, c3, rfl, hr3, hc3, hm3⟩ := bs1
      have U3 := hid hr3
      have c4 : w2.cell? ⟨kx, 4, none⟩ = some r0 := R2.out.bx.cell 4
      have c5 : w2.cell? ⟨kx, 5, none⟩ = some r1 := R2.out.bx.cell 5
      rw [hg0] at c4
      rw [hg1] at c5
      have M2 := hid (Nat.le_trans hc2 hm2)
      have M3 := hid (Nat.le_trans hc3 hm3)
      have HKB : (k : Int) < ((sh.B : Nat) : Int) := by have := HK.out; omega
      clear hu2 hb2 hr2 hc2 hm2 hg0 hg1 hr3 hc3 hm3 HRY
      by_cases hv : X.V k = Y.V k
      · have HV := hid hv
        obtain ⟨tt, htt⟩ : ∃ tt, decide (X.T k = Y.T k) = tt := ⟨_, rfl⟩
        have HTT := hid htt
        clear htt
        have q1 : (((X.V k : Nat) : Int) != ((Y.V k : Nat) : Int)) = false := by simp; omega
        have q1' : (X.V k != Y.V k) = false := by simp; omega
        clear hv
        cases tt
        case false =>
          have ha : alike sh X Y = false := by
            simp only [alike, decide_eq_false_iff_not]
            intro h
            have := HTT.out
            rw [(h k HK.out).2] at this
            simp at this
          have ht : t = false := by rw [← HD.out]; exact ha
          subst ht
          clear ha
          go_wp2_with (go_at_call 18; refine (same_dec A2 A3 _ _ c2 c3 (X.T k) (Y.T k) _ _ _ rfl rfl M2.out M3.out U2.out U3.out).mono ?_; rintro e w8 ⟨rfl, d8, rfl⟩; rw [HTT.out])
          go_ret
          exact ⟨rfl, below_draws B2.out _⟩
        case true =>
          go_wp2_with (go_at_call 18; refine (same_dec A2 A3 _ _ c2 c3 (X.T k) (Y.T k) _ _ _ rfl rfl M2.out M3.out U2.out U3.out).mono ?_; rintro e w8 ⟨rfl, d8, rfl⟩; rw [HTT.out])
          go_roundw
          case rel => exact ⟨k + 1, HK.out, fun j hj => by
            by_cases e : j < k
            · exact HT.out j e
            · obtain rfl : j = k := by omega
              exact ⟨HV.out, by simpa using HTT.out⟩, by go_num, below_draws B2.out _⟩
          case measure => have := HK.out; simp [intOf]; omega
      · have q1 : (((X.V k : Nat) : Int) != ((Y.V k : Nat) : Int)) = true := by simp; omega
        have q1' : (X.V k != Y.V k) = true := by simp; omega
        have ha : alike sh X Y = false := by
          simp only [alike, decide_eq_false_iff_not]
          exact fun h => hv (h k HK.out).1
        have ht : t = false := by rw [← HD.out]; exact ha
        subst ht
        clear hv ha
        go_wp2_with fail
        go_ret
        exact ⟨rfl, B2.out⟩
    · obtain rfl : k = sh.B := by omega
      have q0 : decide (((sh.B : Nat) : Int) < ((sh.B : Nat) : Int)) = false := by simp
      have ha : alike sh X Y = true := by
        simp only [alike, decide_eq_true_eq]
        exact HT.out
      have ht : t = true := by rw [← HD.out]; exact ha
      subst ht
      have R1 := hid (HR.out.below B1.out)
      have HRD := hid (read_no (HS.out.below B1.out) sh.B (by omega))
      have e0 : wr.cell? ⟨kx, 0, none⟩ = some (.int .i64 (sh.B : Nat)) := R1.out.bx.cell 0
      clear hk hlt ha
      go_wp2_with fail
      refine HRD.out.mono ?_
      rintro e w2 ⟨rfl, hb2⟩
      have B2 := hid (on B1.out hb2)
      clear hb2
      go_wp2_with fail
      go_ret
      exact ⟨rfl, B2.out⟩
end
end Go.Proofs.Ytincndblpbdnlaa
