/-
  What is proved: karma's refuses tells what is wrong with telling a cost. Condition: hints and parts are read as such; there are no more than 20.
-/
import Derived.Test.YtcibhmbneedghaaKq14
namespace Go.Proofs.Ytcibhmbneedghaa
open Go.RowKit

/-- what is wrong with parts and costs -/
def CBad (n : Nat) (P : Nat → Nat → Int) (m : Nat) (k : Nat → Int) : Prop := m ≠ n ∨ PBad P m ∨ Outs 0 1000 k 4
/-- what refuses answers -/
def RefP (hh : Nat → Hn) (n : Nat) (P : Nat → Nat → Int) (m : Nat) (k : Nat → Int) (r : Int) : Prop :=
  (¬ HintsP hh n 32 ∧ r = 14) ∨ (HintsP hh n 32 ∧ CBad n P m k ∧ r = 6) ∨ (HintsP hh n 32 ∧ ¬ CBad n P m k ∧ OBad hh n ∧ r = 4) ∨ (HintsP hh n 32 ∧ ¬ CBad n P m k ∧ ¬ OBad hh n ∧ r = 0)
set_option maxHeartbeats 1000000 in
theorem refuses_any (A B : Option Addr) (n c m cp : Nat) (hh : Nat → Hn) (P : Nat → Nat → Int) (k : Nat → Int) (w : World) (hn : n ≤ 20) (hm : m ≤ 20) (hr : Rv w w.heap.size A (hvs hh n)) (hp : Rv w w.heap.size B (pvs P m)) :
    Calls Try.prog 35 #[.slice A n c, .slice B m cp, .agg #[.int .i64 (k 0), .int .i64 (k 1), .int .i64 (k 2), .int .i64 (k 3)]] w fun e w' => ∃ r, e = .returned (.int .i64 r) ∧ RefP hh n P m k r ∧ Below w.heap.size w w' := by
  have hx := Bx.new w 50 #[.int .i64 (k 0), .int .i64 (k 1), .int .i64 (k 2), .int .i64 (k 3)]
  have hb := below_alloc w (.cells #[.int .i64 (k 0), .int .i64 (k 1), .int .i64 (k 2), .int .i64 (k 3)] 50)
  have HX := hid hx
  have HB := hid hb
  have HR := hid hr
  have HP := hid hp
  obtain ⟨g, hg⟩ : ∃ g, w.heap.size = g := ⟨_, rfl⟩
  have HG := hid hg
  rw [hg] at HX
  clear hx hb hr hp hg
  go_enter Try.func35, Try.ntmps35
  go_upto_region 1 with fail
  rw [HG.out]
  generalize w.alloc (.cells #[.int .i64 (k 0), .int .i64 (k 1), .int .i64 (k 2), .int .i64 (k 3)] 50) = w1 at *
  go_upto_region 2 with (go_at_call 27; refine (outside_any 0 100000 _).mono ?_; rintro e w2 ⟨v, rfl, hv, hb⟩; have HV := hid hv; have HX2 := hid (HX.out.next hb); have HB2 := hid (on HB.out hb); obtain ⟨p, q, rfl, -, -, -, -⟩ := hv; clear hb)
  obtain ⟨g2, hg2⟩ : ∃ x, w2.heap.size = x := ⟨_, rfl⟩
  have HC3 := hid (show (w2.alloc (.cells #[.func (.func 38) #[] #[.pointer (some p), .pointer (some q)]] 43)).cell? ⟨g2, 0, none⟩ = some (.func (.func 38) #[] #[.pointer (some p), .pointer (some q)]) from by rw [← hg2]; exact World.cell?_alloc_new w2 _ _ 0)
  have hb3 := below_alloc w2 (.cells #[(.func (.func 38) #[] #[.pointer (some p), .pointer (some q)])] 43)
  have hs3 : g2 < (w2.alloc (.cells #[.func (.func 38) #[] #[.pointer (some p), .pointer (some q)]] 43)).heap.size := by rw [World.size_alloc]; omega
  rw [hg2]
  generalize w2.alloc (.cells #[.func (.func 38) #[] #[.pointer (some p), .pointer (some q)]] 43) = w3 at *
  have HX3 := hid (HX2.out.next hb3)
  have HV3 := hid (HV.out.below hb3)
  have HB3 := hid (on HB2.out hb3)
  have HS3 := hid hs3
  clear hb3 hs3 hg2 HV HX2 HB2
  by_cases hH : HintsP hh n 32
  · have HCH := hid (chints_any A n c hh 32 w3 (by unfold maxLen; omega) (by omega) (HR.out.now HB3.out))
    rw [dec_true hH] at HCH
    have HH := hid hH
    clear hH
    go_upto_region 4 with (go_at_call 32; refine HCH.out.mono ?_; rintro e w4 ⟨rfl, hb⟩; have HX4 := hid (HX3.out.next hb); have HB4 := hid (on HB3.out hb); have HV4 := hid (HV3.out.below hb); have HC4 := hid ((hb.cell (p := ⟨g2, 0, none⟩) HS3.out).trans HC3.out); have HS4 := hid (Nat.lt_of_lt_of_le HS3.out hb.size); clear hb)
    by_cases hmn : m = n
    · subst hmn
      have HBD := hid (below_draws HB4.out 1)
      rw [show w4.drewN 1 = w4.drew from rfl] at HBD
      have HXD := hid (show Bx w4.drew g 50 #[.int .i64 (k 0), .int .i64 (k 1), .int .i64 (k 2), .int .i64 (k 3)] from HX4.out)
      have hd : ((m : Int) != (m : Int)) = false := by simp
      have hd' : (m != m) = false := by simp
      by_cases hp : PBad P m
      · have HPB := hid (fun w hr => contains_parts B m cp P w (by omega) hr)
        rw [dec_true hp] at HPB
        have HPX := hid hp
        clear hp
        refine wp_region_since (by kernel_rfl) (by kernel_rfl) ?_
        repeat (go_big_quiet_step ((go_at_call 43; exact Calls.since _ (HPB.out _ (HP.out.now (on HB4.out (Since.bel _)))))))
        refine wpQuiet_nil ?_
        intro _ hw'
        obtain ⟨s, rfl⟩ := hw'
        go_wp2
        go_ret
        exact ⟨6, rfl, .inr (.inl ⟨HH.out, .inr (.inl HPX.out), rfl⟩), on HB4.out s.bel⟩
      · have HPB := hid (fun w hr => contains_parts B m cp P w (by omega) hr)
        rw [dec_false hp] at HPB
        have HPX := hid hp
        clear hp
        have HCF := hid (fun (w' : World) (v : Value) (hv : OutV w' 0 1000 v) (hx : Bx w' g 50 #[.int .i64 (k 0), .int .i64 (k 1), .int .i64 (k 2), .int .i64 (k 3)]) => contains_out g 4 4 k 0 1000 v w' (by omega) hv fun i hi => by
          rw [hx.cell]
          have h4 : i = 0 ∨ i = 1 ∨ i = 2 ∨ i = 3 := by omega
          rcases h4 with rfl | rfl | rfl | rfl <;> rfl)
        by_cases ho : Outs 0 1000 k 4
        · rw [dec_true ho] at HCF
          have HO := hid ho
          clear ho
          go_region_with (first
            | (go_at_call 43; refine (HPB.out _ (HP.out.now HBD.out)).mono ?_; rintro e w5 ⟨rfl, hb⟩; have HB5 := hid (show Below w.heap.size w w5 from on HBD.out hb); have HX5 := hid (HXD.out.next hb); clear hb)
            | (go_at_call 27; refine (outside_any 0 1000 _).mono ?_; rintro e w6 ⟨v, rfl, hv, hb⟩; have HW := hid hv; have HX6 := hid (HX5.out.next hb); have HB6 := hid (on HB5.out hb); clear hv hb)
            | (go_at_call 28; refine (HCF.out _ _ HW.out HX6.out).mono ?_; rintro e w7 ⟨rfl, rfl⟩))
          go_wp2
          go_ret
          exact ⟨6, rfl, .inr (.inl ⟨HH.out, .inr (.inr HO.out), rfl⟩), HB6.out⟩
        · rw [dec_false ho] at HCF
          have HO := hid ho
          clear ho
          have HVD := hid (show OutV w4.drew 0 100000 _ from HV4.out)
          have HCD := hid (show w4.drew.cell? ⟨g2, 0, none⟩ = some _ from HC4.out)
          go_region_with (first
            | (go_at_call 43; refine (HPB.out _ (HP.out.now HBD.out)).mono ?_; rintro e w5 ⟨rfl, hb⟩; have HB5 := hid (show Below w.heap.size w w5 from on HBD.out hb); have HX5 := hid (HXD.out.next hb); have HV5 := hid (HVD.out.below hb); have HC5 := hid ((hb.cell (p := ⟨g2, 0, none⟩) HS4.out).trans HCD.out); have HS5 := hid (Nat.lt_of_lt_of_le HS4.out hb.size); clear hb)
            | (go_at_call 27; refine (outside_any 0 1000 _).mono ?_; rintro e w6 ⟨v, rfl, hv, hb⟩; have HW := hid hv; have HX6 := hid (HX5.out.next hb); have HB6 := hid (on HB5.out hb); have HV6 := hid (HV5.out.below hb); have HC6 := hid ((hb.cell (p := ⟨g2, 0, none⟩) HS5.out).trans HC5.out); have HS6 := hid (Nat.lt_of_lt_of_le HS5.out hb.size); clear hv hb)
            | (go_at_call 28; refine (HCF.out _ _ HW.out HX6.out).mono ?_; rintro e w7 ⟨rfl, rfl⟩))
          have hmf : ∀ (fn : Fn) (first cap : Array Value) (w : World), (Instr.makeFunc fn first cap).run Try.prog w = .ok (.func fn first cap) w := fun _ _ _ _ => rfl
          have HCB := hid (fun hpl => contains_hints A m c hh ⟨g2, 0, none⟩ _ _ (by omega) (HR.out.now HB6.out) HC6.out hpl HV6.out)
          have hnb : ¬ CBad m P m k := fun h => by
            rcases h with h | h | h
            · exact h rfl
            · exact HPX.out h
            · exact HO.out h
          have HNB := hid hnb
          clear hnb
          by_cases hob : OBad hh m
          · rw [dec_true hob] at HCB
            have HOB := hid hob
            clear hob
            go_wp2_with (go_at_call 45; refine (HCB.out HS6.out).mono ?_; rintro e w8 ⟨rfl, hb⟩; have HB8 := hid (on HB6.out hb); clear hb)
            go_ret
            exact ⟨4, rfl, .inr (.inr (.inl ⟨HH.out, HNB.out, HOB.out, rfl⟩)), HB8.out⟩
          · rw [dec_false hob] at HCB
            have HOB := hid hob
            clear hob
            go_wp2_with (go_at_call 45; refine (HCB.out HS6.out).mono ?_; rintro e w8 ⟨rfl, hb⟩; have HB8 := hid (on HB6.out hb); clear hb)
            go_ret
            exact ⟨0, rfl, .inr (.inr (.inr ⟨HH.out, HNB.out, HOB.out, rfl⟩)), HB8.out⟩
    · have hd : ((m : Int) != (n : Int)) = true := by simp; omega
      have hd' : (m != n) = true := by simp; omega
      have HM := hid hmn
      clear hmn
      go_quiet (fail)
      go_wp2
      go_ret
      exact ⟨6, rfl, .inr (.inl ⟨HH.out, .inl HM.out, rfl⟩), below_draws HB4.out _⟩
  · have HCH := hid (chints_any A n c hh 32 w3 (by unfold maxLen; omega) (by omega) (HR.out.now HB3.out))
    rw [dec_false hH] at HCH
    have HH := hid hH
    clear hH
    go_wp2_with (go_at_call 32; refine HCH.out.mono ?_; rintro e w4 ⟨rfl, hb⟩; have HB4 := hid (on HB3.out hb); clear hb)
    go_ret
    exact ⟨14, rfl, .inl ⟨HH.out, rfl⟩, HB4.out⟩
end Go.Proofs.Ytcibhmbneedghaa
