/-
  What is proved: Get answers the number that is told from a byte on, as shortly as can be, and where it ends; else an error, and 0 twice. Conditions: the place lies in the list; the list is no longer than 2^46.
-/
import Derived.Test.YtbcejfonkehjgaaGreatDoorK19
import Derived.Test.YtbcejfonkehjgaaGreatDoorK29
import Derived.ScopeJumps
import Derived.Test.YtbcejfonkehjgaaGreatDoorK30
namespace Go.Proofs.YtbcejfonkehjgaaGreatDoor
open Go.RowKit

def Got (l : List Int) (p : Nat) (e : Ending) : Prop :=
  (∃ t, scan 9 (l.drop p) = some t ∧ Good t ∧ e = .returned (.tuple #[.int .i64 (val t : Nat), .int .i64 (p + t.length : Nat), .int .i64 0])) ∨
  (∃ x : Int, x ≠ 0 ∧ (∀ t, scan 9 (l.drop p) = some t → ¬ Good t) ∧ e = .returned (.tuple #[.int .i64 0, .int .i64 0, .int .i64 x]))

set_option maxRecDepth 100000 in
set_option maxHeartbeats 2000000 in
theorem get_any (A : Option Addr) (c p : Nat) (l : List Int) (w : World) (C : Nat) (hlen : l.length ≤ 70368744177000) (hp : p ≤ l.length) (hb : ∀ x ∈ l, 0 ≤ x ∧ x ≤ 255) (ra : Rd w C A l) :
    Calls Tryz.prog 140 #[.slice A l.length c, .int .i64 p] w fun e w' => Got l p e ∧ ∃ k, w' = w.drewN k := by
  have HB := hid hb
  clear hb
  go_enter Tryz.func140, Tryz.ntmps140
  go_wp2
  refine wp_scope_jumps 0 (fun a' w' => ∃ (m q : Nat) (d : Int) (u2 u3 u6 u8 u9 u10 u11 u12 u13 u14 u15 u16 u17 u18 u19 u20 u21 u22 u23 u24 u25 u26 u27 u28 u29 u30 u31 u32 u33 u34 u35 u36 u37 u38 u39 u40 u41 u42 u43 u44 u45 u46 u47 u48 u49 u50 u51 u52 u53 u54 u55 u56 : Value), a' = { tmps := #[.slice A l.length c, .int .i64 (p : Nat), u2, u3, .int .i64 (m : Nat), .int .i64 (q : Nat), u6, .int .u8 d, u8, u9, u10, u11, u12, u13, u14, u15, u16, u17, u18, u19, u20, u21, u22, u23, u24, u25, u26, u27, u28, u29, u30, u31, u32, u33, u34, u35, u36, u37, u38, u39, u40, u41, u42, u43, u44, u45, u46, u47, u48, u49, u50, u51, u52, u53, u54, u55, u56], defers := [] } ∧ w' = w ∧
    ∃ t, scan 9 (l.drop p) = some t ∧ m = val t ∧ q = p + t.length ∧ t.getLast? = some d ∧ q ≤ l.length) (fun _ _ => 0) rfl ?_ ?_
  · go_wp2
    go_loop [4, 5, 7, 17] (fun n q d i => ∃ (k m q' : Nat) (d' : Int), i = .int .i64 k ∧ n = .int .i64 m ∧ q = .int .i64 q' ∧ d = .int .u8 d' ∧ Gone l p k m) (fun _ _ _ i => 9 - (intOf i).toNat)
    case atStart => exact ⟨0, 0, 0, 0, rfl, rfl, rfl, rfl, Gone.first l p hp⟩
    case round =>
      obtain ⟨k, m, q, d, rfl, rfl, rfl, rfl, hg⟩ := hrel
      have hk := hg.1
      have hpk := hg.2.1
      by_cases h9 : k < 9
      · by_cases hlt : p + k < l.length
        · obtain ⟨a, rfl, _, hc⟩ := ra.get hlt
          have HO := hid (orStep m k l[p + k] h9 hg.lt (HB.out _ (List.getElem_mem hlt)).1)
          have hx0 := (HB.out _ (List.getElem_mem hlt)).1
          have HG := hid hg
          clear hg
          by_cases h128 : l[p + k] < 128
          · obtain ⟨t, ht1, ht2, ht3, ht4⟩ := HG.out.last h9 hlt h128
            have HT1 := hid ht1
            have HT2 := hid ht2
            have HT3 := hid ht3
            have HT4 := hid ht4
            clear ht1 ht2 ht3 ht4
            go_wp2
            rw [HO.out, show (p : Int) + (k : Int) + 1 = ((p + k + 1 : Nat) : Int) from by omega]
            go_step3
            refine ⟨rfl, _, p + k + 1, _, _, _, _, _, _, _, _, _, _, _, _, _, _, _, _, _, _, _, _, _, _, _, _, _, _, _, _, _, _, _, _, _, _, _, _, _, _, _, _, _, _, _, _, _, _, _, _, _, _, _, _, _, rfl, rfl, t, HT1.out, HT2.out.symm, by have := HT3.out; omega, HT4.out, by omega⟩
          · have HG1 := hid (HG.out.on h9 hlt h128)
            go_wp2
            rw [HO.out]
            go_round
            case rel => exact ⟨k + 1, _, p + k + 1, _, by go_num, rfl, by go_num, rfl, HG1.out⟩
            case measure => simp [intOf]; omega
        · have HG := hid (hg.short h9 (by omega))
          clear hg
          go_wp2
          simp only [Exit.jump]
          go_ret3
          exact ⟨.inr ⟨1, by decide, (fun t ht => by rw [HG.out] at ht; cases ht), rfl⟩, 0, rfl⟩
      · have h99 : k = 9 := by omega
        subst h99
        have HG := hid hg.long
        clear hg
        go_wp2
        simp only [Exit.jump]
        go_ret3
        exact ⟨.inr ⟨2, by decide, (fun t ht => by rw [HG.out] at ht; cases ht), rfl⟩, 0, rfl⟩
  · rintro a' w' ⟨m, q, d, u2, u3, u6, u8, u9, u10, u11, u12, u13, u14, u15, u16, u17, u18, u19, u20, u21, u22, u23, u24, u25, u26, u27, u28, u29, u30, u31, u32, u33, u34, u35, u36, u37, u38, u39, u40, u41, u42, u43, u44, u45, u46, u47, u48, u49, u50, u51, u52, u53, u54, u55, u56, rfl, rfl, t, ht, rfl, rfl, hl, hq⟩
    have HL := hid hl
    have HS := hid ht
    clear hl ht
    by_cases hd : d = 0
    · subst hd
      by_cases hl1 : 1 < t.length
      · go_wp2
        simp only [Exit.jump]
        go_ret3
        refine ⟨.inr ⟨2, by decide, fun t' ht' => ?_, rfl⟩, 0, rfl⟩
        rw [HS.out] at ht'
        cases ht'
        rintro (h | h)
        · omega
        · exact h HL.out
      · go_wp2
        simp only [Exit.jump]
        go_ret3
        refine ⟨.inl ⟨t, HS.out, .inl ?_, rfl⟩, 0, rfl⟩
        have := scan_ne HS.out
        have : t.length ≠ 0 := fun h => this (List.eq_nil_of_length_eq_zero h)
        omega
    · have hne : (d == 0) = false := by simpa using hd
      have HD := hid hd
      clear hd
      go_wp2
      simp only [Exit.jump]
      go_ret3
      exact ⟨.inl ⟨t, HS.out, .inr (by rw [HL.out]; simpa using HD.out), rfl⟩, 0, rfl⟩
end Go.Proofs.YtbcejfonkehjgaaGreatDoor
