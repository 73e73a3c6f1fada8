/-
  What is proved: conf's Right tells whether a configuration may be; what it writes lies in new memory. Condition: its hints are read as such.
-/
import Derived.Test.YtehmcnghincakaaPlaces
import Derived.Test.YtehmcnghincakaaBx
namespace Go.Proofs.Ytehmcnghincakaa
open Go.RowKit

/-- a configuration's cells: sixteen numbers, the hints -/
def cfgC (c : Nat → Int) (A : Option Addr) (n cp : Nat) : Array Value := #[.int .i64 (c 0), .int .i64 (c 1), .int .i64 (c 2), .int .i64 (c 3), .int .i64 (c 4), .int .i64 (c 5), .int .i64 (c 6), .int .i64 (c 7),
  .int .i64 (c 8), .int .i64 (c 9), .int .i64 (c 10), .int .i64 (c 11), .int .i64 (c 12), .int .i64 (c 13), .int .i64 (c 14), .int .i64 (c 15), .slice A n cp]
theorem cfgC_at (c : Nat → Int) (A : Option Addr) (n cp : Nat) : ∀ i, i < 16 → (cfgC c A n cp)[i]? = some (.int .i64 (c i))
  | 0, _ | 1, _ | 2, _ | 3, _ | 4, _ | 5, _ | 6, _ | 7, _ | 8, _ | 9, _ | 10, _ | 11, _ | 12, _ | 13, _ | 14, _ | 15, _ => rfl
  | n + 16, h => absurd h (by omega)
theorem plc_at (g : Nat) : ∀ i, i < 16 → (plc g)[i * 3]? = some (.pointer (some ⟨g, i, none⟩)) ∧ (plc g)[i * 3 + 1]? = some (.int .i64 (lo i)) ∧ (plc g)[i * 3 + 2]? = some (.int .i64 (hi i))
  | 0, _ | 1, _ | 2, _ | 3, _ | 4, _ | 5, _ | 6, _ | 7, _ | 8, _ | 9, _ | 10, _ | 11, _ | 12, _ | 13, _ | 14, _ | 15, _ => ⟨rfl, rfl, rfl⟩
  | n + 16, h => absurd h (by omega)

/-- a configuration may be -/
def RightP (c : Nat → Int) (h : Nat → Hn) (n : Nat) : Prop :=
  (∀ i, i < 16 → lo i ≤ c i ∧ c i ≤ hi i) ∧ (c 5 = 0 ∨ c 4 = 2) ∧ (c 5 = 2 ∨ n = 0) ∧ HintsP h n (c 2)

set_option maxRecDepth 100000 in
set_option maxHeartbeats 1000000 in
theorem right_any (A : Option Addr) (n cp : Nat) (c : Nat → Int) (hh : Nat → Hn) (w : World) (hn : n ≤ maxLen) (hr : Rv w w.heap.size A (hvs hh n)) :
    Calls Try.prog 11 #[.agg (cfgC c A n cp)] w fun e w' => e = .returned (.bool (dec (RightP c hh n))) ∧ Below w.heap.size w w' := by
  unfold maxLen at hn
  have HR := hid hr
  clear hr
  go_enter Try.func11, Try.ntmps11
  go_wp2_with fail
  refine (places_any w.heap.size _).mono ?_
  rintro e w1 ⟨rfl, hb1⟩
  have HB1 := hid (on (below_alloc w (.cells (cfgC c A n cp) 25)) hb1)
  have HX1 := hid ((Bx.new w 25 (cfgC c A n cp)).next hb1)
  clear hb1
  go_wp2_with (refine wpList_store_new rfl _ _ _ rfl rfl _ (plc _) rfl rfl (by kernel_rfl) rfl (by simp [plc, Value.oneCell']) ?_)
  have HX := hid (HX1.out.alloc (.cells (plc w.heap.size) 48))
  have HP := hid (Bx.new w1 48 (plc w.heap.size))
  have HB := hid (on HB1.out (below_alloc w1 (.cells (plc w.heap.size) 48)))
  have hgw : w.heap.size < (w1.alloc (.cells (plc w.heap.size) 48)).heap.size := HX.out.lt
  clear HX1 HB1
  generalize w1.alloc (.cells (plc w.heap.size) 48) = w2 at *
  generalize w1.heap.size = k at *
  clear hgw
  go_loop [7] (fun i => ∃ q : Nat, i = .int .i64 q ∧ q ≤ 16 ∧ ∀ t, t < q → lo t ≤ c t ∧ c t ≤ hi t) (fun i => 16 - (intOf i).toNat)
  case atStart => exact ⟨0, rfl, by omega, fun t ht => absurd ht (Nat.not_lt_zero t)⟩
  case round =>
    obtain ⟨q, rfl, hq, hok⟩ := hrel
    have HO := hid hok
    clear hok
    by_cases hlt : q < 16
    · have hlt' : (q : Int) < 16 := by omega
      obtain ⟨p0, p1, p2⟩ := plc_at w.heap.size q hlt
      rw [← HP.out.cell] at p0 p1 p2
      have p3 := cfgC_at c A n cp q hlt
      rw [← HX.out.cell] at p3
      obtain ⟨x, hx⟩ : ∃ x, c q = x := ⟨_, rfl⟩
      obtain ⟨l, hl⟩ : ∃ x, lo q = x := ⟨_, rfl⟩
      obtain ⟨m, hm⟩ : ∃ x, hi q = x := ⟨_, rfl⟩
      rw [hx] at p3
      rw [hl] at p1
      rw [hm] at p2
      have HQ := hid (show (lo q ≤ c q ∧ c q ≤ hi q) ↔ (l ≤ x ∧ x ≤ m) by rw [hx, hl, hm])
      clear hx hl hm
      go_wp2_with fail
      all_goals
        first
          | (go_ret
             refine ⟨?_, HB.out⟩
             rw [dec_false]
             · rfl
             · intro h
               have := HQ.out.1 (h.1 q hlt)
               omega)
          | (go_round
             case rel =>
               refine ⟨q + 1, by go_num, by omega, fun t ht => ?_⟩
               by_cases e : t = q
               · rw [e]; exact HQ.out.2 (by assumption)
               · exact HO.out t (by omega)
             case measure => simp [intOf]; omega)
    · have hlt' : ¬ (q : Int) < 16 := by omega
      obtain rfl : q = 16 := by omega
      have c2 := HX.out.cell 2
      have c4 := HX.out.cell 4
      have c5 := HX.out.cell 5
      have c16 := HX.out.cell 16
      rw [cfgC_at _ _ _ _ _ (by omega)] at c2 c4 c5
      rw [show (cfgC c A n cp)[16]? = some (.slice A n cp) from rfl] at c16
      have HC := hid (show c 2 = c 2 from rfl)
      go_wp2_with fail
      all_goals
        first
          | (go_ret
             refine ⟨?_, HB.out⟩
             rw [dec_false]
             · rfl
             · intro h
               have h1 := h.2.1
               have h2 := h.2.2.1
               simp at *
               omega)
          | (refine (chints_any A n cp hh _ _ (by unfold maxLen; omega) (by have := (HO.out 2 (by omega)).1; simp [lo] at this; omega) (HR.out.now HB.out)).mono ?_
             rintro e w3 ⟨rfl, hb3⟩
             go_wp2_with fail
             go_ret
             refine ⟨?_, on HB.out hb3⟩
             have hh1 : c 5 = 0 ∨ c 4 = 2 := by simp at *; omega
             have hh2 : c 5 = 2 ∨ n = 0 := by simp at *; omega
             rw [dec_congr (show RightP c hh n ↔ HintsP hh n (c 2) from ⟨fun h => h.2.2.2, fun h => ⟨HO.out, hh1, hh2, h⟩⟩)]
             rfl)
end Go.Proofs.Ytehmcnghincakaa
