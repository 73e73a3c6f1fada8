/-
  What is proved: store's fill puts numbers to places one by one. Conditions: the places are whole numbers' cells, none of them in the reader's block; what is told of the world holds over each store.
-/
import Derived.Test.YtincndblpbdnlaaRdr
namespace Go.Proofs.Ytincndblpbdnlaa
open Go.RowKit

theorem O1.set (w : World) (p : Addr) (u : Value) (h : ∀ x, w.cell? p ≠ some (.int .u8 x)) : O1 w (w.setCell p u) p.block :=
  ⟨rfl, rfl, rfl, by rw [setSize]; exact Nat.le_refl _, fun j _ h2 _ => Below.heap_setCell w p u j h2, Stay.set w p u h⟩
set_option maxRecDepth 100000 in
set_option maxHeartbeats 800000 in
theorem fill_any {l : List Int} (hl : Ok1 l) (kr : Nat) (o : Option Nat) (ps : List Addr) (n : Nat) (hn : ps.length = n) (hn1 : n ≤ 100) (A : Option Addr) (c : Nat) (I : Nat → World → Prop) (w : World) (hr : Rq w kr l o) (hI : I 0 w)
    (hslice : ∀ i w', I i w' → Rv w' w'.heap.size A (ps.map fun p => .pointer (some p)))
    (hkeep : ∀ i w1 w2, I i w1 → O1 w1 w2 kr → I i w2)
    (hst : ∀ i p w1, ps[i]? = some p → I i w1 → p.block ≠ kr ∧ w1.frozen? p = false ∧ (∃ x : Int, w1.cell? p = some (.int .i64 x)) ∧ I (i + 1) (w1.setCell p (.int .i64 (nth l o i)))) :
    Calls Try.prog 54 #[.func (.func 55) #[.pointer (some ⟨kr, 0, none⟩)] #[], .slice A n c] w fun e w' => e = .returned (.tuple #[]) ∧ I n w' ∧ Rq w' kr l (stt l o n) := by
  have HI := hid hI
  have HR := hid hr
  have HS := hid hslice
  have HK := hid hkeep
  have HT := hid hst
  have HN := hid hn
  have HL := hid hl
  clear hI hr hslice hkeep hst hn hl
  go_enter Try.func54, Try.ntmps54
  go_wp2
  go_loopw [8] (fun i wr => ∃ k : Nat, i = .int .i64 k ∧ k ≤ n ∧ Hid (I k wr) ∧ Hid (Rq wr kr l (stt l o k))) (fun i _ => n - (intOf i).toNat)
  case atStart => exact ⟨0, by rfl, by omega, HI, HR⟩
  case round =>
    obtain ⟨k, rfl, hk, hi, hq⟩ := hrel
    by_cases hlt : k < n
    · have hlt' : (k : Int) < (n : Int) := by omega
      have hkp : k < ps.length := by rw [HN.out]; exact hlt
      obtain ⟨ad, rfl, hb, hc⟩ := HS.out k _ hi.out k _ (by rw [List.getElem?_map, List.getElem?_eq_getElem hkp]; rfl)
      generalize hp : ps[k] = p at hc
      have HP := hid (show ps[k]? = some p by rw [List.getElem?_eq_getElem hkp, hp])
      clear hp hb
      go_wp2_with (go_at_call 55; refine (number_any HL.out hq.out).mono ?_; rintro e w1 ⟨rfl, hr1, ho1⟩; have HR1 := hid hr1; have HO1 := hid ho1; have HI1 := hid (HK.out _ _ _ hi.out ho1); obtain ⟨q1, q2, ⟨x, q3⟩, q4⟩ := HT.out k p w1 HP.out HI1.out; have HI2 := hid q4; have HQ1 := hid q1; clear hr1 ho1 q4 q1)
      go_roundw
      case rel =>
        refine ⟨k + 1, by go_num, by omega, HI2, ?_⟩
        exact hid (HR1.out.only (O1.set w1 p _ fun y e => by rw [q3] at e; cases e) (Ne.symm HQ1.out))
      case measure => simp [intOf]; omega
    · have hkn : k = n := by omega
      subst hkn
      go_wp2
      go_end0
      exact ⟨rfl, hi.out, hq.out⟩
end Go.Proofs.Ytincndblpbdnlaa
