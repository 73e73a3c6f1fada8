/-
  What is proved: a whole aggregate stored into a block that is known whole, as a step of the walk; results of which the first lies in such a block. No condition on a program.
-/
import Derived.Test.YtmfdlkkligjcbaaGreatJ03
import Derived.Test.YtmfdlkkligjcbaaGreatJ16
import Derived.Laws.CopyOwn
import Derived.Test.YtmfdlkkligjcbaaGreatJ08
import Derived.Test.YtmfdlkkligjcbaaGreatRows
import Derived.BigRegion
import Derived.BigFrame
import Derived.Deep.LoopGhost
import Derived.Deep.DeepCutAuto
import Derived.Deep.CutBlock
import Derived.Deep.DeepMust
import Derived.Deep.QuietTactic
import Derived.Deep.RegionHeld3
import Derived.Deep.RegionLaw
import Derived.Laws.OwnMore
import Derived.Laws.EntriesVeiled
import Derived.Test.YtmfdlkkligjcbaaGreatJ15
namespace Go.Proofs.YtmfdlkkligjcbaaGreat
open Go.RowKit

section
variable {w w' : World} {g : Nat} {t : TypeId} {cs cs' : Array Value}
end
section
variable {P : Program} {w : World} {ops : Array Oper} {rest : List Oper} {o : Oper} {a : Act} {Q : Exit → Act → World → Prop}
end
end Go.Proofs.YtmfdlkkligjcbaaGreat
namespace Go.Proofs.YtmfdlkkligjcbaaGreat
open Go.RowKit

set_option maxHeartbeats 400000 in
theorem outs1_any (x lo hi : Int) (p q : Addr) (w : World) (hp : w.cell? p = some (.int .i64 lo)) (hq : w.cell? q = some (.int .i64 hi)) :
    Calls Tryz.prog 79 #[.int .i64 x, .pointer (some p), .pointer (some q)] w fun e w' => e = .returned (.bool (decide (x < lo ∨ hi < x))) ∧ w = w' := by
  by_cases h : x < lo
  · rw [decide_eq_true (Or.inl h)]
    go_enter Tryz.func79, Tryz.ntmps79
    go_wp2
    go_ret
    exact ⟨rfl, rfl⟩
  · by_cases h2 : x > hi
    · rw [decide_eq_true (Or.inr h2)]
      go_enter Tryz.func79, Tryz.ntmps79
      go_wp2
      go_ret
      exact ⟨rfl, rfl⟩
    · rw [decide_eq_false (by omega)]
      go_enter Tryz.func79, Tryz.ntmps79
      go_wp2
      go_ret
      exact ⟨rfl, rfl⟩
/-- what outside answers -/
def OutV (w : World) (lo hi : Int) (v : Value) : Prop := ∃ p q : Addr, v = .func (.func 79) #[] #[.pointer (some p), .pointer (some q)] ∧ w.cell? p = some (.int .i64 lo) ∧ w.cell? q = some (.int .i64 hi) ∧ p.block < w.heap.size ∧ q.block < w.heap.size
theorem OutV.below {w w' : World} {lo hi : Int} {v : Value} (h : OutV w lo hi v) (hb : Below w.heap.size w w') : OutV w' lo hi v := by
  obtain ⟨p, q, e, h1, h2, h3, h4⟩ := h
  exact ⟨p, q, e, (hb.cell h3).trans h1, (hb.cell h4).trans h2, Nat.lt_of_lt_of_le h3 hb.size, Nat.lt_of_lt_of_le h4 hb.size⟩
theorem outside_any (lo hi : Int) (w : World) :
    Calls Tryz.prog 64 #[.int .i64 lo, .int .i64 hi] w fun e w' => ∃ v, e = .returned v ∧ OutV w' lo hi v ∧ Below w.heap.size w w' := by
  have hmf : ∀ (fn : Fn) (first cap : Array Value) (w : World), (Instr.makeFunc fn first cap).run Tryz.prog w = .ok (.func fn first cap) w := fun _ _ _ _ => rfl
  have hb := on (below_alloc w (.cells #[.int .i64 lo] 3)) (below_alloc (w.alloc (.cells #[.int .i64 lo] 3)) (.cells #[.int .i64 hi] 3))
  have h1 : w.heap.size < (w.alloc (.cells #[.int .i64 lo] 3)).heap.size := by rw [World.size_alloc]; omega
  have c1 : ((w.alloc (.cells #[.int .i64 lo] 3)).alloc (.cells #[.int .i64 hi] 3)).cell? ⟨w.heap.size, 0, none⟩ = some (.int .i64 lo) :=
    ((below_alloc (w.alloc (.cells #[.int .i64 lo] 3)) _).cell (p := ⟨w.heap.size, 0, none⟩) h1).trans (World.cell?_alloc_new w #[.int .i64 lo] 3 0)
  have c2 : ((w.alloc (.cells #[.int .i64 lo] 3)).alloc (.cells #[.int .i64 hi] 3)).cell? ⟨(w.alloc (.cells #[.int .i64 lo] 3)).heap.size, 0, none⟩ = some (.int .i64 hi) := World.cell?_alloc_new _ #[.int .i64 hi] 3 0
  rw [World.size_alloc] at c2
  have HB := hid hb
  have HC := hid (And.intro c1 c2)
  clear hb c1 c2
  go_enter Tryz.func64, Tryz.ntmps64
  go_wp2
  go_ret
  refine ⟨_, rfl, ⟨_, _, rfl, HC.out.1, HC.out.2, ?_, ?_⟩, HB.out⟩
  · rw [World.size_alloc]; show w.heap.size < _; omega
  · rw [World.size_alloc, World.size_alloc]; show w.heap.size + 1 < _; omega
/-- one of the first n lies outside -/
def Outs (lo hi : Int) (f : Nat → Int) (n : Nat) : Prop := ∃ i, i < n ∧ (f i < lo ∨ hi < f i)
set_option maxHeartbeats 400000 in
theorem idx_out (b n c : Nat) (f : Nat → Int) (lo hi : Int) (v : Value) (w : World) (hn : n ≤ 1000) (hv : OutV w lo hi v) (hf : ∀ i, i < n → w.cell? ⟨b, i, none⟩ = some (.int .i64 (f i))) :
    Calls Tryz.prog 80 #[.slice (some ⟨b, 0, none⟩) n c, v] w fun e w' => ∃ r : Int, e = .returned (.int .i64 r) ∧ (0 ≤ r ↔ Outs lo hi f n) ∧ w = w' := by
  obtain ⟨p, q, rfl, hp, hq, -, -⟩ := hv
  have HF := hid hf
  have HO := hid (fun x => outs1_any x lo hi p q w hp hq)
  clear hf hp hq
  go_enter Tryz.func80, Tryz.ntmps80
  go_wp2
  go_loopg [8] n (fun gk t8 wr => ∃ j : Nat, j + gk = n ∧ t8 = .int .i64 j ∧ (∀ i, i < j → ¬ (f i < lo ∨ hi < f i)) ∧ wr = w)
  case atStart => exact ⟨0, by omega, rfl, fun i hi => absurd hi (Nat.not_lt_zero i), rfl⟩
  case round =>
    obtain ⟨j, hj, rfl, hall, rfl⟩ := hrel
    have HALL := hid hall
    clear hall
    by_cases hlt : j < n
    · have hlt' : (j : Int) < (n : Int) := by omega
      have c0 := HF.out j hlt
      by_cases ho : f j < lo ∨ hi < f j
      · have HX := hid (show Outs lo hi f n from ⟨j, hlt, ho⟩)
        have HO' := hid (fun x => (show x = f j → _ from fun e => by have h := HO.out x; rw [decide_eq_true (by rw [e]; exact ho)] at h; exact h))
        generalize f j = u at *
        clear ho
        go_wp2_with (go_at_call 79; refine (HO'.out _ rfl).mono ?_; rintro e w' ⟨rfl, rfl⟩)
        go_ret
        exact ⟨(j : Int), rfl, ⟨fun _ => HX.out, fun _ => by omega⟩, rfl⟩
      · have HN := hid (show ∀ i, i < j + 1 → ¬ (f i < lo ∨ hi < f i) from fun i hi => by
          by_cases e : i = j
          · rw [e]; exact ho
          · exact HALL.out i (by omega))
        have HO' := hid (fun x => (show x = f j → _ from fun e => by have h := HO.out x; rw [decide_eq_false (by rw [e]; exact ho)] at h; exact h))
        generalize f j = u at c0 ho HO'
        clear ho
        go_wp2_with (go_at_call 79; refine (HO'.out _ rfl).mono ?_; rintro e w' ⟨rfl, rfl⟩)
        go_roundg (gk - 1)
        case measure => omega
        case rel => exact ⟨j + 1, by omega, by go_num, HN.out, rfl⟩
    · have hlt' : ¬ (j : Int) < (n : Int) := by omega
      obtain rfl : j = n := by omega
      go_wp2
      go_ret
      refine ⟨-1, rfl, ⟨fun h => by omega, fun ⟨i, h1, h2⟩ => absurd h2 (HALL.out i h1)⟩, rfl⟩
theorem contains_out (b n c : Nat) (f : Nat → Int) (lo hi : Int) (v : Value) (w : World) (hn : n ≤ 1000) (hv : OutV w lo hi v) (hf : ∀ i, i < n → w.cell? ⟨b, i, none⟩ = some (.int .i64 (f i))) :
    Calls Tryz.prog 65 #[.slice (some ⟨b, 0, none⟩) n c, v] w fun e w' => e = .returned (.bool (dec (Outs lo hi f n))) ∧ w = w' := by
  have HI := hid (idx_out b n c f lo hi v w hn hv hf)
  obtain ⟨p, q, rfl, -, -, -, -⟩ := hv
  clear hf
  go_enter Tryz.func65, Tryz.ntmps65
  go_wp2_with (go_at_call 80; refine HI.out.mono ?_; rintro e w' ⟨r, rfl, hr, rfl⟩; have HR := hid hr; clear hr)
  go_ret
  exact ⟨ret_dec (by rw [← HR.out]; simp), rfl⟩
end Go.Proofs.YtmfdlkkligjcbaaGreat
namespace Go.Proofs.YtmfdlkkligjcbaaGreat
open Go.RowKit

set_option maxHeartbeats 400000 in
theorem in_any (f s o : Int) (l : Bool) (x : Nat) (h0 : 0 ≤ f) (h1 : f ≤ 32) (hx : x ≤ 32) (_ : s ≤ 32) (w : World) :
    Calls Tryz.prog 61 #[.agg #[.int .i64 f, .int .i64 s, .int .i64 o, .bool l], .int .i64 x] w fun e w' => e = .returned (.bool (dec (Has ⟨f, s, o, l⟩ x))) ∧ Below w.heap.size w w' := by
  go_enter Tryz.func61, Tryz.ntmps61
  go_wp2
  all_goals
    go_ret
    refine ⟨ret_dec ?_, below_alloc w _⟩
    show _ ↔ f ≤ (x : Int) ∧ (x : Int) < f + s
    first
      | (simp only [decide_eq_true_eq]; omega)
      | exact ⟨(fun h => by cases h), (fun h => by omega)⟩

set_option maxRecDepth 100000 in
set_option maxHeartbeats 2000000 in
theorem rhints_any (A : Option Addr) (n c : Nat) (hh : Nat → Hn) (b : Int) (w : World) (hn : n ≤ maxLen) (hr : Rv w w.heap.size A (hvs hh n)) :
    Calls Tryz.prog 36 #[.slice A n c, .int .i64 b] w fun e w' => e = .returned (.bool (dec (HintsP hh n b))) ∧ Below w.heap.size w w' := by
  unfold maxLen at hn
  have HR := hid hr
  clear hr
  by_cases h8 : n ≤ 8
  · have h8' : ¬ (n : Int) > 8 := by omega
    go_enter Tryz.func36, Tryz.ntmps36
    go_wp2
    go_loopw [5] (fun i wr => ∃ q : Nat, i = .int .i64 q ∧ q ≤ n ∧ Below w.heap.size w wr ∧ (∀ i, i < q → okH (hh i) b) ∧ ∀ i, i < q → ∀ k, k < i → ∀ x, ¬ (Has (hh i) x ∧ Has (hh k) x)) (fun i _ => n - (intOf i).toNat)
    case atStart => exact ⟨0, rfl, Nat.zero_le _, Below.refl _ _, fun i hi => absurd hi (Nat.not_lt_zero i), fun i hi => absurd hi (Nat.not_lt_zero i)⟩
    case round =>
      obtain ⟨q, rfl, hq, hbel, hok, hap⟩ := hrel
      have HB := hid hbel
      have HO := hid hok
      have HP := hid hap
      clear hbel hok hap
      by_cases hlt : q < n
      · have hlt' : (q : Int) < (n : Int) := by omega
        obtain ⟨ad, rfl, hat⟩ := (HR.out.now HB.out).hint hlt
        obtain ⟨⟨f, s, o, l⟩, hH⟩ : ∃ x, hh q = x := ⟨_, rfl⟩
        rw [hH] at hat
        obtain ⟨_, c0, c1, c2, c3⟩ := hat
        dsimp only at c0 c1 c2 c3
        have HH := hid hH
        clear hH
        have HB2 := hid (on HB.out (below_alloc wr (.cells #[.int .i64 f, .int .i64 s, .int .i64 o, .bool l] 65)))
        have HX := hid (hbox_new wr ⟨f, s, o, l⟩ 65)
        by_cases hfit : okH ⟨f, s, o, l⟩ b
        · have HF := hid hfit
          have hfit' : 0 ≤ f ∧ 1 ≤ s ∧ f + s ≤ b ∧ f + s ≤ 32 ∧ 0 ≤ o ∧ o ≤ 2147483647 := hfit
          obtain ⟨F, rfl⟩ : ∃ F : Nat, f = F := ⟨f.toNat, by omega⟩
          obtain ⟨S, rfl⟩ : ∃ S : Nat, s = S := ⟨s.toNat, by omega⟩
          have h32 : F + S ≤ 32 := by omega
          have n1 : ¬ (F : Int) < 0 := by omega
          have n2 : ¬ (S : Int) < 1 := by omega
          have n3 : ¬ (F : Int) > 32 := by omega
          have n4 : ¬ (S : Int) > 32 := by omega
          have n5 : ¬ (F : Int) + (S : Int) > b := by omega
          have n6 : ¬ (F : Int) + (S : Int) > 32 := by omega
          have n7 : ¬ o < 0 := by omega
          have n8 : ¬ o > 2147483647 := by omega
          clear hfit hfit'
          have hg : wr.heap.size < (wr.alloc (.cells #[.int .i64 (F : Int), .int .i64 (S : Int), .int .i64 o, .bool l] 65)).heap.size := by rw [World.size_alloc]; omega
          go_wp2_with fail
          generalize wr.heap.size = g at *
          go_loopw [7] (fun i wi => ∃ x : Nat, i = .int .i64 x ∧ x ≤ 32 ∧ Below w.heap.size w wi ∧ HAt wi ⟨g, 0, none⟩ ⟨F, S, o, l⟩ ∧ ∀ y, y < x → ∀ k, k < q → ¬ (Has ⟨F, S, o, l⟩ y ∧ Has (hh k) y)) (fun i _ => 32 - (intOf i).toNat)
          case atStart => exact ⟨0, rfl, by omega, HB2.out, HX.out, fun y hy => absurd hy (Nat.not_lt_zero y)⟩
          case round =>
            obtain ⟨x, rfl, hx, hbel, hat, hno⟩ := hrel
            have HBi := hid hbel
            have HXi := hid hat
            have HN := hid hno
            clear hbel hat hno
            by_cases hx32 : x < 32
            · have hx32' : (x : Int) < 32 := by omega
              go_wp2_with fail
              go_loopw [8] (fun i wk => ∃ k : Nat, i = .int .i64 k ∧ k ≤ q ∧ Below w.heap.size w wk ∧ HAt wk ⟨g, 0, none⟩ ⟨F, S, o, l⟩ ∧ ∀ k', k' < k → ¬ (Has ⟨F, S, o, l⟩ x ∧ Has (hh k') x)) (fun i _ => q - (intOf i).toNat)
              case atStart => exact ⟨0, rfl, Nat.zero_le _, HBi.out, HXi.out, fun k hk => absurd hk (Nat.not_lt_zero k)⟩
              case round =>
                obtain ⟨k, rfl, hk, hbel, hat, hno⟩ := hrel
                have HBk := hid hbel
                have HXk := hid hat
                have HM := hid hno
                have x0 := hat.f
                have x1 := hat.s
                have x2 := hat.o
                have x3 := hat.l
                dsimp only at x0 x1 x2 x3
                clear hbel hat hno
                by_cases hkq : k < q
                · have hkq' : (k : Int) < (q : Int) := by omega
                  have hkn : (k : Int) < (n : Int) := by omega
                  go_wp2_with fail
                  refine (in_any F S o l x (by omega) (by omega) (by omega) (by omega) _).mono ?_
                  rintro e w2 ⟨rfl, hb2⟩
                  have HB3 := hid (on HBk.out hb2)
                  have HX3 := hid (HXk.out.next hb2)
                  clear hb2 x0 x1 x2 x3
                  by_cases hd : Has ⟨F, S, o, l⟩ x
                  · rw [dec_true hd]
                    have HD := hid hd
                    clear hd
                    obtain ⟨_, e, hat⟩ := (HR.out.now HB3.out).hint (show k < n by omega)
                    cases e
                    have hokk := HO.out k hkq
                    obtain ⟨⟨fk, sk, ok, lk⟩, hK⟩ : ∃ x, hh k = x := ⟨_, rfl⟩
                    rw [hK] at hat hokk
                    obtain ⟨_, c0, c1, c2, c3⟩ := hat
                    dsimp only at c0 c1 c2 c3
                    have hokk' : 0 ≤ fk ∧ 1 ≤ sk ∧ fk + sk ≤ b ∧ fk + sk ≤ 32 ∧ 0 ≤ ok ∧ ok ≤ 2147483647 := hokk
                    have HK := hid hK
                    clear hK hokk
                    go_wp2_with fail
                    refine (in_any fk sk ok lk x (by omega) (by omega) (by omega) (by omega) _).mono ?_
                    rintro e w3 ⟨rfl, hb3⟩
                    have HB4 := hid (on HB3.out hb3)
                    have HX4 := hid (HX3.out.next hb3)
                    clear hb3 c0 c1 c2 c3
                    by_cases hd : Has ⟨fk, sk, ok, lk⟩ x
                    · rw [dec_true hd]
                      have HE := hid hd
                      clear hd
                      go_wp2_with fail
                      go_ret
                      refine ⟨?_, HB4.out⟩
                      rw [dec_false]
                      · rfl
                      · intro h
                        refine h.2.2 q hlt k hkq x ⟨?_, ?_⟩
                        · rw [HH.out]; exact HD.out
                        · rw [HK.out]; exact HE.out
                    · rw [dec_false hd]
                      have HE := hid hd
                      clear hd
                      go_wp2_with fail
                      go_roundw
                      case rel =>
                        refine ⟨k + 1, by go_num, by omega, HB4.out, HX4.out, fun k' hk' h => ?_⟩
                        by_cases e : k' = k
                        · rw [e, HK.out] at h; exact HE.out h.2
                        · exact HM.out k' (by omega) h
                      case measure => simp [intOf]; omega
                  · rw [dec_false hd]
                    have HD := hid hd
                    clear hd
                    go_wp2_with fail
                    go_roundw
                    case rel => exact ⟨k + 1, by go_num, by omega, HB3.out, HX3.out, fun k' hk' h => HD.out h.1⟩
                    case measure => simp [intOf]; omega
                · have hkq' : ¬ (k : Int) < (q : Int) := by omega
                  obtain rfl : k = q := by omega
                  clear x0 x1 x2 x3
                  go_wp2_with fail
                  go_roundw
                  case rel =>
                    refine ⟨x + 1, by go_num, by omega, HBk.out, HXk.out, fun y hy k' hk' h => ?_⟩
                    by_cases e : y = x
                    · rw [e] at h; exact HM.out k' hk' h
                    · exact HN.out y (by omega) k' hk' h
                  case measure => simp [intOf]; omega
            · have hx32' : ¬ (x : Int) < 32 := by omega
              obtain rfl : x = 32 := by omega
              go_wp2_with fail
              go_roundw
              case rel =>
                refine ⟨q + 1, by go_num, by omega, HBi.out, fun i hi => ?_, fun i hi k hk y h => ?_⟩
                · by_cases e : i = q
                  · rw [e, HH.out]; exact HF.out
                  · exact HO.out i (by omega)
                · by_cases e : i = q
                  · subst e
                    rw [HH.out] at h
                    have h1 : (F : Int) ≤ (y : Int) ∧ (y : Int) < F + S := h.1
                    exact HN.out y (by omega) k hk h
                  · exact HP.out i (by omega) k hk y h
              case measure => simp [intOf]; omega
        · have HF := hid (show ¬ (0 ≤ f ∧ 1 ≤ s ∧ f + s ≤ b ∧ f + s ≤ 32 ∧ 0 ≤ o ∧ o ≤ 2147483647) from hfit)
          clear hfit
          go_wp2_with fail
          all_goals
            first
              | (go_ret
                 refine ⟨by rw [dec_false]; · rfl
                            intro h; exact HF.out (by have := h.2.1 q hlt; rw [HH.out] at this; exact this), HB2.out⟩)
              | (exfalso; have := HF.out; omega)
      · have hlt' : ¬ (q : Int) < (n : Int) := by omega
        obtain rfl : q = n := by omega
        go_wp2_with fail
        go_ret
        exact ⟨by rw [dec_true ⟨h8, HO.out, HP.out⟩]; rfl, HB.out⟩
  · have h8' : (n : Int) > 8 := by omega
    go_enter Tryz.func36, Tryz.ntmps36
    go_wp2
    go_ret
    exact ⟨by rw [dec_false fun h => h8 h.1]; rfl, Below.refl _ _⟩
end Go.Proofs.YtmfdlkkligjcbaaGreat
