/-
  What is proved: conf's getNumbers over bytes that are the beginning of a configuration's: the sixteen numbers, and where they end, or the error that the bytes end within; besides new memory it writes the configuration's block alone. Conditions: the block is the call's own, with no hints as yet.
-/
import Derived.Test.YtehmcnghincakaaEncC
import Derived.Deep.RegionWith
import Derived.Deep.DeepMust
namespace Go.Proofs.Ytehmcnghincakaa
open Go.RowKit

theorem encN_split (f : Nat → Nat) : ∀ K q, q ≤ K → ∃ r, encN f K = encN f q ++ r
  | 0, q, h => ⟨[], by obtain rfl : q = 0 := by omega
                       rfl⟩
  | K + 1, q, h => by
    by_cases e : q = K + 1
    · subst e; exact ⟨[], by simp⟩
    · obtain ⟨r, hr⟩ := encN_split f K q (by omega)
      exact ⟨r ++ enc (f K), by rw [encN, hr, List.append_assoc]⟩
theorem encN_drop {f : Nat → Nat} {S R : List Int} {K q : Nat} (hS : S = encN f K ++ R) (h : q < K) : ∃ r, S.drop (encN f q).length = enc (f q) ++ r := by
  obtain ⟨r, hr⟩ := encN_split f K (q + 1) (by omega)
  refine ⟨r ++ R, ?_⟩
  rw [hS, hr, encN, List.append_assoc, List.append_assoc, List.drop_left]
theorem encN_mono (f : Nat → Nat) {q K : Nat} (h : q ≤ K) : (encN f q).length ≤ (encN f K).length := by
  obtain ⟨r, hr⟩ := encN_split f K q h
  rw [hr, List.length_append]; omega

/-- the first q numbers set, the others 0 -/
def mixC (f : Nat → Nat) (q : Nat) : Nat → Int := fun i => if i < q then (f i : Int) else 0
theorem cfgC_set (c : Nat → Int) (x : Int) : ∀ q, q < 16 → (cfgC c none 0 0).setIfInBounds q (.int .i64 x) = cfgC (fun i => if i = q then x else c i) none 0 0
  | 0, _ | 1, _ | 2, _ | 3, _ | 4, _ | 5, _ | 6, _ | 7, _ | 8, _ | 9, _ | 10, _ | 11, _ | 12, _ | 13, _ | 14, _ | 15, _ => by simp [cfgC]
  | n + 16, h => absurd h (by omega)
theorem mix_next (f : Nat → Nat) (q : Nat) : (fun i => if i = q then (f q : Int) else mixC f q i) = mixC f (q + 1) := by
  funext i
  unfold mixC
  by_cases e : i = q
  · rw [if_pos e, if_pos (by omega), e]
  · rw [if_neg e]
    by_cases h : i < q
    · rw [if_pos h, if_pos (by omega)]
    · rw [if_neg h, if_neg (by omega)]
theorem grown_draws {a w : World} {row : Option Nat} (h : a.grownBy w row) (n : Nat) : a.grownBy (w.drewN n) row := ⟨h.os, h.tape, h.output, h.size, h.block⟩
theorem grown_set {a w : World} {g : Nat} (h : a.grownBy w (some g)) (i : Nat) (u : Value) : a.grownBy (w.setCell ⟨g, i, none⟩ u) (some g) :=
  ⟨h.os, h.tape, h.output, by rw [setSize]; exact h.size, fun j hj hne => (Below.heap_setCell w ⟨g, i, none⟩ u j (fun e => hne (by rw [e]))).trans (h.block j hj hne)⟩
theorem grown_below {a w : World} (h : Below a.heap.size a w) (row : Option Nat) : a.grownBy w row := ⟨h.os, h.tape, h.output, h.size, fun i hi _ => h.block i hi⟩
theorem grown_on {a w w' : World} {row : Option Nat} (h : a.grownBy w row) (hb : Below w.heap.size w w') : a.grownBy w' row := h.trans (grown_below hb row)
theorem Rd.far {w w' : World} {C g : Nat} {A : Option Addr} {l : List Int} (h : Rd w C A l) (hC : C ≤ g) (hw : C ≤ w.heap.size) (hg : w.grownBy w' (some g)) : Rd w' C A l :=
  h.keep fun p hp => World.cell?_of_block (hg.block p.block (by omega) (fun e => by injection e with e; omega))

theorem get_cut_yes (A : Option Addr) (c p m k L : Nat) (l r : List Int) (w : World) (C : Nat) (hL : Hid (l.length = L)) (hlen : L ≤ 70368744177000) (h0 : 0 ≤ (p : Int)) (hx : p ≤ L) (hb : Hid (∀ x ∈ l, 0 ≤ x ∧ x ≤ 255)) (ra : Rd w C A l)
    (hm : m ≤ 9223372036854775807) (hr : Hid (l.drop ((p : Int)).toNat = (enc m ++ r).take k)) (hk : (enc m).length ≤ k) :
    Calls Try.prog 28 #[.slice A L c, .int .i64 p] w fun e w' => e = .returned (.tuple #[.int .i64 (m : Nat), .int .i64 (p + (enc m).length : Nat), .int .i64 0]) ∧ ∃ d, w' = w.drewN d := by
  have e := hL.out
  subst e
  refine (get_cut A c p m k l r w C hlen h0 (by omega) hb ra hm hr).mono ?_
  rintro e w' ⟨⟨_, rfl⟩ | ⟨h, _⟩, d⟩
  · exact ⟨rfl, d⟩
  · omega
theorem get_cut_no (A : Option Addr) (c p m k L : Nat) (l r : List Int) (w : World) (C : Nat) (hL : Hid (l.length = L)) (hlen : L ≤ 70368744177000) (h0 : 0 ≤ (p : Int)) (hx : p ≤ L) (hb : Hid (∀ x ∈ l, 0 ≤ x ∧ x ≤ 255)) (ra : Rd w C A l)
    (hm : m ≤ 9223372036854775807) (hr : Hid (l.drop ((p : Int)).toNat = (enc m ++ r).take k)) (hk : ¬ (enc m).length ≤ k) :
    Calls Try.prog 28 #[.slice A L c, .int .i64 p] w fun e w' => e = .returned (.tuple #[.int .i64 0, .int .i64 0, .int .i64 1]) ∧ ∃ d, w' = w.drewN d := by
  have e := hL.out
  subst e
  refine (get_cut A c p m k l r w C hlen h0 (by omega) hb ra hm hr).mono ?_
  rintro e w' ⟨⟨h, _⟩ | ⟨_, rfl⟩, d⟩
  · omega
  · exact ⟨rfl, d⟩

theorem Bx.mixset {w : World} {g : Nat} {t : TypeId} {f : Nat → Nat} {q : Nat} (h : Bx w g t (cfgC (mixC f q) none 0 0)) (hq : q < 16) : Bx (w.setCell ⟨g, q, none⟩ (.int .i64 (f q : Nat))) g t (cfgC (mixC f (q + 1)) none 0 0) := by
  have := h.set q (.int .i64 (f q : Nat))
  rw [cfgC_set _ _ q hq, mix_next] at this
  exact this

set_option maxRecDepth 100000 in
set_option maxHeartbeats 4000000 in
theorem getnums_cut (A : Option Addr) (cb g L C : Nat) (f : Nat → Nat) (S R l : List Int) (w : World) (hL : l.length = L) (hl : l = S.take L) (hLS : L ≤ S.length) (hL5 : L ≤ 1000000) (hS : S = encN f 17 ++ R) (hf : ∀ i, f i < 9223372036854775808)
    (hb : ∀ x ∈ l, 0 ≤ x ∧ x ≤ 255) (ra : Rd w C A l) (hC : C ≤ g) (hX : Bx w g 25 (cfgC (mixC f 0) none 0 0)) :
    Calls Try.prog 22 #[.slice A L cb, .pointer (some ⟨g, 0, none⟩)] w fun e w' => w.grownBy w' (some g) ∧
      (((encN f 16).length ≤ L ∧ e = .returned (.tuple #[.int .i64 ((encN f 16).length : Nat), .int .i64 0]) ∧ Bx w' g 25 (cfgC (mixC f 16) none 0 0)) ∨
       (L < (encN f 16).length ∧ e = .returned (.tuple #[.int .i64 0, .int .i64 1]))) := by
  have HL := hid hL
  have Hl := hid hl
  have HS := hid hS
  have Hf := hid hf
  have HB := hid hb
  have HX := hid hX
  have HA := hid ra
  have hgw := hX.lt
  clear hL hl hS hf hb hX ra
  go_enter Try.func22, Try.ntmps22
  go_wp2_with fail
  refine (places_any g w).mono ?_
  rintro e w1 ⟨rfl, hb1⟩
  have HB1 := hid (grown_below hb1 (some g))
  have HX1 := hid (HX.out.next hb1)
  clear hb1 HX
  go_wp2_with (refine wpList_store_new rfl _ _ _ rfl rfl _ (plc _) rfl rfl (by kernel_rfl) rfl (by simp [plc, Value.oneCell']) ?_)
  have HX2 := hid (HX1.out.alloc (.cells (plc g) 48))
  have HP2 := hid (Bx.new w1 48 (plc g))
  have HG2 := hid (grown_on HB1.out (below_alloc w1 (.cells (plc g) 48)))
  have hkg : w1.heap.size ≠ g := by have := HX1.out.lt; omega
  clear HX1 HB1
  generalize w1.alloc (.cells (plc g) 48) = w2 at *
  generalize w1.heap.size = k at *
  go_loopw [4, 10] (fun s i wr => ∃ q : Nat, i = .int .i64 q ∧ q ≤ 16 ∧ s = .int .i64 ((encN f q).length : Nat) ∧ (encN f q).length ≤ L ∧ w.grownBy wr (some g) ∧ Bx wr g 25 (cfgC (mixC f q) none 0 0) ∧ Bx wr k 48 (plc g)) (fun _ i _ => 16 - (intOf i).toNat)
  case atStart => exact ⟨0, rfl, by omega, rfl, Nat.zero_le _, HG2.out, HX2.out, HP2.out⟩
  case round =>
    obtain ⟨q, rfl, hq, rfl, hpl, hg, hx, hp⟩ := hrel
    have HG := hid hg
    have HX := hid hx
    have HP := hid hp
    obtain ⟨p, hpp⟩ : ∃ p, (encN f q).length = p := ⟨_, rfl⟩
    have HPP := hid hpp
    rw [hpp] at hpl ⊢
    clear hpp hg hx hp
    by_cases hlt : q < 16
    · have hlt' : (q : Int) < 16 := by omega
      obtain ⟨p0, _, _⟩ := plc_at g q hlt
      rw [← HP.out.cell] at p0
      have p3 := cfgC_at (mixC f q) none 0 0 q hlt
      rw [← HX.out.cell] at p3
      have pf := HX.out.free q
      obtain ⟨x, hxe⟩ : ∃ x, f q = x := ⟨_, rfl⟩
      have hxl := Hf.out q
      rw [hxe] at hxl
      have HQ := hid hxe
      obtain ⟨r, hr⟩ := encN_drop HS.out (show q < 17 by omega)
      have hdrop : Hid (l.drop ((p : Int)).toNat = (enc x ++ r).take (L - p)) := hid (by rw [Int.toNat_natCast, Hl.out, List.drop_take, ← HPP.out, hr, hxe])
      have HAr := hid (HA.out.far hC (by omega) HG.out)
      clear hr
      clear hxe
      by_cases hk : (enc x).length ≤ L - p
      · go_wp2_with fail
        go_region_with (go_at_call 28; go_must (refine (get_cut_yes A cb p x (L - p) L l r _ C HL (by omega) (by omega) (by omega) HB (by exact HAr.out) (by omega) hdrop hk).mono ?_); rintro e w4 ⟨rfl, d, rfl⟩)
        all_goals
          go_wp2_with fail
          go_roundw
          case rel =>
            refine ⟨q + 1, by go_num, by omega, ?_, by rw [encN, List.length_append, HPP.out, HQ.out]; omega, grown_set (grown_draws HG.out _) q _, ?_, ?_⟩
            · congr 1
              rw [encN, List.length_append, HPP.out, HQ.out]
              omega
            · rw [← HQ.out]; exact Bx.mixset (show Bx (wr.drewN _) g _ _ from HX.out) hlt
            · exact Bx.far (show Bx (wr.drewN _) k _ _ from HP.out) _ _ (fun e => hkg e.symm)
          case measure => simp [intOf]; omega
      · have hk' : L < (encN f 16).length := by
          have h1 := encN_mono f (show q + 1 ≤ 16 by omega)
          rw [encN, List.length_append, HPP.out, HQ.out] at h1
          omega
        go_wp2_with fail
        go_region_with (go_at_call 28; go_must (refine (get_cut_no A cb p x (L - p) L l r _ C HL (by omega) (by omega) (by omega) HB (by exact HAr.out) (by omega) hdrop hk).mono ?_); rintro e w4 ⟨rfl, d, rfl⟩)
        all_goals
          go_wp2_with fail
          go_ret2
          exact ⟨grown_set (grown_draws HG.out _) q _, .inr ⟨hk', rfl⟩⟩
    · have hlt' : ¬ (q : Int) < 16 := by omega
      obtain rfl : q = 16 := by omega
      go_wp2_with fail
      go_ret2
      exact ⟨HG.out, .inl ⟨by rw [HPP.out]; exact hpl, by rw [HPP.out]; rfl, HX.out⟩⟩
end Go.Proofs.Ytehmcnghincakaa
