/-
  What is proved: the walk of MsgFields: any kind names the fields that the document says; a message of it with those alone is right. Condition: the table of the kinds' fields lies where the program lays it.
-/
import Derived.Test.YtihldenljddmoaaDoorFields4
import Derived.Test.YtihldenljddmoaaDoorWake4
import Derived.Deep.QuietTactic
import Derived.BigQuiet
import Derived.Deep.DeepCutAuto
import Derived.Deep.CutBlock
namespace Go.Proofs.YtihldenljddmoaaDoor
open Go.RowKit

set_option maxHeartbeats 400000 in
theorem sameints_yes (A B : Option Addr) (n m ca cb : Nat) (l : List Int) (w : World) (C D : Nat) (hn : l.length = n) (hm : l.length = m) (hlen : n ≤ maxLen) (ra : Rv w C A (ints l)) (rb : Rv w D B (ints l)) :
    Calls Tryd.prog 16 #[.slice A n ca, .slice B m cb] w fun e w' => e = .returned (.bool true) ∧ ∃ k, w' = w.drewN k := by
  subst hn
  subst hm
  unfold maxLen at hlen
  go_enter Tryd.func16, Tryd.ntmps16
  go_wp2
  go_loopw [5] (fun i wr => ∃ k d : Nat, k ≤ l.length ∧ i = .int .i64 k ∧ wr = w.drewN d) (fun i _ => l.length - (intOf i).toNat)
  case atStart => exact ⟨0, 0, Nat.zero_le _, rfl, rfl⟩
  case round =>
    obtain ⟨k, d, hk, rfl, rfl⟩ := hrel
    by_cases hlt : k < l.length
    · obtain ⟨a, rfl, _, hca⟩ := ra.get (k := k) (by rw [ints_length]; exact hlt)
      obtain ⟨b, rfl, _, hcb⟩ := rb.get (k := k) (by rw [ints_length]; exact hlt)
      have e : (ints l)[k]'(by rw [ints_length]; exact hlt) = .int .i64 (l[k]) := by simp [ints]
      rw [e] at hca hcb
      clear e
      have hlt' : (k : Int) < (l.length : Int) := by omega
      go_wp2
      go_quiet (fail)
      go_wp2
      go_roundw
      case rel => exact ⟨k + 1, _, by omega, by go_num, rfl⟩
      case measure => simp [intOf]; omega
    · have hlt' : ¬ (k : Int) < (l.length : Int) := by omega
      go_wp2
      go_ret
      exact ⟨rfl, _, rfl⟩

/-- a field that is made small -/
def red (k : Int) (c : Nat → Int) (i : Nat) : Int := if isin i (fI k) then (if c i < 0 then 1 else c i % 2) else 0
def mx (k : Int) (c : Nat → Int) (q : Nat) : Nat → Int := fun i => if i = 0 then k else if i ≤ q then red k c i else c i
theorem msgC_set (c : Nat → Int) (gr : Bool) (D : Option Addr) (n cp : Nat) (x : Int) : ∀ j, j ≤ 8 → (msgC c gr D n cp).setIfInBounds j (.int .i64 x) = msgC (fun i => if i = j then x else c i) gr D n cp
  | 0, _ | 1, _ | 2, _ | 3, _ | 4, _ | 5, _ | 6, _ | 7, _ | 8, _ => by simp [msgC]
  | n + 9, h => absurd h (by omega)
theorem msgC_grant (c : Nat → Int) (gr g2 : Bool) (D : Option Addr) (n cp : Nat) : (msgC c gr D n cp).setIfInBounds 9 (.bool g2) = msgC c g2 D n cp := by simp [msgC]
theorem msgC_data (c : Nat → Int) (gr : Bool) (D E : Option Addr) (n cp m cq : Nat) : (msgC c gr D n cp).setIfInBounds 10 (.slice E m cq) = msgC c gr E m cq := by simp [msgC]
theorem msgC_at (c : Nat → Int) (gr : Bool) (D : Option Addr) (n cp : Nat) : ∀ j, j ≤ 8 → (msgC c gr D n cp)[j]? = some (.int .i64 (c j))
  | 0, _ | 1, _ | 2, _ | 3, _ | 4, _ | 5, _ | 6, _ | 7, _ | 8, _ => rfl
  | n + 9, h => absurd h (by omega)
theorem mx_next (k : Int) (c : Nat → Int) (q : Nat) : (fun i => if i = q + 1 then red k c (q + 1) else mx k c q i) = mx k c (q + 1) := by
  funext i
  unfold mx
  by_cases e : i = q + 1
  · rw [if_pos e, if_neg (by omega), if_pos (by omega), e]
  · rw [if_neg e]
    by_cases h0 : i = 0
    · rw [if_pos h0, if_pos h0]
    · rw [if_neg h0, if_neg h0]
      by_cases h : i ≤ q
      · rw [if_pos h, if_pos (by omega)]
      · rw [if_neg h, if_neg (by omega)]
theorem mx_first (k : Int) (c : Nat → Int) : (fun i => if i = 0 then k else c i) = mx k c 0 := by
  funext i
  unfold mx
  by_cases h0 : i = 0
  · rw [if_pos h0, if_pos h0]
  · rw [if_neg h0, if_neg h0, if_neg (by omega)]
/-- the message behind all that -/
def cF (k : Int) (c : Nat → Int) : Nat → Int := fun i => if i = 8 then 0 else mx k c 7 i
theorem red_ok (k : Int) (c : Nat → Int) (f : Nat) : 0 ≤ red k c f ∧ red k c f ≤ 1 ∧ (isin f (fI k) = false → red k c f = 0) := by
  unfold red
  cases isin f (fI k)
  · simp
  · by_cases h : c f < 0
    · simp [h]
    · simp [h]; omega
theorem isin_bit {k : Int} {f : Nat} (hk : 1 ≤ k ∧ k ≤ 14) (hf : 1 ≤ f ∧ f ≤ 10) : isin f (fI k) = (mk k.toNat).testBit f := by
  unfold isin fI
  rw [if_pos hk, Bool.eq_iff_iff]
  simp only [decide_eq_true_eq, List.mem_map]
  constructor
  · rintro ⟨a, ha, e⟩
    obtain rfl : a = f := by omega
    exact ((fl_mem _ _).1 ha).2.2
  · intro h
    exact ⟨f, (fl_mem _ _).2 ⟨hf.1, hf.2, h⟩, rfl⟩
theorem right_made {k : Int} {c : Nat → Int} {gr : Bool} {n : Nat} (hk : 1 ≤ k ∧ k ≤ 14) (h9 : isin 9 (fI k) = false → gr = false) (h10 : isin 10 (fI k) = false → n = 0) (hn : n ≤ 64) : RightM (cF k c) gr n := by
  refine ⟨hk, fun f h1 h2 => ?_⟩
  unfold okF
  have e0 : cF k c 0 = k := rfl
  rw [e0, ← isin_bit hk ⟨h1, h2⟩]
  have hm := mo_pos f h1 h2
  by_cases h8 : f ≤ 8
  · rw [me8 (cF k c) gr n f h8]
    have hz : cF k c f = 0 ∨ cF k c f = red k c f := by
      unfold cF
      by_cases e : f = 8
      · left; rw [if_pos e]
      · right; rw [if_neg e]; unfold mx; rw [if_neg (by omega), if_pos (by omega)]
    have hr := red_ok k c f
    cases hb : isin f (fI k)
    · have := hr.2.2 hb
      simp only [Bool.false_eq_true, if_false]
      omega
    · simp only [if_true]
      omega
  · by_cases e9 : f = 9
    · subst e9
      show 0 ≤ (if gr then (1 : Int) else 0) ∧ (if gr then (1 : Int) else 0) ≤ _
      cases hb : isin ((9 : Nat) : Int) (fI k)
      · rw [h9 hb]; simp
      · cases gr <;> simp [mo]
    · obtain rfl : f = 10 := by omega
      show 0 ≤ (n : Int) ∧ (n : Int) ≤ _
      cases hb : isin ((10 : Nat) : Int) (fI k)
      · rw [h10 hb]; simp
      · simp only [if_true, mo]; omega

/-- the pointers that the loop goes through -/
def ptrs (g : Nat) : Array Value := #[.pointer (some ⟨g, 1, none⟩), .pointer (some ⟨g, 2, none⟩), .pointer (some ⟨g, 3, none⟩), .pointer (some ⟨g, 4, none⟩), .pointer (some ⟨g, 5, none⟩), .pointer (some ⟨g, 6, none⟩), .pointer (some ⟨g, 7, none⟩)]
theorem ptrs_at (g : Nat) : ∀ q, q < 7 → (ptrs g)[q]? = some (.pointer (some ⟨g, q + 1, none⟩))
  | 0, _ | 1, _ | 2, _ | 3, _ | 4, _ | 5, _ | 6, _ => rfl
  | n + 7, h => absurd h (by omega)
theorem OwnI.has {w : World} {b L cs : Nat} {S : Option Addr} {l : List Int} (h : OwnI w b (.slice S L cs) l) : Rv w w.heap.size S (ints l) := by
  obtain ⟨A, c, e, hr⟩ := h.read
  injection e with e1 e2 e3
  subst e1
  exact hr
theorem OwnI.set {w : World} {b g : Nat} {v : Value} {l : List Int} (h : OwnI w b v l) (hb : g < b) (i : Nat) (u : Value) : OwnI (w.setCell ⟨g, i, none⟩ u) b v l :=
  World.ownsRow.kept h (grown_set (World.grownBy.refl w _) i u) (by
    rcases hob : v.ownBlock with _ | k
    · exact .inl rfl
    · right
      intro e
      injection e with e
      have := (World.ownsRow.lt h _ hob).1
      omega)

set_option maxRecDepth 100000 in
set_option maxHeartbeats 1000000 in
theorem fields_walk (k : Int) (hk0 : -9223372036854775808 ≤ k ∧ k ≤ 9223372036854775807) (c : Nat → Int) (gr : Bool) (D : Option Addr) (n cp : Nat) (hc : n ≤ cp) (hcp : cp ≤ maxLen) (w : World) (hN : Nm w) :
    Calls Tryd.prog 4 #[.int .i64 k, .agg (msgC c gr D n cp)] w fun e w' => e = .returned (.bool true) ∧ Below w.heap.size w w' := by
  unfold maxLen at hcp
  have X0 := Bx.new w 25 (msgC c gr D n cp)
  have K0 := below_alloc w (.cells (msgC c gr D n cp) 25)
  have HN := hid hN
  clear hN
  go_enter Tryd.func4, Tryd.ntmps4
  go_wp2_with fail
  refine (wakes_any _ (HN.out.next K0)).mono ?_
  rintro e w1 ⟨rfl, hb1⟩
  have HX1 := hid (X0.next hb1)
  have HK1 := hid (on K0 hb1)
  clear X0 K0 hb1
  go_wp2_with fail
  refine (mfields_any k _ (HN.out.next HK1.out)).mono ?_
  rintro e w2 ⟨v2, rfl, hown2, hb2⟩
  have HX2 := hid (HX1.out.next hb2)
  have HK2 := hid (on HK1.out hb2)
  have HO2 := hid hown2
  obtain ⟨S, cs, rfl, -⟩ := OwnI.read hown2
  have HG := hid HX1.out.lt
  generalize w1.heap.size = b1 at HO2 HG
  clear hown2 hb2 HX1 HK1
  obtain ⟨L, hL⟩ : ∃ L, (fI k).length = L := ⟨_, rfl⟩
  have hL10 := fI_len k
  rw [hL] at hL10 ⊢
  have HL := hid hL
  clear hL
  go_wp2_with fail
  refine (rfields_any k _).mono ?_
  rintro e w3 ⟨v3, rfl, hown3, hb3⟩
  obtain ⟨T, ct, rfl, hr3⟩ := OwnI.read hown3
  have HX3 := hid (HX2.out.next hb3)
  have HK3 := hid (on HK2.out hb3)
  have HO3 := hid (OwnV.below HO2.out hb3)
  have HR3 := hid hr3
  clear hown3 hb3 hr3 HX2 HK2 HO2
  rw [HL.out]
  obtain ⟨_, _, e, hs3⟩ := OwnI.read HO3.out
  injection e with e1 e2 e3
  subst e1 e3
  go_wp2_with fail
  refine (sameints_yes S T L L cs ct (fI k) _ _ _ HL.out HL.out (by unfold maxLen; omega) hs3 HR3.out).mono ?_
  rintro e w4 ⟨rfl, d, rfl⟩
  have HX4 := hid (HX3.out.draws d)
  have HK4 := hid (below_draws HK3.out d)
  have HO4 := hid (show OwnI (w3.drewN d) b1 (.slice S L cs) (fI k) by rw [← HL.out]; exact HO3.out)
  have c0 := HX4.out.cell 0
  rw [msgC_at _ _ _ _ _ 0 (by omega)] at c0
  have f0 := HX4.out.free 0
  have X5 := HX4.out.set 0 (.int .i64 k)
  rw [msgC_set _ _ _ _ _ _ 0 (by omega), mx_first] at X5
  have K5 := below_set HK4.out ⟨w.heap.size, 0, none⟩ (.int .i64 k) (Nat.le_refl _)
  have O5 := OwnI.set HO4.out HG.out 0 (.int .i64 k)
  have HX6 := hid (X5.alloc (.cells (ptrs w.heap.size) 39))
  have HK6 := hid (on K5 (below_alloc _ (.cells (ptrs w.heap.size) 39)))
  have HO6 := hid (show OwnI _ b1 (.slice S L cs) (fI k) from World.ownsRow.alloc O5 (.cells (ptrs w.heap.size) 39))
  have P6 := Bx.new ((w3.drewN d).setCell ⟨w.heap.size, 0, none⟩ (.int .i64 k)) 39 (ptrs w.heap.size)
  rw [setSize, show (w3.drewN d).heap.size = w3.heap.size from rfl] at P6
  have HP6 := hid P6
  have hpg : w.heap.size < w3.heap.size := HX3.out.lt
  clear X5 K5 O5 hs3 P6
  go_wp2_with fail
  change Code.wp _ _ _ _ (((w3.drewN d).setCell ⟨w.heap.size, 0, none⟩ (.int .i64 k)).alloc (.cells (ptrs w.heap.size) 39))
  generalize (((w3.drewN d).setCell ⟨w.heap.size, 0, none⟩ (.int .i64 k)).alloc (.cells (ptrs w.heap.size) 39)) = w6 at *
  clear c0 f0 HX3 HK3 HO3 HR3 HX4 HK4 HO4
  generalize w3.heap.size = h6 at *
  go_loopw [28] (fun i wr => ∃ q : Nat, i = .int .i64 q ∧ q ≤ 7 ∧ Bx wr w.heap.size 25 (msgC (mx k c q) gr D n cp) ∧ Bx wr h6 39 (ptrs w.heap.size) ∧ OwnI wr b1 (.slice S L cs) (fI k) ∧ Below w.heap.size w wr) (fun i _ => 7 - (intOf i).toNat)
  case atStart => exact ⟨0, rfl, by omega, HX6.out, HP6.out, HO6.out, HK6.out⟩
  case round =>
    obtain ⟨q, rfl, hq, hx, hp, ho, hb⟩ := hrel
    have HX := hid hx
    have HP := hid hp
    have HO := hid ho
    have HB := hid hb
    obtain ⟨_, _, e, hs⟩ := OwnI.read ho
    injection e with e1 e2 e3
    subst e1 e3
    have HS := hid hs
    clear hx hp ho hb e2 hs
    by_cases hlt : q < 7
    · have hlt' : (q : Int) < 7 := by omega
      have p0 : wr.cell? ⟨h6, q, none⟩ = some (.pointer (some ⟨w.heap.size, q + 1, none⟩)) := by rw [HP.out.cell, ptrs_at _ q hlt]
      have c0 : wr.cell? ⟨w.heap.size, q + 1, none⟩ = some (.int .i64 (c (q + 1))) := by
        rw [HX.out.cell, msgC_at _ _ _ _ _ (q + 1) (by omega)]
        unfold mx
        rw [if_neg (by omega), if_neg (by omega)]
      have f0 := HX.out.free (q + 1)
      obtain ⟨x, hx⟩ : ∃ x, c (q + 1) = x := ⟨_, rfl⟩
      obtain ⟨b, hb⟩ : ∃ b, isin ((q : Int) + 1) (fI k) = b := ⟨_, rfl⟩
      rw [hx] at c0
      have HRED := hid (show red k c (q + 1) = if b then (if x < 0 then 1 else x % 2) else 0 by
        unfold red
        rw [hx, show (((q + 1 : Nat)) : Int) = (q : Int) + 1 from rfl, hb])
      have HBB := hid hb
      have HX7 := fun (y : Int) (e : red k c (q + 1) = y) => show Bx (wr.setCell ⟨w.heap.size, q + 1, none⟩ (.int .i64 y)) w.heap.size 25 (msgC (mx k c (q + 1)) gr D n cp) by
        have := HX.out.set (q + 1) (.int .i64 y)
        rw [msgC_set _ _ _ _ _ _ (q + 1) (by omega), ← e, mx_next, e] at this
        exact this
      have HXX := hid HX7
      clear hx hb HX7
      cases b
      · go_wp2_with fail
        refine (has_any S L cs (fI k) _ _ _ HL.out (by unfold maxLen; omega) HS.out).mono ?_
        rintro e w7 ⟨rfl, rfl⟩
        rw [HBB.out]
        go_wp2_with fail
        go_roundw
        case rel => exact ⟨q + 1, by go_num, by omega, HXX.out 0 (by rw [HRED.out]; rfl), HP.out.far _ _ (by show w.heap.size ≠ h6; omega), OwnI.set HO.out HG.out _ _, below_set HB.out _ _ (Nat.le_refl _)⟩
        case measure => simp [intOf]; omega
      · by_cases hneg : x < 0
        · have hd : decide (x < 0) = true := decide_eq_true hneg
          go_wp2_with fail
          refine (has_any S L cs (fI k) _ _ _ HL.out (by unfold maxLen; omega) HS.out).mono ?_
          rintro e w7 ⟨rfl, rfl⟩
          rw [HBB.out]
          go_wp2_with fail
          go_roundw
          case rel => exact ⟨q + 1, by go_num, by omega, HXX.out 1 (by rw [HRED.out]; simp [hneg]), HP.out.far _ _ (by show w.heap.size ≠ h6; omega), OwnI.set HO.out HG.out _ _, below_set HB.out _ _ (Nat.le_refl _)⟩
          case measure => simp [intOf]; omega
        · have hd : decide (x < 0) = false := decide_eq_false hneg
          have hx0 : 0 ≤ x := by omega
          go_wp2_with fail
          refine (has_any S L cs (fI k) _ _ _ HL.out (by unfold maxLen; omega) HS.out).mono ?_
          rintro e w7 ⟨rfl, rfl⟩
          rw [HBB.out]
          go_wp2_with fail
          go_roundw
          case rel => exact ⟨q + 1, by go_num, by omega, HXX.out (x % 2) (by rw [HRED.out]; simp only [if_true]; rw [if_neg (by omega)]), HP.out.far _ _ (by show w.heap.size ≠ h6; omega), OwnI.set HO.out HG.out _ _, below_set HB.out _ _ (Nat.le_refl _)⟩
          case measure => simp [intOf]; omega
    · have hlt' : ¬ (q : Int) < 7 := by omega
      obtain rfl : q = 7 := by omega
      have c8 := HX.out.cell 8
      rw [msgC_at _ _ _ _ _ 8 (by omega)] at c8
      have f8 := HX.out.free 8
      have X8 := HX.out.set 8 (.int .i64 0)
      rw [msgC_set _ _ _ _ _ _ 8 (by omega), show (fun i => if i = 8 then 0 else mx k c 7 i) = cF k c from rfl] at X8
      have HX8 := hid X8
      have HO8 := hid (OwnI.set HO.out HG.out 8 (.int .i64 0))
      have HB8 := hid (below_set HB.out ⟨w.heap.size, 8, none⟩ (.int .i64 0) (Nat.le_refl _))
      clear X8
      obtain ⟨b9, hb9⟩ : ∃ b, isin 9 (fI k) = b := ⟨_, rfl⟩
      obtain ⟨b10, hb10⟩ : ∃ b, isin 10 (fI k) = b := ⟨_, rfl⟩
      have HB9 := hid hb9
      have HB10 := hid hb10
      clear hb9 hb10
      have hkk : ((1 ≤ k ∧ k ≤ 14) ∧ (L : Int) > 0) ∨ (¬ (1 ≤ k ∧ k ≤ 14) ∧ (L : Int) = 0) := by
        by_cases h : 1 ≤ k ∧ k ≤ 14
        · left
          have h1 := fI_length h
          have h2 := mk_zero k.toNat (by omega)
          rw [HL.out] at h1
          refine ⟨h, ?_⟩
          rcases hz : fl (mk k.toNat) 1 with _ | ⟨a, r⟩
          · exact absurd hz h2
          · rw [hz, List.length_cons] at h1; omega
        · right
          have h1 := fI_no h
          refine ⟨h, ?_⟩
          rw [← HL.out, h1]; rfl
      by_cases hbig : n ≤ 64
      · cases b9
        · cases b10
          · go_wp2_with fail
            refine (has_any S L cs (fI k) 9 _ _ HL.out (by unfold maxLen; omega) HO8.out.has).mono ?_
            rintro e w9 ⟨rfl, rfl⟩
            rw [HB9.out]
            have c9 := HX8.out.cell 9
            rw [show (msgC (cF k c) gr D n cp)[9]? = some (.bool gr) from rfl] at c9
            have f9 := HX8.out.free 9
            have c10 := HX8.out.cell 10
            rw [show (msgC (cF k c) gr D n cp)[10]? = some (.slice D n cp) from rfl] at c10
            have f10 := HX8.out.free 10
            have X9 := HX8.out.set 9 (.bool false)
            rw [msgC_grant] at X9
            have HX9 := hid X9
            have HO9 := hid (OwnI.set HO8.out HG.out 9 (.bool false))
            have HK9 := hid (below_set HB8.out ⟨w.heap.size, 9, none⟩ (.bool false) (Nat.le_refl _))
            clear X9
            have X10 := HX9.out.set 10 (.slice D n cp)
            rw [msgC_data] at X10
            have HX10 := hid X10
            have HO10 := hid (OwnI.set HO9.out HG.out 10 (.slice D n cp))
            have HK10 := hid (below_set HK9.out ⟨w.heap.size, 10, none⟩ (.slice D n cp) (Nat.le_refl _))
            clear X10
            go_wp2_with fail
            refine (has_any S L cs (fI k) 10 _ _ HL.out (by unfold maxLen; omega) HO10.out.has).mono ?_
            rintro e w11 ⟨rfl, rfl⟩
            rw [HB10.out]
            have c10 := HX10.out.cell 10
            rw [show (msgC (cF k c) false D n cp)[10]? = some (.slice D n cp) from rfl] at c10
            have f10 := HX10.out.free 10
            have XF := HX10.out.set 10 (.slice none 0 0)
            rw [msgC_data] at XF
            have HXF := hid XF
            have HKF := hid (below_set HK10.out ⟨w.heap.size, 10, none⟩ (.slice none 0 0) (Nat.le_refl _))
            clear XF
            go_upto_region 22 with fail
            generalize ((((wr.setCell ⟨w.heap.size, 8, none⟩ (.int .i64 0)).setCell ⟨w.heap.size, 9, none⟩ (.bool false)).setCell ⟨w.heap.size, 10, none⟩ (.slice D n cp)).setCell ⟨w.heap.size, 10, none⟩ (.slice none 0 0)) = W at *
            go_wp2_with (refine wpList_load_bx rfl 25 (.tmp 3) rfl _ _ _ _ rfl HXF.out Tryd.underlying25 rfl (by kernel_rfl) ?_)
            refine (right_any (cF k c) false none 0 0 _ (HN.out.next HKF.out)).mono ?_
            rintro e w12 ⟨rfl, hb12⟩
            have HKG := hid (on HKF.out hb12)
            clear hb12
            rcases hkk with ⟨h1, h2⟩ | ⟨h1, h2⟩
            · rw [dec_true (right_made h1 (fun e => by first | rfl | exact absurd (HB9.out.symm.trans e) (by decide)) (fun e => by first | rfl | exact absurd (HB10.out.symm.trans e) (by decide)) (by omega))]
              have hLp : 0 < L := by omega
              go_wp2_with fail
              go_ret
              refine ⟨ret_bool ?_, HKG.out⟩
              simp
            · rw [dec_false (fun h => h1 h.1)]
              obtain rfl : L = 0 := by omega
              go_wp2_with fail
              go_ret
              exact ⟨rfl, HKG.out⟩
          · go_wp2_with fail
            refine (has_any S L cs (fI k) 9 _ _ HL.out (by unfold maxLen; omega) HO8.out.has).mono ?_
            rintro e w9 ⟨rfl, rfl⟩
            rw [HB9.out]
            have c9 := HX8.out.cell 9
            rw [show (msgC (cF k c) gr D n cp)[9]? = some (.bool gr) from rfl] at c9
            have f9 := HX8.out.free 9
            have c10 := HX8.out.cell 10
            rw [show (msgC (cF k c) gr D n cp)[10]? = some (.slice D n cp) from rfl] at c10
            have f10 := HX8.out.free 10
            have X9 := HX8.out.set 9 (.bool false)
            rw [msgC_grant] at X9
            have HX9 := hid X9
            have HO9 := hid (OwnI.set HO8.out HG.out 9 (.bool false))
            have HK9 := hid (below_set HB8.out ⟨w.heap.size, 9, none⟩ (.bool false) (Nat.le_refl _))
            clear X9
            have X10 := HX9.out.set 10 (.slice D n cp)
            rw [msgC_data] at X10
            have HX10 := hid X10
            have HO10 := hid (OwnI.set HO9.out HG.out 10 (.slice D n cp))
            have HK10 := hid (below_set HK9.out ⟨w.heap.size, 10, none⟩ (.slice D n cp) (Nat.le_refl _))
            clear X10
            go_wp2_with fail
            refine (has_any S L cs (fI k) 10 _ _ HL.out (by unfold maxLen; omega) HO10.out.has).mono ?_
            rintro e w11 ⟨rfl, rfl⟩
            rw [HB10.out]
            have HXF := HX10
            have HKF := HK10
            go_upto_region 22 with fail
            generalize (((wr.setCell ⟨w.heap.size, 8, none⟩ (.int .i64 0)).setCell ⟨w.heap.size, 9, none⟩ (.bool false)).setCell ⟨w.heap.size, 10, none⟩ (.slice D n cp)) = W at *
            go_wp2_with (refine wpList_load_bx rfl 25 (.tmp 3) rfl _ _ _ _ rfl HXF.out Tryd.underlying25 rfl (by kernel_rfl) ?_)
            refine (right_any (cF k c) false D n cp _ (HN.out.next HKF.out)).mono ?_
            rintro e w12 ⟨rfl, hb12⟩
            have HKG := hid (on HKF.out hb12)
            clear hb12
            rcases hkk with ⟨h1, h2⟩ | ⟨h1, h2⟩
            · rw [dec_true (right_made h1 (fun e => by first | rfl | exact absurd (HB9.out.symm.trans e) (by decide)) (fun e => by first | rfl | exact absurd (HB10.out.symm.trans e) (by decide)) (by omega))]
              have hLp : 0 < L := by omega
              go_wp2_with fail
              go_ret
              refine ⟨ret_bool ?_, HKG.out⟩
              simp
            · rw [dec_false (fun h => h1 h.1)]
              obtain rfl : L = 0 := by omega
              go_wp2_with fail
              go_ret
              exact ⟨rfl, HKG.out⟩
        · cases b10
          · go_wp2_with fail
            refine (has_any S L cs (fI k) 9 _ _ HL.out (by unfold maxLen; omega) HO8.out.has).mono ?_
            rintro e w9 ⟨rfl, rfl⟩
            rw [HB9.out]
            have c9 := HX8.out.cell 9
            rw [show (msgC (cF k c) gr D n cp)[9]? = some (.bool gr) from rfl] at c9
            have f9 := HX8.out.free 9
            have c10 := HX8.out.cell 10
            rw [show (msgC (cF k c) gr D n cp)[10]? = some (.slice D n cp) from rfl] at c10
            have f10 := HX8.out.free 10
            have HX9 := HX8
            have HO9 := HO8
            have HK9 := HB8
            have X10 := HX9.out.set 10 (.slice D n cp)
            rw [msgC_data] at X10
            have HX10 := hid X10
            have HO10 := hid (OwnI.set HO9.out HG.out 10 (.slice D n cp))
            have HK10 := hid (below_set HK9.out ⟨w.heap.size, 10, none⟩ (.slice D n cp) (Nat.le_refl _))
            clear X10
            go_wp2_with fail
            refine (has_any S L cs (fI k) 10 _ _ HL.out (by unfold maxLen; omega) HO10.out.has).mono ?_
            rintro e w11 ⟨rfl, rfl⟩
            rw [HB10.out]
            have c10 := HX10.out.cell 10
            rw [show (msgC (cF k c) gr D n cp)[10]? = some (.slice D n cp) from rfl] at c10
            have f10 := HX10.out.free 10
            have XF := HX10.out.set 10 (.slice none 0 0)
            rw [msgC_data] at XF
            have HXF := hid XF
            have HKF := hid (below_set HK10.out ⟨w.heap.size, 10, none⟩ (.slice none 0 0) (Nat.le_refl _))
            clear XF
            go_upto_region 22 with fail
            generalize (((wr.setCell ⟨w.heap.size, 8, none⟩ (.int .i64 0)).setCell ⟨w.heap.size, 10, none⟩ (.slice D n cp)).setCell ⟨w.heap.size, 10, none⟩ (.slice none 0 0)) = W at *
            go_wp2_with (refine wpList_load_bx rfl 25 (.tmp 3) rfl _ _ _ _ rfl HXF.out Tryd.underlying25 rfl (by kernel_rfl) ?_)
            refine (right_any (cF k c) gr none 0 0 _ (HN.out.next HKF.out)).mono ?_
            rintro e w12 ⟨rfl, hb12⟩
            have HKG := hid (on HKF.out hb12)
            clear hb12
            rcases hkk with ⟨h1, h2⟩ | ⟨h1, h2⟩
            · rw [dec_true (right_made h1 (fun e => by first | rfl | exact absurd (HB9.out.symm.trans e) (by decide)) (fun e => by first | rfl | exact absurd (HB10.out.symm.trans e) (by decide)) (by omega))]
              have hLp : 0 < L := by omega
              go_wp2_with fail
              go_ret
              refine ⟨ret_bool ?_, HKG.out⟩
              simp
            · rw [dec_false (fun h => h1 h.1)]
              obtain rfl : L = 0 := by omega
              go_wp2_with fail
              go_ret
              exact ⟨rfl, HKG.out⟩
          · go_wp2_with fail
            refine (has_any S L cs (fI k) 9 _ _ HL.out (by unfold maxLen; omega) HO8.out.has).mono ?_
            rintro e w9 ⟨rfl, rfl⟩
            rw [HB9.out]
            have c9 := HX8.out.cell 9
            rw [show (msgC (cF k c) gr D n cp)[9]? = some (.bool gr) from rfl] at c9
            have f9 := HX8.out.free 9
            have c10 := HX8.out.cell 10
            rw [show (msgC (cF k c) gr D n cp)[10]? = some (.slice D n cp) from rfl] at c10
            have f10 := HX8.out.free 10
            have HX9 := HX8
            have HO9 := HO8
            have HK9 := HB8
            have X10 := HX9.out.set 10 (.slice D n cp)
            rw [msgC_data] at X10
            have HX10 := hid X10
            have HO10 := hid (OwnI.set HO9.out HG.out 10 (.slice D n cp))
            have HK10 := hid (below_set HK9.out ⟨w.heap.size, 10, none⟩ (.slice D n cp) (Nat.le_refl _))
            clear X10
            go_wp2_with fail
            refine (has_any S L cs (fI k) 10 _ _ HL.out (by unfold maxLen; omega) HO10.out.has).mono ?_
            rintro e w11 ⟨rfl, rfl⟩
            rw [HB10.out]
            have HXF := HX10
            have HKF := HK10
            go_upto_region 22 with fail
            generalize ((wr.setCell ⟨w.heap.size, 8, none⟩ (.int .i64 0)).setCell ⟨w.heap.size, 10, none⟩ (.slice D n cp)) = W at *
            go_wp2_with (refine wpList_load_bx rfl 25 (.tmp 3) rfl _ _ _ _ rfl HXF.out Tryd.underlying25 rfl (by kernel_rfl) ?_)
            refine (right_any (cF k c) gr D n cp _ (HN.out.next HKF.out)).mono ?_
            rintro e w12 ⟨rfl, hb12⟩
            have HKG := hid (on HKF.out hb12)
            clear hb12
            rcases hkk with ⟨h1, h2⟩ | ⟨h1, h2⟩
            · rw [dec_true (right_made h1 (fun e => by first | rfl | exact absurd (HB9.out.symm.trans e) (by decide)) (fun e => by first | rfl | exact absurd (HB10.out.symm.trans e) (by decide)) (by omega))]
              have hLp : 0 < L := by omega
              go_wp2_with fail
              go_ret
              refine ⟨ret_bool ?_, HKG.out⟩
              simp
            · rw [dec_false (fun h => h1 h.1)]
              obtain rfl : L = 0 := by omega
              go_wp2_with fail
              go_ret
              exact ⟨rfl, HKG.out⟩
      · cases b9
        · cases b10
          · go_wp2_with fail
            refine (has_any S L cs (fI k) 9 _ _ HL.out (by unfold maxLen; omega) HO8.out.has).mono ?_
            rintro e w9 ⟨rfl, rfl⟩
            rw [HB9.out]
            have c9 := HX8.out.cell 9
            rw [show (msgC (cF k c) gr D n cp)[9]? = some (.bool gr) from rfl] at c9
            have f9 := HX8.out.free 9
            have c10 := HX8.out.cell 10
            rw [show (msgC (cF k c) gr D n cp)[10]? = some (.slice D n cp) from rfl] at c10
            have f10 := HX8.out.free 10
            have X9 := HX8.out.set 9 (.bool false)
            rw [msgC_grant] at X9
            have HX9 := hid X9
            have HO9 := hid (OwnI.set HO8.out HG.out 9 (.bool false))
            have HK9 := hid (below_set HB8.out ⟨w.heap.size, 9, none⟩ (.bool false) (Nat.le_refl _))
            clear X9
            have X10 := HX9.out.set 10 (.slice D 64 cp)
            rw [msgC_data] at X10
            have HX10 := hid X10
            have HO10 := hid (OwnI.set HO9.out HG.out 10 (.slice D 64 cp))
            have HK10 := hid (below_set HK9.out ⟨w.heap.size, 10, none⟩ (.slice D 64 cp) (Nat.le_refl _))
            clear X10
            go_wp2_with fail
            refine (has_any S L cs (fI k) 10 _ _ HL.out (by unfold maxLen; omega) HO10.out.has).mono ?_
            rintro e w11 ⟨rfl, rfl⟩
            rw [HB10.out]
            have c10 := HX10.out.cell 10
            rw [show (msgC (cF k c) false D 64 cp)[10]? = some (.slice D 64 cp) from rfl] at c10
            have f10 := HX10.out.free 10
            have XF := HX10.out.set 10 (.slice none 0 0)
            rw [msgC_data] at XF
            have HXF := hid XF
            have HKF := hid (below_set HK10.out ⟨w.heap.size, 10, none⟩ (.slice none 0 0) (Nat.le_refl _))
            clear XF
            go_upto_region 22 with fail
            generalize ((((wr.setCell ⟨w.heap.size, 8, none⟩ (.int .i64 0)).setCell ⟨w.heap.size, 9, none⟩ (.bool false)).setCell ⟨w.heap.size, 10, none⟩ (.slice D 64 cp)).setCell ⟨w.heap.size, 10, none⟩ (.slice none 0 0)) = W at *
            go_wp2_with (refine wpList_load_bx rfl 25 (.tmp 3) rfl _ _ _ _ rfl HXF.out Tryd.underlying25 rfl (by kernel_rfl) ?_)
            refine (right_any (cF k c) false none 0 0 _ (HN.out.next HKF.out)).mono ?_
            rintro e w12 ⟨rfl, hb12⟩
            have HKG := hid (on HKF.out hb12)
            clear hb12
            rcases hkk with ⟨h1, h2⟩ | ⟨h1, h2⟩
            · rw [dec_true (right_made h1 (fun e => by first | rfl | exact absurd (HB9.out.symm.trans e) (by decide)) (fun e => by first | rfl | exact absurd (HB10.out.symm.trans e) (by decide)) (by omega))]
              have hLp : 0 < L := by omega
              go_wp2_with fail
              go_ret
              refine ⟨ret_bool ?_, HKG.out⟩
              simp
            · rw [dec_false (fun h => h1 h.1)]
              obtain rfl : L = 0 := by omega
              go_wp2_with fail
              go_ret
              exact ⟨rfl, HKG.out⟩
          · go_wp2_with fail
            refine (has_any S L cs (fI k) 9 _ _ HL.out (by unfold maxLen; omega) HO8.out.has).mono ?_
            rintro e w9 ⟨rfl, rfl⟩
            rw [HB9.out]
            have c9 := HX8.out.cell 9
            rw [show (msgC (cF k c) gr D n cp)[9]? = some (.bool gr) from rfl] at c9
            have f9 := HX8.out.free 9
            have c10 := HX8.out.cell 10
            rw [show (msgC (cF k c) gr D n cp)[10]? = some (.slice D n cp) from rfl] at c10
            have f10 := HX8.out.free 10
            have X9 := HX8.out.set 9 (.bool false)
            rw [msgC_grant] at X9
            have HX9 := hid X9
            have HO9 := hid (OwnI.set HO8.out HG.out 9 (.bool false))
            have HK9 := hid (below_set HB8.out ⟨w.heap.size, 9, none⟩ (.bool false) (Nat.le_refl _))
            clear X9
            have X10 := HX9.out.set 10 (.slice D 64 cp)
            rw [msgC_data] at X10
            have HX10 := hid X10
            have HO10 := hid (OwnI.set HO9.out HG.out 10 (.slice D 64 cp))
            have HK10 := hid (below_set HK9.out ⟨w.heap.size, 10, none⟩ (.slice D 64 cp) (Nat.le_refl _))
            clear X10
            go_wp2_with fail
            refine (has_any S L cs (fI k) 10 _ _ HL.out (by unfold maxLen; omega) HO10.out.has).mono ?_
            rintro e w11 ⟨rfl, rfl⟩
            rw [HB10.out]
            have HXF := HX10
            have HKF := HK10
            go_upto_region 22 with fail
            generalize (((wr.setCell ⟨w.heap.size, 8, none⟩ (.int .i64 0)).setCell ⟨w.heap.size, 9, none⟩ (.bool false)).setCell ⟨w.heap.size, 10, none⟩ (.slice D 64 cp)) = W at *
            go_wp2_with (refine wpList_load_bx rfl 25 (.tmp 3) rfl _ _ _ _ rfl HXF.out Tryd.underlying25 rfl (by kernel_rfl) ?_)
            refine (right_any (cF k c) false D 64 cp _ (HN.out.next HKF.out)).mono ?_
            rintro e w12 ⟨rfl, hb12⟩
            have HKG := hid (on HKF.out hb12)
            clear hb12
            rcases hkk with ⟨h1, h2⟩ | ⟨h1, h2⟩
            · rw [dec_true (right_made h1 (fun e => by first | rfl | exact absurd (HB9.out.symm.trans e) (by decide)) (fun e => by first | rfl | exact absurd (HB10.out.symm.trans e) (by decide)) (by omega))]
              have hLp : 0 < L := by omega
              go_wp2_with fail
              go_ret
              refine ⟨ret_bool ?_, HKG.out⟩
              simp
            · rw [dec_false (fun h => h1 h.1)]
              obtain rfl : L = 0 := by omega
              go_wp2_with fail
              go_ret
              exact ⟨rfl, HKG.out⟩
        · cases b10
          · go_wp2_with fail
            refine (has_any S L cs (fI k) 9 _ _ HL.out (by unfold maxLen; omega) HO8.out.has).mono ?_
            rintro e w9 ⟨rfl, rfl⟩
            rw [HB9.out]
            have c9 := HX8.out.cell 9
            rw [show (msgC (cF k c) gr D n cp)[9]? = some (.bool gr) from rfl] at c9
            have f9 := HX8.out.free 9
            have c10 := HX8.out.cell 10
            rw [show (msgC (cF k c) gr D n cp)[10]? = some (.slice D n cp) from rfl] at c10
            have f10 := HX8.out.free 10
            have HX9 := HX8
            have HO9 := HO8
            have HK9 := HB8
            have X10 := HX9.out.set 10 (.slice D 64 cp)
            rw [msgC_data] at X10
            have HX10 := hid X10
            have HO10 := hid (OwnI.set HO9.out HG.out 10 (.slice D 64 cp))
            have HK10 := hid (below_set HK9.out ⟨w.heap.size, 10, none⟩ (.slice D 64 cp) (Nat.le_refl _))
            clear X10
            go_wp2_with fail
            refine (has_any S L cs (fI k) 10 _ _ HL.out (by unfold maxLen; omega) HO10.out.has).mono ?_
            rintro e w11 ⟨rfl, rfl⟩
            rw [HB10.out]
            have c10 := HX10.out.cell 10
            rw [show (msgC (cF k c) gr D 64 cp)[10]? = some (.slice D 64 cp) from rfl] at c10
            have f10 := HX10.out.free 10
            have XF := HX10.out.set 10 (.slice none 0 0)
            rw [msgC_data] at XF
            have HXF := hid XF
            have HKF := hid (below_set HK10.out ⟨w.heap.size, 10, none⟩ (.slice none 0 0) (Nat.le_refl _))
            clear XF
            go_upto_region 22 with fail
            generalize (((wr.setCell ⟨w.heap.size, 8, none⟩ (.int .i64 0)).setCell ⟨w.heap.size, 10, none⟩ (.slice D 64 cp)).setCell ⟨w.heap.size, 10, none⟩ (.slice none 0 0)) = W at *
            go_wp2_with (refine wpList_load_bx rfl 25 (.tmp 3) rfl _ _ _ _ rfl HXF.out Tryd.underlying25 rfl (by kernel_rfl) ?_)
            refine (right_any (cF k c) gr none 0 0 _ (HN.out.next HKF.out)).mono ?_
            rintro e w12 ⟨rfl, hb12⟩
            have HKG := hid (on HKF.out hb12)
            clear hb12
            rcases hkk with ⟨h1, h2⟩ | ⟨h1, h2⟩
            · rw [dec_true (right_made h1 (fun e => by first | rfl | exact absurd (HB9.out.symm.trans e) (by decide)) (fun e => by first | rfl | exact absurd (HB10.out.symm.trans e) (by decide)) (by omega))]
              have hLp : 0 < L := by omega
              go_wp2_with fail
              go_ret
              refine ⟨ret_bool ?_, HKG.out⟩
              simp
            · rw [dec_false (fun h => h1 h.1)]
              obtain rfl : L = 0 := by omega
              go_wp2_with fail
              go_ret
              exact ⟨rfl, HKG.out⟩
          · go_wp2_with fail
            refine (has_any S L cs (fI k) 9 _ _ HL.out (by unfold maxLen; omega) HO8.out.has).mono ?_
            rintro e w9 ⟨rfl, rfl⟩
            rw [HB9.out]
            have c9 := HX8.out.cell 9
            rw [show (msgC (cF k c) gr D n cp)[9]? = some (.bool gr) from rfl] at c9
            have f9 := HX8.out.free 9
            have c10 := HX8.out.cell 10
            rw [show (msgC (cF k c) gr D n cp)[10]? = some (.slice D n cp) from rfl] at c10
            have f10 := HX8.out.free 10
            have HX9 := HX8
            have HO9 := HO8
            have HK9 := HB8
            have X10 := HX9.out.set 10 (.slice D 64 cp)
            rw [msgC_data] at X10
            have HX10 := hid X10
            have HO10 := hid (OwnI.set HO9.out HG.out 10 (.slice D 64 cp))
            have HK10 := hid (below_set HK9.out ⟨w.heap.size, 10, none⟩ (.slice D 64 cp) (Nat.le_refl _))
            clear X10
            go_wp2_with fail
            refine (has_any S L cs (fI k) 10 _ _ HL.out (by unfold maxLen; omega) HO10.out.has).mono ?_
            rintro e w11 ⟨rfl, rfl⟩
            rw [HB10.out]
            have HXF := HX10
            have HKF := HK10
            go_upto_region 22 with fail
            generalize ((wr.setCell ⟨w.heap.size, 8, none⟩ (.int .i64 0)).setCell ⟨w.heap.size, 10, none⟩ (.slice D 64 cp)) = W at *
            go_wp2_with (refine wpList_load_bx rfl 25 (.tmp 3) rfl _ _ _ _ rfl HXF.out Tryd.underlying25 rfl (by kernel_rfl) ?_)
            refine (right_any (cF k c) gr D 64 cp _ (HN.out.next HKF.out)).mono ?_
            rintro e w12 ⟨rfl, hb12⟩
            have HKG := hid (on HKF.out hb12)
            clear hb12
            rcases hkk with ⟨h1, h2⟩ | ⟨h1, h2⟩
            · rw [dec_true (right_made h1 (fun e => by first | rfl | exact absurd (HB9.out.symm.trans e) (by decide)) (fun e => by first | rfl | exact absurd (HB10.out.symm.trans e) (by decide)) (by omega))]
              have hLp : 0 < L := by omega
              go_wp2_with fail
              go_ret
              refine ⟨ret_bool ?_, HKG.out⟩
              simp
            · rw [dec_false (fun h => h1 h.1)]
              obtain rfl : L = 0 := by omega
              go_wp2_with fail
              go_ret
              exact ⟨rfl, HKG.out⟩
end Go.Proofs.YtihldenljddmoaaDoor
