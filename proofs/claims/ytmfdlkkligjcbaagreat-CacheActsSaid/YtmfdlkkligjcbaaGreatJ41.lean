/-
  What is proved: what Put of the reference's cache does. Condition: an MQ was used at most 10000000 times.
-/
import Derived.Test.YtmfdlkkligjcbaaGreatJ01
import Derived.Test.YtmfdlkkligjcbaaGreatJ40
namespace Go.Proofs.YtmfdlkkligjcbaaGreat
open Go.RowKit

section
variable {w w' : World} {Z Y X P Q : Nat → Prop} {g d n cp T cv K k1 c1 : Nat} {c : Nat → Int} {A A1 : Option Addr} {lv mv pv : Value} {us : List Value} {o : Ob} {E : Int → List Int} {b lev : Int}
def wz6 : Array Value := #[.int .i64 0, .slice none 0 0, .bool false, .int .i64 0]
/-- two new blocks are put into Z -/
theorem Rc.with2 (h : Rc w Z Y g d c A n cp T lv mv pv cv us o E) (o1 o2 : Obj) : Rc ((w.alloc o1).alloc o2) (fun j => (Z j ∨ j = w.heap.size) ∨ j = w.heap.size + 1) Y g d c A n cp T lv mv pv cv us o E := by
  have hs : (w.alloc o1).heap.size = w.heap.size + 1 := World.size_alloc w _
  have h2 := (h.alloc o1).alloc o2
  rw [hs] at h2
  exact h2
theorem frames_made (w : World) (b : Int) (A1 : Option Addr) (k1 c1 : Nat) : Bx ((w.alloc (.cells #[.int .i64 b, .slice A1 k1 c1] 38)).alloc (.cells wz6 82)) w.heap.size 38 #[.int .i64 b, .slice A1 k1 c1] ∧
    Bx ((w.alloc (.cells #[.int .i64 b, .slice A1 k1 c1] 38)).alloc (.cells wz6 82)) (w.heap.size + 1) 82 wz6 := by
  have hs : (w.alloc (.cells #[.int .i64 b, .slice A1 k1 c1] 38)).heap.size = w.heap.size + 1 := World.size_alloc w _
  have h2 := Bx.new (w.alloc (.cells #[.int .i64 b, .slice A1 k1 c1] 38)) 82 wz6
  rw [hs] at h2
  exact ⟨(Bx.new w _ _).next (below_alloc _ _), h2⟩
/-- a struct's store into one's own new block -/
theorem chg_row_new {w W : World} {q : Nat} {cs : Array Value} (hb : Below w.heap.size w W) (hq : w.heap.size ≤ q) : Below w.heap.size w (W.setRow q cs) :=
  hb.trans ((chg_row W q cs).bel hb.size fun j e => by rw [e]; exact hq)
set_option maxRecDepth 20000 in
set_option maxHeartbeats 1000000 in
theorem rt_lru {C : Nat} {L : List Int} (h : Rc w Z Y g d c A n cp T lv mv pv cv us (Ob.lru C L) E) (_ : Rok (Ob.lru C L) K T c) : Calls Tryz.prog 22 #[.pointer (some ⟨g, 0, none⟩), .int .i64 b, .int .i64 lev] w fun e w' => e = .returned (.bool (decide (0 ≤ b ∧ b < c 2) && (Ob.lru C L).takes (c 5) T b lev)) ∧ Below w.heap.size w w' := by
  have g2 := h.c2
  have g5 := h.c5
  have g17 := h.c17
  have g20 := h.c20
  obtain ⟨rfl, rfl, -⟩ := h.ord
  have HE := hid (show ∀ p : Bool, (c 5 == 1) = p → (if p then (lev == (T : Int)) else true) = (Ob.lru C L).takes (c 5) T b lev from fun p hp => by
    show _ = ((c 5 != 1) || (lev == (T : Int)))
    rw [bne, hp]
    cases p <;> rfl)
  clear h
  by_cases h1 : b < 0
  · have d1 : decide (b < 0) = true := decide_eq_true h1
    have HF := hid (show decide (0 ≤ b ∧ b < c 2) = false from decide_eq_false (by omega))
    clear h1
    go_enter Tryz.func22, Tryz.ntmps22
    go_wp2
    go_ret
    exact ⟨by rw [HF.out]; rfl, Below.refl _ _⟩
  · have d1 : decide (b < 0) = false := decide_eq_false h1
    by_cases h2 : b < c 2
    · have d2 : decide (c 2 ≤ b) = false := decide_eq_false (by omega)
      have HF := hid (show decide (0 ≤ b ∧ b < c 2) = true from decide_eq_true (by omega))
      clear h1 h2
      cases hp : (c 5 == 1) with
      | true =>
        have HE2 := hid (HE.out true hp)
        clear HE
        go_enter Tryz.func22, Tryz.ntmps22
        go_wp2
        go_ret
        exact ⟨by
          have e1 := HF.out
          rw [Bool.decide_and] at e1
          first
            | (rw [HF.out, ← HE2.out]; rfl)
            | (rw [e1, ← HE2.out]; rfl), Below.refl _ _⟩
      | false =>
        have HE2 := hid (HE.out false hp)
        clear HE
        go_enter Tryz.func22, Tryz.ntmps22
        go_wp2
        go_ret
        exact ⟨by
          have e1 := HF.out
          rw [Bool.decide_and] at e1
          first
            | (rw [HF.out, ← HE2.out]; rfl)
            | (rw [e1, ← HE2.out]; rfl), Below.refl _ _⟩
    · have d2 : decide (c 2 ≤ b) = true := decide_eq_true (by omega)
      have HF := hid (show decide (0 ≤ b ∧ b < c 2) = false from decide_eq_false (by omega))
      clear h1 h2
      go_enter Tryz.func22, Tryz.ntmps22
      go_wp2
      go_ret
      exact ⟨by rw [HF.out]; rfl, Below.refl _ _⟩
set_option maxRecDepth 20000 in
set_option maxHeartbeats 1000000 in
theorem rt_mq {C N L H : Nat} {m : Ms} (h : Rc w Z Y g d c A n cp T lv mv pv cv us (Ob.mq C N L H m) E) (_ : Rok (Ob.mq C N L H m) K T c) : Calls Tryz.prog 22 #[.pointer (some ⟨g, 0, none⟩), .int .i64 b, .int .i64 lev] w fun e w' => e = .returned (.bool (decide (0 ≤ b ∧ b < c 2) && (Ob.mq C N L H m).takes (c 5) T b lev)) ∧ Below w.heap.size w w' := by
  have g2 := h.c2
  have g5 := h.c5
  have g17 := h.c17
  have g20 := h.c20
  obtain ⟨rfl, h9, a9, p9, e9, rfl, -⟩ := h.ord
  have HE := hid (show ∀ p : Bool, (c 5 == 1) = p → (if p then (lev == (T : Int)) else true) = (Ob.mq C N L H m).takes (c 5) T b lev from fun p hp => by
    show _ = ((c 5 != 1) || (lev == (T : Int)))
    rw [bne, hp]
    cases p <;> rfl)
  clear h
  by_cases h1 : b < 0
  · have d1 : decide (b < 0) = true := decide_eq_true h1
    have HF := hid (show decide (0 ≤ b ∧ b < c 2) = false from decide_eq_false (by omega))
    clear h1
    go_enter Tryz.func22, Tryz.ntmps22
    go_wp2
    go_ret
    exact ⟨by rw [HF.out]; rfl, Below.refl _ _⟩
  · have d1 : decide (b < 0) = false := decide_eq_false h1
    by_cases h2 : b < c 2
    · have d2 : decide (c 2 ≤ b) = false := decide_eq_false (by omega)
      have HF := hid (show decide (0 ≤ b ∧ b < c 2) = true from decide_eq_true (by omega))
      clear h1 h2
      cases hp : (c 5 == 1) with
      | true =>
        have HE2 := hid (HE.out true hp)
        clear HE
        go_enter Tryz.func22, Tryz.ntmps22
        go_wp2
        go_ret
        exact ⟨by
          have e1 := HF.out
          rw [Bool.decide_and] at e1
          first
            | (rw [HF.out, ← HE2.out]; rfl)
            | (rw [e1, ← HE2.out]; rfl), Below.refl _ _⟩
      | false =>
        have HE2 := hid (HE.out false hp)
        clear HE
        go_enter Tryz.func22, Tryz.ntmps22
        go_wp2
        go_ret
        exact ⟨by
          have e1 := HF.out
          rw [Bool.decide_and] at e1
          first
            | (rw [HF.out, ← HE2.out]; rfl)
            | (rw [e1, ← HE2.out]; rfl), Below.refl _ _⟩
    · have d2 : decide (c 2 ≤ b) = true := decide_eq_true (by omega)
      have HF := hid (show decide (0 ≤ b ∧ b < c 2) = false from decide_eq_false (by omega))
      clear h1 h2
      go_enter Tryz.func22, Tryz.ntmps22
      go_wp2
      go_ret
      exact ⟨by rw [HF.out]; rfl, Below.refl _ _⟩
set_option maxRecDepth 20000 in
set_option maxHeartbeats 1000000 in
theorem rt_prt {rg : Int → Option Nat} {pt : Nat → Nat} {lp : Nat → Bool} {n2 : Nat} {S : List (List Int)} (h : Rc w Z Y g d c A n cp T lv mv pv cv us (Ob.prt rg pt lp n2 S) E) (r : Rok (Ob.prt rg pt lp n2 S) K T c) : Calls Tryz.prog 22 #[.pointer (some ⟨g, 0, none⟩), .int .i64 b, .int .i64 lev] w fun e w' => e = .returned (.bool (decide (0 ≤ b ∧ b < c 2) && (Ob.prt rg pt lp n2 S).takes (c 5) T b lev)) ∧ Below w.heap.size w w' := by
  have g2 := h.c2
  have g5 := h.c5
  have g17 := h.c17
  have g20 := h.c20
  obtain ⟨r', gp, b', A', c', hh, pf, B, cv', us', T', rfl, h1, -⟩ := h.ord
  have hp : (c 5 == 1) = false := by simpa using r.pl _ _ _ _ _ rfl
  have HC := hid r.c2
  have HPT := hid fun hz => rp_part h1 (z := b) hz
  clear h r h1
  by_cases h1 : b < 0
  · have d1 : decide (b < 0) = true := decide_eq_true h1
    have HF := hid (show decide (0 ≤ b ∧ b < c 2) = false from decide_eq_false (by omega))
    clear h1
    go_enter Tryz.func22, Tryz.ntmps22
    go_wp2
    go_ret
    exact ⟨by rw [HF.out]; rfl, Below.refl _ _⟩
  · have d1 : decide (b < 0) = false := decide_eq_false h1
    by_cases h2 : b < c 2
    · have d2 : decide (c 2 ≤ b) = false := decide_eq_false (by omega)
      have HF := hid (show decide (0 ≤ b ∧ b < c 2) = true from decide_eq_true (by omega))
      have HQT := hid (HPT.out (by have := HC.out; unfold zb; omega))
      have HG := hid (show (Ob.prt rg pt lp n2 S).takes (c 5) T b lev = decide (0 < ptO pt (rg b)) from rfl)
      clear h1 h2 HPT
      go_enter Tryz.func22, Tryz.ntmps22
      go_wp2_with (go_at_call 49; refine HQT.out.mono ?_; rintro e w1 ⟨rfl, k1, rfl⟩)
      go_ret
      exact ⟨by rw [HF.out, HG.out]; simp, below_draws (Below.refl _ _) _⟩
    · have d2 : decide (c 2 ≤ b) = true := decide_eq_true (by omega)
      have HF := hid (show decide (0 ≤ b ∧ b < c 2) = false from decide_eq_false (by omega))
      clear h1 h2
      go_enter Tryz.func22, Tryz.ntmps22
      go_wp2
      go_ret
      exact ⟨by rw [HF.out]; rfl, Below.refl _ _⟩
theorem rc_takes (h : Rc w Z Y g d c A n cp T lv mv pv cv us o E) (r : Rok o K T c) : Calls Tryz.prog 22 #[.pointer (some ⟨g, 0, none⟩), .int .i64 b, .int .i64 lev] w fun e w' => e = .returned (.bool (decide (0 ≤ b ∧ b < c 2) && o.takes (c 5) T b lev)) ∧ Below w.heap.size w w' := by
  cases o with
  | lru C L => exact rt_lru h r
  | mq C N L H m => exact rt_mq h r
  | prt rg pt lp n S => exact rt_prt h r
set_option maxRecDepth 20000 in
set_option maxHeartbeats 1000000 in
theorem rg_low (h : Rc w Z Y g d c A n cp T lv mv pv cv us o E) (r : Rok o K T c) (hb : b < 0) :
    Calls Tryz.prog 41 #[.pointer (some ⟨g, 0, none⟩), .agg #[.int .i64 b, .slice A1 k1 c1], .int .i64 lev] w fun e w' => e = .returned (.agg #[.int .i64 0, .slice none 0 0, .bool false, .int .i64 9]) ∧ Below w.heap.size w w' := by
  have HLT := hid (And.intro h.lt (And.intro h.zg (And.intro h.yz h.zd)))
  have HF0 := hid (frames_made w b A1 k1 c1)
  have HW0 := hid (on (below_alloc w (.cells #[.int .i64 b, .slice A1 k1 c1] 38)) (below_alloc _ (.cells wz6 82)))
  have h0 := h.with2 (.cells #[.int .i64 b, .slice A1 k1 c1] 38) (.cells wz6 82)
  have HR0 := hid h0
  have HOK := hid r
  have d1 : decide (b < 0) = true := decide_eq_true hb
  clear hb
  clear h r h0
  go_enter Tryz.func41, Tryz.ntmps41
  go_upto_region 1 with fail
  obtain ⟨W0, hW0⟩ : ∃ x, (w.alloc (.cells #[.int .i64 b, .slice A1 k1 c1] 38)).alloc (.cells #[.int .i64 0, .slice none 0 0, .bool false, .int .i64 0] 82) = x := ⟨_, rfl⟩
  obtain ⟨q, hq⟩ : ∃ x, w.heap.size + 1 = x := ⟨_, rfl⟩
  obtain ⟨p, hp⟩ : ∃ x, w.heap.size = x := ⟨_, rfl⟩
  unfold wz6 at HF0 HW0 HR0
  rw [hW0, hq, hp] at HF0 HR0
  rw [hW0] at HW0 ⊢
  rw [hq, hp]
  have HNZ := hid (show (∀ j, Z j → j ≠ p ∧ j ≠ q) ∧ p ≠ q ∧ w.heap.size ≤ p ∧ w.heap.size ≤ q from ⟨fun j hj => by have := HLT.out.1 j hj; omega, by omega, by omega, by omega⟩)
  clear hW0 hp hq
  obtain ⟨W1, hW1⟩ : ∃ x, W0.drew = x := ⟨_, rfl⟩
  have HE1 := hid hW1
  have hb01 : Below W0.heap.size W0 W1 := hW1 ▸ below_draws (Below.refl _ _) 1
  have HW1 := hid (on HW0.out hb01)
  have HP1 := hid (HF0.out.1.next hb01)
  have HQ1 := hid (HF0.out.2.next hb01)
  have HR1 := hid (HR0.out.below hb01)
  clear hW1 hb01 HF0 HR0 HW0
  refine wp_region_noPanic ?_
  refine wp_region_held_drew (S := fun w' => w'.cell? ⟨p, 0, none⟩ = some (.int .i64 b) ∧ w'.cell? ⟨g, 2, none⟩ = some (.int .i64 (c 2))) (by kernel_rfl) ?_ (fun hHeld => ?_)
  · rw [HE1.out]; exact ⟨HP1.out.cell 0, HR1.out.c2⟩
  refine tkv 0 (some 10) rfl ?_
  refine tkv 1 (some 11) rfl ?_
  refine tkv 2 (some 12) rfl ?_
  refine tkv 3 (some 13) rfl ?_
  refine tks 4 (some 14) rfl ?_
  (try simp only [Act.put, tkA, tk0, tk1])
  refine tks 5 (some 15) rfl ?_
  (try simp only [Act.put, tkA, tk0, tk1])
  refine tks 6 (some 16) rfl ?_
  (try simp only [Act.put, tkA, tk0, tk1])
  refine tks 7 (some 17) rfl ?_
  (try simp only [Act.put, tkA, tk0, tk1])
  refine tks 8 (some 18) rfl ?_
  (try simp only [Act.put, tkA, tk0, tk1])
  refine tks 9 (some 19) rfl ?_
  (try simp only [Act.put, tkA, tk0, tk1])
  refine tks 10 (some 20) rfl ?_
  (try simp only [Act.put, tkA, tk0, tk1])
  refine tks 11 (some 21) rfl ?_
  (try simp only [Act.put, tkA, tk0, tk1])
  refine tkv 12 (some 22) rfl ?_
  refine wpAnyH_done (by kernel_rfl) ?_ _
  refine NoPanic.normal ?_
  rw [HE1.out]
  go_wp2_with (refine wpList_store_bx rfl 82 (.tmp 6) (.tmp 23) rfl rfl q _ _ #[.int .i64 0, .slice none 0 0, .bool false, .int .i64 9] rfl rfl HQ1.out (by kernel_rfl) rfl (by simp [Value.oneCell']) ?_)
  refine bodyPost_ret (results_bx1 rfl _ rfl (HQ1.out.row (cs' := #[.int .i64 0, .slice none 0 0, .bool false, .int .i64 9])) Tryz.underlying82 rfl (by kernel_rfl)) rfl ?_
  exact ⟨rfl, chg_row_new HW1.out HNZ.out.2.2.2⟩
set_option maxRecDepth 20000 in
set_option maxHeartbeats 1000000 in
theorem rg_high (h : Rc w Z Y g d c A n cp T lv mv pv cv us o E) (r : Rok o K T c) (h0 : ¬ b < 0) (h2 : ¬ b < c 2) :
    Calls Tryz.prog 41 #[.pointer (some ⟨g, 0, none⟩), .agg #[.int .i64 b, .slice A1 k1 c1], .int .i64 lev] w fun e w' => e = .returned (.agg #[.int .i64 0, .slice none 0 0, .bool false, .int .i64 9]) ∧ Below w.heap.size w w' := by
  have d1 : decide (b < 0) = false := decide_eq_false h0
  have d2 : decide (c 2 ≤ b) = true := decide_eq_true (by omega)
  clear h0 h2
  have HLT := hid (And.intro h.lt (And.intro h.zg (And.intro h.yz h.zd)))
  have HF0 := hid (frames_made w b A1 k1 c1)
  have HW0 := hid (on (below_alloc w (.cells #[.int .i64 b, .slice A1 k1 c1] 38)) (below_alloc _ (.cells wz6 82)))
  have h0 := h.with2 (.cells #[.int .i64 b, .slice A1 k1 c1] 38) (.cells wz6 82)
  have HR0 := hid h0
  have HOK := hid r
  clear h r h0
  go_enter Tryz.func41, Tryz.ntmps41
  go_upto_region 1 with fail
  obtain ⟨W0, hW0⟩ : ∃ x, (w.alloc (.cells #[.int .i64 b, .slice A1 k1 c1] 38)).alloc (.cells #[.int .i64 0, .slice none 0 0, .bool false, .int .i64 0] 82) = x := ⟨_, rfl⟩
  obtain ⟨q, hq⟩ : ∃ x, w.heap.size + 1 = x := ⟨_, rfl⟩
  obtain ⟨p, hp⟩ : ∃ x, w.heap.size = x := ⟨_, rfl⟩
  unfold wz6 at HF0 HW0 HR0
  rw [hW0, hq, hp] at HF0 HR0
  rw [hW0] at HW0 ⊢
  rw [hq, hp]
  have HNZ := hid (show (∀ j, Z j → j ≠ p ∧ j ≠ q) ∧ p ≠ q ∧ w.heap.size ≤ p ∧ w.heap.size ≤ q from ⟨fun j hj => by have := HLT.out.1 j hj; omega, by omega, by omega, by omega⟩)
  clear hW0 hp hq
  obtain ⟨W1, hW1⟩ : ∃ x, W0.drew = x := ⟨_, rfl⟩
  have HE1 := hid hW1
  have hb01 : Below W0.heap.size W0 W1 := hW1 ▸ below_draws (Below.refl _ _) 1
  have HW1 := hid (on HW0.out hb01)
  have HP1 := hid (HF0.out.1.next hb01)
  have HQ1 := hid (HF0.out.2.next hb01)
  have HR1 := hid (HR0.out.below hb01)
  clear hW1 hb01 HF0 HR0 HW0
  refine wp_region_noPanic ?_
  refine wp_region_held_drew (S := fun w' => w'.cell? ⟨p, 0, none⟩ = some (.int .i64 b) ∧ w'.cell? ⟨g, 2, none⟩ = some (.int .i64 (c 2))) (by kernel_rfl) ?_ (fun hHeld => ?_)
  · rw [HE1.out]; exact ⟨HP1.out.cell 0, HR1.out.c2⟩
  refine tkv 0 (some 10) rfl ?_
  refine tkv 1 (some 11) rfl ?_
  refine tkv 2 (some 12) rfl ?_
  refine tkv 3 (some 13) rfl ?_
  refine tkv 4 (some 14) rfl ?_
  refine tkv 5 (some 15) rfl ?_
  refine tkv 6 (some 16) rfl ?_
  refine tkv 7 (some 17) rfl ?_
  refine tkv 8 (some 18) rfl ?_
  refine tkv 9 (some 19) rfl ?_
  refine tkv 10 (some 20) rfl ?_
  refine tkv 11 (some 21) rfl ?_
  refine tkv 12 (some 22) rfl ?_
  refine wpAnyH_done (by kernel_rfl) ?_ _
  refine NoPanic.normal ?_
  rw [HE1.out]
  go_wp2_with (refine wpList_store_bx rfl 82 (.tmp 6) (.tmp 23) rfl rfl q _ _ #[.int .i64 0, .slice none 0 0, .bool false, .int .i64 9] rfl rfl HQ1.out (by kernel_rfl) rfl (by simp [Value.oneCell']) ?_)
  refine bodyPost_ret (results_bx1 rfl _ rfl (HQ1.out.row (cs' := #[.int .i64 0, .slice none 0 0, .bool false, .int .i64 9])) Tryz.underlying82 rfl (by kernel_rfl)) rfl ?_
  exact ⟨rfl, chg_row_new HW1.out HNZ.out.2.2.2⟩
set_option maxRecDepth 20000 in
set_option maxHeartbeats 1000000 in
theorem rg_size (h : Rc w Z Y g d c A n cp T lv mv pv cv us o E) (r : Rok o K T c) (hb : 0 ≤ b ∧ b < c 2) (h3 : ¬ (k1 : Int) = c 3) :
    Calls Tryz.prog 41 #[.pointer (some ⟨g, 0, none⟩), .agg #[.int .i64 b, .slice A1 k1 c1], .int .i64 lev] w fun e w' => e = .returned (.agg #[.int .i64 0, .slice none 0 0, .bool false, .int .i64 10]) ∧ Below w.heap.size w w' := by
  have d1 : decide (b < 0) = false := decide_eq_false (by omega)
  have d2 : decide (c 2 ≤ b) = false := decide_eq_false (by omega)
  have d3 : ((k1 : Int) != c 3) = true := by simpa using h3
  clear hb h3
  have HLT := hid (And.intro h.lt (And.intro h.zg (And.intro h.yz h.zd)))
  have HF0 := hid (frames_made w b A1 k1 c1)
  have HW0 := hid (on (below_alloc w (.cells #[.int .i64 b, .slice A1 k1 c1] 38)) (below_alloc _ (.cells wz6 82)))
  have h0 := h.with2 (.cells #[.int .i64 b, .slice A1 k1 c1] 38) (.cells wz6 82)
  have HR0 := hid h0
  have HOK := hid r
  clear h r h0
  go_enter Tryz.func41, Tryz.ntmps41
  go_upto_region 1 with fail
  obtain ⟨W0, hW0⟩ : ∃ x, (w.alloc (.cells #[.int .i64 b, .slice A1 k1 c1] 38)).alloc (.cells #[.int .i64 0, .slice none 0 0, .bool false, .int .i64 0] 82) = x := ⟨_, rfl⟩
  obtain ⟨q, hq⟩ : ∃ x, w.heap.size + 1 = x := ⟨_, rfl⟩
  obtain ⟨p, hp⟩ : ∃ x, w.heap.size = x := ⟨_, rfl⟩
  unfold wz6 at HF0 HW0 HR0
  rw [hW0, hq, hp] at HF0 HR0
  rw [hW0] at HW0 ⊢
  rw [hq, hp]
  have HNZ := hid (show (∀ j, Z j → j ≠ p ∧ j ≠ q) ∧ p ≠ q ∧ w.heap.size ≤ p ∧ w.heap.size ≤ q from ⟨fun j hj => by have := HLT.out.1 j hj; omega, by omega, by omega, by omega⟩)
  clear hW0 hp hq
  obtain ⟨W1, hW1⟩ : ∃ x, W0.drew = x := ⟨_, rfl⟩
  have HE1 := hid hW1
  have hb01 : Below W0.heap.size W0 W1 := hW1 ▸ below_draws (Below.refl _ _) 1
  have HW1 := hid (on HW0.out hb01)
  have HP1 := hid (HF0.out.1.next hb01)
  have HQ1 := hid (HF0.out.2.next hb01)
  have HR1 := hid (HR0.out.below hb01)
  clear hW1 hb01 HF0 HR0 HW0
  refine wp_region_noPanic ?_
  refine wp_region_held_drew (S := fun w' => w'.cell? ⟨p, 0, none⟩ = some (.int .i64 b) ∧ w'.cell? ⟨g, 2, none⟩ = some (.int .i64 (c 2))) (by kernel_rfl) ?_ (fun hHeld => ?_)
  · rw [HE1.out]; exact ⟨HP1.out.cell 0, HR1.out.c2⟩
  refine tkv 0 (some 10) rfl ?_
  refine tkv 1 (some 11) rfl ?_
  refine tkv 2 (some 12) rfl ?_
  refine tkv 3 (some 13) rfl ?_
  refine tkv 4 (some 14) rfl ?_
  refine tkv 5 (some 15) rfl ?_
  refine tkv 6 (some 16) rfl ?_
  refine tkv 7 (some 17) rfl ?_
  refine tkv 8 (some 18) rfl ?_
  refine tkv 9 (some 19) rfl ?_
  refine tkv 10 (some 20) rfl ?_
  refine tkv 11 (some 21) rfl ?_
  refine tkv 12 (some 22) rfl ?_
  refine wpAnyH_done (by kernel_rfl) ?_ _
  refine NoPanic.normal ?_
  rw [HE1.out]
  go_upto_region 3 with fail
  obtain ⟨W2, hW2⟩ : ∃ x, W1.drew = x := ⟨_, rfl⟩
  have HE2 := hid hW2
  have hb12 : Below W1.heap.size W1 W2 := hW2 ▸ below_draws (Below.refl _ _) 1
  have HW2 := hid (on HW1.out hb12)
  have HP2 := hid (HP1.out.next hb12)
  have HQ2 := hid (HQ1.out.next hb12)
  have HR2 := hid (HR1.out.below hb12)
  clear hW2 hb12 HP1 HQ1 HR1 HW1
  refine wp_region_noPanic ?_
  refine wp_region_held_drew (S := fun w' => w'.cell? ⟨p, 1, none⟩ = some (.slice A1 k1 c1) ∧ w'.cell? ⟨g, 3, none⟩ = some (.int .i64 (c 3))) (by kernel_rfl) ?_ (fun hHeld => ?_)
  · rw [HE2.out]; exact ⟨HP2.out.cell 1, HR2.out.c3⟩
  refine tkv 0 (some 24) rfl ?_
  refine tkv 1 (some 25) rfl ?_
  refine tkv 2 (some 26) rfl ?_
  refine tkv 3 (some 27) rfl ?_
  refine tkv 4 (some 28) rfl ?_
  refine tkv 5 (some 29) rfl ?_
  refine tkv 6 (some 30) rfl ?_
  refine tkv 7 (some 31) rfl ?_
  refine tkv 8 (some 32) rfl ?_
  refine wpAnyH_done (by kernel_rfl) ?_ _
  refine NoPanic.normal ?_
  rw [HE2.out]
  go_wp2_with (refine wpList_store_bx rfl 82 (.tmp 6) (.tmp 33) rfl rfl q _ _ #[.int .i64 0, .slice none 0 0, .bool false, .int .i64 10] rfl rfl HQ2.out (by kernel_rfl) rfl (by simp [Value.oneCell']) ?_)
  refine bodyPost_ret (results_bx1 rfl _ rfl (HQ2.out.row (cs' := #[.int .i64 0, .slice none 0 0, .bool false, .int .i64 10])) Tryz.underlying82 rfl (by kernel_rfl)) rfl ?_
  exact ⟨rfl, chg_row_new HW2.out HNZ.out.2.2.2⟩
set_option maxRecDepth 20000 in
set_option maxHeartbeats 1000000 in
theorem rg_none (h : Rc w Z Y g d c A n cp T lv mv pv cv us o E) (r : Rok o K T c) (hb : 0 ≤ b ∧ b < c 2) (h3 : (k1 : Int) = c 3) (ht : o.takes (c 5) T b lev = false) :
    Calls Tryz.prog 41 #[.pointer (some ⟨g, 0, none⟩), .agg #[.int .i64 b, .slice A1 k1 c1], .int .i64 lev] w fun e w' => e = .returned (.agg #[.int .i64 0, .slice none 0 0, .bool false, .int .i64 5]) ∧ Below w.heap.size w w' := by
  have d1 : decide (b < 0) = false := decide_eq_false (by omega)
  have d2 : decide (c 2 ≤ b) = false := decide_eq_false (by omega)
  have HIN := hid (show decide (0 ≤ b ∧ b < c 2) = true from decide_eq_true (by omega))
  have HTK := hid ht
  have d3 : ((k1 : Int) != c 3) = false := by simpa using h3
  clear hb h3 ht
  have HLT := hid (And.intro h.lt (And.intro h.zg (And.intro h.yz h.zd)))
  have HF0 := hid (frames_made w b A1 k1 c1)
  have HW0 := hid (on (below_alloc w (.cells #[.int .i64 b, .slice A1 k1 c1] 38)) (below_alloc _ (.cells wz6 82)))
  have h0 := h.with2 (.cells #[.int .i64 b, .slice A1 k1 c1] 38) (.cells wz6 82)
  have HR0 := hid h0
  have HOK := hid r
  clear h r h0
  go_enter Tryz.func41, Tryz.ntmps41
  go_upto_region 1 with fail
  obtain ⟨W0, hW0⟩ : ∃ x, (w.alloc (.cells #[.int .i64 b, .slice A1 k1 c1] 38)).alloc (.cells #[.int .i64 0, .slice none 0 0, .bool false, .int .i64 0] 82) = x := ⟨_, rfl⟩
  obtain ⟨q, hq⟩ : ∃ x, w.heap.size + 1 = x := ⟨_, rfl⟩
  obtain ⟨p, hp⟩ : ∃ x, w.heap.size = x := ⟨_, rfl⟩
  unfold wz6 at HF0 HW0 HR0
  rw [hW0, hq, hp] at HF0 HR0
  rw [hW0] at HW0 ⊢
  rw [hq, hp]
  have HNZ := hid (show (∀ j, Z j → j ≠ p ∧ j ≠ q) ∧ p ≠ q ∧ w.heap.size ≤ p ∧ w.heap.size ≤ q from ⟨fun j hj => by have := HLT.out.1 j hj; omega, by omega, by omega, by omega⟩)
  clear hW0 hp hq
  obtain ⟨W1, hW1⟩ : ∃ x, W0.drew = x := ⟨_, rfl⟩
  have HE1 := hid hW1
  have hb01 : Below W0.heap.size W0 W1 := hW1 ▸ below_draws (Below.refl _ _) 1
  have HW1 := hid (on HW0.out hb01)
  have HP1 := hid (HF0.out.1.next hb01)
  have HQ1 := hid (HF0.out.2.next hb01)
  have HR1 := hid (HR0.out.below hb01)
  clear hW1 hb01 HF0 HR0 HW0
  refine wp_region_noPanic ?_
  refine wp_region_held_drew (S := fun w' => w'.cell? ⟨p, 0, none⟩ = some (.int .i64 b) ∧ w'.cell? ⟨g, 2, none⟩ = some (.int .i64 (c 2))) (by kernel_rfl) ?_ (fun hHeld => ?_)
  · rw [HE1.out]; exact ⟨HP1.out.cell 0, HR1.out.c2⟩
  refine tkv 0 (some 10) rfl ?_
  refine tkv 1 (some 11) rfl ?_
  refine tkv 2 (some 12) rfl ?_
  refine tkv 3 (some 13) rfl ?_
  refine tkv 4 (some 14) rfl ?_
  refine tkv 5 (some 15) rfl ?_
  refine tkv 6 (some 16) rfl ?_
  refine tkv 7 (some 17) rfl ?_
  refine tkv 8 (some 18) rfl ?_
  refine tkv 9 (some 19) rfl ?_
  refine tkv 10 (some 20) rfl ?_
  refine tkv 11 (some 21) rfl ?_
  refine tkv 12 (some 22) rfl ?_
  refine wpAnyH_done (by kernel_rfl) ?_ _
  refine NoPanic.normal ?_
  rw [HE1.out]
  go_upto_region 3 with fail
  obtain ⟨W2, hW2⟩ : ∃ x, W1.drew = x := ⟨_, rfl⟩
  have HE2 := hid hW2
  have hb12 : Below W1.heap.size W1 W2 := hW2 ▸ below_draws (Below.refl _ _) 1
  have HW2 := hid (on HW1.out hb12)
  have HP2 := hid (HP1.out.next hb12)
  have HQ2 := hid (HQ1.out.next hb12)
  have HR2 := hid (HR1.out.below hb12)
  clear hW2 hb12 HP1 HQ1 HR1 HW1
  refine wp_region_noPanic ?_
  refine wp_region_held_drew (S := fun w' => w'.cell? ⟨p, 1, none⟩ = some (.slice A1 k1 c1) ∧ w'.cell? ⟨g, 3, none⟩ = some (.int .i64 (c 3))) (by kernel_rfl) ?_ (fun hHeld => ?_)
  · rw [HE2.out]; exact ⟨HP2.out.cell 1, HR2.out.c3⟩
  refine tkv 0 (some 24) rfl ?_
  refine tkv 1 (some 25) rfl ?_
  refine tkv 2 (some 26) rfl ?_
  refine tkv 3 (some 27) rfl ?_
  refine tkv 4 (some 28) rfl ?_
  refine tkv 5 (some 29) rfl ?_
  refine tkv 6 (some 30) rfl ?_
  refine tkv 7 (some 31) rfl ?_
  refine tkv 8 (some 32) rfl ?_
  refine wpAnyH_done (by kernel_rfl) ?_ _
  refine NoPanic.normal ?_
  rw [HE2.out]
  have HT0 := hid (rc_takes HR2.out HOK.out (b := b) (lev := lev))
  have HTV := hid (show (decide (0 ≤ b ∧ b < c 2) && o.takes (c 5) T b lev) = false from by rw [HIN.out, HTK.out]; rfl)
  have HT := hid HT0.out
  rw [HTV.out] at HT
  have p0 : W2.cell? ⟨p, 0, none⟩ = some (.int .i64 b) := HP2.out.cell 0
  clear HT0
  go_upto_region 6 with (go_at_call 22; refine HT.out.mono ?_; rintro e W3 ⟨rfl, hb3⟩; have HW3 := hid (on HW2.out hb3); have HQ3 := hid (HQ2.out.next hb3); clear hb3)
  go_wp2_with (refine wpList_store_bx rfl 82 (.tmp 6) (.tmp 40) rfl rfl q _ _ #[.int .i64 0, .slice none 0 0, .bool false, .int .i64 5] rfl rfl HQ3.out (by kernel_rfl) rfl (by simp [Value.oneCell']) ?_)
  refine bodyPost_ret (results_bx1 rfl _ rfl (HQ3.out.row (cs' := #[.int .i64 0, .slice none 0 0, .bool false, .int .i64 5])) Tryz.underlying82 rfl (by kernel_rfl)) rfl ?_
  exact ⟨rfl, chg_row_new HW3.out HNZ.out.2.2.2⟩
/-- what comes of Put that is not refused -/
def RPutQ (w : World) (Z Y : Nat → Prop) (g d : Nat) (c : Nat → Int) (A : Option Addr) (n cp T : Nat) (mv pv : Value) (cv : Nat) (o : Ob) (E : Int → List Int) (b : Int) (l : List Int) (e : Ending) (w' : World) : Prop :=
  ∃ x u, e = .returned (.agg #[.int .i64 x, u, .bool (o.gn b), .int .i64 0]) ∧ (∃ us' lv', Rc w' Z Y g d c A n cp T lv' mv pv cv us' (o.add b) (updB E b l)) ∧ Chg w w' (fun j => (Y j ∨ j = g) ∨ j = d) (fun j => (Y j ∨ j = g) ∨ j = d) ∧
    (o.gn b = true → x = o.vi b ∧ By w' Z u (E (o.vi b))) ∧ (o.gn b = false → x = 0 ∧ u = .slice none 0 0)
set_option maxRecDepth 20000 in
set_option maxHeartbeats 2000000 in
theorem rg_yes_true (h : Rc w Z Y g d c A n cp T lv mv pv cv us o E) (r : Rok o K T c) {l : List Int} (hd : By w Z (.slice A1 k1 c1) l) (h16 : k1 ≤ 16) (hb : 0 ≤ b ∧ b < c 2) (h3 : (k1 : Int) = c 3) (ht : o.takes (c 5) T b lev = true) (htk : o.tk b) (hg : o.gn b = true) :
    Calls Tryz.prog 41 #[.pointer (some ⟨g, 0, none⟩), .agg #[.int .i64 b, .slice A1 k1 c1], .int .i64 lev] w (RPutQ w Z Y g d c A n cp T mv pv cv o E b l) := by
  have HTK := hid ht
  have HG := hid hg
  have HD0 := hid hd
  have H16 := hid h16
  have hc2 := r.c2
  obtain ⟨k, rfl⟩ : ∃ k : Nat, b = k := ⟨b.toNat, by omega⟩
  have hk : k < 32 := by omega
  have hk2 : (k : Int) < 32 := by omega
  have d1 : decide ((k : Int) < 0) = false := decide_eq_false (by omega)
  have d2 : decide (c 2 ≤ (k : Int)) = false := decide_eq_false (by omega)
  have HIN := hid (show decide (0 ≤ (k : Int) ∧ (k : Int) < c 2) = true from decide_eq_true (by omega))
  obtain ⟨kv, hkv⟩ : ∃ kv : Nat, o.vi k = kv := ⟨(o.vi k).toNat, by have := r.lt _ ((Ob.add_mem r.ok htk).2 hg).2.1; omega⟩
  have hv : kv < 32 := by have := r.lt _ ((Ob.add_mem r.ok htk).2 hg).2.1; omega
  have hv2 : (kv : Int) < 32 := by omega
  have HKV := hid hkv
  clear hkv
  have d3 : ((k1 : Int) != c 3) = false := by simpa using h3
  have HVB := hid (show vb (k : Int) from by unfold vb; omega)
  clear hb h3 ht hd h16 htk hg hc2
  have HLT := hid (And.intro h.lt (And.intro h.zg (And.intro h.yz h.zd)))
  have HF0 := hid (frames_made w k A1 k1 c1)
  have HW0 := hid (on (below_alloc w (.cells #[.int .i64 k, .slice A1 k1 c1] 38)) (below_alloc _ (.cells wz6 82)))
  have h0 := h.with2 (.cells #[.int .i64 k, .slice A1 k1 c1] 38) (.cells wz6 82)
  have HR0 := hid h0
  have HOK := hid r
  clear h r h0
  go_enter Tryz.func41, Tryz.ntmps41
  go_upto_region 1 with fail
  obtain ⟨W0, hW0⟩ : ∃ x, (w.alloc (.cells #[.int .i64 k, .slice A1 k1 c1] 38)).alloc (.cells #[.int .i64 0, .slice none 0 0, .bool false, .int .i64 0] 82) = x := ⟨_, rfl⟩
  obtain ⟨q, hq⟩ : ∃ x, w.heap.size + 1 = x := ⟨_, rfl⟩
  obtain ⟨p, hp⟩ : ∃ x, w.heap.size = x := ⟨_, rfl⟩
  unfold wz6 at HF0 HW0 HR0
  rw [hW0, hq, hp] at HF0 HR0
  rw [hW0] at HW0 ⊢
  rw [hq, hp]
  have HNZ := hid (show (∀ j, Z j → j ≠ p ∧ j ≠ q) ∧ p ≠ q ∧ w.heap.size ≤ p ∧ w.heap.size ≤ q from ⟨fun j hj => by have := HLT.out.1 j hj; omega, by omega, by omega, by omega⟩)
  clear hW0 hp hq
  obtain ⟨W1, hW1⟩ : ∃ x, W0.drew = x := ⟨_, rfl⟩
  have HE1 := hid hW1
  have hb01 : Below W0.heap.size W0 W1 := hW1 ▸ below_draws (Below.refl _ _) 1
  have HW1 := hid (on HW0.out hb01)
  have HP1 := hid (HF0.out.1.next hb01)
  have HQ1 := hid (HF0.out.2.next hb01)
  have HR1 := hid (HR0.out.below hb01)
  clear hW1 hb01 HF0 HR0 HW0
  refine wp_region_noPanic ?_
  refine wp_region_held_drew (S := fun w' => w'.cell? ⟨p, 0, none⟩ = some (.int .i64 k) ∧ w'.cell? ⟨g, 2, none⟩ = some (.int .i64 (c 2))) (by kernel_rfl) ?_ (fun hHeld => ?_)
  · rw [HE1.out]; exact ⟨HP1.out.cell 0, HR1.out.c2⟩
  refine tkv 0 (some 10) rfl ?_
  refine tkv 1 (some 11) rfl ?_
  refine tkv 2 (some 12) rfl ?_
  refine tkv 3 (some 13) rfl ?_
  refine tkv 4 (some 14) rfl ?_
  refine tkv 5 (some 15) rfl ?_
  refine tkv 6 (some 16) rfl ?_
  refine tkv 7 (some 17) rfl ?_
  refine tkv 8 (some 18) rfl ?_
  refine tkv 9 (some 19) rfl ?_
  refine tkv 10 (some 20) rfl ?_
  refine tkv 11 (some 21) rfl ?_
  refine tkv 12 (some 22) rfl ?_
  refine wpAnyH_done (by kernel_rfl) ?_ _
  refine NoPanic.normal ?_
  rw [HE1.out]
  go_upto_region 3 with fail
  obtain ⟨W2, hW2⟩ : ∃ x, W1.drew = x := ⟨_, rfl⟩
  have HE2 := hid hW2
  have hb12 : Below W1.heap.size W1 W2 := hW2 ▸ below_draws (Below.refl _ _) 1
  have HW2 := hid (on HW1.out hb12)
  have HP2 := hid (HP1.out.next hb12)
  have HQ2 := hid (HQ1.out.next hb12)
  have HR2 := hid (HR1.out.below hb12)
  clear hW2 hb12 HP1 HQ1 HR1 HW1
  refine wp_region_noPanic ?_
  refine wp_region_held_drew (S := fun w' => w'.cell? ⟨p, 1, none⟩ = some (.slice A1 k1 c1) ∧ w'.cell? ⟨g, 3, none⟩ = some (.int .i64 (c 3))) (by kernel_rfl) ?_ (fun hHeld => ?_)
  · rw [HE2.out]; exact ⟨HP2.out.cell 1, HR2.out.c3⟩
  refine tkv 0 (some 24) rfl ?_
  refine tkv 1 (some 25) rfl ?_
  refine tkv 2 (some 26) rfl ?_
  refine tkv 3 (some 27) rfl ?_
  refine tkv 4 (some 28) rfl ?_
  refine tkv 5 (some 29) rfl ?_
  refine tkv 6 (some 30) rfl ?_
  refine tkv 7 (some 31) rfl ?_
  refine tkv 8 (some 32) rfl ?_
  refine wpAnyH_done (by kernel_rfl) ?_ _
  refine NoPanic.normal ?_
  rw [HE2.out]
  have HT0 := hid (rc_takes HR2.out HOK.out (b := (k : Int)) (lev := lev))
  have HTV := hid (show (decide (0 ≤ (k : Int) ∧ (k : Int) < c 2) && o.takes (c 5) T k lev) = true from by rw [HIN.out, HTK.out]; rfl)
  have HT := hid HT0.out
  rw [HTV.out] at HT
  have p0 : W2.cell? ⟨p, 0, none⟩ = some (.int .i64 k) := HP2.out.cell 0
  clear HT0
  go_upto_region 7 with (go_at_call 22; refine HT.out.mono ?_; rintro e W3 ⟨rfl, hb3⟩; have HB3 := hid hb3; clear hb3)
  clear p0
  have HW3 := hid (on HW2.out HB3.out)
  have HP3 := hid (HP2.out.next HB3.out)
  have HQ3 := hid (HQ2.out.next HB3.out)
  have HR3 := hid (HR2.out.below HB3.out)
  have HD := hid (rdo16_any (κ := 1) HR3.out HOK.out HVB.out ⟨by omega, by omega⟩)
  have p0 : W3.cell? ⟨p, 0, none⟩ = some (.int .i64 k) := HP3.out.cell 0
  clear HP2 HQ2 HR2 HW2 HT
  go_upto_region 8 with (first
    | (go_at_call 62; refine HD.out.mono ?_; rintro e W4 ⟨A3, n3, c3, vi, gn, was, er, rfl, ⟨lv', hrc⟩, hch, hgv⟩; obtain ⟨rfl, rfl⟩ := hgv rfl; have HR4 := hid hrc; have HC4 := hid hch; clear hrc hch)
    | (refine wpList_store_new rfl 120 (.tmp 7) (.tmp 45) rfl rfl _ #[.slice A3 n3 c3, .int .i64 (o.vi k), .bool (o.gn k), .bool was, .int .i64 er] rfl rfl (by kernel_rfl) rfl (by simp [Value.oneCell']) ?_))
  clear p0
  have hyn : ∀ j, (Y j ∨ j = g) → Z j := fun j hj => hj.elim (HLT.out.2.2.1 j) fun e => e ▸ HLT.out.2.1
  have HYN := hid hyn
  have HP4 := hid (HC4.out.bx HP3.out fun hy => (HNZ.out.1 p (hyn p hy)).1 rfl)
  have HQ4 := hid (HC4.out.bx HQ3.out fun hy => (HNZ.out.1 q (hyn q hy)).2 rfl)
  have HK4 := hid (show Chg w W4 (fun j => (Y j ∨ j = g) ∨ j = d) (fun j => (Y j ∨ j = g) ∨ j = d) from (Chg.of HW3.out _).trans (HC4.out.wide fun j hj => .inl hj))
  have hx5 := Bx.new W4 120 #[.slice A3 n3 c3, .int .i64 (o.vi k), .bool (o.gn k), .bool was, .int .i64 er]
  have hb45 := below_alloc W4 (.cells #[.slice A3 n3 c3, .int .i64 (o.vi k), .bool (o.gn k), .bool was, .int .i64 er] 120)
  have HP5 := hid (HP4.out.next hb45)
  have HQ5 := hid (HQ4.out.next hb45)
  have HR5 := hid (HR4.out.below hb45)
  have HK5 := hid (HK4.out.trans (Chg.of hb45 _))
  have HWR := hid (show w.heap.size ≤ W4.heap.size from HK4.out.size)
  clear hyn hb45 HP3 HQ3 HR3 HW3 HP4 HQ4 HR4 HD HC4 HB3 HK4
  rw [HG.out] at hx5 HR5 HP5 HQ5 HK5 ⊢
  obtain ⟨r, hr⟩ : ∃ x, W4.heap.size = x := ⟨_, rfl⟩
  obtain ⟨W5, hW5⟩ : ∃ x, W4.alloc (.cells #[.slice A3 n3 c3, .int .i64 (o.vi k), .bool true, .bool was, .int .i64 er] 120) = x := ⟨_, rfl⟩
  rw [hW5, hr] at hx5
  rw [hW5] at HR5 HP5 HQ5 HK5
  rw [hW5, hr]
  rw [hr] at HWR
  clear hW5 hr
  rw [HKV.out] at hx5
  have HX5 := hid hx5
  have r2 : W5.cell? ⟨r, 2, none⟩ = some (.bool true) := hx5.cell 2
  clear hx5
  go_upto_region 9 with (refine wpList_store_new rfl 82 (.tmp 8) (.tmp 48) rfl rfl _ #[.int .i64 0, .slice none 0 0, .bool true, .int .i64 0] rfl rfl (by kernel_rfl) rfl (by simp [Value.oneCell']) ?_)
  have hx6 := Bx.new W5 82 #[.int .i64 0, .slice none 0 0, .bool true, .int .i64 0]
  have hb56 := below_alloc W5 (.cells #[.int .i64 0, .slice none 0 0, .bool true, .int .i64 0] 82)
  have HR6 := hid (HR5.out.alloc (.cells #[.int .i64 0, .slice none 0 0, .bool true, .int .i64 0] 82))
  have HP6 := hid (HP5.out.next hb56)
  have HQ6 := hid (HQ5.out.next hb56)
  have HX6 := hid (HX5.out.next hb56)
  have HK6 := hid (HK5.out.trans (Chg.of hb56 _))
  have hsn : (∀ j, ((Z j ∨ j = p) ∨ j = q) → j ≠ W5.heap.size) ∧ r ≠ W5.heap.size ∧ w.heap.size ≤ W5.heap.size := ⟨fun j hj => by have := HR5.out.lt j hj; omega, by have := HX5.out.lt; omega, HK5.out.size⟩
  obtain ⟨s, hs⟩ : ∃ x, W5.heap.size = x := ⟨_, rfl⟩
  obtain ⟨W6, hW6⟩ : ∃ x, W5.alloc (.cells #[.int .i64 0, .slice none 0 0, .bool true, .int .i64 0] 82) = x := ⟨_, rfl⟩
  rw [hW6, hs] at hx6 HR6
  rw [hW6] at HP6 HQ6 HX6 HK6
  rw [hs] at hsn
  rw [hW6, hs]
  have HS6 := hid hx6
  have HSN := hid hsn
  clear hW6 hs hx6 hsn hb56 r2 HP5 HQ5 HR5 HX5 HK5
  have r2 : W6.cell? ⟨r, 2, none⟩ = some (.bool true) := HX6.out.cell 2
  go_upto_region 10 with fail
  clear r2
  obtain ⟨A5, k5, c5, hu5, hc5, hby5⟩ := HR6.out.at_ hv
  obtain ⟨W7, hW7⟩ : ∃ x, W6.drew = x := ⟨_, rfl⟩
  have HE7 := hid hW7
  have hb67 : Below W6.heap.size W6 W7 := hW7 ▸ below_draws (Below.refl _ _) 1
  have HP7 := hid (HP6.out.next hb67)
  have HQ7 := hid (HQ6.out.next hb67)
  have HX7 := hid (HX6.out.next hb67)
  have HS7 := hid (HS6.out.next hb67)
  have HR7 := hid (HR6.out.below hb67)
  have HK7 := hid (HK6.out.trans (Chg.of hb67 _))
  have HY7 := hid (hby5.below hb67)
  have HV7 := hid (show W7.cell? ⟨d, kv, none⟩ = some (.slice A5 k5 c5) from (World.cell?_of_block (hb67.block d (HR6.out.lt d HR6.out.zd))).trans hc5)
  have HTH := hid (show W7.there s 0 2 from fun j hj => ⟨by
    rw [HS7.out.cell (0 + j)]
    match j, hj with
    | 0, _ => rfl
    | 1, _ => rfl, HS7.out.free (0 + j)⟩)
  clear hW7 hb67 hu5 hc5 hby5 HP6 HQ6 HX6 HS6 HR6 HK6
  obtain ⟨W8, hW8⟩ : ∃ x, (W7.setCell ⟨s, 0, none⟩ (.int .i64 kv)).setCell ⟨s, 1, none⟩ (.slice A5 k5 c5) = x := ⟨_, rfl⟩
  have HE8 := hid hW8
  have hc78 : Chg W7 W8 (· = s) (· = s) := hW8 ▸ (chg_one W7 s 0 (.int .i64 kv)).trans (chg_one _ s 1 (.slice A5 k5 c5))
  have HS8 := hid (show Bx W8 s 82 #[.int .i64 kv, .slice A5 k5 c5, .bool true, .int .i64 0] from hW8 ▸ (HS7.out.set 0 (.int .i64 kv)).set 1 (.slice A5 k5 c5))
  have HP8 := hid (hc78.bx HP7.out (HSN.out.1 p (.inl (.inr rfl))))
  have HQ8 := hid (hc78.bx HQ7.out (HSN.out.1 q (.inr rfl)))
  have HX8 := hid (hc78.bx HX7.out HSN.out.2.1)
  have HR8 := hid (HR7.out.chg hc78 (fun j e => .inr e) fun j e => ⟨fun hy => HSN.out.1 j (.inl (.inl (HLT.out.2.2.1 j hy))) e, fun e2 => HSN.out.1 g (.inl (.inl HLT.out.2.1)) (e2 ▸ e), fun e2 => HSN.out.1 d (.inl (.inl HLT.out.2.2.2)) (e2 ▸ e)⟩)
  have HY8 := hid (HY7.out.chg hc78 fun j e => .inr e)
  have HK8 := hid (show Chg w W8 (fun j => (Y j ∨ j = g) ∨ j = d) (fun j => (Y j ∨ j = g) ∨ j = d) from hW8 ▸ chg_far (chg_far HK7.out HSN.out.2.2 0 (.int .i64 kv)) HSN.out.2.2 1 (.slice A5 k5 c5))
  have HV8 := hid (show W8.cell? ⟨d, kv, none⟩ = some (.slice A5 k5 c5) from (World.cell?_of_block (hc78.block d (HR7.out.lt d HR7.out.zd) (HSN.out.1 d (.inl (.inl HLT.out.2.2.2))))).trans HV7.out)
  clear hW8 hc78
  refine wp_region_noPanic ?_
  refine wp_region_held_drew (S := fun w' => w'.cell? ⟨r, 1, none⟩ = some (.int .i64 kv) ∧ w'.cell? ⟨g, 21, none⟩ = some (.slice (some ⟨d, 0, none⟩) 32 cv) ∧ w'.cell? ⟨d, kv, none⟩ = some (.slice A5 k5 c5)) (by kernel_rfl) ?_ (fun hHeld => ?_)
  · rw [HE7.out]; exact ⟨HX7.out.cell 1, HR7.out.c21, HV7.out⟩
  refine tkv 0 (some 51) rfl ?_
  refine tkv 1 (some 52) rfl ?_
  refine tkv 2 (some 53) rfl ?_
  refine tkv 3 (some 54) rfl ?_
  refine tkv 4 (some 55) rfl ?_
  refine tkv 5 (some 56) rfl ?_
  refine tkv 6 (some 57) rfl ?_
  refine tkv 7 (some 58) rfl ?_
  refine tkv 8 (some 59) rfl ?_
  refine tkv 9 (some 60) rfl ?_
  refine tkv 10 (some 61) rfl ?_
  refine tkv 11 (some 62) rfl ?_
  refine tkc 12 (none) rfl fun K hK => ?_
  rw [HE7.out]
  refine wp_store_mid 38 (.tmp 62) (.tmp 61) rfl s 0 #[.int .i64 kv, .slice A5 k5 c5] rfl rfl HTH.out (by kernel_rfl) (by simp [Value.oneCell']) ?_
  show K _ ((W7.setCell ⟨s, 0, none⟩ (.int .i64 kv)).setCell ⟨s, 1, none⟩ (.slice A5 k5 c5))
  have kq := And.intro (HX8.out.cell 1) (And.intro HR8.out.c21 HV8.out)
  rw [HE8.out]
  refine hK.out _ _ kq (fun hHeld => ?_)
  clear hK K
  (try simp only [Act.put])
  refine wpAnyH_done (by kernel_rfl) ?_ _
  refine NoPanic.normal ?_
  clear HP7 HQ7 HX7 HS7 HR7 HK7 HY7 HV7 HX8
  have HY1 := hid (show By W8 (fun j => ((Z j ∨ j = p) ∨ j = q) ∨ j = s) (.slice A1 k1 c1) l from by
    have h1 := (HD0.out.chg (HK8.out) (fun j hj => hj.elim (HYN.out j) fun e => e ▸ HLT.out.2.2.2)) 
    obtain ⟨A9, c9, e9, h2, h3, h4, h5⟩ := h1
    obtain ⟨A8, c8, e8, -, -, -, h6⟩ := HD0.out
    have e7 := e9.symm.trans e8
    injection e7 with e5 _ _
    subst e5
    exact ⟨A9, c9, e9, h2, h3, h4, fun ad ea hp => ⟨(h5 ad ea hp).1, fun hz => by
      have h7 := (h6 ad ea hp).1
      rcases hz with ((hz | hz) | hz) | hz
      · exact (h5 ad ea hp).2 hz
      · have := HNZ.out.2.2.1; omega
      · have := HNZ.out.2.2.2; omega
      · have := HSN.out.2.2; omega⟩⟩)
  have HLK := hid HY1.out.at_.2
  have p1 : W8.cell? ⟨p, 1, none⟩ = some (.slice A1 k1 c1) := HP8.out.cell 1
  go_upto_region 13 with (at_builtin; refine wpList_appV elt_u8 rfl _ _ rfl W8.heap.size _ 0 [] (ownV_nil _ _ _ _) rfl _ _ k1 c1 (bytes l) rfl (by unfold bytes; rw [List.length_map, HLK.out, Nat.mul_one]) HY1.out.at_.1 (bytes_one l) (by have := H16.out; unfold maxLen; omega) (by have := H16.out; omega) (Nat.le_refl _) ?_; intro v2 W9 hown2 hg2)
  clear p1
  have hb2 : Below W8.heap.size W8 W9 := hg2.below (ownV_nil _ _ 5 1) (Nat.le_refl _)
  rw [List.nil_append, Nat.zero_add] at hown2
  obtain ⟨A2, c2, rfl, hr2, ha2, hc2, hge⟩ := own_by (w := W8) hown2 HLK.out (Nat.le_refl _)
  have HY9 := hid (show By W9 (fun j => ((Z j ∨ j = p) ∨ j = q) ∨ j = s) (.slice A2 l.length c2) l from ⟨A2, c2, rfl, hr2, ha2, hc2, fun ad ea _ => ⟨(hge ad ea).2, fun hz => by have := HR8.out.lt ad.block hz; have := (hge ad ea).1; omega⟩⟩)
  have HB9 := hid hb2
  clear hown2 hg2 hb2 hr2 ha2 hc2 hge
  obtain ⟨W10, hW10⟩ : ∃ x, W9.drew = x := ⟨_, rfl⟩
  have HE10 := hid hW10
  have HB10 := hid (show Below W9.heap.size W9 W10 from hW10 ▸ below_draws (Below.refl _ _) 1)
  have HBB := hid (on HB9.out HB10.out)
  have HR10 := hid (HR8.out.below HBB.out)
  have HP10 := hid (HP8.out.next HBB.out)
  have HQ10 := hid (HQ8.out.next HBB.out)
  have HS10 := hid (HS8.out.next HBB.out)
  have HK10 := hid (HK8.out.trans (Chg.of HBB.out _))
  have HY10 := hid (HY9.out.below HB10.out)
  have HYV := hid (HY8.out.below HBB.out)
  have HNPD := hid (show ¬ p = d ∧ ¬ q = d ∧ ¬ s = d from ⟨fun e => (HNZ.out.1 d HLT.out.2.2.2).1 e.symm, fun e => (HNZ.out.1 d HLT.out.2.2.2).2 e.symm, fun e => HSN.out.1 d (.inl (.inl HLT.out.2.2.2)) e.symm⟩)
  clear hW10
  refine wp_region_noPanic ?_
  refine wp_region_held_drew (S := fun w' => w'.cell? ⟨p, 0, none⟩ = some (.int .i64 k) ∧ w'.cell? ⟨g, 21, none⟩ = some (.slice (some ⟨d, 0, none⟩) 32 cv)) (by kernel_rfl) ?_ (fun hHeld => ?_)
  · rw [HE10.out]; exact ⟨HP10.out.cell 0, HR10.out.c21⟩
  refine tkv 0 (some 67) rfl ?_
  refine tkv 1 (some 68) rfl ?_
  refine tkv 2 (some 69) rfl ?_
  refine tkv 3 (some 70) rfl ?_
  refine tkv 4 (some 71) rfl ?_
  refine tkv 5 (some 72) rfl ?_
  refine tkv 6 (some 73) rfl ?_
  refine tkv 7 (some 74) rfl ?_
  refine tkc 8 (none) rfl fun K hK => ?_
  obtain ⟨hcc, hfz⟩ := HR10.out.row.cellAt (j := k) (by rw [HR10.out.ul]; exact hk)
  obtain ⟨u0, hu0⟩ : ∃ x, us[k]? = some x := ⟨_, List.getElem?_eq_getElem (by rw [HR10.out.ul]; exact hk)⟩
  rw [hu0] at hcc
  rw [HE10.out]
  go_simp
  have HR11 := hid (HR10.out.put_row hk HY10.out)
  have HC11 := hid (chg_one W10 d k (.slice A2 l.length c2))
  have HP11 := hid (HC11.out.bx HP10.out HNPD.out.1)
  have HQ11 := hid (HC11.out.bx HQ10.out HNPD.out.2.1)
  have HS11 := hid (HC11.out.bx HS10.out HNPD.out.2.2)
  have kq := And.intro (HP11.out.cell 0) HR11.out.c21
  refine hK.out _ _ kq (fun hHeld => ?_)
  clear hK K
  (try simp only [Act.put, tkA, tk0, tk1])
  refine wpAnyH_done (by kernel_rfl) ?_ _
  refine NoPanic.normal ?_
  generalize hW11 : W10.setCell ⟨d, k, none⟩ (.slice A2 l.length c2) = W11 at *
  go_wp2_with (first
    | (refine wpList_load_bx rfl 82 (.tmp 8) rfl s _ _ _ rfl HS11.out Tryz.underlying82 rfl (by kernel_rfl) ?_)
    | (refine wpList_store_bx rfl 82 (.tmp 6) (.tmp 75) rfl rfl q _ _ #[.int .i64 kv, .slice A5 k5 c5, .bool true, .int .i64 0] rfl rfl HQ11.out (by kernel_rfl) rfl (by simp [Value.oneCell']) ?_))
  refine bodyPost_ret (results_bx1 rfl _ rfl (HQ11.out.row (cs' := #[.int .i64 kv, .slice A5 k5 c5, .bool true, .int .i64 0])) Tryz.underlying82 rfl (by kernel_rfl)) rfl ?_
  have hrow : Chg W11 (W11.setRow q #[.int .i64 kv, .slice A5 k5 c5, .bool true, .int .i64 0]) (· = q) (· = q) := chg_row _ _ _
  refine ⟨kv, .slice A5 k5 c5, by rw [HG.out], ⟨_, _, (HR11.out.chg hrow (fun j e => .inl (.inr e)) fun j e => ⟨fun hy => (HNZ.out.1 j (HLT.out.2.2.1 j hy)).2 e, fun e2 => (HNZ.out.1 g HLT.out.2.1).2 (e2 ▸ e), fun e2 => (HNZ.out.1 d HLT.out.2.2.2).2 (e2 ▸ e)⟩).less (fun j hj => .inl (.inl (.inl hj))) fun j hj => hj.elim (HLT.out.2.2.1 j) fun e => e.elim (fun e => e ▸ HLT.out.2.1) fun e => e ▸ HLT.out.2.2.2⟩, chg_fresh (HK10.out.trans (HC11.out.wide fun j e => .inr e)) HNZ.out.2.2.2 _, fun _ => ⟨HKV.out.symm, by rw [HKV.out]; exact ((HYV.out.chg HC11.out fun j e => .inl (.inl (.inl (e ▸ HLT.out.2.2.2)))).chg hrow fun j e => .inl (.inr e)).less fun j hj => .inl (.inl (.inl hj))⟩, fun hn => absurd (hn.symm.trans HG.out) (by decide)⟩
set_option maxRecDepth 20000 in
set_option maxHeartbeats 2000000 in
theorem rg_yes_false (h : Rc w Z Y g d c A n cp T lv mv pv cv us o E) (r : Rok o K T c) {l : List Int} (hd : By w Z (.slice A1 k1 c1) l) (h16 : k1 ≤ 16) (hb : 0 ≤ b ∧ b < c 2) (h3 : (k1 : Int) = c 3) (ht : o.takes (c 5) T b lev = true) (htk : o.tk b) (hg : o.gn b = false) :
    Calls Tryz.prog 41 #[.pointer (some ⟨g, 0, none⟩), .agg #[.int .i64 b, .slice A1 k1 c1], .int .i64 lev] w (RPutQ w Z Y g d c A n cp T mv pv cv o E b l) := by
  have HTK := hid ht
  have HG := hid hg
  have HD0 := hid hd
  have H16 := hid h16
  have hc2 := r.c2
  obtain ⟨k, rfl⟩ : ∃ k : Nat, b = k := ⟨b.toNat, by omega⟩
  have hk : k < 32 := by omega
  have hk2 : (k : Int) < 32 := by omega
  have d1 : decide ((k : Int) < 0) = false := decide_eq_false (by omega)
  have d2 : decide (c 2 ≤ (k : Int)) = false := decide_eq_false (by omega)
  have HIN := hid (show decide (0 ≤ (k : Int) ∧ (k : Int) < c 2) = true from decide_eq_true (by omega))
  have d3 : ((k1 : Int) != c 3) = false := by simpa using h3
  have HVB := hid (show vb (k : Int) from by unfold vb; omega)
  clear hb h3 ht hd h16 htk hg hc2
  have HLT := hid (And.intro h.lt (And.intro h.zg (And.intro h.yz h.zd)))
  have HF0 := hid (frames_made w k A1 k1 c1)
  have HW0 := hid (on (below_alloc w (.cells #[.int .i64 k, .slice A1 k1 c1] 38)) (below_alloc _ (.cells wz6 82)))
  have h0 := h.with2 (.cells #[.int .i64 k, .slice A1 k1 c1] 38) (.cells wz6 82)
  have HR0 := hid h0
  have HOK := hid r
  clear h r h0
  go_enter Tryz.func41, Tryz.ntmps41
  go_upto_region 1 with fail
  obtain ⟨W0, hW0⟩ : ∃ x, (w.alloc (.cells #[.int .i64 k, .slice A1 k1 c1] 38)).alloc (.cells #[.int .i64 0, .slice none 0 0, .bool false, .int .i64 0] 82) = x := ⟨_, rfl⟩
  obtain ⟨q, hq⟩ : ∃ x, w.heap.size + 1 = x := ⟨_, rfl⟩
  obtain ⟨p, hp⟩ : ∃ x, w.heap.size = x := ⟨_, rfl⟩
  unfold wz6 at HF0 HW0 HR0
  rw [hW0, hq, hp] at HF0 HR0
  rw [hW0] at HW0 ⊢
  rw [hq, hp]
  have HNZ := hid (show (∀ j, Z j → j ≠ p ∧ j ≠ q) ∧ p ≠ q ∧ w.heap.size ≤ p ∧ w.heap.size ≤ q from ⟨fun j hj => by have := HLT.out.1 j hj; omega, by omega, by omega, by omega⟩)
  clear hW0 hp hq
  obtain ⟨W1, hW1⟩ : ∃ x, W0.drew = x := ⟨_, rfl⟩
  have HE1 := hid hW1
  have hb01 : Below W0.heap.size W0 W1 := hW1 ▸ below_draws (Below.refl _ _) 1
  have HW1 := hid (on HW0.out hb01)
  have HP1 := hid (HF0.out.1.next hb01)
  have HQ1 := hid (HF0.out.2.next hb01)
  have HR1 := hid (HR0.out.below hb01)
  clear hW1 hb01 HF0 HR0 HW0
  refine wp_region_noPanic ?_
  refine wp_region_held_drew (S := fun w' => w'.cell? ⟨p, 0, none⟩ = some (.int .i64 k) ∧ w'.cell? ⟨g, 2, none⟩ = some (.int .i64 (c 2))) (by kernel_rfl) ?_ (fun hHeld => ?_)
  · rw [HE1.out]; exact ⟨HP1.out.cell 0, HR1.out.c2⟩
  refine tkv 0 (some 10) rfl ?_
  refine tkv 1 (some 11) rfl ?_
  refine tkv 2 (some 12) rfl ?_
  refine tkv 3 (some 13) rfl ?_
  refine tkv 4 (some 14) rfl ?_
  refine tkv 5 (some 15) rfl ?_
  refine tkv 6 (some 16) rfl ?_
  refine tkv 7 (some 17) rfl ?_
  refine tkv 8 (some 18) rfl ?_
  refine tkv 9 (some 19) rfl ?_
  refine tkv 10 (some 20) rfl ?_
  refine tkv 11 (some 21) rfl ?_
  refine tkv 12 (some 22) rfl ?_
  refine wpAnyH_done (by kernel_rfl) ?_ _
  refine NoPanic.normal ?_
  rw [HE1.out]
  go_upto_region 3 with fail
  obtain ⟨W2, hW2⟩ : ∃ x, W1.drew = x := ⟨_, rfl⟩
  have HE2 := hid hW2
  have hb12 : Below W1.heap.size W1 W2 := hW2 ▸ below_draws (Below.refl _ _) 1
  have HW2 := hid (on HW1.out hb12)
  have HP2 := hid (HP1.out.next hb12)
  have HQ2 := hid (HQ1.out.next hb12)
  have HR2 := hid (HR1.out.below hb12)
  clear hW2 hb12 HP1 HQ1 HR1 HW1
  refine wp_region_noPanic ?_
  refine wp_region_held_drew (S := fun w' => w'.cell? ⟨p, 1, none⟩ = some (.slice A1 k1 c1) ∧ w'.cell? ⟨g, 3, none⟩ = some (.int .i64 (c 3))) (by kernel_rfl) ?_ (fun hHeld => ?_)
  · rw [HE2.out]; exact ⟨HP2.out.cell 1, HR2.out.c3⟩
  refine tkv 0 (some 24) rfl ?_
  refine tkv 1 (some 25) rfl ?_
  refine tkv 2 (some 26) rfl ?_
  refine tkv 3 (some 27) rfl ?_
  refine tkv 4 (some 28) rfl ?_
  refine tkv 5 (some 29) rfl ?_
  refine tkv 6 (some 30) rfl ?_
  refine tkv 7 (some 31) rfl ?_
  refine tkv 8 (some 32) rfl ?_
  refine wpAnyH_done (by kernel_rfl) ?_ _
  refine NoPanic.normal ?_
  rw [HE2.out]
  have HT0 := hid (rc_takes HR2.out HOK.out (b := (k : Int)) (lev := lev))
  have HTV := hid (show (decide (0 ≤ (k : Int) ∧ (k : Int) < c 2) && o.takes (c 5) T k lev) = true from by rw [HIN.out, HTK.out]; rfl)
  have HT := hid HT0.out
  rw [HTV.out] at HT
  have p0 : W2.cell? ⟨p, 0, none⟩ = some (.int .i64 k) := HP2.out.cell 0
  clear HT0
  go_upto_region 7 with (go_at_call 22; refine HT.out.mono ?_; rintro e W3 ⟨rfl, hb3⟩; have HB3 := hid hb3; clear hb3)
  clear p0
  have HW3 := hid (on HW2.out HB3.out)
  have HP3 := hid (HP2.out.next HB3.out)
  have HQ3 := hid (HQ2.out.next HB3.out)
  have HR3 := hid (HR2.out.below HB3.out)
  have HD := hid (rdo16_any (κ := 1) HR3.out HOK.out HVB.out ⟨by omega, by omega⟩)
  have p0 : W3.cell? ⟨p, 0, none⟩ = some (.int .i64 k) := HP3.out.cell 0
  clear HP2 HQ2 HR2 HW2 HT
  go_upto_region 8 with (first
    | (go_at_call 62; refine HD.out.mono ?_; rintro e W4 ⟨A3, n3, c3, vi, gn, was, er, rfl, ⟨lv', hrc⟩, hch, hgv⟩; obtain ⟨rfl, rfl⟩ := hgv rfl; have HR4 := hid hrc; have HC4 := hid hch; clear hrc hch)
    | (refine wpList_store_new rfl 120 (.tmp 7) (.tmp 45) rfl rfl _ #[.slice A3 n3 c3, .int .i64 (o.vi k), .bool (o.gn k), .bool was, .int .i64 er] rfl rfl (by kernel_rfl) rfl (by simp [Value.oneCell']) ?_))
  clear p0
  have hyn : ∀ j, (Y j ∨ j = g) → Z j := fun j hj => hj.elim (HLT.out.2.2.1 j) fun e => e ▸ HLT.out.2.1
  have HYN := hid hyn
  have HP4 := hid (HC4.out.bx HP3.out fun hy => (HNZ.out.1 p (hyn p hy)).1 rfl)
  have HQ4 := hid (HC4.out.bx HQ3.out fun hy => (HNZ.out.1 q (hyn q hy)).2 rfl)
  have HK4 := hid (show Chg w W4 (fun j => (Y j ∨ j = g) ∨ j = d) (fun j => (Y j ∨ j = g) ∨ j = d) from (Chg.of HW3.out _).trans (HC4.out.wide fun j hj => .inl hj))
  have hx5 := Bx.new W4 120 #[.slice A3 n3 c3, .int .i64 (o.vi k), .bool (o.gn k), .bool was, .int .i64 er]
  have hb45 := below_alloc W4 (.cells #[.slice A3 n3 c3, .int .i64 (o.vi k), .bool (o.gn k), .bool was, .int .i64 er] 120)
  have HP5 := hid (HP4.out.next hb45)
  have HQ5 := hid (HQ4.out.next hb45)
  have HR5 := hid (HR4.out.below hb45)
  have HK5 := hid (HK4.out.trans (Chg.of hb45 _))
  have HWR := hid (show w.heap.size ≤ W4.heap.size from HK4.out.size)
  clear hyn hb45 HP3 HQ3 HR3 HW3 HP4 HQ4 HR4 HD HC4 HB3 HK4
  rw [HG.out] at hx5 HR5 HP5 HQ5 HK5 ⊢
  obtain ⟨r, hr⟩ : ∃ x, W4.heap.size = x := ⟨_, rfl⟩
  obtain ⟨W5, hW5⟩ : ∃ x, W4.alloc (.cells #[.slice A3 n3 c3, .int .i64 (o.vi k), .bool false, .bool was, .int .i64 er] 120) = x := ⟨_, rfl⟩
  rw [hW5, hr] at hx5
  rw [hW5] at HR5 HP5 HQ5 HK5
  rw [hW5, hr]
  rw [hr] at HWR
  clear hW5 hr
  have HX5 := hid hx5
  have r2 : W5.cell? ⟨r, 2, none⟩ = some (.bool false) := hx5.cell 2
  clear hx5
  go_upto_region 9 with (refine wpList_store_new rfl 82 (.tmp 8) (.tmp 48) rfl rfl _ #[.int .i64 0, .slice none 0 0, .bool false, .int .i64 0] rfl rfl (by kernel_rfl) rfl (by simp [Value.oneCell']) ?_)
  have hx6 := Bx.new W5 82 #[.int .i64 0, .slice none 0 0, .bool false, .int .i64 0]
  have hb56 := below_alloc W5 (.cells #[.int .i64 0, .slice none 0 0, .bool false, .int .i64 0] 82)
  have HR6 := hid (HR5.out.alloc (.cells #[.int .i64 0, .slice none 0 0, .bool false, .int .i64 0] 82))
  have HP6 := hid (HP5.out.next hb56)
  have HQ6 := hid (HQ5.out.next hb56)
  have HX6 := hid (HX5.out.next hb56)
  have HK6 := hid (HK5.out.trans (Chg.of hb56 _))
  have hsn : (∀ j, ((Z j ∨ j = p) ∨ j = q) → j ≠ W5.heap.size) ∧ r ≠ W5.heap.size ∧ w.heap.size ≤ W5.heap.size := ⟨fun j hj => by have := HR5.out.lt j hj; omega, by have := HX5.out.lt; omega, HK5.out.size⟩
  obtain ⟨s, hs⟩ : ∃ x, W5.heap.size = x := ⟨_, rfl⟩
  obtain ⟨W6, hW6⟩ : ∃ x, W5.alloc (.cells #[.int .i64 0, .slice none 0 0, .bool false, .int .i64 0] 82) = x := ⟨_, rfl⟩
  rw [hW6, hs] at hx6 HR6
  rw [hW6] at HP6 HQ6 HX6 HK6
  rw [hs] at hsn
  rw [hW6, hs]
  have HS6 := hid hx6
  have HSN := hid hsn
  clear hW6 hs hx6 hsn hb56 r2 HP5 HQ5 HR5 HX5 HK5
  have r2 : W6.cell? ⟨r, 2, none⟩ = some (.bool false) := HX6.out.cell 2
  have HY1 := hid (show By W6 (fun j => ((Z j ∨ j = p) ∨ j = q) ∨ j = s) (.slice A1 k1 c1) l from by
    have h1 := (HD0.out.chg (HK6.out) (fun j hj => hj.elim (HYN.out j) fun e => e ▸ HLT.out.2.2.2)) 
    obtain ⟨A9, c9, e9, h2, h3, h4, h5⟩ := h1
    obtain ⟨A8, c8, e8, -, -, -, h6⟩ := HD0.out
    have e7 := e9.symm.trans e8
    injection e7 with e5 _ _
    subst e5
    exact ⟨A9, c9, e9, h2, h3, h4, fun ad ea hp => ⟨(h5 ad ea hp).1, fun hz => by
      have h7 := (h6 ad ea hp).1
      rcases hz with ((hz | hz) | hz) | hz
      · exact (h5 ad ea hp).2 hz
      · have := HNZ.out.2.2.1; omega
      · have := HNZ.out.2.2.2; omega
      · have := HSN.out.2.2; omega⟩⟩)
  have HLK := hid HY1.out.at_.2
  have p1 : W6.cell? ⟨p, 1, none⟩ = some (.slice A1 k1 c1) := HP6.out.cell 1
  go_upto_region 13 with (at_builtin; refine wpList_appV elt_u8 rfl _ _ rfl W6.heap.size _ 0 [] (ownV_nil _ _ _ _) rfl _ _ k1 c1 (bytes l) rfl (by unfold bytes; rw [List.length_map, HLK.out, Nat.mul_one]) HY1.out.at_.1 (bytes_one l) (by have := H16.out; unfold maxLen; omega) (by have := H16.out; omega) (Nat.le_refl _) ?_; intro v2 W9 hown2 hg2)
  clear p1
  have hb2 : Below W6.heap.size W6 W9 := hg2.below (ownV_nil _ _ 5 1) (Nat.le_refl _)
  rw [List.nil_append, Nat.zero_add] at hown2
  obtain ⟨A2, c2, rfl, hr2, ha2, hc2, hge⟩ := own_by (w := W6) hown2 HLK.out (Nat.le_refl _)
  have HY9 := hid (show By W9 (fun j => ((Z j ∨ j = p) ∨ j = q) ∨ j = s) (.slice A2 l.length c2) l from ⟨A2, c2, rfl, hr2, ha2, hc2, fun ad ea _ => ⟨(hge ad ea).2, fun hz => by have := HR6.out.lt ad.block hz; have := (hge ad ea).1; omega⟩⟩)
  have HB9 := hid hb2
  clear hown2 hg2 hb2 hr2 ha2 hc2 hge
  obtain ⟨W10, hW10⟩ : ∃ x, W9.drew = x := ⟨_, rfl⟩
  have HE10 := hid hW10
  have HB10 := hid (show Below W9.heap.size W9 W10 from hW10 ▸ below_draws (Below.refl _ _) 1)
  have HBB := hid (on HB9.out HB10.out)
  have HR10 := hid (HR6.out.below HBB.out)
  have HP10 := hid (HP6.out.next HBB.out)
  have HQ10 := hid (HQ6.out.next HBB.out)
  have HS10 := hid (HS6.out.next HBB.out)
  have HK10 := hid (HK6.out.trans (Chg.of HBB.out _))
  have HY10 := hid (HY9.out.below HB10.out)
  have HNPD := hid (show ¬ p = d ∧ ¬ q = d ∧ ¬ s = d from ⟨fun e => (HNZ.out.1 d HLT.out.2.2.2).1 e.symm, fun e => (HNZ.out.1 d HLT.out.2.2.2).2 e.symm, fun e => HSN.out.1 d (.inl (.inl HLT.out.2.2.2)) e.symm⟩)
  clear hW10
  refine wp_region_noPanic ?_
  refine wp_region_held_drew (S := fun w' => w'.cell? ⟨p, 0, none⟩ = some (.int .i64 k) ∧ w'.cell? ⟨g, 21, none⟩ = some (.slice (some ⟨d, 0, none⟩) 32 cv)) (by kernel_rfl) ?_ (fun hHeld => ?_)
  · rw [HE10.out]; exact ⟨HP10.out.cell 0, HR10.out.c21⟩
  refine tkv 0 (some 67) rfl ?_
  refine tkv 1 (some 68) rfl ?_
  refine tkv 2 (some 69) rfl ?_
  refine tkv 3 (some 70) rfl ?_
  refine tkv 4 (some 71) rfl ?_
  refine tkv 5 (some 72) rfl ?_
  refine tkv 6 (some 73) rfl ?_
  refine tkv 7 (some 74) rfl ?_
  refine tkc 8 (none) rfl fun K hK => ?_
  obtain ⟨hcc, hfz⟩ := HR10.out.row.cellAt (j := k) (by rw [HR10.out.ul]; exact hk)
  obtain ⟨u0, hu0⟩ : ∃ x, us[k]? = some x := ⟨_, List.getElem?_eq_getElem (by rw [HR10.out.ul]; exact hk)⟩
  rw [hu0] at hcc
  rw [HE10.out]
  go_simp
  have HR11 := hid (HR10.out.put_row hk HY10.out)
  have HC11 := hid (chg_one W10 d k (.slice A2 l.length c2))
  have HP11 := hid (HC11.out.bx HP10.out HNPD.out.1)
  have HQ11 := hid (HC11.out.bx HQ10.out HNPD.out.2.1)
  have HS11 := hid (HC11.out.bx HS10.out HNPD.out.2.2)
  have kq := And.intro (HP11.out.cell 0) HR11.out.c21
  refine hK.out _ _ kq (fun hHeld => ?_)
  clear hK K
  (try simp only [Act.put, tkA, tk0, tk1])
  refine wpAnyH_done (by kernel_rfl) ?_ _
  refine NoPanic.normal ?_
  generalize hW11 : W10.setCell ⟨d, k, none⟩ (.slice A2 l.length c2) = W11 at *
  go_wp2_with (first
    | (refine wpList_load_bx rfl 82 (.tmp 8) rfl s _ _ _ rfl HS11.out Tryz.underlying82 rfl (by kernel_rfl) ?_)
    | (refine wpList_store_bx rfl 82 (.tmp 6) (.tmp 75) rfl rfl q _ _ #[.int .i64 0, .slice none 0 0, .bool false, .int .i64 0] rfl rfl HQ11.out (by kernel_rfl) rfl (by simp [Value.oneCell']) ?_))
  refine bodyPost_ret (results_bx1 rfl _ rfl (HQ11.out.row (cs' := #[.int .i64 0, .slice none 0 0, .bool false, .int .i64 0])) Tryz.underlying82 rfl (by kernel_rfl)) rfl ?_
  have hrow : Chg W11 (W11.setRow q #[.int .i64 0, .slice none 0 0, .bool false, .int .i64 0]) (· = q) (· = q) := chg_row _ _ _
  refine ⟨0, .slice none 0 0, by rw [HG.out], ⟨_, _, (HR11.out.chg hrow (fun j e => .inl (.inr e)) fun j e => ⟨fun hy => (HNZ.out.1 j (HLT.out.2.2.1 j hy)).2 e, fun e2 => (HNZ.out.1 g HLT.out.2.1).2 (e2 ▸ e), fun e2 => (HNZ.out.1 d HLT.out.2.2.2).2 (e2 ▸ e)⟩).less (fun j hj => .inl (.inl (.inl hj))) fun j hj => hj.elim (HLT.out.2.2.1 j) fun e => e.elim (fun e => e ▸ HLT.out.2.1) fun e => e ▸ HLT.out.2.2.2⟩, chg_fresh (HK10.out.trans (HC11.out.wide fun j e => .inr e)) HNZ.out.2.2.2 _, fun hn => absurd (hn.symm.trans HG.out) (by decide), fun _ => ⟨rfl, rfl⟩⟩
/-- Put, refused or not -/
theorem rc_put_no (h : Rc w Z Y g d c A n cp T lv mv pv cv us o E) (r : Rok o K T c) (hz : putR c T o b lev k1 ≠ 0) :
    Calls Tryz.prog 41 #[.pointer (some ⟨g, 0, none⟩), .agg #[.int .i64 b, .slice A1 k1 c1], .int .i64 lev] w fun e w' => e = .returned (.agg #[.int .i64 0, .slice none 0 0, .bool false, .int .i64 (putR c T o b lev k1)]) ∧ Below w.heap.size w w' := by
  unfold putR at hz ⊢
  by_cases hb : 0 ≤ b ∧ b < c 2
  · rw [if_neg (fun h => h hb)] at hz ⊢
    by_cases h3 : (k1 : Int) = c 3
    · rw [if_neg (fun h => h h3)] at hz ⊢
      cases ht : o.takes (c 5) T b lev with
      | false =>
        rw [if_pos rfl]
        exact rg_none h r hb h3 ht
      | true =>
        rw [ht] at hz
        exact absurd rfl hz
    · rw [if_pos h3] at hz ⊢
      exact rg_size h r hb h3
  · rw [if_pos hb] at hz ⊢
    by_cases h0 : b < 0
    · exact rg_low h r h0
    · exact rg_high h r h0 (by omega)
theorem rc_put_yes (h : Rc w Z Y g d c A n cp T lv mv pv cv us o E) (r : Rok o K T c) {l : List Int} (hd : By w Z (.slice A1 k1 c1) l) (hz : putR c T o b lev k1 = 0) (h16 : c 3 ≤ 16) (htk : o.tk b) :
    Calls Tryz.prog 41 #[.pointer (some ⟨g, 0, none⟩), .agg #[.int .i64 b, .slice A1 k1 c1], .int .i64 lev] w (RPutQ w Z Y g d c A n cp T mv pv cv o E b l) := by
  unfold putR at hz
  have hb : 0 ≤ b ∧ b < c 2 := Decidable.byContradiction fun hb => by rw [if_pos hb] at hz; cases hz
  rw [if_neg (fun h => h hb)] at hz
  have h3 : (k1 : Int) = c 3 := Decidable.byContradiction fun hb => by rw [if_pos hb] at hz; cases hz
  rw [if_neg (fun h => h h3)] at hz
  have ht : o.takes (c 5) T b lev = true := by
    cases ht : o.takes (c 5) T b lev with
    | true => rfl
    | false => rw [if_pos ht] at hz; cases hz
  cases hg : o.gn b with
  | true => exact rg_yes_true h r hd (by omega) hb h3 ht htk hg
  | false => exact rg_yes_false h r hd (by omega) hb h3 ht htk hg
end
end Go.Proofs.YtmfdlkkligjcbaaGreat
