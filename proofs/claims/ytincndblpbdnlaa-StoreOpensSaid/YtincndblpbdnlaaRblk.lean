/-
  What is proved: the reference's Block answers what a block's sector tells. Conditions: the bytes are no more than a million; the size is no more than 16.
-/
import Derived.Test.YtincndblpbdnlaaRtx
import Derived.Test.YtincndblpbdnlaaBlk
import Derived.BigRegion
import Derived.Deep.QuietTactic
import Derived.BigQuiet
namespace Go.Proofs.Ytincndblpbdnlaa
open Go.RowKit

theorem gtext_most {l : List Int} {q Z : Nat} (hZ : Z ≤ 16) : (gtext l q Z = none ∧ (gtext l q 16 = none ∨ ∃ t r, gtext l q 16 = some (t, r) ∧ t.length ≠ Z)) ∨ gtext l q Z = gtext l q 16 := by
  unfold gtext
  cases hg : gnum l q with
  | none => exact .inr rfl
  | some nr =>
    obtain ⟨n, r⟩ := nr
    simp only
    by_cases h1 : n > Z
    · left
      refine ⟨if_pos h1, ?_⟩
      by_cases h2 : n > 16
      · left; rw [if_pos h2]
      · rw [if_neg h2]
        by_cases h3 : n > l.length - r
        · left; rw [if_pos h3]
        · right
          rw [if_neg h3]
          exact ⟨_, _, rfl, by rw [List.length_take, List.length_drop]; omega⟩
    · right
      rw [if_neg h1, if_neg (show ¬ n > 16 by omega)]
/-- a block's sector that isn't formed so -/
theorem blk_none {l : List Int} {Z : Nat} (h : gnum l 0 = none) : blk Z l = (0, List.replicate Z 0) := by
  have h1 : stt l (some 0) 1 = none := by show (nx l (some 0)).2 = none; simp only [nx, h]
  unfold blk
  simp only
  rw [h1, if_neg]
  simp [tx, endd]
theorem blk_much {l : List Int} {Z n q : Nat} (h : gnum l 0 = some (n, q)) (hn : 1000 < n) : blk Z l = (0, List.replicate Z 0) := by
  have h1 : nth l (some 0) 0 = n := by show (nx l (some 0)).1 = n; simp only [nx, h]
  unfold blk
  simp only
  rw [h1, if_neg]
  omega
theorem blk_some {l : List Int} {Z n q : Nat} (h : gnum l 0 = some (n, q)) : blk Z l = if endd l (tx l (some q)).2 = true ∧ n ≤ 1000 ∧ (tx l (some q)).1.length = Z then (n, (tx l (some q)).1) else (0, List.replicate Z 0) := by
  have h1 : nth l (some 0) 0 = n := by show (nx l (some 0)).1 = n; simp only [nx, h]
  have h2 : stt l (some 0) 1 = some q := by show (nx l (some 0)).2 = _; simp only [nx, h]
  unfold blk
  simp only
  rw [h1, h2]
theorem blk_bad {l : List Int} {Z n q : Nat} (hZ : Z ≤ 16) (h : gnum l 0 = some (n, q)) (ht : gtext l q Z = none) : blk Z l = (0, List.replicate Z 0) := by
  rw [blk_some h]
  rcases gtext_most (l := l) (q := q) hZ with ⟨_, h1 | ⟨t, r, h1, h2⟩⟩ | h1
  · rw [if_neg]; simp [tx, h1, endd]
  · rw [if_neg]; simp [tx, h1, h2]
  · rw [ht] at h1
    rw [if_neg]; simp [tx, ← h1, endd]
theorem blk_text {l t : List Int} {Z n q r : Nat} (hZ : Z ≤ 16) (h : gnum l 0 = some (n, q)) (hn : n ≤ 1000) (ht : gtext l q Z = some (t, r)) : blk Z l = if r = l.length ∧ t.length = Z then (n, t) else (0, List.replicate Z 0) := by
  rw [blk_some h]
  rcases gtext_most (l := l) (q := q) hZ with ⟨h1, _⟩ | h1
  · rw [ht] at h1; cases h1
  · rw [ht] at h1
    simp only [tx, ← h1, endd]
    by_cases hr : r = l.length ∧ t.length = Z
    · rw [if_pos hr, if_pos ⟨by simp [hr.1], hn, hr.2⟩]
    · rw [if_neg hr, if_neg]
      rintro ⟨h2, _, h3⟩
      exact hr ⟨by simpa using h2, h3⟩

/-- noughts, made -/
def BlkP (n : Nat) (t : List Int) (w : World) (e : Ending) (w' : World) : Prop := ∃ u, e = .returned (.tuple #[.int .i64 (n : Nat), u]) ∧ Bs w' u t ∧ Below w.heap.size w w'
theorem made_bs (w : World) (Z : Nat) (hz : Z ≤ 16) : Bs (w.alloc (.cells (Array.replicate Z (Value.int .u8 0)) 5)).drew (.slice (some ⟨w.heap.size, 0, none⟩) Z Z) (List.replicate Z 0) ∧ Below w.heap.size w (w.alloc (.cells (Array.replicate Z (Value.int .u8 0)) 5)).drew :=
  ⟨(own_rep (B0 := 0) (Bx.new w _ _) hz (Nat.zero_le _)).bs, below_draws (below_alloc w _) 1⟩
set_option maxRecDepth 100000 in
set_option maxHeartbeats 1600000 in
theorem refblk_any (A : Option Addr) (c L Z : Nat) (l : List Int) (w : World) (hL : l.length = L) (hlen : L ≤ 1000000) (hLc : L ≤ c) (hZ : Z ≤ 16) (hb : ∀ x ∈ l, 0 ≤ x ∧ x ≤ 255) (ra : Rn w A l) :
    Calls Try.prog 26 #[.slice A L c, .int .i64 Z] w (BlkP (blk Z l).1 (blk Z l).2 w) := by
  have HGET := hid (refget_any A c 0 L l w w.heap.size hL hlen (Nat.zero_le _) hb ra)
  have HTX := hid (fun w1 (hb1 : Below w.heap.size w w1) q (hq : q ≤ L) => refgettext_any A c q Z L l w1 hL hlen hLc hq (by omega) hb (ra.now hb1))
  have HBND := hid (fun n q h => gnum_bnd (l := l) (p := 0) (n := n) (q := q) hb h)
  have HTB := hid (fun t q r (h : gtext l q Z = some (t, r)) => gtext_bnd (l := l) (p := q) hb h)
  have HL := hid hL
  have HM := hid (fun w' => run_mk w' Z hZ)
  obtain ⟨MK, hMK⟩ : ∃ m, Instr.makeSlice 36 (.int .i64 Z) (.int .i64 Z) = m := ⟨_, rfl⟩
  have hrun : ∀ w', MK.run Try.prog w' = .ok (.slice (some ⟨w'.heap.size, 0, none⟩) Z Z) (w'.alloc (.cells (List.replicate Z (Value.int .u8 0)).toArray 5)) := fun w' => by rw [← hMK]; exact HM.out w'
  clear hL hb ra
  go_enter Try.func26, Try.ntmps26
  go_wp2_with fail
  refine HGET.out.mono ?_
  rintro e w1 ⟨hb1, ⟨n, q, hg, rfl⟩ | ⟨hg, x, hx, rfl⟩⟩
  case inr =>
    obtain ⟨W1, hW1, BG, HB1, -⟩ := below_new w1 85 #[.int .i64 0, .slice none 0 0, .int .i64 0, .int .i64 x]
    have B1 := hid (on hb1 HB1)
    have HW1 := hid hW1
    have HN := hid (blk_none (Z := Z) hg)
    have hx2 : (x != 0) = true := by simpa using hx
    have k3 : W1.cell? ⟨w1.heap.size, 3, none⟩ = some (.int .i64 x) := BG.cell 3
    clear hb1 hW1 BG HB1 hg hx HGET HTX HBND HTB
    go_upto_region 2 with fail
    rw [HW1.out]
    go_wp2
    go_region
    all_goals
      go_wp2
      go_ret2
      obtain ⟨q1, q2⟩ := made_bs W1 Z hZ
      exact ⟨_, by rw [HN.out]; rfl, by rw [HN.out]; exact q1, B1.out.trans (q2.mono B1.out.size)⟩
  case inl =>
    obtain ⟨W1, hW1, BG, HB1, -⟩ := below_new w1 85 #[.int .i64 n, .slice none 0 0, .int .i64 q, .int .i64 0]
    have B1 := hid (on hb1 HB1)
    have HW1 := hid hW1
    have G1 := hid BG
    have k0 : W1.cell? ⟨w1.heap.size, 0, none⟩ = some (.int .i64 n) := BG.cell 0
    have k2 : W1.cell? ⟨w1.heap.size, 2, none⟩ = some (.int .i64 q) := BG.cell 2
    have k3 : W1.cell? ⟨w1.heap.size, 3, none⟩ = some (.int .i64 0) := BG.cell 3
    have HG := hid hg
    obtain ⟨b1, b2, b3⟩ := HBND.out n q hg
    rw [HL.out] at b2
    clear hb1 hW1 BG HB1 hg HGET HBND
    go_upto_region 2 with fail
    rw [HW1.out]
    by_cases h1 : 1000 < n
    · have HN := hid (blk_much (Z := Z) HG.out h1)
      go_wp2
      go_region
      all_goals
        go_wp2
        go_ret2
        obtain ⟨q1, q2⟩ := made_bs W1 Z hZ
        exact ⟨_, by rw [HN.out]; rfl, by rw [HN.out]; exact q1, B1.out.trans (q2.mono B1.out.size)⟩
    · have h1' : n ≤ 1000 := by omega
      clear h1
      go_wp2_with fail
      refine (HTX.out W1 B1.out q b2).mono ?_
      rintro e w2 ⟨hb2, ⟨t, r, u, ht, rfl, hu⟩ | ⟨ht, x, hx, rfl⟩⟩
      case inr =>
        obtain ⟨W2, hW2, BG, HB2, -⟩ := below_new w2 85 #[.int .i64 0, .slice none 0 0, .int .i64 0, .int .i64 x]
        have B2 := hid (on (on B1.out hb2) HB2)
        have HW2 := hid hW2
        have HN := hid (blk_bad hZ HG.out ht)
        have hx2 : (x != 0) = true := by simpa using hx
        have k3' : W2.cell? ⟨w2.heap.size, 3, none⟩ = some (.int .i64 x) := BG.cell 3
        clear hb2 hW2 BG HB2 ht hx HTX HTB k0 k2 k3 B1 G1
        go_upto_region 5 with fail
        rw [HW2.out]
        go_wp2
        go_region
        all_goals
          go_wp2
          go_ret2
          obtain ⟨q1, q2⟩ := made_bs W2 Z hZ
          exact ⟨_, by rw [HN.out]; rfl, by rw [HN.out]; exact q1, B2.out.trans (q2.mono B2.out.size)⟩
      case inl =>
        obtain ⟨Au, cu, rfl, ru, lu, mu⟩ := hu
        obtain ⟨W2, hW2, BG, HB2, -⟩ := below_new w2 85 #[.int .i64 0, .slice Au t.length cu, .int .i64 r, .int .i64 0]
        have B2 := hid (on (on B1.out hb2) HB2)
        have U2 := hid (show Bs W2 (.slice Au t.length cu) t from Bs.below ⟨Au, cu, rfl, ru, lu, mu⟩ HB2)
        have HEQ := hid (blk_text hZ HG.out h1' ht)
        obtain ⟨r1, r2⟩ := HTB.out t q r ht
        rw [HL.out] at r1
        obtain ⟨T, hT⟩ : ∃ T, t.length = T := ⟨_, rfl⟩
        have HT := hid hT
        rw [hT] at BG r2 hW2
        have HW2 := hid hW2
        have y0 : W2.cell? ⟨w1.heap.size, 0, none⟩ = some (.int .i64 n) := ((G1.out.next hb2).next HB2).cell 0
        have y1 : W2.cell? ⟨w2.heap.size, 1, none⟩ = some (.slice Au T cu) := BG.cell 1
        have y2 : W2.cell? ⟨w2.heap.size, 2, none⟩ = some (.int .i64 r) := BG.cell 2
        have y3 : W2.cell? ⟨w2.heap.size, 3, none⟩ = some (.int .i64 0) := BG.cell 3
        clear hb2 hW2 BG HB2 ht hT ru lu mu HTX HTB k0 k2 k3 B1 G1
        go_upto_region 5 with fail
        simp only [HT.out]
        rw [HW2.out]
        by_cases h3 : T = Z
        · by_cases h4 : r < L
          · have HN := hid (HEQ.out.trans (if_neg (fun h => by have := h.1; rw [HL.out] at this; omega)))
            have q1 : ((T : Int) != (Z : Int)) = false := by simp; omega
            have q1' : (T != Z) = false := by simp; omega
            clear HEQ h3
            go_wp2
            go_region
            all_goals
              go_wp2
              go_ret2
              obtain ⟨q1, q2⟩ := made_bs W2 Z hZ
              exact ⟨_, by rw [HN.out]; rfl, by rw [HN.out]; exact q1, B2.out.trans (q2.mono B2.out.size)⟩
          · have HN := hid (HEQ.out.trans (if_pos ⟨by rw [HL.out]; omega, by rw [HT.out]; exact h3⟩))
            have q1 : ((T : Int) != (Z : Int)) = false := by simp; omega
            have q1' : (T != Z) = false := by simp; omega
            have q2 : decide (r < L) = false := by simpa using h4
            clear HEQ h3 h4
            go_wp2
            go_quiet (fail)
            go_wp2
            go_ret2
            exact ⟨_, by rw [HN.out]; rfl, by rw [HN.out]; have := U2.out; rw [HT.out] at this; exact this, below_draws B2.out _⟩
        · have HN := hid (HEQ.out.trans (if_neg (fun h => h3 (by rw [← HT.out]; exact h.2))))
          have q1 : ((T : Int) != (Z : Int)) = true := by simp; omega
          have q1' : (T != Z) = true := by simp; omega
          clear HEQ h3
          go_wp2
          go_region
          all_goals
            go_wp2
            go_ret2
            obtain ⟨q1, q2⟩ := made_bs W2 Z hZ
            exact ⟨_, by rw [HN.out]; rfl, by rw [HN.out]; exact q1, B2.out.trans (q2.mono B2.out.size)⟩
end Go.Proofs.Ytincndblpbdnlaa
