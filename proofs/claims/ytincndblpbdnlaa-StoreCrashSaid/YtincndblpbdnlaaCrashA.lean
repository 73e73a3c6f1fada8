/-
  What is proved: the reference's Read of three numbers and Slot answer what a slot's sector tells. Conditions: the bytes are no more than a million.
  What is proved: the reference's Copy makes a store of its own that is alike. Condition: the store lies in memory as one.
  What is proved: what StoreCrash's loop keeps: a store on a disk that is up, nothing pending; or on one that is down, a write pending; what each act makes of that. Condition: stores lie in memory as such.
  What is proved: the walk of StoreCrash: wherever the disk goes down, opened anew each answered write is done, once, and the one that was cut off once, or not at all. Condition: the acts are read as such.
-/
import Derived.Test.YtincndblpbdnlaaRget
import Derived.Test.YtincndblpbdnlaaRst
import Derived.Test.YtincndblpbdnlaaDText
import Derived.Test.YtincndblpbdnlaaDIo
import Derived.BigRegion
import Derived.Deep.QuietTactic
import Derived.BigQuiet
import Derived.Test.YtincndblpbdnlaaRnew
import Derived.Test.YtincndblpbdnlaaWrites6
namespace Go.Proofs.Ytincndblpbdnlaa
open Go.RowKit

/-- the numbers ahead of the k-th, as cells -/
def nths (l : List Int) (k : Nat) : List Value := (List.range k).map fun i => .int .i64 (nth l (some 0) i : Nat)
theorem nths_succ (l : List Int) (k : Nat) : nths l (k + 1) = nths l k ++ [.int .i64 (nth l (some 0) k : Nat)] := by
  unfold nths
  rw [List.range_succ, List.map_append]
  rfl
/-- three numbers are read, or not -/
def R3 (l : List Int) (w : World) (e : Ending) (w' : World) : Prop :=
  Below w.heap.size w w' ∧ ((∃ q A c, stt l (some 0) 3 = some q ∧ e = .returned (.agg #[.slice A 3 c, .int .i64 (q : Nat), .int .i64 0]) ∧ OwnV w' w.heap.size 3 1 (.slice A 3 c) 3 (nths l 3)) ∨
    (stt l (some 0) 3 = none ∧ ∃ x : Int, x ≠ 0 ∧ e = .returned (.agg #[.slice none 0 0, .int .i64 0, .int .i64 x])))
theorem stt_none {l : List Int} {o : Option Nat} {k : Nat} (h : stt l o k = none) : ∀ j, stt l o (k + j) = none := by
  intro j
  induction j with
  | zero => exact h
  | succ j ih => show (nx l (stt l o (k + j))).2 = none; rw [ih]; rfl
theorem stt_next {l : List Int} {o : Option Nat} {k p n q : Nat} (h : stt l o k = some p) (hg : gnum l p = some (n, q)) : stt l o (k + 1) = some q ∧ nth l o k = n := by
  refine ⟨?_, ?_⟩
  · show (nx l (stt l o k)).2 = _; rw [h]; simp only [nx, hg]
  · show (nx l (stt l o k)).1 = _; rw [h]; simp only [nx, hg]
theorem stt_stop {l : List Int} {o : Option Nat} {k p : Nat} (h : stt l o k = some p) (hg : gnum l p = none) : stt l o (k + 1) = none := by
  show (nx l (stt l o k)).2 = _; rw [h]; simp only [nx, hg]
theorem wp_name {P : Program} {c : Code} {K : Exit → Act → World → Prop} {a : Act} {w : World} (h : ∀ y, y = w → c.wp P K a y) : c.wp P K a w := h w rfl
set_option maxRecDepth 100000 in
set_option maxHeartbeats 3200000 in
theorem own_apart {wr w2 : World} {g b k : Nat} {t : TypeId} {cs : Array Value} {v v2 : Value} {us : List Value} (h : Bx wr g t cs) (ht : t ≠ 3) (ho : OwnV wr b 3 1 v k us) (hg : GrownV wr w2 v v2) : Bx w2 g t cs :=
  h.apart hg.1 fun e => ht (ho.typ e.symm h)
set_option maxRecDepth 100000 in
set_option maxHeartbeats 1600000 in
theorem read3_any (A : Option Addr) (c L : Nat) (l : List Int) (w : World) (hL : l.length = L) (hlen : L ≤ 1000000) (hb : ∀ x ∈ l, 0 ≤ x ∧ x ≤ 255) (ra : Rn w A l) :
    Calls Try.prog 59 #[.slice A L c, .int .i64 0, .int .i64 3] w (R3 l w) := by
  have HGET := hid (fun w1 (hb1 : Below w.heap.size w w1) p (hp : p ≤ L) => refget_any A c p L l w1 w1.heap.size hL hlen hp hb (ra.now hb1))
  have HBND := hid (fun p n q (h : gnum l p = some (n, q)) => gnum_bnd hb h)
  have HL := hid hL
  have HR := hid ra
  clear hL hb ra
  obtain ⟨W1, hW1, BX1, HB1, -⟩ := below_new w 103 #[.slice none 0 0, .int .i64 0, .int .i64 0]
  obtain ⟨W2, hW2, BX2, HB2, -⟩ := below_new W1 103 #[.slice none 0 0, .int .i64 0, .int .i64 0]
  have HW1 := hid hW1
  have HW2 := hid hW2
  have E1 := hid (BX1.next HB2)
  have E2 := hid BX2
  have B2 := hid (on HB1 HB2)
  clear hW1 hW2 BX1 BX2 HB1 HB2
  go_enter Try.func59, Try.ntmps59
  go_wp2_with fail
  rw [HW1.out, HW2.out]
  have hs1 : W1.heap.size = w.heap.size + 1 := by rw [← HW1.out]; simp
  rw [hs1] at E2
  clear HW1 HW2 hs1
  go_loopw [8] (fun t wr => ∃ (k q : Nat) (v : Value), k ≤ 3 ∧ t = .int .i64 k ∧ Hid (stt l (some 0) k = some q) ∧ q ≤ L ∧ Hid (Bx wr w.heap.size 103 #[.slice none 0 0, .int .i64 0, .int .i64 0]) ∧ Hid (Bx wr (w.heap.size + 1) 103 #[v, .int .i64 (q : Nat), .int .i64 0]) ∧ Hid (OwnV wr w.heap.size 3 1 v k (nths l k)) ∧ Hid (Below w.heap.size w wr)) (fun t _ => 3 - (intOf t).toNat)
  case atStart => exact ⟨0, 0, _, by omega, rfl, hid rfl, Nat.zero_le _, E1, E2, hid (ownV_nil _ _ _ _), B2⟩
  case round =>
    obtain ⟨k, q, v, hk, rfl, HST, hq, F1, F2, HO, HB⟩ := hrel
    clear E1 E2 B2
    by_cases hlt : k < 3
    · have q0 : decide ((k : Int) < 3) = true := by simp; omega
      have c1 : wr.cell? ⟨w.heap.size + 1, 1, none⟩ = some (.int .i64 (q : Nat)) := F2.out.cell 1
      have HQ := hid hq
      clear hq hk
      go_wp2_with fail
      refine (HGET.out wr HB.out q HQ.out).mono ?_
      rintro e w1 ⟨hb1, ⟨n, q2, hg, rfl⟩ | ⟨hg, x, hx, rfl⟩⟩
      case inl =>
        obtain ⟨W3, hW3, BX3, HB3, -⟩ := below_new w1 85 #[.int .i64 n, .slice none 0 0, .int .i64 q2, .int .i64 0]
        have HW3 := hid hW3
        have hb := on hb1 HB3
        obtain ⟨st2, nt2⟩ := stt_next HST.out hg
        obtain ⟨b1, b2, b3⟩ := HBND.out q n q2 hg
        rw [HL.out] at b2
        have HST2 := hid st2
        have HN2 := hid nt2
        have G1 := hid (F1.out.next hb)
        have G2 := hid (F2.out.next hb)
        have O2 := hid (HO.out.below hb)
        have B3 := hid (on HB.out hb)
        have D1 := hid BX3
        have d0 : W3.cell? ⟨w1.heap.size, 0, none⟩ = some (.int .i64 n) := BX3.cell 0
        have d2 : W3.cell? ⟨w1.heap.size, 2, none⟩ = some (.int .i64 q2) := BX3.cell 2
        have d3 : W3.cell? ⟨w1.heap.size, 3, none⟩ = some (.int .i64 0) := BX3.cell 3
        clear hW3 BX3 HB3 hb hb1 hg st2 nt2 F1 F2 HO HB HST HQ c1
        go_upto_region 6 with fail
        rw [HW3.out]
        clear HW3
        obtain ⟨A0, c0, rfl, -, -, -⟩ := O2.out.read
        have f0 : W3.cell? ⟨w.heap.size + 1, 0, none⟩ = some (.slice A0 k c0) := G2.out.cell 0
        have lt3 : w.heap.size + 1 < W3.heap.size := G2.out.lt
        have lt4 : w1.heap.size < W3.heap.size := D1.out.lt
        have HNE := hid (show (⟨w.heap.size + 1, 0, none⟩ : Addr).block ≠ w1.heap.size from fun e => by
          have e' : w.heap.size + 1 = w1.heap.size := e
          have h1 := D1.out
          rw [← e'] at h1
          exact absurd (G2.out.symm.trans h1) (by simp))
        have HAL := hid (below_alloc W3 (.cells #[.int .i64 (n : Nat)] 3))
        have O3 := hid (O2.out.below HAL.out)
        have G3 := hid (G2.out.next HAL.out)
        have R3 := hid (rv_new W3 3 #[.int .i64 (n : Nat)])
        have L3 := hid (show w.heap.size ≤ (W3.alloc (.cells #[.int .i64 (n : Nat)] 3)).heap.size from Nat.le_trans (Nat.le_of_lt (Nat.lt_of_succ_lt lt3)) HAL.out.size)
        have hkm : k + 1 ≤ maxLen := by unfold maxLen; omega
        clear d2
        go_upto_region 9 with (at_builtin; go_loud (refine wpList_appV elt_int rfl (.tmp 28) (.tmp 31) rfl w.heap.size _ k _ O3.out rfl _ _ 1 1 [.int .i64 (n : Nat)] rfl rfl R3.out (fun u hu => by simp at hu; subst hu; rfl) hkm (by omega) L3.out ?_); intro v5 w5 hown5 hg5; have X5 := own_apart G3.out (by decide) O3.out hg5; have y0 := X5.cell 0; have y1 := X5.free 0; obtain ⟨A5, c5, hv5, -, -, -⟩ := hown5.read; rw [hv5] at hown5 hg5 ⊢; have HX5 := hid X5; have HO5 := hid hown5; have HG5 := hid hg5; clear hown5 hg5 X5 hv5)
        refine wp_name fun w6 hw6 => ?_
        have HB6 : Below w.heap.size W3 w6 := by rw [hw6]; exact below_set ((HAL.out.mono (Nat.le_of_lt (Nat.lt_of_succ_lt lt3))).trans (HG5.out.below O3.out L3.out)) ⟨w.heap.size + 1, 0, none⟩ _ (Nat.le_succ _)
        have O6 := hid (show OwnV w6 w.heap.size 3 1 (.slice A5 (k + 1) c5) (k + 1) (nths l (k + 1)) by rw [hw6, nths_succ, HN2.out]; exact Dk.setF.ownsRow_setCell_other' HO5.out (fun e => absurd (HO5.out.typ e HX5.out) (by decide)) _)
        have G6 := hid (show Bx w6 (w.heap.size + 1) 103 #[.slice A5 (k + 1) c5, .int .i64 (q : Nat), .int .i64 0] by rw [hw6]; exact HX5.out.set 0 _)
        have F6 := hid (show Bx w6 w.heap.size 103 #[.slice none 0 0, .int .i64 0, .int .i64 0] by rw [hw6]; exact (own_apart (G1.out.next HAL.out) (by decide) O3.out HG5.out).far _ _ (by show w.heap.size + 1 ≠ w.heap.size; omega))
        have hD6 : Bx w6 w1.heap.size 85 #[.int .i64 n, .slice none 0 0, .int .i64 q2, .int .i64 0] := by rw [hw6]; exact (own_apart (D1.out.next HAL.out) (by decide) O3.out HG5.out).far _ _ (HNE.out)
        have d2 : w6.cell? ⟨w1.heap.size, 2, none⟩ = some (.int .i64 (q2 : Nat)) := hD6.cell 2
        have z0 : w6.cell? ⟨w.heap.size + 1, 1, none⟩ = some (.int .i64 (q : Nat)) := G6.out.cell 1
        have z1 : w6.frozen? ⟨w.heap.size + 1, 1, none⟩ = false := G6.out.free 1
        have B6 := hid (B3.out.trans HB6)
        clear hw6 HB6 hD6 y0 y1 HX5 HO5 HG5 O3 G3 R3 L3 HAL G1 G2 O2 B3 D1 d0 d3 f0 lt3 lt4
        go_wp2_with fail
        go_roundw
        case rel =>
          refine ⟨k + 1, q2, _, by omega, by go_num, HST2, by omega, hid (F6.out.far ⟨w.heap.size + 1, 1, none⟩ _ (by show w.heap.size + 1 ≠ w.heap.size; omega)), hid (G6.out.set 1 _), hid (Dk.setF.ownsRow_setCell_other' O6.out (fun e => absurd (O6.out.typ e G6.out) (by decide)) _), hid (below_set B6.out ⟨w.heap.size + 1, 1, none⟩ _ (Nat.le_succ _))⟩
        case measure => simp [intOf]; omega
      case inr =>
        obtain ⟨W3, hW3, BX3, HB3, -⟩ := below_new w1 85 #[.int .i64 0, .slice none 0 0, .int .i64 0, .int .i64 x]
        have HW3 := hid hW3
        have hb := on hb1 HB3
        have st2 := stt_stop HST.out hg
        have st3 : stt l (some 0) 3 = none := by
          have := stt_none st2 (2 - k)
          rwa [show k + 1 + (2 - k) = 3 by omega] at this
        have HST3 := hid st3
        have G1 := hid (F1.out.next hb)
        have B3 := hid (on HB.out hb)
        have d3 : W3.cell? ⟨w1.heap.size, 3, none⟩ = some (.int .i64 x) := BX3.cell 3
        have x1 : (x != 0) = true := by simpa using hx
        have HXX := hid hx
        clear hW3 BX3 HB3 hb hb1 hg st2 st3 F1 F2 HO HB HST HQ c1 hx
        go_upto_region 6 with fail
        rw [HW3.out]
        clear HW3
        go_wp2_with (refine wpList_store_bx rfl 103 (.tmp 6) (.tmp 26) rfl rfl _ _ _ _ rfl rfl G1.out (by kernel_rfl) rfl (by simp [Value.oneCell']) ?_)
        refine bodyPost_ret (results_bx1 rfl _ rfl (G1.out.row (cs' := #[.slice none 0 0, .int .i64 0, .int .i64 x])) Try.underlying103 rfl (by kernel_rfl)) rfl ?_
        exact ⟨B3.out.trans (below_rowR _ (Nat.le_refl _)) , .inr ⟨HST3.out, x, HXX.out, rfl⟩⟩
    · obtain rfl : k = 3 := by omega
      obtain ⟨A0, c0, rfl, -, -, -⟩ := HO.out.read
      clear hlt hk
      go_wp2_with (first | (refine wpList_load_bx rfl 103 (.tmp 7) rfl _ _ _ _ rfl F2.out Try.underlying103 rfl (by kernel_rfl) ?_) | (refine wpList_store_bx rfl 103 (.tmp 6) (.tmp 37) rfl rfl _ _ _ _ rfl rfl F1.out (by kernel_rfl) rfl (by simp [Value.oneCell']) ?_))
      refine bodyPost_ret (results_bx1 rfl _ rfl (F1.out.row (cs' := #[.slice A0 3 c0, .int .i64 (q : Nat), .int .i64 0])) Try.underlying103 rfl (by kernel_rfl)) rfl ?_
      refine ⟨HB.out.trans (below_rowR _ (Nat.le_refl _)), .inl ⟨q, A0, c0, HST.out, rfl, ownV_kept HO.out fun g hg => setRow_other wr w.heap.size g _ ?_⟩⟩
      intro e
      rw [e] at hg
      exact absurd (HO.out.typ hg F1.out) (by decide)

/-- a slot's sector, read -/
def SlotP (l : List Int) (w : World) (e : Ending) (w' : World) : Prop :=
  ∃ A c, e = .returned (.slice A 3 c) ∧ OwnV w' w.heap.size 3 1 (.slice A 3 c) 3 [.int .i64 ((slt l).1 : Nat), .int .i64 ((slt l).2.1 : Nat), .int .i64 ((slt l).2.2 : Nat)] ∧ Below w.heap.size w w'
theorem own_three (w : World) (b : Nat) (hb : b ≤ w.heap.size) : OwnV (w.alloc (.cells #[.int .i64 0, .int .i64 0, .int .i64 0] 3)) b 3 1 (.slice (some ⟨w.heap.size, 0, none⟩) 3 3) 3 [.int .i64 ((0 : Nat) : Int), .int .i64 ((0 : Nat) : Int), .int .i64 ((0 : Nat) : Int)] :=
  ⟨rfl, .inr ⟨w.heap.size, 3, _, rfl, hb, Bx.new w _ _, Nat.le_refl _, by unfold maxLen; omega, rfl, rfl⟩⟩
theorem nths3 (l : List Int) : nths l 3 = [.int .i64 (nth l (some 0) 0 : Nat), .int .i64 (nth l (some 0) 1 : Nat), .int .i64 (nth l (some 0) 2 : Nat)] := rfl
theorem slt_no {l : List Int} (h : endd l (stt l (some 0) 3) = false) : slt l = (0, 0, 0) := by
  unfold slt
  rw [if_neg (by rw [h]; simp)]
set_option maxRecDepth 100000 in
set_option maxHeartbeats 1600000 in
theorem refslot_any (A : Option Addr) (c L : Nat) (l : List Int) (w : World) (hL : l.length = L) (hb : Ok1 l) (ra : Rn w A l) :
    Calls Try.prog 40 #[.slice A L c] w (SlotP l w) := by
  have HRD := hid (read3_any A c L l w hL (by have := hb.1; omega) hb.2 ra)
  have HBND := hid (stt_bnd (l := l) (o := some 0) hb (fun q e => by cases e; exact Nat.zero_le _) 3)
  have HL := hid hL
  clear hL hb ra
  go_enter Try.func40, Try.ntmps40
  go_wp2_with fail
  refine HRD.out.mono ?_
  rintro e w1 ⟨hb1, ⟨q, A1, c1, hq, rfl, ho⟩ | ⟨hq, x, hx, rfl⟩⟩
  case inr =>
    obtain ⟨W1, hW1, BX1, HB1, -⟩ := below_new w1 103 #[.slice none 0 0, .int .i64 0, .int .i64 x]
    have HW1 := hid hW1
    have B1 := hid (on hb1 HB1)
    have d2 : W1.cell? ⟨w1.heap.size, 2, none⟩ = some (.int .i64 x) := BX1.cell 2
    have x1 : (x != 0) = true := by simpa using hx
    have HQ := hid hq
    clear hW1 BX1 HB1 hb1 hq hx
    go_upto_region 2 with fail
    rw [HW1.out]
    clear HW1
    have hz : slt l = (0, 0, 0) := slt_no (by rw [HQ.out]; rfl)
    have HZ := hid hz
    clear hz
    go_wp2_with (at_make; refine wpList_makeV elt_int rfl rfl (.const (.int .i64 3)) (.const (.int .i64 3)) rfl 3 rfl rfl (by decide) (by decide) ?_; intro w3 hw3)
    go_ret
    exact ⟨_, _, rfl, by rw [HZ.out, hw3.out]; exact own_three _ _ B1.out.size, by rw [hw3.out]; exact B1.out.trans ((below_alloc W1 _).mono B1.out.size)⟩
  case inl =>
    obtain ⟨W1, hW1, BX1, HB1, -⟩ := below_new w1 103 #[.slice A1 3 c1, .int .i64 (q : Nat), .int .i64 0]
    have HW1 := hid hW1
    have B1 := hid (on hb1 HB1)
    have O1 := hid (ho.below HB1)
    have d0 : W1.cell? ⟨w1.heap.size, 0, none⟩ = some (.slice A1 3 c1) := BX1.cell 0
    have d1 : W1.cell? ⟨w1.heap.size, 1, none⟩ = some (.int .i64 (q : Nat)) := BX1.cell 1
    have d2 : W1.cell? ⟨w1.heap.size, 2, none⟩ = some (.int .i64 0) := BX1.cell 2
    have hql : q ≤ L := by rw [← HL.out]; exact HBND.out q hq
    have HQ := hid hq
    clear hW1 BX1 HB1 hb1 hq ho
    go_upto_region 2 with fail
    rw [HW1.out]
    clear HW1
    obtain ⟨g, cc, hA1, -, -⟩ := World.ownsRow.form O1.out (by omega)
    injection hA1 with e1 e2 e3
    subst e1 e3
    have p0 := World.ownsRow.cellAt O1.out 0 (by omega)
    have p1 := World.ownsRow.cellAt O1.out 1 (by omega)
    have p2 := World.ownsRow.cellAt O1.out 2 (by omega)
    by_cases hlt : q < L
    · have q1 : decide ((q : Int) < (L : Int)) = true := by simp; omega
      have q1' : decide (q < L) = true := by simp; omega
      have hz : slt l = (0, 0, 0) := slt_no (by rw [HQ.out]; unfold endd; simp; rw [HL.out]; omega)
      have HZ := hid hz
      clear hz
      clear hlt hql
      go_wp2_with (at_make; refine wpList_makeV elt_int rfl rfl (.const (.int .i64 3)) (.const (.int .i64 3)) rfl 3 rfl rfl (by decide) (by decide) ?_; intro w3 hw3)
      go_ret
      exact ⟨_, _, rfl, by rw [HZ.out, hw3.out]; exact own_three _ _ B1.out.size, by rw [hw3.out]; exact B1.out.trans ((below_alloc W1 _).mono B1.out.size)⟩
    have HQL := hid (show q = l.length by rw [HL.out]; omega)
    have q1 : decide ((q : Int) < (L : Int)) = false := by simp; omega
    have q1' : decide (q < L) = false := by simp; omega
    have HEN := hid (show endd l (stt l (some 0) 3) = true by rw [HQ.out, HQL.out]; unfold endd; simp)
    have hs : slt l = if nth l (some 0) 0 ≤ great ∧ nth l (some 0) 1 ≤ great ∧ nth l (some 0) 2 ≤ 16 then (nth l (some 0) 0, nth l (some 0) 1, nth l (some 0) 2) else (0, 0, 0) := by
      unfold slt
      rw [HEN.out]
      simp
    have HS := hid hs
    rw [nths3] at O1 p0 p1 p2
    simp only [List.getElem?_cons_zero, List.getElem?_cons_succ] at p0 p1 p2
    generalize nth l (some 0) 0 = m0 at *
    generalize nth l (some 0) 1 = m1 at *
    generalize nth l (some 0) 2 = m2 at *
    clear hs hlt hql
    by_cases t0 : 1099511627776 < m0
    · have u0 : decide ((1099511627776 : Int) < (m0 : Int)) = true := by simp; omega
      have u0' : decide (1099511627776 < m0) = true := by simp; omega
      have hz : slt l = (0, 0, 0) := by rw [HS.out, if_neg (by unfold great; omega)]
      have HZ := hid hz
      clear hz
      clear t0
      go_wp2_with (at_make; refine wpList_makeV elt_int rfl rfl (.const (.int .i64 3)) (.const (.int .i64 3)) rfl 3 rfl rfl (by decide) (by decide) ?_; intro w3 hw3)
      go_ret
      exact ⟨_, _, rfl, by rw [HZ.out, hw3.out]; exact own_three _ _ B1.out.size, by rw [hw3.out]; exact B1.out.trans ((below_alloc W1 _).mono B1.out.size)⟩
    have u0 : decide ((1099511627776 : Int) < (m0 : Int)) = false := by simp; omega
    have u0' : decide (1099511627776 < m0) = false := by simp; omega
    have T0 := hid t0
    clear t0
    by_cases t1 : 1099511627776 < m1
    · have u1 : decide ((1099511627776 : Int) < (m1 : Int)) = true := by simp; omega
      have u1' : decide (1099511627776 < m1) = true := by simp; omega
      have hz : slt l = (0, 0, 0) := by rw [HS.out, if_neg (by unfold great; omega)]
      have HZ := hid hz
      clear hz
      clear t1
      go_wp2_with (at_make; refine wpList_makeV elt_int rfl rfl (.const (.int .i64 3)) (.const (.int .i64 3)) rfl 3 rfl rfl (by decide) (by decide) ?_; intro w3 hw3)
      go_ret
      exact ⟨_, _, rfl, by rw [HZ.out, hw3.out]; exact own_three _ _ B1.out.size, by rw [hw3.out]; exact B1.out.trans ((below_alloc W1 _).mono B1.out.size)⟩
    have u1 : decide ((1099511627776 : Int) < (m1 : Int)) = false := by simp; omega
    have u1' : decide (1099511627776 < m1) = false := by simp; omega
    have T1 := hid t1
    clear t1
    by_cases t2 : 16 < m2
    · have u2 : decide ((16 : Int) < (m2 : Int)) = true := by simp; omega
      have u2' : decide (16 < m2) = true := by simp; omega
      have hz : slt l = (0, 0, 0) := by rw [HS.out, if_neg (by unfold great; omega)]
      have HZ := hid hz
      clear hz
      clear t2
      go_wp2_with (at_make; refine wpList_makeV elt_int rfl rfl (.const (.int .i64 3)) (.const (.int .i64 3)) rfl 3 rfl rfl (by decide) (by decide) ?_; intro w3 hw3)
      go_ret
      exact ⟨_, _, rfl, by rw [HZ.out, hw3.out]; exact own_three _ _ B1.out.size, by rw [hw3.out]; exact B1.out.trans ((below_alloc W1 _).mono B1.out.size)⟩
    have u2 : decide ((16 : Int) < (m2 : Int)) = false := by simp; omega
    have u2' : decide (16 < m2) = false := by simp; omega
    have T2 := hid t2
    clear t2
    have hz : slt l = (m0, m1, m2) := by rw [HS.out, if_pos (by have := T0.out; have := T1.out; have := T2.out; unfold great; omega)]
    have HZ := hid hz
    clear hz
    go_wp2_with fail
    go_ret
    exact ⟨_, _, rfl, by rw [HZ.out]; exact O1.out, B1.out⟩
/-- two stores in memory have the same slots -/
def alikeS (sh : Sh) (X Y : RS) : Bool := decide (∀ i, i < sh.S * sh.C → X.P i = Y.P i ∧ X.O i = Y.O i ∧ X.K i = Y.K i)
section
variable {w : World} {bb kd ks b0 kx : Nat} {vv r0 r1 r2 r3 r4 : Value} {s : St} {sh : Sh} {X Y : RS}
set_option maxRecDepth 100000 in
set_option maxHeartbeats 1600000 in
theorem slots_any {B Z C S : Nat} (hsh : sh = ⟨B, Z, C, S⟩) (h : Sx w bb kd ks vv s sh) (ok : sh.ok) (hlen : sh.at_ sh.C 0 ≤ s.L.length) (hA : Agr sh s.L X) (hr : Rf w b0 kx r0 r1 r2 r3 r4 sh Y) :
    Calls Try.prog 23 #[.pointer (some ⟨kd, 0, none⟩), .agg #[.int .i64 B, .int .i64 Z, .int .i64 C, .int .i64 S], .pointer (some ⟨kx, 0, none⟩)] w fun e w' => e = .returned (.bool (alikeS sh X Y)) ∧ Below w.heap.size w w' := by
  obtain ⟨W0, hW0, BX0, HB0, -⟩ := below_new w 23 #[.int .i64 B, .int .i64 Z, .int .i64 C, .int .i64 S]
  have HW := hid hW0
  have HS := hid BX0
  have HX := hid (h.below HB0)
  have HR := hid (hr.below HB0)
  have B0 := hid HB0
  have HA := hid hA
  have e2 : W0.cell? ⟨w.heap.size, 2, none⟩ = some (.int .i64 (C : Nat)) := BX0.cell 2
  have e3 : W0.cell? ⟨w.heap.size, 3, none⟩ = some (.int .i64 (S : Nat)) := BX0.cell 3
  have sB : B ≤ 32 := by have := ok.b.2; rw [hsh] at this; exact this
  have sC : C ≤ 4 := by have := ok.c.2; rw [hsh] at this; exact this
  have sS : S ≤ 4 := by have := ok.s.2; rw [hsh] at this; exact this
  obtain ⟨N, hN⟩ : ∃ N, S * C = N := ⟨_, rfl⟩
  have sN : N ≤ 16 := by rw [← hN]; exact Nat.le_trans (Nat.mul_le_mul sS sC) (by decide)
  have hmul : wrap64 ((C : Int) * (S : Int)) = (N : Int) := by
    rw [← Int.natCast_mul, Nat.mul_comm, hN]
    unfold wrap64
    omega
  have HSB := hid (show sh.B = B by rw [hsh])
  have HSN := hid (show sh.S * sh.C = N by rw [hsh]; exact hN)
  have HLL := hid (show 1 + B + N ≤ s.L.length by rw [top_eq, hsh] at hlen; rw [← hN]; exact hlen)
  clear hW0 BX0 HB0 h hr hA hN hsh hlen ok
  obtain ⟨t, hd⟩ : ∃ t, alikeS sh X Y = t := ⟨_, rfl⟩
  rw [hd]
  have HD := hid hd
  clear hd
  go_enter Try.func23, Try.ntmps23
  go_upto_region 1 with fail
  rw [HW.out]
  go_wp2
  rw [hmul]
  clear e2 e3 hmul
  go_loopw [16] (fun i wr => ∃ k : Nat, k ≤ N ∧ (∀ j, j < k → X.P j = Y.P j ∧ X.O j = Y.O j ∧ X.K j = Y.K j) ∧ i = .int .i64 k ∧ Hid (Below w.heap.size w wr) ∧ Hid (Below W0.heap.size W0 wr)) (fun i _ => N - (intOf i).toNat)
  case atStart => exact ⟨0, Nat.zero_le _, fun j hj => absurd hj (Nat.not_lt_zero _), rfl, B0, hid (Below.refl _ _)⟩
  case round =>
    obtain ⟨k, hk, ht, rfl, B1, C1⟩ := hrel
    have HT := hid ht
    clear ht
    by_cases hlt : k < N
    · have q0 : decide ((k : Int) < (N : Int)) = true := by simp; omega
      have HK := hid hlt
      have e0 : wr.cell? ⟨w.heap.size, 0, none⟩ = some (.int .i64 (B : Nat)) := (HS.out.next C1.out).cell 0
      have HRD := hid (read_any (HX.out.below C1.out).dk (HX.out.l64) (1 + (B : Int) + (k : Int)))
      clear hlt hk
      go_wp2_with fail
      refine HRD.out.mono ?_
      rintro e w2 ⟨u, l, c, rfl, hu, hb, hc⟩
      have hk2 : k < N := HK.out
      have hll : 1 + B + k < s.L.length := by have := HLL.out; omega
      rcases hc with ⟨hc, _, _⟩ | ⟨_, hl, rfl⟩
      · omega
      rw [show (1 + (B : Int) + (k : Int)).toNat = 1 + B + k by omega] at hl
      have hsl : sec s.L (1 + sh.B + k) = l := by rw [HSB.out]; unfold sec; rw [List.getD_eq_getElem?_getD, hl]; rfl
      have hag := HA.out.s k (by rw [HSN.out]; exact hk2)
      rw [hsl] at hag
      have hok : Ok1 l := HX.out.by_ l (List.mem_of_getElem? hl)
      have B2 := hid (on B1.out hb)
      have C2 := hid (on C1.out hb)
      have hu2 := hu
      obtain ⟨A2, c2, rfl, -⟩ := hu2
      have HSL := hid (refslot_any A2 c2 l.length l w2 rfl hok hu.rn)
      rw [show SlotP l = fun w e w' => ∃ A c, e = .returned (.slice A 3 c) ∧ OwnV w' w.heap.size 3 1 (.slice A 3 c) 3 [.int .i64 (X.P k : Nat), .int .i64 (X.O k : Nat), .int .i64 (X.K k : Nat)] ∧ Below w.heap.size w w' by funext w e w'; unfold SlotP; rw [hag]] at HSL
      clear hu hb hl hsl hag hok hll hk2 HRD e0 B1 C1
      go_wp2_with fail
      refine HSL.out.mono ?_
      rintro e w3 ⟨A3, c3, rfl, ho, hb⟩
      have B3 := hid (on B2.out hb)
      have C3 := hid (on C2.out hb)
      have R3 := hid (HR.out.below C3.out)
      obtain ⟨g, cc, hA1, -, -⟩ := World.ownsRow.form ho (by omega)
      injection hA1 with j1 j2 j3
      subst j1 j3
      have p0 := World.ownsRow.cellAt ho 0 (by omega)
      have p1 := World.ownsRow.cellAt ho 1 (by omega)
      have p2 := World.ownsRow.cellAt ho 2 (by omega)
      simp only [List.getElem?_cons_zero, List.getElem?_cons_succ] at p0 p1 p2
      have hkn : k < sh.S * sh.C := by rw [HSN.out]; exact HK.out
      obtain ⟨g2, d2, h2, x2, y2⟩ := R3.out.getP hkn
      obtain ⟨g3, d3, h3, x3, y3⟩ := R3.out.getO hkn
      obtain ⟨g4, d4, h4, x4, y4⟩ := R3.out.getK hkn
      have r6 : w3.cell? ⟨kx, 6, none⟩ = some r2 := R3.out.bx.cell 6
      have r7 : w3.cell? ⟨kx, 7, none⟩ = some r3 := R3.out.bx.cell 7
      have r8 : w3.cell? ⟨kx, 8, none⟩ = some r4 := R3.out.bx.cell 8
      rw [h2, HSN.out] at r6
      rw [h3, HSN.out] at r7
      rw [h4, HSN.out] at r8
      have hkb : (k : Int) < (N : Int) := by have := HK.out; omega
      clear ho hb h2 h3 h4 hkn y2 y3 y4 HSL B2 C2 R3
      obtain ⟨a0, ha0⟩ : ∃ y, X.P k = y := ⟨_, rfl⟩
      obtain ⟨a1, ha1⟩ : ∃ y, X.O k = y := ⟨_, rfl⟩
      obtain ⟨a2, ha2⟩ : ∃ y, X.K k = y := ⟨_, rfl⟩
      obtain ⟨e0, he0⟩ : ∃ y, Y.P k = y := ⟨_, rfl⟩
      obtain ⟨e1, he1⟩ : ∃ y, Y.O k = y := ⟨_, rfl⟩
      obtain ⟨e2, he2⟩ : ∃ y, Y.K k = y := ⟨_, rfl⟩
      have HE := hid (And.intro (And.intro ha0 ha1) (And.intro (And.intro ha2 he0) (And.intro he1 he2)))
      rw [ha0] at p0
      rw [ha1] at p1
      rw [ha2] at p2
      rw [he0] at x2
      rw [he1] at x3
      rw [he2] at x4
      clear ha0 ha1 ha2 he0 he1 he2
      by_cases t0 : a0 = e0
      · have T0 := hid t0
        have u0 : (((a0 : Nat) : Int) != ((e0 : Nat) : Int)) = false := by simp; omega
        have u0' : (a0 != e0) = false := by simp; omega
        clear t0
        by_cases t1 : a1 = e1
        · have T1 := hid t1
          have u1 : (((a1 : Nat) : Int) != ((e1 : Nat) : Int)) = false := by simp; omega
          have u1' : (a1 != e1) = false := by simp; omega
          clear t1
          by_cases t2 : a2 = e2
          · have T2 := hid t2
            have u2 : (((a2 : Nat) : Int) != ((e2 : Nat) : Int)) = false := by simp; omega
            have u2' : (a2 != e2) = false := by simp; omega
            clear t2
            go_upto_region 6 with fail
            go_quiet (fail)
            go_wp2
            go_roundw
            case rel =>
              refine ⟨k + 1, HK.out, fun j hj => ?_, by go_num, hid (below_draws B3.out _), hid (below_draws C3.out _)⟩
              by_cases e : j < k
              · exact HT.out j e
              · obtain rfl : j = k := by omega
                obtain ⟨⟨f0, f1⟩, ⟨f2, f3⟩, f4, f5⟩ := HE.out
                exact ⟨by rw [f0, f3]; exact T0.out, by rw [f1, f4]; exact T1.out, by rw [f2, f5]; exact T2.out⟩
            case measure => have := HK.out; simp [intOf]; omega
          · have u2 : (((a2 : Nat) : Int) != ((e2 : Nat) : Int)) = true := by simp; omega
            have u2' : (a2 != e2) = true := by simp; omega
            have ha : alikeS sh X Y = false := by
              simp only [alikeS, decide_eq_false_iff_not]
              intro hall
              have h9 := hall k (by rw [HSN.out]; exact HK.out)
              obtain ⟨⟨f0, f1⟩, ⟨f2, f3⟩, f4, f5⟩ := HE.out
              apply t2
              rw [← f2, ← f5]
              exact h9.2.2
            have ht : t = false := by rw [← HD.out]; exact ha
            subst ht
            clear ha t2
            go_upto_region 6 with fail
            go_quiet (fail)
            go_wp2
            go_ret
            exact ⟨rfl, below_draws B3.out _⟩
        · have u1 : (((a1 : Nat) : Int) != ((e1 : Nat) : Int)) = true := by simp; omega
          have u1' : (a1 != e1) = true := by simp; omega
          have ha : alikeS sh X Y = false := by
            simp only [alikeS, decide_eq_false_iff_not]
            intro hall
            have h9 := hall k (by rw [HSN.out]; exact HK.out)
            obtain ⟨⟨f0, f1⟩, ⟨f2, f3⟩, f4, f5⟩ := HE.out
            apply t1
            rw [← f1, ← f4]
            exact h9.2.1
          have ht : t = false := by rw [← HD.out]; exact ha
          subst ht
          clear ha t1
          go_upto_region 6 with fail
          go_quiet (fail)
          go_wp2
          go_ret
          exact ⟨rfl, below_draws B3.out _⟩
      · have u0 : (((a0 : Nat) : Int) != ((e0 : Nat) : Int)) = true := by simp; omega
        have u0' : (a0 != e0) = true := by simp; omega
        have ha : alikeS sh X Y = false := by
          simp only [alikeS, decide_eq_false_iff_not]
          intro hall
          have h9 := hall k (by rw [HSN.out]; exact HK.out)
          obtain ⟨⟨f0, f1⟩, ⟨f2, f3⟩, f4, f5⟩ := HE.out
          apply t0
          rw [← f0, ← f3]
          exact h9.1
        have ht : t = false := by rw [← HD.out]; exact ha
        subst ht
        clear ha t0
        go_upto_region 6 with fail
        go_quiet (fail)
        go_wp2
        go_ret
        exact ⟨rfl, below_draws B3.out _⟩
    · obtain rfl : k = N := by omega
      have q0 : decide ((k : Int) < (k : Int)) = false := by simp
      have ha : alikeS sh X Y = true := by
        simp only [alikeS, decide_eq_true_eq]
        rw [HSN.out]
        exact HT.out
      have ht : t = true := by rw [← HD.out]; exact ha
      subst ht
      clear ha hlt hk
      go_wp2
      go_ret
      exact ⟨rfl, B1.out⟩
end
end Go.Proofs.Ytincndblpbdnlaa
namespace Go.Proofs.Ytincndblpbdnlaa
open Go.RowKit

/-- a text is the store's -/
def Alk (X : RS) (w : World) (i : Nat) (u : Value) : Prop := Bs w u (X.T i)
theorem keeps_alk (X : RS) : Keeps (Alk X) := by
  refine ⟨fun w w' i u hb h => Bs.below h hb, ?_⟩
  rintro w g t cs j i u v hx - hn h
  refine Bs.stay h (Stay.set w _ _ fun x e => ?_) (by rw [setSize]; exact Nat.le_refl _)
  rw [hx.cell] at e
  exact hn x (Array.mem_toList_iff.2 (Array.mem_of_getElem? e))
theorem alk_grown {X : RS} {w w2 : World} {v2 : Value} (hg : GrownV w w2 (.slice none 0 0) v2) : ∀ i u, Alk X w i u → Alk X w2 i u := fun _ _ h =>
  Bs.below h (hg.below (b := w.heap.size) (ownV_nil w w.heap.size 5 1) (Nat.le_refl _))
/-- a store's memory, all rows made -/
theorem Pf.rfA {w : World} {b kx : Nat} {r0 r1 r2 r3 r4 : Value} {sh : Sh} {X : RS} (h : Pf (Alk X) w b kx r0 r1 r2 r3 r4 sh.B sh.B (sh.S * sh.C) (sh.S * sh.C) (sh.S * sh.C) sh X) : Rf w b kx r0 r1 r2 r3 r4 sh X where
  bx := h.bx
  low := h.low
  T := h.T
  V := h.V
  P := h.P
  O := h.O
  K := h.K
  a02 := h.a02
  a03 := h.a03
  a04 := h.a04
  a23 := h.a23
  a24 := h.a24
  a34 := h.a34
theorem cel_one (n : Nat) (f : Nat → Nat) : ∀ u ∈ cel n f, u.oneCell' = true := fun u hu => by
  obtain ⟨i, _, rfl⟩ := List.mem_map.1 hu
  rfl
/-- rows of the store that is copied, read -/
structure Src (w : World) (kx : Nat) (A0 A1 A2 A3 A4 : Option Addr) (c0 c1 c2 c3 c4 : Nat) (us : List Value) (sh : Sh) (X : RS) : Prop where
  bx : Bx w kx 70 #[.int .i64 sh.B, .int .i64 sh.Z, .int .i64 sh.C, .int .i64 sh.S, .slice A0 sh.B c0, .slice A1 sh.B c1, .slice A2 (sh.S * sh.C) c2, .slice A3 (sh.S * sh.C) c3, .slice A4 (sh.S * sh.C) c4]
  V : Rv w w.heap.size A0 (cel sh.B X.V)
  T : Rv w w.heap.size A1 us
  P : Rv w w.heap.size A2 (cel (sh.S * sh.C) X.P)
  O : Rv w w.heap.size A3 (cel (sh.S * sh.C) X.O)
  K : Rv w w.heap.size A4 (cel (sh.S * sh.C) X.K)
  len : us.length = sh.B
  one : ∀ u ∈ us, u.oneCell' = true
  alk : ∀ i, i < sh.B → ∃ u, us[i]? = some u ∧ Alk X w i u
theorem Rf.src {w : World} {b kx : Nat} {r0 r1 r2 r3 r4 : Value} {sh : Sh} {X : RS} (h : Rf w b kx r0 r1 r2 r3 r4 sh X) :
    ∃ A0 A1 A2 A3 A4 c0 c1 c2 c3 c4 us, Src w kx A0 A1 A2 A3 A4 c0 c1 c2 c3 c4 us sh X := by
  obtain ⟨us, h1, h2⟩ := h.T
  have hx := h.bx
  obtain ⟨A0, c0, rfl, v0, -, -⟩ := h.V.read
  obtain ⟨A1, c1, rfl, v1, -, -⟩ := h1.read
  obtain ⟨A2, c2, rfl, v2, -, -⟩ := h.P.read
  obtain ⟨A3, c3, rfl, v3, -, -⟩ := h.O.read
  obtain ⟨A4, c4, rfl, v4, -, -⟩ := h.K.read
  have hl : us.length = sh.B := by rw [h1.1, Nat.mul_one]
  refine ⟨A0, A1, A2, A3, A4, c0, c1, c2, c3, c4, us, hx, v0, v1, v2, v3, v4, hl, fun u hu => ?_, h2⟩
  obtain ⟨i, hi, e⟩ := List.mem_iff_getElem.1 hu
  obtain ⟨u2, e2, hb⟩ := h2 i (by omega)
  rw [List.getElem?_eq_getElem hi, e] at e2
  injection e2 with e2
  subst e2
  exact hb.one
theorem Src.below {w w' : World} {kx : Nat} {A0 A1 A2 A3 A4 : Option Addr} {c0 c1 c2 c3 c4 : Nat} {us : List Value} {sh : Sh} {X : RS} (h : Src w kx A0 A1 A2 A3 A4 c0 c1 c2 c3 c4 us sh X) (hb : Below w.heap.size w w') : Src w' kx A0 A1 A2 A3 A4 c0 c1 c2 c3 c4 us sh X :=
  ⟨h.bx.next hb, h.V.now hb, h.T.now hb, h.P.now hb, h.O.now hb, h.K.now hb, h.len, h.one, fun i hi => by obtain ⟨u, e, ha⟩ := h.alk i hi; exact ⟨u, e, (keeps_alk X).1 _ _ _ _ hb ha⟩⟩
def CpyP (sh : Sh) (X : RS) (w : World) (e : Ending) (w' : World) : Prop := ∃ s0 s1 s2 s3 s4, e = .returned (.pointer (some ⟨w.heap.size, 0, none⟩)) ∧ Rf w' w.heap.size w.heap.size s0 s1 s2 s3 s4 sh X ∧ Below w.heap.size w w'
set_option maxRecDepth 100000 in
set_option maxHeartbeats 1600000 in
theorem copy_any {w : World} {b kx : Nat} {r0 r1 r2 r3 r4 : Value} {sh : Sh} {X : RS} (h : Rf w b kx r0 r1 r2 r3 r4 sh X) (ok : sh.ok) : Calls Try.prog 20 #[.pointer (some ⟨kx, 0, none⟩)] w (CpyP sh X w) := by
  have sB := ok.b.2
  have hBm : sh.B ≤ maxLen := by unfold maxLen; omega
  obtain ⟨N, hN⟩ : ∃ N, sh.S * sh.C = N := ⟨_, rfl⟩
  have sN : N ≤ 16 := by rw [← hN]; exact Nat.le_trans (Nat.mul_le_mul ok.s.2 ok.c.2) (by decide)
  have hNm : N ≤ maxLen := by unfold maxLen; omega
  obtain ⟨A0, A1, A2, A3, A4, c0, c1, c2, c3, c4, us, hs⟩ := h.src
  obtain ⟨W0, hW0⟩ : ∃ W0, w.alloc (.cells #[.int .i64 sh.B, .int .i64 sh.Z, .int .i64 sh.C, .int .i64 sh.S, .slice none 0 0, .slice none 0 0, .slice none 0 0, .slice none 0 0, .slice none 0 0] 70) = W0 := ⟨_, rfl⟩
  have M0 : Pf (Alk X) W0 w.heap.size w.heap.size (.slice none 0 0) (.slice none 0 0) (.slice none 0 0) (.slice none 0 0) (.slice none 0 0) 0 0 0 0 0 sh X := by
    rw [← hW0]
    exact { bx := Bx.new w _ _, low := Nat.le_refl _, T := ⟨[], ownV_nil _ _ _ _, fun i hi => absurd hi (Nat.not_lt_zero _)⟩, V := ownV_nil _ _ _ _, P := ownV_nil _ _ _ _, O := ownV_nil _ _ _ _, K := ownV_nil _ _ _ _, a02 := apt_nil _, a03 := apt_nil _, a04 := apt_nil _, a23 := apt_nil _, a24 := apt_nil _, a34 := apt_nil _ }
  have P0 := hid M0
  have B0 := hid (show Below w.heap.size w W0 by rw [← hW0]; exact below_alloc w _)
  have HW := hid hW0
  have HS := hid hs
  have S0 := hid (hs.below B0.out)
  have f0 : w.cell? ⟨kx, 0, none⟩ = some (.int .i64 sh.B) := hs.bx.cell 0
  have f1 : w.cell? ⟨kx, 1, none⟩ = some (.int .i64 sh.Z) := hs.bx.cell 1
  have f2 : w.cell? ⟨kx, 2, none⟩ = some (.int .i64 sh.C) := hs.bx.cell 2
  have f3 : w.cell? ⟨kx, 3, none⟩ = some (.int .i64 sh.S) := hs.bx.cell 3
  have HN := hid hN
  clear M0 hW0 hs h
  go_enter Try.func20, Try.ntmps20
  go_upto_region 1 with fail
  go_region
  rw [HW.out]
  clear HW f0 f1 f2 f3
  generalize hgg : w.heap.size = g at *
  have HGG := hid hgg
  clear hgg
  go_upto_region 2 with fail
  refine wp_world fun x0 hx0 => ?_
  have P0' := hid (show Pf (Alk X) x0 g g (.slice none 0 0) (.slice none 0 0) (.slice none 0 0) (.slice none 0 0) (.slice none 0 0) 0 0 0 0 0 sh X by rw [hx0]; exact P0.out.below (keeps_alk X) (below_draws (Below.refl _ _) 1))
  have B0' := hid (show Below g w x0 by rw [hx0]; exact below_draws B0.out 1)
  clear hx0 P0 B0 S0
  go_cut [] from 22 to 33 (fun wx => ∃ A2 c2, Pf (Alk X) wx g g (.slice A2 sh.B c2) (.slice none 0 0) (.slice none 0 0) (.slice none 0 0) (.slice none 0 0) sh.B 0 0 0 0 sh X ∧ Below g w wx)
  case first =>
    have P0 := hid (P0'.out.below (keeps_alk X) (below_draws (Below.refl _ _) 1))
    have S0 := hid (HS.out.below (show Below w.heap.size w (x0.drewN 1) by rw [HGG.out]; exact below_draws B0'.out 1))
    have k0 : x0.cell? ⟨kx, 4, none⟩ = some (.slice A0 sh.B c0) := S0.out.bx.cell 4
    have d0 : x0.cell? ⟨g, 4, none⟩ = some (.slice none 0 0) := P0.out.bx.cell 4
    have Z0 := hid (show g ≤ (x0.drewN 1).heap.size from Nat.le_of_lt P0.out.bx.lt)
    have O0 := hid (ownV_nil (x0.drewN 1) g 3 1)
    have R0 := hid (show Rv (x0.drewN 1) (x0.drewN 1).heap.size A0 (cel sh.B X.V) from S0.out.V)
    go_region_law (refine step_appV elt_int rfl (.tmp 26) (.tmp 30) rfl g _ 0 [] O0.out rfl _ A0 sh.B c0 (cel sh.B X.V) rfl (by rw [cel_len, Nat.mul_one]) R0.out (cel_one _ _) (by omega) (by omega) Z0.out ?_; intro v0 y0 hown hgr; rw [Nat.zero_add, List.nil_append] at hown; obtain ⟨XX, MM, LL⟩ := P0.out.moreV (keeps_alk X) Z0.out hown hgr (alk_grown hgr); obtain ⟨B2, e2, rfl, -, -, -⟩ := hown.read; have z0 := XX.cell 4; have z1 := XX.free 4; have MM2 := hid MM; have LL2 := hid ((below_draws B0'.out 1).trans LL); clear XX MM LL hown hgr)
    all_goals
      go_wp2_with fail
      go_meet
      exact ⟨_, _, MM2.out, LL2.out⟩
  case rest =>
  obtain ⟨a0, e0, h1, h2⟩ := hcut
  have P1' := hid h1
  have B1' := hid h2
  clear h1 h2 P0' B0'
  generalize wc = x1 at *
  go_upto_region 3 with fail
  go_cut [] from 34 to 45 (fun wx => ∃ A2 c2, Pf (Alk X) wx g g (.slice a0 sh.B e0) (.slice A2 sh.B c2) (.slice none 0 0) (.slice none 0 0) (.slice none 0 0) sh.B sh.B 0 0 0 sh X ∧ Below g w wx)
  case first =>
    have P1 := hid (P1'.out.below (keeps_alk X) (below_draws (Below.refl _ _) 1))
    have S1 := hid (HS.out.below (show Below w.heap.size w (x1.drewN 1) by rw [HGG.out]; exact below_draws B1'.out 1))
    have k1 : x1.cell? ⟨kx, 5, none⟩ = some (.slice A1 sh.B c1) := S1.out.bx.cell 5
    have d1 : x1.cell? ⟨g, 5, none⟩ = some (.slice none 0 0) := P1.out.bx.cell 5
    have Z1 := hid (show g ≤ (x1.drewN 1).heap.size from Nat.le_of_lt P1.out.bx.lt)
    have O1 := hid (ownV_nil (x1.drewN 1) g 36 1)
    have R1 := hid (show Rv (x1.drewN 1) (x1.drewN 1).heap.size A1 us from S1.out.T)
    go_region_law (refine step_appV elt_text rfl (.tmp 38) (.tmp 42) rfl g _ 0 [] O1.out rfl _ A1 sh.B c1 us rfl (by rw [S1.out.len, Nat.mul_one]) R1.out S1.out.one (by omega) (by omega) Z1.out ?_; intro v1 y1 hown hgr; rw [Nat.zero_add, List.nil_append] at hown; obtain ⟨XX, MM, LL⟩ := P1.out.moreT (keeps_alk X) Z1.out ⟨us, hown, fun i hi => by obtain ⟨u, e, ha⟩ := S1.out.alk i hi; exact ⟨u, e, alk_grown hgr _ _ ha⟩⟩ hgr; obtain ⟨B2, e2, rfl, -, -, -⟩ := hown.read; have z0 := XX.cell 5; have z1 := XX.free 5; have MM2 := hid MM; have LL2 := hid ((below_draws B1'.out 1).trans LL); clear XX MM LL hown hgr)
    all_goals
      go_wp2_with fail
      go_meet
      exact ⟨_, _, MM2.out, LL2.out⟩
  case rest =>
  obtain ⟨a1, e1, h1, h2⟩ := hcut
  have P2' := hid h1
  have B2' := hid h2
  clear h1 h2 P1' B1'
  generalize wc = x2 at *
  go_upto_region 4 with fail
  go_cut [] from 46 to 57 (fun wx => ∃ A2 c2, Pf (Alk X) wx g g (.slice a0 sh.B e0) (.slice a1 sh.B e1) (.slice A2 N c2) (.slice none 0 0) (.slice none 0 0) sh.B sh.B N 0 0 sh X ∧ Below g w wx)
  case first =>
    have P2 := hid (P2'.out.below (keeps_alk X) (below_draws (Below.refl _ _) 1))
    have S2 := hid (HS.out.below (show Below w.heap.size w (x2.drewN 1) by rw [HGG.out]; exact below_draws B2'.out 1))
    have k2 : x2.cell? ⟨kx, 6, none⟩ = some (.slice A2 N c2) := HN.out ▸ S2.out.bx.cell 6
    have d2 : x2.cell? ⟨g, 6, none⟩ = some (.slice none 0 0) := P2.out.bx.cell 6
    have Z2 := hid (show g ≤ (x2.drewN 1).heap.size from Nat.le_of_lt P2.out.bx.lt)
    have O2 := hid (ownV_nil (x2.drewN 1) g 3 1)
    have R2 := hid (show Rv (x2.drewN 1) (x2.drewN 1).heap.size A2 (cel N X.P) from HN.out ▸ S2.out.P)
    go_region_law (refine step_appV elt_int rfl (.tmp 50) (.tmp 54) rfl g _ 0 [] O2.out rfl _ A2 N c2 (cel N X.P) rfl (by rw [cel_len, Nat.mul_one]) R2.out (cel_one _ _) (by omega) (by omega) Z2.out ?_; intro v2 y2 hown hgr; rw [Nat.zero_add, List.nil_append] at hown; obtain ⟨XX, MM, LL⟩ := P2.out.moreP (keeps_alk X) Z2.out hown hgr (alk_grown hgr); obtain ⟨B2, e2, rfl, -, -, -⟩ := hown.read; have z0 := XX.cell 6; have z1 := XX.free 6; have MM2 := hid MM; have LL2 := hid ((below_draws B2'.out 1).trans LL); clear XX MM LL hown hgr)
    all_goals
      go_wp2_with fail
      go_meet
      exact ⟨_, _, MM2.out, LL2.out⟩
  case rest =>
  obtain ⟨a2, e2, h1, h2⟩ := hcut
  have P3' := hid h1
  have B3' := hid h2
  clear h1 h2 P2' B2'
  generalize wc = x3 at *
  go_upto_region 5 with fail
  go_cut [] from 58 to 69 (fun wx => ∃ A2 c2, Pf (Alk X) wx g g (.slice a0 sh.B e0) (.slice a1 sh.B e1) (.slice a2 N e2) (.slice A2 N c2) (.slice none 0 0) sh.B sh.B N N 0 sh X ∧ Below g w wx)
  case first =>
    have P3 := hid (P3'.out.below (keeps_alk X) (below_draws (Below.refl _ _) 1))
    have S3 := hid (HS.out.below (show Below w.heap.size w (x3.drewN 1) by rw [HGG.out]; exact below_draws B3'.out 1))
    have k3 : x3.cell? ⟨kx, 7, none⟩ = some (.slice A3 N c3) := HN.out ▸ S3.out.bx.cell 7
    have d3 : x3.cell? ⟨g, 7, none⟩ = some (.slice none 0 0) := P3.out.bx.cell 7
    have Z3 := hid (show g ≤ (x3.drewN 1).heap.size from Nat.le_of_lt P3.out.bx.lt)
    have O3 := hid (ownV_nil (x3.drewN 1) g 3 1)
    have R3 := hid (show Rv (x3.drewN 1) (x3.drewN 1).heap.size A3 (cel N X.O) from HN.out ▸ S3.out.O)
    go_region_law (refine step_appV elt_int rfl (.tmp 62) (.tmp 66) rfl g _ 0 [] O3.out rfl _ A3 N c3 (cel N X.O) rfl (by rw [cel_len, Nat.mul_one]) R3.out (cel_one _ _) (by omega) (by omega) Z3.out ?_; intro v3 y3 hown hgr; rw [Nat.zero_add, List.nil_append] at hown; obtain ⟨XX, MM, LL⟩ := P3.out.moreO (keeps_alk X) Z3.out hown hgr (alk_grown hgr); obtain ⟨B2, e2, rfl, -, -, -⟩ := hown.read; have z0 := XX.cell 7; have z1 := XX.free 7; have MM2 := hid MM; have LL2 := hid ((below_draws B3'.out 1).trans LL); clear XX MM LL hown hgr)
    all_goals
      go_wp2_with fail
      go_meet
      exact ⟨_, _, MM2.out, LL2.out⟩
  case rest =>
  obtain ⟨a3, e3, h1, h2⟩ := hcut
  have P4' := hid h1
  have B4' := hid h2
  clear h1 h2 P3' B3'
  generalize wc = x4 at *
  go_upto_region 6 with fail
  go_cut [] from 70 to 81 (fun wx => ∃ A2 c2, Pf (Alk X) wx g g (.slice a0 sh.B e0) (.slice a1 sh.B e1) (.slice a2 N e2) (.slice a3 N e3) (.slice A2 N c2) sh.B sh.B N N N sh X ∧ Below g w wx)
  case first =>
    have P4 := hid (P4'.out.below (keeps_alk X) (below_draws (Below.refl _ _) 1))
    have S4 := hid (HS.out.below (show Below w.heap.size w (x4.drewN 1) by rw [HGG.out]; exact below_draws B4'.out 1))
    have k4 : x4.cell? ⟨kx, 8, none⟩ = some (.slice A4 N c4) := HN.out ▸ S4.out.bx.cell 8
    have d4 : x4.cell? ⟨g, 8, none⟩ = some (.slice none 0 0) := P4.out.bx.cell 8
    have Z4 := hid (show g ≤ (x4.drewN 1).heap.size from Nat.le_of_lt P4.out.bx.lt)
    have O4 := hid (ownV_nil (x4.drewN 1) g 3 1)
    have R4 := hid (show Rv (x4.drewN 1) (x4.drewN 1).heap.size A4 (cel N X.K) from HN.out ▸ S4.out.K)
    go_region_law (refine step_appV elt_int rfl (.tmp 74) (.tmp 78) rfl g _ 0 [] O4.out rfl _ A4 N c4 (cel N X.K) rfl (by rw [cel_len, Nat.mul_one]) R4.out (cel_one _ _) (by omega) (by omega) Z4.out ?_; intro v4 y4 hown hgr; rw [Nat.zero_add, List.nil_append] at hown; obtain ⟨XX, MM, LL⟩ := P4.out.moreK (keeps_alk X) Z4.out hown hgr (alk_grown hgr); obtain ⟨B2, e2, rfl, -, -, -⟩ := hown.read; have z0 := XX.cell 8; have z1 := XX.free 8; have MM2 := hid MM; have LL2 := hid ((below_draws B4'.out 1).trans LL); clear XX MM LL hown hgr)
    all_goals
      go_wp2_with fail
      go_meet
      exact ⟨_, _, MM2.out, LL2.out⟩
  case rest =>
  obtain ⟨a4, e4, h1, h2⟩ := hcut
  go_wp2
  go_ret
  unfold CpyP
  rw [HGG.out]
  exact ⟨_, _, _, _, _, rfl, (HN.out ▸ h1 : Pf (Alk X) _ g g _ _ _ _ _ sh.B sh.B (sh.S * sh.C) (sh.S * sh.C) (sh.S * sh.C) sh X).rfA, h2⟩
end Go.Proofs.Ytincndblpbdnlaa
namespace Go.Proofs.Ytincndblpbdnlaa
open Go.RowKit

/-- a reference's store that lies from block b0 on -/
def Hf (w : World) (b0 : Nat) (v : Value) (sh : Sh) (X : RS) : Prop := ∃ b kx r0 r1 r2 r3 r4, v = .pointer (some ⟨kx, 0, none⟩) ∧ b0 ≤ b ∧ Rf w b kx r0 r1 r2 r3 r4 sh X
/-- the disk is up, nothing is pending; or it is down, and Y, or nothing, is to come -/
def Stt (w : World) (b0 : Nat) (k7 : Value) (sh : Sh) (L : List (List Int)) (d : Bool) (X : RS) : Prop :=
  (d = false ∧ k7 = .pointer none ∧ Fine sh L X) ∨ (d = true ∧ ∃ Y, Hf w b0 k7 sh Y ∧ Pend sh L X Y)
section
variable {w w' : World} {b0 bb kd ks : Nat} {v k6 k7 k8 vv : Value} {sh : Sh} {X : RS} {L : List (List Int)} {d : Bool}
theorem Hf.below (h : Hf w b0 v sh X) (hb : Below w.heap.size w w') : Hf w' b0 v sh X := by
  obtain ⟨b, kx, r0, r1, r2, r3, r4, e, h1, h2⟩ := h
  exact ⟨b, kx, r0, r1, r2, r3, r4, e, h1, h2.below hb⟩
theorem Hf.only (h : Hf w b0 v sh X) (ho : Only w w' kd vv) (h1 : kd < b0) (h2 : ∀ g, vv.ownBlock = some g → g < b0) : Hf w' b0 v sh X := by
  obtain ⟨b, kx, r0, r1, r2, r3, r4, e, h3, h4⟩ := h
  exact ⟨b, kx, r0, r1, r2, r3, r4, e, h3, h4.only ho (Nat.lt_of_lt_of_le h1 h3) fun g e => Nat.lt_of_lt_of_le (h2 g e) h3⟩
theorem Stt.below (h : Stt w b0 k7 sh L d X) (hb : Below w.heap.size w w') : Stt w' b0 k7 sh L d X := by
  rcases h with h | ⟨h1, Y, h2, h3⟩
  · exact .inl h
  · exact .inr ⟨h1, Y, h2.below hb, h3⟩
theorem Stt.only (h : Stt w b0 k7 sh L d X) (ho : Only w w' kd vv) (h1 : kd < b0) (h2 : ∀ g, vv.ownBlock = some g → g < b0) : Stt w' b0 k7 sh L d X := by
  rcases h with h | ⟨h3, Y, h4, h5⟩
  · exact .inl h
  · exact .inr ⟨h3, Y, h4.only ho h1 h2, h5⟩
/-- what the loop keeps -/
def Live (w : World) (bb kd b0 : Nat) (vv : Value) (sh : Sh) (k6 k7 k8 : Value) : Prop :=
  ∃ L f d X ks, k8 = .pointer (some ⟨ks, 0, none⟩) ∧ Hf w b0 k6 sh X ∧ (∀ j, j < sh.B → X.V j ≤ 1000) ∧ Sx w bb kd ks vv ⟨L, f, d⟩ sh ∧ Stt w b0 k7 sh L d X
theorem Live.below (h : Live w bb kd b0 vv sh k6 k7 k8) (hb : Below w.heap.size w w') : Live w' bb kd b0 vv sh k6 k7 k8 := by
  obtain ⟨L, f, d, X, ks, e, h1, h2, h3, h4⟩ := h
  exact ⟨L, f, d, X, ks, e, h1.below hb, h2, h3.below hb, h4.below hb⟩
theorem Rf.hf {b kx : Nat} {r0 r1 r2 r3 r4 : Value} (h : Rf w b kx r0 r1 r2 r3 r4 sh X) (hb : b0 ≤ b) : Hf w b0 (.pointer (some ⟨kx, 0, none⟩)) sh X := ⟨b, kx, r0, r1, r2, r3, r4, rfl, hb, h⟩
theorem agr_v {Y : RS} (h : Agr sh L X) (h2 : Pend sh L X Y ∨ True) : ∀ j, j < sh.B → X.V j ≤ 1000 := fun j hj => by
  have _ := h2
  exact (h.le hj).1
/-- a newer write keeps versions small -/
theorem rwr_v {x : Wr} (h : ∀ j, j < sh.B → X.V j ≤ 1000) : ∀ j, j < sh.B → (rwr sh X x).1.V j ≤ 1000 := fun j hj => by
  unfold rwr
  split
  · split
    · exact h j hj
    · split
      · exact h j hj
      · unfold RS.put
        split
        · exact h j hj
        · rename_i hv
          show upd X.V x.k.toNat (X.V x.k.toNat + 1) j ≤ 1000
          unfold upd
          split
          · rename_i e
            have := h j hj
            rw [e] at this
            omega
          · exact h j hj
  · exact h j hj
/-- what a write comes to -/
theorem act0 (ok : sh.ok) (hL : sh.at_ sh.C 0 ≤ L.length) (x : Wr) (hy : Byt x.l) (f : Int) (h : Stt w b0 k7 sh L d X) :
    (d = false ∧ k7 = .pointer none ∧ ∃ L' f', dwr sh ⟨L, f, d⟩ x = (⟨L', f', false⟩, (rwr sh X x).2) ∧ Fine sh L' (rwr sh X x).1) ∨
    (d = false ∧ ∃ L' f', dwr sh ⟨L, f, d⟩ x = (⟨L', f', true⟩, 0, 8) ∧ Pend sh L' X (rwr sh X x).1) ∨
    (d = true ∧ (dwr sh ⟨L, f, d⟩ x).1 = ⟨L, f, true⟩) := by
  rcases h with ⟨rfl, h7, hf⟩ | ⟨rfl, Y, h2, h3⟩
  · rcases dwr_any ok hL hf.agr hf.no x hy f with ⟨L', f', a1, a2, a3, a4, _⟩ | ⟨_, L', f', a1, _, a3⟩
    · exact .inl ⟨rfl, h7, L', f', a1, ok, by rw [a2]; exact hL, a4, a3⟩
    · exact .inr (.inl ⟨rfl, L', f', a1, a3⟩)
  · exact .inr (.inr ⟨rfl, dwr_down ok L f x⟩)
/-- what opening comes to -/
theorem act2 (ok : sh.ok) (hL : sh.at_ sh.C 0 ≤ L.length) (h : Stt w b0 k7 sh L d X) :
    ∃ L', rdo sh ⟨L, -1, false⟩ (sec L 0) = (⟨L', -1, false⟩, 0) ∧
      ((k7 = .pointer none ∧ Fine sh L' X) ∨ (∃ Y, Hf w b0 k7 sh Y ∧
        ((Fine sh L' X ∧ alike sh X Y = false) ∨ (Fine sh L' X ∧ alike sh X Y = true ∧ alikeS sh X Y = false) ∨ (Fine sh L' Y ∧ alike sh Y X = false)))) := by
  rcases h with ⟨_, h7, hf⟩ | ⟨_, Y, h2, L', a1, a2, a3, a4⟩
  · exact ⟨L, hf.rdo _ _, .inl ⟨h7, hf⟩⟩
  · refine ⟨L', a1, .inr ⟨Y, h2, ?_⟩⟩
    have fine : ∀ Z, Agr sh L' Z → Fine sh L' Z := fun Z hz => ⟨ok, by rw [a2]; exact hL, hz, a3⟩
    rcases a4 with ⟨a5, ⟨k, hk, hne⟩ | ⟨hall, i, hi, hne⟩⟩ | ⟨a5, k, hk, hne⟩
    · refine .inl ⟨fine X a5, ?_⟩
      simp only [alike, decide_eq_false_iff_not]
      exact fun h => hne (h k hk).1.symm
    · refine .inr (.inl ⟨fine X a5, ?_, ?_⟩)
      · simp only [alike, decide_eq_true_eq]
        exact fun k hk => ⟨(hall k hk).1.symm, (hall k hk).2.symm⟩
      · simp only [alikeS, decide_eq_false_iff_not]
        intro h
        rcases hne with e | e
        · exact e (h i hi).1.symm
        · exact e (h i hi).2.1.symm
    · refine .inr (.inr ⟨fine Y a5, ?_⟩)
      simp only [alike, decide_eq_false_iff_not]
      exact fun h => hne (h k hk).1
theorem alikeS_self (sh : Sh) (X : RS) : alikeS sh X X = true := by simp [alikeS]
/-- a disk, opened, whatever its journal tells -/
theorem reopen {B Z C S : Nat} (hsh : sh = ⟨B, Z, C, S⟩) (h : Sx w bb kd ks vv ⟨L, -1, false⟩ sh) {L' : List (List Int)} (hr : rdo sh ⟨L, -1, false⟩ (sec L 0) = (⟨L', -1, false⟩, 0)) :
    Calls Try.prog 14 #[.pointer (some ⟨kd, 0, none⟩), .agg #[.int .i64 B, .int .i64 Z, .int .i64 C, .int .i64 S]] w fun e w' =>
      ∃ k2, e = .returned (.tuple #[.pointer (some ⟨k2, 0, none⟩), .int .i64 0]) ∧ Sx w' bb kd k2 vv ⟨L', -1, false⟩ sh ∧ Only w w' kd vv := by
  subst hsh
  have hl : 0 < L.length := by
    have h1 := h.len
    rw [top_eq] at h1
    show 0 < (St.mk L (-1) false).L.length
    omega
  have := open_ok B Z C S h.dk h.ok h.len h.by_ _ (sec_some hl) (by show (rdo _ ⟨L, -1, false⟩ (sec L 0)).2 = 0; rw [hr])
  rw [hr] at this
  exact this.mono fun e w' ⟨k2, h1, h2, h3, _⟩ => ⟨k2, h1, h2, h3⟩
/-- the store's struct stays while its disk is worked on -/
theorem Sx.dsk {st st' : St} (h : Sx w bb kd ks vv st sh) (hk : Dk w' 67 bb kd vv st') (ho : Only w w' kd vv) (hL : st'.L = st.L) : Sx w' bb kd ks vv st' sh :=
  ⟨hk, h.bx.dsk h.dk ho (by decide) (by decide), h.ok, by rw [hL]; exact h.len, by rw [hL]; exact h.by_⟩
theorem fuse_L (st : St) (n : Int) : (st.fuse n).L = st.L ∧ (st.fuse n).d = st.d := by
  unfold St.fuse
  split <;> exact ⟨rfl, rfl⟩
end
end Go.Proofs.Ytincndblpbdnlaa
namespace Go.Proofs.Ytincndblpbdnlaa
open Go.RowKit

set_option maxRecDepth 100000 in
set_option maxHeartbeats 3200000 in
theorem crash_walk (B Z C S : Int) (A : Option Addr) (n cap : Nat) (f : Nat → Ac) (w : World) (hn : n ≤ maxLen) (h : Acts w A n f) :
    Calls Try.prog 4 #[.agg #[.int .i64 B, .int .i64 Z, .int .i64 C, .int .i64 S], .slice A n cap] w fun e w' => e = .returned (.bool true) ∧ Below w.heap.size w w' := by
  obtain ⟨W0, hW0, BX0, HB0, -⟩ := below_new w 23 #[.int .i64 B, .int .i64 Z, .int .i64 C, .int .i64 S]
  have HW := hid hW0
  have HS0 := hid BX0
  have B0 := hid HB0
  have HA0 := hid (h.below HB0)
  have HNN := hid hn
  have HA := hid h
  clear hW0 BX0 HB0 h
  go_enter Try.func4, Try.ntmps4
  go_wp2_with fail
  rw [HW.out]
  refine (wakes_any _).mono ?_
  rintro e w1 ⟨rfl, hb⟩
  have B1 := hid (on B0.out hb)
  have HA1 := hid (HA0.out.below hb)
  have HS1 := hid (HS0.out.next hb)
  clear hb B0 HA0 HS0 HW
  go_wp2_with fail
  refine (long_any A n cap f _ HNN.out HA1.out).mono ?_
  rintro e w' ⟨b, rfl, rfl, hb⟩
  cases b
  case true =>
    clear hb
    go_wp2
    go_ret
    exact ⟨rfl, B1.out⟩
  obtain ⟨hn60, hl⟩ := hb rfl
  have HL := hid hl
  clear hb hl
  go_wp2_with (refine wpList_load_bxg (by rfl) 23 (.tmp 2) rfl _ _ _ _ rfl HS1.out Try.underlying23 rfl (by kernel_rfl) ?_)
  refine (lawright_any B Z C S _).mono ?_
  rintro e W ⟨rfl, hb⟩
  have HA2 := hid (HA1.out.below hb)
  have HS2 := hid (HS1.out.next hb)
  have B2 := hid (on B1.out hb)
  clear hb HA1 HS1 B1
  by_cases hr : RightI B Z C S
  case neg =>
    rw [dec_false hr]
    clear hr
    go_wp2
    go_ret
    exact ⟨rfl, B2.out⟩
  rw [dec_true hr]
  obtain ⟨⟨b1, b2⟩, ⟨z1, z2⟩, ⟨c1, c2⟩, s1, s2⟩ := hr
  obtain ⟨B, rfl⟩ := Int.eq_ofNat_of_zero_le (show 0 ≤ B by omega)
  obtain ⟨Z, rfl⟩ := Int.eq_ofNat_of_zero_le (show 0 ≤ Z by omega)
  obtain ⟨C, rfl⟩ := Int.eq_ofNat_of_zero_le (show 0 ≤ C by omega)
  obtain ⟨S, rfl⟩ := Int.eq_ofNat_of_zero_le (show 0 ≤ S by omega)
  have OK := hid (show (Sh.mk B Z C S).ok from ⟨⟨by show 1 ≤ B; omega, by show B ≤ 32; omega⟩, ⟨by show 1 ≤ Z; omega, by show Z ≤ 16; omega⟩, ⟨by show 1 ≤ C; omega, by show C ≤ 4; omega⟩, by show 1 ≤ S; omega, by show S ≤ 4; omega⟩)
  clear b1 b2 z1 z2 c1 c2 s1 s2
  go_wp2_with fail
  refine (new_any 64 _).mono ?_
  rintro e y1 ⟨kd, vv, rfl, hk, hb1⟩
  have K1 := hid (show Dk y1 67 W.heap.size kd vv ⟨List.replicate 64 [], -1, false⟩ from hk)
  have S1 := hid (HS2.out.next hb1)
  have LB := hid (Nat.le_of_lt HS2.out.lt)
  have L0 := hid hb1.size
  have B3 := hid (on B2.out hb1)
  have e0 : y1.cell? ⟨w.heap.size, 0, none⟩ = some (.int .i64 (B : Nat)) := S1.out.cell 0
  have e1 : y1.cell? ⟨w.heap.size, 1, none⟩ = some (.int .i64 (Z : Nat)) := S1.out.cell 1
  have e2 : y1.cell? ⟨w.heap.size, 2, none⟩ = some (.int .i64 (C : Nat)) := S1.out.cell 2
  have e3 : y1.cell? ⟨w.heap.size, 3, none⟩ = some (.int .i64 (S : Nat)) := S1.out.cell 3
  clear hk hb1 HS2 B2 HA2
  go_wp2_with fail
  refine (refnew_any ⟨B, Z, C, S⟩ OK.out y1).mono ?_
  rintro e y2 ⟨r0, r1, r2, r3, r4, rfl, hr, hb2⟩
  have K2 := hid (K1.out.below hb2)
  have S2 := hid (S1.out.next hb2)
  have B4 := hid (on B3.out hb2)
  have LK := hid (K1.out.lt (.inl rfl))
  have LV := hid (fun g e => K1.out.lt (j := g) (.inr e))
  have R2 := hid hr
  have LW := hid (show W.heap.size ≤ y2.heap.size from Nat.le_trans L0.out hb2.size)
  have LY := hid (show w.heap.size ≤ y1.heap.size from B3.out.size)
  clear hr hb2 K1 S1 B3 e0 e1 e2 e3
  generalize y1.heap.size = b0 at *
  go_wp2_with (refine wpList_load_bx rfl 23 (.tmp 2) rfl _ _ _ _ rfl S2.out Try.underlying23 rfl (by kernel_rfl) ?_)
  refine (open_new B Z C S OK.out K2.out).mono ?_
  rintro e y3 ⟨ks, rfl, hx, ho, -⟩
  have X3 := hid hx
  have S3 := hid (S2.out.dsk K2.out ho (by decide) (by decide))
  have B5 := hid (B4.out.trans ((K2.out.onlyBel ho LW.out).mono LB.out))
  have R3 := hid (R2.out.only ho LK.out LV.out)
  have F3 := hid (fine_new OK.out)
  have BY := hid (show b0 ≤ y2.heap.size from Nat.le_of_lt (Nat.lt_of_le_of_lt R2.out.low R2.out.bx.lt))
  generalize hbb : W.heap.size = bb at *
  obtain ⟨sh, hsh⟩ : ∃ sh : Sh, sh = ⟨B, Z, C, S⟩ := ⟨_, rfl⟩
  have HSH := hid hsh
  have OKS := hid (hsh ▸ OK.out : sh.ok)
  rw [show (RS.zero Z) = RS.zero (Sh.mk B Z C S).Z from rfl, ← hsh] at R3
  rw [← hsh] at X3 F3
  have V3 := hid (show Live y3 bb kd b0 vv sh (.pointer (some ⟨b0, 0, none⟩)) (.pointer none) (.pointer (some ⟨ks, 0, none⟩)) from ⟨_, _, _, _, ks, rfl, R3.out.hf (Nat.le_refl _), fun _ _ => Nat.zero_le _, X3.out, .inl ⟨rfl, rfl, F3.out⟩⟩)
  clear hx ho K2 S2 B4 R2 hsh L0 hbb LW OK R3 X3 F3 BY
  go_wp2_with fail
  go_loopg [6, 7, 8, 47] n (fun gk k6 k7 k8 t wr => ∃ p : Nat, p + gk = n ∧ t = .int .i64 p ∧ Hid (Live wr bb kd b0 vv sh k6 k7 k8) ∧ Hid (Bx wr w.heap.size 23 #[.int .i64 B, .int .i64 Z, .int .i64 C, .int .i64 S]) ∧ Hid (Below w.heap.size w wr) ∧ Hid (b0 ≤ wr.heap.size))
  case atStart => exact ⟨0, by omega, rfl, V3, S3, B5, hid (by obtain ⟨_, _, _, _, _, _, ⟨b, k, _, _, _, _, _, _, h1, h2⟩, _⟩ := V3.out; exact Nat.le_trans h1 (Nat.le_of_lt (Nat.lt_of_le_of_lt h2.low h2.bx.lt)))⟩
  case round =>
    obtain ⟨p, hp, rfl, HV, HS, HB, HZ⟩ := hrel
    clear V3 S3 B5
    by_cases hlt : p < n
    · obtain ⟨ad, rfl, hat⟩ := (HA.out.below HB.out) p hlt
      obtain ⟨⟨ki, ni, x⟩, hy⟩ : ∃ y, f p = y := ⟨_, rfl⟩
      rw [hy] at hat
      obtain ⟨-, hc, hg, hwn⟩ := hat
      dsimp only at hc hg hwn
      have HAT := hid (show At wr (ad.add (p * 8)) [.int .i64 ki, .int .i64 ni, .int .i64 x.c, .int .i64 x.s, .int .i64 x.b, .int .i64 x.o, .int .i64 x.k, .slice x.A x.l.length x.cap] from hc)
      have HWN := hid hwn
      obtain ⟨W1, hW1, BX1, HB1, -⟩ := below_new wr 40 #[.int .i64 ki, .int .i64 ni, .int .i64 x.c, .int .i64 x.s, .int .i64 x.b, .int .i64 x.o, .int .i64 x.k, .slice x.A x.l.length x.cap]
      have HW1 := hid hW1
      have E1 := hid BX1
      have G1 := hid (hg.below HB1)
      have S1 := hid (HS.out.next HB1)
      have B1 := hid (on HB.out HB1)
      have Z1 := hid (show b0 ≤ W1.heap.size from Nat.le_trans HZ.out HB1.size)
      have LV1 := hid (HV.out.below HB1)
      obtain ⟨L, fu, d, X, ks, rfl, hx6, hle, hx, hst⟩ := HV.out.below HB1
      obtain ⟨bx, kx, r0, r1, r2, r3, r4, rfl, hbx, hr⟩ := hx6
      have X1 := hid hx
      have R1 := hid hr
      have HLE := hid hle
      have T1 := hid hst
      have HBX := hid hbx
      have q0 : W1.cell? ⟨wr.heap.size, 0, none⟩ = some (.int .i64 ki) := BX1.cell 0
      clear hW1 BX1 HB1 hc hg hwn hy HV HB HS HZ hx hr hle hst hbx
      go_upto_region 14 with (refine wpList_load_at rfl 40 (.tmp 49) rfl _ rfl [.int .i64 ki, .int .i64 ni, .int .i64 x.c, .int .i64 x.s, .int .i64 x.b, .int .i64 x.o, .int .i64 x.k, .slice x.A x.l.length x.cap] _ HAT.out Try.underlying40 rfl (by kernel_rfl) ?_)
      rw [HW1.out]
      clear HAT HW1
      by_cases h0 : ki = 0
      · subst h0
        clear LV1 HWN
        go_wp2_with fail
        refine (sdown_any X1.out).mono ?_
        rintro e w1 ⟨rfl, rfl⟩
        clear q0
        go_wp2_with (refine wpList_load_mid rfl 38 (.tmp 59) rfl _ 2 rfl [.int .i64 x.c, .int .i64 x.s, .int .i64 x.b, .int .i64 x.o, .int .i64 x.k, .slice x.A x.l.length x.cap] _ (E1.out.range 2 _ range6) Try.underlying38 rfl (by kernel_rfl) ?_)
        refine (stw_any X1.out x G1.out.by_ G1.out.r).mono ?_
        obtain ⟨D, hD⟩ : ∃ D, dwr sh ⟨L, fu, d⟩ x = D := ⟨_, rfl⟩
        have HD := hid hD
        rw [hD]
        obtain ⟨st, c1, e1⟩ := D
        dsimp only
        rintro e w2 ⟨rfl, hx, ho⟩
        have X2 := hid hx
        have B2 := hid (B1.out.trans ((X1.out.dk.onlyBel ho (Nat.le_trans X1.out.dk.low (Nat.le_of_lt X1.out.dk.box.lt))).mono LB.out))
        have E2 := hid (E1.out.dsk X1.out.dk ho (by decide) (by decide))
        have S2 := hid (S1.out.dsk X1.out.dk ho (by decide) (by decide))
        have G2 := hid (G1.out.only ho)
        have R2 := hid (R1.out.only ho (Nat.lt_of_lt_of_le LK.out HBX.out) fun g e => Nat.lt_of_lt_of_le (LV.out g e) HBX.out)
        have T2 := hid (T1.out.only ho LK.out LV.out)
        have A0 := act0 OKS.out X1.out.len x G1.out.by_ fu T1.out
        rw [hD] at A0
        have A1 := hid A0
        have Z2 := hid (Nat.le_trans Z1.out ho.size)
        clear hx ho hD X1 B1 E1 S1 G1 R1 T1 Z1 A0
        go_wp2_with fail
        refine (copy_any R2.out OKS.out).mono ?_
        rintro e w3 ⟨s0, s1, s2, s3, s4, rfl, hn3, hb⟩
        have N3 := hid hn3
        have HB3 := hid hb
        have E3 := hid (E2.out.next hb)
        have G3 := hid (G2.out.below hb)
        clear hn3 hb E2 G2
        go_wp2_with (refine wpList_load_mid rfl 38 (.tmp 68) rfl _ 2 rfl [.int .i64 x.c, .int .i64 x.s, .int .i64 x.b, .int .i64 x.o, .int .i64 x.k, .slice x.A x.l.length x.cap] _ (E3.out.range 2 _ range6) Try.underlying38 rfl (by kernel_rfl) ?_)
        refine (rwrite_any N3.out OKS.out x G3.out HLE.out).mono ?_
        obtain ⟨R, hR⟩ : ∃ R, rwr sh X x = R := ⟨_, rfl⟩
        have hre := rwr_e sh X x
        have hrv := rwr_v (x := x) HLE.out
        have A0 := A1.out
        rw [hR] at hre hrv A0 ⊢
        obtain ⟨X', c2, e2⟩ := R
        dsimp only at hre hrv A0 ⊢
        have HRV := hid hrv
        rintro e w4 ⟨rfl, hn4, ht⟩
        have BB := HB3.out.trans (ht.below HB3.out.size)
        have N4 := hid (hn4.hf Z2.out)
        have X4 := hid (X2.out.below BB)
        have S4 := hid (S2.out.next BB)
        have B4 := hid (on B2.out BB)
        have R4 := hid ((R2.out.below BB).hf HBX.out)
        have T4 := hid (T2.out.below BB)
        have Z4 := hid (Nat.le_trans Z2.out BB.size)
        clear hn4 ht BB N3 HB3 E3 G3 X2 S2 B2 R2 T2 Z2 A1 hR hrv HD
        rcases A0 with ⟨rfl, h7, L', f', heq, hfine⟩ | ⟨rfl, L', f', heq, hpend⟩ | ⟨rfl, hst⟩
        · skip
          injection heq with q1 q2
          injection q2 with q2 q3
          subst q1 q2 q3
          have H7 := hid h7
          have HF := hid hfine
          have z0 : (e1 == 8) = false := by simpa using hre
          have z1 : (e1 != e1) = false := by simp
          have z2 : (c1 != c1) = false := by simp
          clear h7 hfine hre
          go_wp2
          go_roundg (gk - 1)
          case measure => omega
          case rel => exact ⟨p + 1, by omega, by go_num, hid ⟨L', f', false, X', ks, rfl, N4.out, HRV.out, X4.out, .inl ⟨rfl, H7.out, HF.out⟩⟩, S4, B4, Z4⟩
        · skip
          injection heq with q1 q2
          injection q2 with q2 q3
          subst q1 q2 q3
          have HP := hid hpend
          clear hpend hre
          go_wp2
          go_roundg (gk - 1)
          case measure => omega
          case rel => exact ⟨p + 1, by omega, by go_num, hid ⟨L', f', true, X, ks, rfl, R4.out, HLE.out, X4.out, .inr ⟨rfl, X', N4.out, HP.out⟩⟩, S4, B4, Z4⟩
        · subst hst
          clear hre
          by_cases h8 : e1 = 8
          · subst h8
            go_wp2
            go_roundg (gk - 1)
            case measure => omega
            case rel => exact ⟨p + 1, by omega, by go_num, hid ⟨L, fu, true, X, ks, rfl, R4.out, HLE.out, X4.out, T4.out⟩, S4, B4, Z4⟩
          · have z0 : (e1 == 8) = false := by simpa using h8
            clear h8
            go_wp2
            go_roundg (gk - 1)
            case measure => omega
            case rel => exact ⟨p + 1, by omega, by go_num, hid ⟨L, fu, true, X, ks, rfl, R4.out, HLE.out, X4.out, T4.out⟩, S4, B4, Z4⟩
      have z0 : (ki == 0) = false := by simpa using h0
      clear h0
      by_cases h1 : ki = 1
      · subst h1
        have q1 : W1.cell? ⟨wr.heap.size, 1, none⟩ = some (.int .i64 ni) := E1.out.cell 1
        clear LV1
        go_wp2_with fail
        refine (fuse_any X1.out.dk ni HWN.out).mono ?_
        rintro e w2 ⟨rfl, hk, ho⟩
        have X2 := hid (X1.out.dsk hk ho (fuse_L _ _).1)
        have B2 := hid (B1.out.trans ((X1.out.dk.onlyBel ho (Nat.le_trans X1.out.dk.low (Nat.le_of_lt X1.out.dk.box.lt))).mono LB.out))
        have S2 := hid (S1.out.dsk X1.out.dk ho (by decide) (by decide))
        have R2 := hid ((R1.out.only ho (Nat.lt_of_lt_of_le LK.out HBX.out) fun g e => Nat.lt_of_lt_of_le (LV.out g e) HBX.out).hf HBX.out)
        have T2 := hid (T1.out.only ho LK.out LV.out)
        have Z2 := hid (Nat.le_trans Z1.out ho.size)
        obtain ⟨st, hst⟩ : ∃ st, St.fuse ⟨L, fu, d⟩ ni = st := ⟨_, rfl⟩
        have hs := fuse_L ⟨L, fu, d⟩ ni
        rw [hst] at X2 hs
        obtain ⟨L2, f2, d2⟩ := st
        obtain ⟨hs1, hs2⟩ := hs
        dsimp only at hs1 hs2
        subst hs1 hs2
        clear hk ho hst X1 B1 S1 R1 T1 Z1 E1 G1
        go_wp2
        go_roundg (gk - 1)
        case measure => omega
        case rel => exact ⟨p + 1, by omega, by go_num, hid ⟨_, _, _, X, ks, rfl, R2.out, HLE.out, X2.out, T2.out⟩, S2, B2, Z2⟩
      have z1 : (ki == 1) = false := by simpa using h1
      clear h1
      by_cases h2 : ki = 2
      · subst h2
        clear LV1 HWN
        go_wp2_with fail
        refine (up_any X1.out.dk).mono ?_
        rintro e w2 ⟨rfl, hk, ho⟩
        have X2 := hid (X1.out.dsk (st' := ⟨L, -1, false⟩) hk ho rfl)
        have B2 := hid (B1.out.trans ((X1.out.dk.onlyBel ho (Nat.le_trans X1.out.dk.low (Nat.le_of_lt X1.out.dk.box.lt))).mono LB.out))
        have S2 := hid (S1.out.dsk X1.out.dk ho (by decide) (by decide))
        have R2 := hid (R1.out.only ho (Nat.lt_of_lt_of_le LK.out HBX.out) fun g e => Nat.lt_of_lt_of_le (LV.out g e) HBX.out)
        have T2 := hid (T1.out.only ho LK.out LV.out)
        have Z2 := hid (Nat.le_trans Z1.out ho.size)
        clear hk ho X1 B1 S1 R1 T1 Z1 E1 G1 q0
        obtain ⟨L', hro, hcs⟩ := act2 OKS.out X2.out.len T2.out
        have HRO := hid hro
        go_wp2_with (refine wpList_load_bx rfl 23 (.tmp 2) rfl _ _ _ _ rfl S2.out Try.underlying23 rfl (by kernel_rfl) ?_)
        refine (reopen HSH.out X2.out HRO.out).mono ?_
        rintro e w3 ⟨k2, rfl, hx, ho⟩
        have X3 := hid hx
        have B3 := hid (B2.out.trans ((X2.out.dk.onlyBel ho (Nat.le_trans X2.out.dk.low (Nat.le_of_lt X2.out.dk.box.lt))).mono LB.out))
        have S3 := hid (S2.out.dsk X2.out.dk ho (by decide) (by decide))
        have R3 := hid (R2.out.only ho (Nat.lt_of_lt_of_le LK.out HBX.out) fun g e => Nat.lt_of_lt_of_le (LV.out g e) HBX.out)
        have Z3 := hid (Nat.le_trans Z2.out ho.size)
        have HO := hid ho
        clear hx ho hro X2 B2 S2 R2 T2 Z2 HRO
        rcases hcs with ⟨rfl, hf⟩ | ⟨Y, hy, hcs⟩
        · skip
          have FF := hid hf
          clear hf HO
          go_wp2_with fail
          refine (lsame_any X3.out FF.out R3.out).mono ?_
          rw [alike_self]
          rintro e wa ⟨rfl, hb⟩
          have X4 := hid (X3.out.below hb)
          have B4 := hid (on B3.out hb)
          have S4 := hid (S3.out.next hb)
          have R4 := hid (R3.out.below hb)
          have Z4 := hid (Nat.le_trans Z3.out hb.size)
          clear hb X3 B3 S3 Z3
          go_wp2_with (refine wpList_load_bxg (by rfl) 23 (.tmp 2) rfl _ _ _ _ rfl S4.out Try.underlying23 rfl (by kernel_rfl) ?_)
          refine (slots_any HSH.out X4.out OKS.out X4.out.len FF.out.agr R4.out).mono ?_
          rw [alikeS_self]
          rintro e wb ⟨rfl, hb⟩
          have X5 := hid (X4.out.below hb)
          have B5 := hid (on B4.out hb)
          have S5 := hid (S4.out.next hb)
          have R5 := hid ((R4.out.below hb).hf HBX.out)
          have Z5 := hid (Nat.le_trans Z4.out hb.size)
          have VV := hid (show ∀ j, j < sh.B → (X).V j ≤ 1000 from fun j hj => (FF.out.agr.le hj).1)
          clear hb X4 B4 S4 R4 Z4
          go_wp2
          go_roundg (gk - 1)
          case measure => omega
          case rel => exact ⟨p + 1, by omega, by go_num, hid ⟨L', -1, false, X, k2, rfl, R5.out, VV.out, X5.out, .inl ⟨rfl, rfl, FF.out⟩⟩, S5, B5, Z5⟩
        · obtain ⟨by_, ky, t0, t1, t2, t3, t4, rfl, hby, hry⟩ := hy.only HO.out LK.out LV.out
          have Y3 := hid hry
          have HBY := hid hby
          clear hry hby hy HO
          rcases hcs with ⟨hf, ha⟩ | ⟨hf, ha, hs⟩ | ⟨hf, ha⟩
          · skip
            have FF := hid hf
            have HA2 := hid ha
            clear hf ha
            go_wp2_with fail
            refine (lsame_any X3.out FF.out Y3.out).mono ?_
            rw [HA2.out]
            rintro e wk1 ⟨rfl, hb⟩
            have X3 := hid (X3.out.below hb)
            have B3 := hid (on B3.out hb)
            have S3 := hid (S3.out.next hb)
            have R3 := hid (R3.out.below hb)
            have Y3 := hid (Y3.out.below hb)
            have Z3 := hid (Nat.le_trans Z3.out hb.size)
            clear hb
            go_wp2_with fail
            refine (lsame_any X3.out FF.out Y3.out).mono ?_
            rw [HA2.out]
            rintro e wk2 ⟨rfl, hb⟩
            have X3 := hid (X3.out.below hb)
            have B3 := hid (on B3.out hb)
            have S3 := hid (S3.out.next hb)
            have R3 := hid (R3.out.below hb)
            have Y3 := hid (Y3.out.below hb)
            have Z3 := hid (Nat.le_trans Z3.out hb.size)
            clear hb
            clear Y3

            go_wp2_with fail
            refine (lsame_any X3.out FF.out R3.out).mono ?_
            rw [alike_self]
            rintro e wa ⟨rfl, hb⟩
            have X4 := hid (X3.out.below hb)
            have B4 := hid (on B3.out hb)
            have S4 := hid (S3.out.next hb)
            have R4 := hid (R3.out.below hb)
            have Z4 := hid (Nat.le_trans Z3.out hb.size)
            clear hb X3 B3 S3 Z3
            go_wp2_with (refine wpList_load_bxg (by rfl) 23 (.tmp 2) rfl _ _ _ _ rfl S4.out Try.underlying23 rfl (by kernel_rfl) ?_)
            refine (slots_any HSH.out X4.out OKS.out X4.out.len FF.out.agr R4.out).mono ?_
            rw [alikeS_self]
            rintro e wb ⟨rfl, hb⟩
            have X5 := hid (X4.out.below hb)
            have B5 := hid (on B4.out hb)
            have S5 := hid (S4.out.next hb)
            have R5 := hid ((R4.out.below hb).hf HBX.out)
            have Z5 := hid (Nat.le_trans Z4.out hb.size)
            have VV := hid (show ∀ j, j < sh.B → (X).V j ≤ 1000 from fun j hj => (FF.out.agr.le hj).1)
            clear hb X4 B4 S4 R4 Z4
            go_wp2
            go_roundg (gk - 1)
            case measure => omega
            case rel => exact ⟨p + 1, by omega, by go_num, hid ⟨L', -1, false, X, k2, rfl, R5.out, VV.out, X5.out, .inl ⟨rfl, rfl, FF.out⟩⟩, S5, B5, Z5⟩
          · skip
            have FF := hid hf
            have HA2 := hid ha
            have HA3 := hid hs
            clear hf ha hs
            go_wp2_with fail
            refine (lsame_any X3.out FF.out Y3.out).mono ?_
            rw [HA2.out]
            rintro e wk1 ⟨rfl, hb⟩
            have X3 := hid (X3.out.below hb)
            have B3 := hid (on B3.out hb)
            have S3 := hid (S3.out.next hb)
            have R3 := hid (R3.out.below hb)
            have Y3 := hid (Y3.out.below hb)
            have Z3 := hid (Nat.le_trans Z3.out hb.size)
            clear hb
            go_wp2_with fail
            refine (lsame_any X3.out FF.out R3.out).mono ?_
            rw [alike_self]
            rintro e wk2 ⟨rfl, hb⟩
            have X3 := hid (X3.out.below hb)
            have B3 := hid (on B3.out hb)
            have S3 := hid (S3.out.next hb)
            have R3 := hid (R3.out.below hb)
            have Y3 := hid (Y3.out.below hb)
            have Z3 := hid (Nat.le_trans Z3.out hb.size)
            clear hb
            go_wp2_with fail
            refine (lsame_any X3.out FF.out Y3.out).mono ?_
            rw [HA2.out]
            rintro e wk3 ⟨rfl, hb⟩
            have X3 := hid (X3.out.below hb)
            have B3 := hid (on B3.out hb)
            have S3 := hid (S3.out.next hb)
            have R3 := hid (R3.out.below hb)
            have Y3 := hid (Y3.out.below hb)
            have Z3 := hid (Nat.le_trans Z3.out hb.size)
            clear hb
            go_wp2_with fail
            refine (lsame_any X3.out FF.out R3.out).mono ?_
            rw [alike_self]
            rintro e wk4 ⟨rfl, hb⟩
            have X3 := hid (X3.out.below hb)
            have B3 := hid (on B3.out hb)
            have S3 := hid (S3.out.next hb)
            have R3 := hid (R3.out.below hb)
            have Y3 := hid (Y3.out.below hb)
            have Z3 := hid (Nat.le_trans Z3.out hb.size)
            clear hb
            go_wp2_with (refine wpList_load_bxg (by rfl) 23 (.tmp 2) rfl _ _ _ _ rfl S3.out Try.underlying23 rfl (by kernel_rfl) ?_)
            refine (slots_any HSH.out X3.out OKS.out X3.out.len FF.out.agr Y3.out).mono ?_
            rw [HA3.out]
            rintro e wk5 ⟨rfl, hb⟩
            have X3 := hid (X3.out.below hb)
            have B3 := hid (on B3.out hb)
            have S3 := hid (S3.out.next hb)
            have R3 := hid (R3.out.below hb)
            have Y3 := hid (Y3.out.below hb)
            have Z3 := hid (Nat.le_trans Z3.out hb.size)
            clear hb
            clear Y3

            go_wp2_with fail
            refine (lsame_any X3.out FF.out R3.out).mono ?_
            rw [alike_self]
            rintro e wa ⟨rfl, hb⟩
            have X4 := hid (X3.out.below hb)
            have B4 := hid (on B3.out hb)
            have S4 := hid (S3.out.next hb)
            have R4 := hid (R3.out.below hb)
            have Z4 := hid (Nat.le_trans Z3.out hb.size)
            clear hb X3 B3 S3 Z3
            go_wp2_with (refine wpList_load_bxg (by rfl) 23 (.tmp 2) rfl _ _ _ _ rfl S4.out Try.underlying23 rfl (by kernel_rfl) ?_)
            refine (slots_any HSH.out X4.out OKS.out X4.out.len FF.out.agr R4.out).mono ?_
            rw [alikeS_self]
            rintro e wb ⟨rfl, hb⟩
            have X5 := hid (X4.out.below hb)
            have B5 := hid (on B4.out hb)
            have S5 := hid (S4.out.next hb)
            have R5 := hid ((R4.out.below hb).hf HBX.out)
            have Z5 := hid (Nat.le_trans Z4.out hb.size)
            have VV := hid (show ∀ j, j < sh.B → (X).V j ≤ 1000 from fun j hj => (FF.out.agr.le hj).1)
            clear hb X4 B4 S4 R4 Z4
            go_wp2
            go_roundg (gk - 1)
            case measure => omega
            case rel => exact ⟨p + 1, by omega, by go_num, hid ⟨L', -1, false, X, k2, rfl, R5.out, VV.out, X5.out, .inl ⟨rfl, rfl, FF.out⟩⟩, S5, B5, Z5⟩
          · skip
            have FF := hid hf
            have HA2 := hid ha
            clear hf ha
            go_wp2_with fail
            refine (lsame_any X3.out FF.out Y3.out).mono ?_
            rw [alike_self]
            rintro e wk1 ⟨rfl, hb⟩
            have X3 := hid (X3.out.below hb)
            have B3 := hid (on B3.out hb)
            have S3 := hid (S3.out.next hb)
            have R3 := hid (R3.out.below hb)
            have Y3 := hid (Y3.out.below hb)
            have Z3 := hid (Nat.le_trans Z3.out hb.size)
            clear hb
            go_wp2_with fail
            refine (lsame_any X3.out FF.out R3.out).mono ?_
            rw [HA2.out]
            rintro e wk2 ⟨rfl, hb⟩
            have X3 := hid (X3.out.below hb)
            have B3 := hid (on B3.out hb)
            have S3 := hid (S3.out.next hb)
            have R3 := hid (R3.out.below hb)
            have Y3 := hid (Y3.out.below hb)
            have Z3 := hid (Nat.le_trans Z3.out hb.size)
            clear hb
            go_wp2_with fail
            refine (lsame_any X3.out FF.out Y3.out).mono ?_
            rw [alike_self]
            rintro e wk3 ⟨rfl, hb⟩
            have X3 := hid (X3.out.below hb)
            have B3 := hid (on B3.out hb)
            have S3 := hid (S3.out.next hb)
            have R3 := hid (R3.out.below hb)
            have Y3 := hid (Y3.out.below hb)
            have Z3 := hid (Nat.le_trans Z3.out hb.size)
            clear hb
            go_wp2_with fail
            refine (lsame_any X3.out FF.out Y3.out).mono ?_
            rw [alike_self]
            rintro e wk4 ⟨rfl, hb⟩
            have X3 := hid (X3.out.below hb)
            have B3 := hid (on B3.out hb)
            have S3 := hid (S3.out.next hb)
            have R3 := hid (R3.out.below hb)
            have Y3 := hid (Y3.out.below hb)
            have Z3 := hid (Nat.le_trans Z3.out hb.size)
            clear hb
            go_wp2_with (refine wpList_load_bxg (by rfl) 23 (.tmp 2) rfl _ _ _ _ rfl S3.out Try.underlying23 rfl (by kernel_rfl) ?_)
            refine (slots_any HSH.out X3.out OKS.out X3.out.len FF.out.agr Y3.out).mono ?_
            rw [alikeS_self]
            rintro e wk5 ⟨rfl, hb⟩
            have X3 := hid (X3.out.below hb)
            have B3 := hid (on B3.out hb)
            have S3 := hid (S3.out.next hb)
            have R3 := hid (R3.out.below hb)
            have Y3 := hid (Y3.out.below hb)
            have Z3 := hid (Nat.le_trans Z3.out hb.size)
            clear hb
            clear R3

            go_wp2_with fail
            refine (lsame_any X3.out FF.out Y3.out).mono ?_
            rw [alike_self]
            rintro e wa ⟨rfl, hb⟩
            have X4 := hid (X3.out.below hb)
            have B4 := hid (on B3.out hb)
            have S4 := hid (S3.out.next hb)
            have R4 := hid (Y3.out.below hb)
            have Z4 := hid (Nat.le_trans Z3.out hb.size)
            clear hb X3 B3 S3 Z3
            go_wp2_with (refine wpList_load_bxg (by rfl) 23 (.tmp 2) rfl _ _ _ _ rfl S4.out Try.underlying23 rfl (by kernel_rfl) ?_)
            refine (slots_any HSH.out X4.out OKS.out X4.out.len FF.out.agr R4.out).mono ?_
            rw [alikeS_self]
            rintro e wb ⟨rfl, hb⟩
            have X5 := hid (X4.out.below hb)
            have B5 := hid (on B4.out hb)
            have S5 := hid (S4.out.next hb)
            have R5 := hid ((R4.out.below hb).hf HBY.out)
            have Z5 := hid (Nat.le_trans Z4.out hb.size)
            have VV := hid (show ∀ j, j < sh.B → (Y).V j ≤ 1000 from fun j hj => (FF.out.agr.le hj).1)
            clear hb X4 B4 S4 R4 Z4
            go_wp2
            go_roundg (gk - 1)
            case measure => omega
            case rel => exact ⟨p + 1, by omega, by go_num, hid ⟨L', -1, false, Y, k2, rfl, R5.out, VV.out, X5.out, .inl ⟨rfl, rfl, FF.out⟩⟩, S5, B5, Z5⟩
      have z2 : (ki == 2) = false := by simpa using h2
      clear h2
      go_wp2
      go_roundg (gk - 1)
      case measure => omega
      case rel => exact ⟨p + 1, by omega, by go_num, LV1, S1, B1, Z1⟩
    · obtain rfl : p = n := by omega
      go_wp2
      go_ret
      exact ⟨rfl, HB.out⟩
end Go.Proofs.Ytincndblpbdnlaa
