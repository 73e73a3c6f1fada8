/-
  What is proved: slices.Backward of numbers hands back an iterator that tells them from the last one on; uni's Yardstick. Condition: the stack lies in memory as one.
-/
import Derived.Test.YtmkpimpckhppgaaUn13
import Derived.RangeFuncNested
import Derived.RangeFuncBound
import Derived.RangeFuncCalls
import Derived.RangeFuncLeaves
import Derived.RangeFuncBox
import Derived.RangeFuncWrites
import Derived.Shelf.Abstract
import Derived.Shelf.RegionOpen
import Derived.WalkKit
import Derived.OwnWalkIn
import Derived.TacticsInMore
import Derived.LoopNIn
import Derived.LoopIn
namespace Go.Proofs.Ytmkpimpckhppgaa
open Go.RowKit Go.Shelf

attribute [local go_sem] Oper.semAt_some

/-- the places from the last one of n on, k of them -/
def bkq (n k : Nat) : List Nat := (List.range k).map fun q => n - 1 - q
theorem bkq_succ (n k : Nat) : bkq n (k + 1) = bkq n k ++ [n - 1 - k] := by simp [bkq, List.range_succ]
theorem bkq_len (n k : Nat) : (bkq n k).length = k := by simp [bkq]
theorem mem_bkq {n k q : Nat} : q ∈ bkq n k ↔ ∃ r, r < k ∧ n - 1 - r = q := by simp [bkq]
/-- a place below n -/
abbrev Pl (n : Nat) := { q : Nat // q < n }
def pls {n : Nat} (l : List (Pl n)) : List Nat := l.map (·.1)
set_option maxRecDepth 100000 in
set_option maxHeartbeats 2000000 in
theorem back1_any (l Bs n₀ n cp : Nat) (A : Option Addr) (L : List Int) (hn : L.length = n) (h64 : n ≤ 64) (hBb : Bs < n₀) (J Jx : List (Pl n) → World → Prop)
    (hY : ∀ pre x W, J pre W → pre.length < n → YieldAt Fence.wide 2 Try.prog l #[.int .i64 (x.1 : Int), .int .i64 (L.getD x.1 0)] W fun e W' =>
      (e = .returned (.bool true) ∧ J (pre ++ [x]) W' ∧ Below n₀ W W') ∨ (e = .returned (.bool false) ∧ Jx (pre ++ [x]) W'))
    (W : World) (hBs : W.cell? ⟨Bs, 0, none⟩ = some (.slice A n cp)) (hr : Rv W n₀ A (ints L)) (h0 : J [] W) :
    CallsIn Fence.wide 3 Try.prog 46 #[.func (.yield l) #[] #[], .pointer (some ⟨Bs, 0, none⟩)] W fun e W' => (∃ v, e = .returned v) ∧
      ((∃ ys, pls ys = bkq n n ∧ J ys W') ∨ (∃ pre, (∃ k, k ≤ n ∧ pls pre = bkq n k) ∧ Jx pre W')) := by
  refine callsIn_of_wp Try.func46 rfl trivial ?_ rfl
  simp only [Try.ntmps46, List.size_toArray, List.length_cons, List.length_nil, Nat.reduceAdd, Nat.reduceSub, Array.replicate_succ, Array.replicate_zero, List.push_toArray, List.append_toArray, List.nil_append, List.cons_append]
  gi_wp2
  gi_loopw [3] (fun i wr => ∃ k m : Nat, k + m = n ∧ i = .int .i64 ((m : Int) - 1) ∧ (∃ pre, pls pre = bkq n k ∧ J pre wr) ∧ Below n₀ W wr)
    (fun i _ => (intOf i + 1).toNat)
  case atStart => exact ⟨0, n, by omega, by go_num, ⟨[], rfl, h0⟩, Below.refl _ _⟩
  case round =>
    obtain ⟨k, m, hk, rfl, ⟨pre, hpre, hJs⟩, hnx⟩ := hrel
    have hb1 := (hnx.cell (p := ⟨Bs, 0, none⟩) hBb).trans hBs
    cases m with
    | zero =>
      obtain rfl : k = n := by omega
      gi_wp2
      go_end0
      exact ⟨⟨_, rfl⟩, .inl ⟨_, hpre, hJs⟩⟩
    | succ m =>
      have hm : m < L.length := by omega
      have ej : ((m + 1 : Nat) : Int) - 1 = m := by omega
      rw [ej]
      obtain ⟨ad, rfl, hab, hca⟩ := hr m (.int .i64 (L.getD m 0)) (by unfold ints; rw [List.getElem?_map, List.getElem?_eq_getElem hm, List.getD_eq_getElem?_getD, List.getElem?_eq_getElem hm]; rfl)
      have hcx := (hnx.cell (p := ad.add m) (by rw [addBlk]; exact hab)).trans hca
      have es : pls (pre ++ [(⟨m, by omega⟩ : Pl n)]) = bkq n (k + 1) := by
        rw [bkq_succ, show n - 1 - k = m from by omega, ← hpre]
        exact List.map_append
      have hlen : pre.length < n := by
        have := congrArg List.length hpre
        rw [bkq_len] at this
        unfold pls at this
        rw [List.length_map] at this
        omega
      obtain ⟨fn, tmps, assign, body, hy, hR⟩ := hY _ (⟨m, by omega⟩ : Pl n) wr hJs hlen
      dsimp only at hy
      generalize L.getD m 0 = y at *
      have hmn : (m : Int) < (n : Int) := by omega
      have hm0 : (0 : Int) ≤ (m : Int) := by omega
      gi_wp2
      refine hR.mono ?_
      rintro e W3 (⟨rfl, hJ3, hk3⟩ | ⟨rfl, hJx3⟩)
      · gi_wp2
        go_roundw
        case rel => exact ⟨k + 1, m, by omega, by go_num, ⟨_, es, hJ3⟩, hnx.trans hk3⟩
        case measure => (simp [intOf]; try omega)
      · gi_wp2
        refine bodyPost_ret (results_none rfl _ _ _) rfl ?_
        exact ⟨⟨_, rfl⟩, .inr ⟨_, ⟨k + 1, by omega, es⟩, hJx3⟩⟩
set_option maxHeartbeats 1000000 in
theorem backward_any (A : Option Addr) (n cp : Nat) (w : World) : Calls Try.prog 36 #[.slice A n cp] w fun e w' => e = .returned (.func (.func 46) #[] #[.pointer (some ⟨w.heap.size, 0, none⟩)]) ∧ w' = w.alloc (.cells #[.slice A n cp] 45) := by
  go_enter Try.func36, Try.ntmps36
  go_wp2
  go_ret
  exact ⟨rfl, rfl⟩
theorem back_stops (Bs n₀ n cp : Nat) (A : Option Addr) (L : List Int) (hn : L.length = n) (h64 : n ≤ 64) (hBb : Bs < n₀) (w : World) (hBs : Bs < w.heap.size) (hn₀ : n₀ ≤ w.heap.size) (hc : w.cell? ⟨Bs, 0, none⟩ = some (.slice A n cp)) (hr : Rv w n₀ A (ints L)) :
    SeqStopsK Fence.wide 3 Try.prog 46 #[.pointer (some ⟨Bs, 0, none⟩)] (fun x : Pl n => #[Value.int .i64 (x.1 : Int), Value.int .i64 (L.getD x.1 0)]) (Below n₀) (fun ys => pls ys = bkq n n)
      (fun pre => ∃ k, k ≤ n ∧ pls pre = bkq n k) n w := fun l J Jx W hW _ _ hY h0 =>
  back1_any l Bs n₀ n cp A L hn h64 hBb J Jx hY W ((hW.cell (p := ⟨Bs, 0, none⟩) hBs).trans hc) (hr.below hW hn₀) h0
/-- four new blocks of one cell each, one behind the other, from w on -/
structure Fb (w W : World) (t1 t2 t3 t4 : TypeId) (x1 x2 x3 x4 : Value) : Prop where
  b1 : Bx W w.heap.size t1 #[x1]
  b2 : Bx W (w.heap.size + 1) t2 #[x2]
  b3 : Bx W (w.heap.size + 1 + 1) t3 #[x3]
  b4 : Bx W (w.heap.size + 1 + 1 + 1) t4 #[x4]
  b : Below w.heap.size w W
theorem Fb.on {w W W' : World} {t1 t2 t3 t4 : TypeId} {x1 x2 x3 x4 : Value} (h : Fb w W t1 t2 t3 t4 x1 x2 x3 x4) (hb : Below W.heap.size W W') : Fb w W' t1 t2 t3 t4 x1 x2 x3 x4 :=
  ⟨h.b1.next hb, h.b2.next hb, h.b3.next hb, h.b4.next hb, Go.Proofs.Ytmkpimpckhppgaa.on h.b hb⟩
theorem four_boxes (w : World) (t1 t2 t3 t4 : TypeId) (x1 x2 x3 x4 : Value) : Fb w ((((w.alloc (.cells #[x1] t1)).alloc (.cells #[x2] t2)).alloc (.cells #[x3] t3)).alloc (.cells #[x4] t4)) t1 t2 t3 t4 x1 x2 x3 x4 := by
  have h1 := Bx.new w t1 #[x1]
  have h2 := Bx.new (w.alloc (.cells #[x1] t1)) t2 #[x2]
  have h3 := Bx.new ((w.alloc (.cells #[x1] t1)).alloc (.cells #[x2] t2)) t3 #[x3]
  have h4 := Bx.new (((w.alloc (.cells #[x1] t1)).alloc (.cells #[x2] t2)).alloc (.cells #[x3] t3)) t4 #[x4]
  simp only [World.size_alloc] at h2 h3 h4
  exact ⟨((h1.alloc _).alloc _).alloc _, (h2.alloc _).alloc _, h3.alloc _, h4, Go.Proofs.Ytmkpimpckhppgaa.on (Go.Proofs.Ytmkpimpckhppgaa.on (Go.Proofs.Ytmkpimpckhppgaa.on (below_alloc w _) (below_alloc _ _)) (below_alloc _ _)) (below_alloc _ _)⟩
section
variable {w : World} {g k : Nat} {c : Nat → Nat} {s : Us}
/-- what Yardstick tells -/
def yv (s : Us) (l : Int) : Value := if 0 ≤ s.yp l then .tuple #[.int .i64 (s.yb l), .bool true] else .tuple #[.int .i64 0, .bool false]
theorem yv_at {l : Int} {p : Nat} (hp : p < s.L.length) (hv : s.v (s.L.getD p 0) = l) (hno : ∀ q, p < q → q < s.L.length → s.v (s.L.getD q 0) ≠ l) : yv s l = .tuple #[.int .i64 (s.L.getD p 0), .bool true] := by
  have h1 : (p : Int) ≤ s.yp l := ypN_ge hv hp
  obtain ⟨q, e, h2, h3⟩ := ypN_at (v := s.v) (l := l) (L := s.L) (n := s.L.length) (show 0 ≤ s.yp l from by omega)
  have e1 : s.yp l = q := e
  have e2 : q = p := by
    rcases Nat.lt_or_ge p q with h | h
    · exact absurd h3 (hno q h h2)
    · omega
  unfold yv Us.yb
  rw [if_pos (by omega), e1, e2]
  rfl
theorem yv_no {l : Int} (hno : ∀ q, q < s.L.length → s.v (s.L.getD q 0) ≠ l) : yv s l = .tuple #[.int .i64 0, .bool false] := by
  unfold yv
  rw [if_neg]
  intro h
  obtain ⟨q, _, h2, h3⟩ := ypN_at (v := s.v) (l := l) (L := s.L) (n := s.L.length) h
  exact hno q h2 h3
set_option maxRecDepth 100000 in
set_option maxHeartbeats 2000000 in
theorem un_yard (h : Un w g k c s) (ok : Oku s) (l : Int) (hl : lv l) : Calls Try.prog 21 #[.pointer (some ⟨g, 0, none⟩), .int .i64 l] w fun e w' => e = .returned (yv s l) ∧ Below w.heap.size w w' := by
  have HL := hid (fun w => ulevel_any w l)
  rw [decide_eq_true hl] at HL
  have HU := hid h
  have HK := hid ok
  have HT := hid (four_boxes w 25 3 3 4 (.pointer (some ⟨g, 0, none⟩)) (.int .i64 l) (.int .i64 0) (.bool false))
  obtain ⟨n, hn⟩ : ∃ n, s.L.length = n := ⟨_, rfl⟩
  have h64 : n ≤ 64 := by rw [← hn]; exact ok.len
  have HN := hid hn
  clear h ok hn
  refine (callsIn_wide (n := 4)).1 ?_
  refine callsIn_of_wp_marks Try.func21 rfl trivial ?_ rfl
  simp only [Try.ntmps21, List.size_toArray, List.length_cons, List.length_nil, Nat.reduceAdd, Nat.reduceSub, Array.replicate_succ, Array.replicate_zero, List.push_toArray, List.append_toArray, List.nil_append, List.cons_append]
  gi_wp2_with (first
    | (refine ⟨trivial, ?_⟩; gi_at_call 35; refine (callsIn_wide.2 (HL.out _)).mono ?_; rintro e w' ⟨rfl, rfl⟩)
    | (refine ⟨trivial, ?_⟩; gi_at_call 22; refine (callsIn_wide.2 (un_all (HU.out.below HT.out.b))).mono ?_; rintro e w5 ⟨A, cp, rfl, ho, hg⟩; have HR := hid (rw_told ho hg).1; have HT5 := hid (HT.out.on hg.nilBelow); rw [HN.out]; clear ho hg)
    | (refine ⟨trivial, ?_⟩; gi_at_call 36; refine (callsIn_wide.2 (backward_any _ _ _ _)).mono ?_; rintro e w' ⟨rfl, rfl⟩))
  have hbx := below_alloc w5 (.cells #[.slice A n cp] 45)
  have bS := Bx.new w5 45 #[.slice A n cp]
  have hT6 := HT5.out.on hbx
  have hR6 := (HR.out.below hbx).rd
  have hlast : w5.heap.size < (w5.alloc (.cells #[.slice A n cp] 45)).heap.size := by rw [World.size_alloc]; omega
  generalize w5.alloc (.cells #[.slice A n cp] 45) = W6 at *
  generalize w5.heap.size = qs at *
  have hU6 := HU.out.below hT6.b
  obtain ⟨x1, x2, x3, x4, hb6⟩ := hT6
  clear HT5 HR hbx HT
  have HB6 := hid hb6
  obtain ⟨q5, e5⟩ : ∃ q, w.heap.size + 1 + 1 + 1 = q := ⟨_, rfl⟩
  obtain ⟨q4, e4⟩ : ∃ q, w.heap.size + 1 + 1 = q := ⟨_, rfl⟩
  obtain ⟨q3, e3⟩ : ∃ q, w.heap.size + 1 = q := ⟨_, rfl⟩
  obtain ⟨q2, e2⟩ : ∃ q, w.heap.size = q := ⟨_, rfl⟩
  rw [e5] at x4 ⊢
  rw [e4] at x3 ⊢
  rw [e3] at x2 ⊢
  rw [e2] at x1 ⊢
  have HE := hid (show w.heap.size = q2 ∧ q2 + 1 = q3 ∧ q2 + 2 = q4 ∧ q2 + 3 = q5 from by omega)
  clear hb6 e2 e3 e4 e5
  have l5 : q5 < W6.heap.size := x4.lt
  have l4 : q4 < W6.heap.size := x3.lt
  refine wpIn_rangeFunc_ownG rfl (by omega) (gf := 46) (lb := #[.pointer (some ⟨qs, 0, none⟩)]) rfl trivial (enters_of Try.func46 (by kernel_rfl) rfl)
    (back_stops qs W6.heap.size n cp A s.L HN.out h64 hlast W6 hlast (Nat.le_refl _) (bS.cell 0) hR6) belowK_t (belowK_b (Nat.le_refl _)) (Below.refl _ _) (fun _ => rfl)
    (fun pre W => (∀ p ∈ pre, s.v (s.L.getD p.1 0) ≠ l) ∧ Below W6.heap.size W6 W)
    (fun cc pre W => (cc = .ret ∧ ∃ ini last, pre = ini ++ [last] ∧ (∀ p ∈ ini, s.v (s.L.getD p.1 0) ≠ l) ∧ s.v (s.L.getD last.1 0) = l ∧ W.cell? ⟨q4, 0, none⟩ = some (.int .i64 (s.L.getD last.1 0)) ∧ W.cell? ⟨q5, 0, none⟩ = some (.bool true)) ∧ Below w.heap.size w W)
    (OwnFrom.and (Own.from (fun s A B row hs hg hr => hs) _) (ownFrom_below (Nat.le_refl _) (Nat.le_refl _)))
    (fun cc => OwnFrom.and (Own.from (fun s A B row hs hg hr => by obtain ⟨hc, ini, last, e1, e2, e3, e4, e5⟩ := hs; exact ⟨hc, ini, last, e1, e2, e3, cell_kept e4 hg hr, cell_kept e5 hg hr⟩) _) (ownFrom_below (Nat.le_refl _) HB6.out.size))
    ⟨(fun p hp => by cases hp), Below.refl _ _⟩
    (fun x => { tmps := #[.pointer (some ⟨g, 0, none⟩), .int .i64 l, .pointer (some ⟨q2, 0, none⟩), .pointer (some ⟨q3, 0, none⟩), .pointer (some ⟨q4, 0, none⟩), .pointer (some ⟨q5, 0, none⟩), undef, .int .i64 (s.L.getD x.1 0), .int .i64 l, .bool true, .bool false, .pointer (some ⟨g, 0, none⟩), .slice A n cp, .func (.func 46) #[] #[.pointer (some ⟨qs, 0, none⟩)], .int .i64 (x.1 : Int), .int .i64 (s.L.getD x.1 0), undef, undef, undef, undef, undef, undef, undef, undef, undef], defers := [] }) ?assign ?body ?done ?stop
  case assign =>
    intro l x W K hK
    gi_wp2
    exact hK
  case body =>
    rintro l' pre ⟨j, hj⟩ W ⟨hne, hB⟩ _
    have hjl : j < s.L.length := by rw [HN.out]; exact hj
    have hmem : s.L.getD j 0 ∈ s.L := by rw [List.getD_eq_getElem?_getD, List.getElem?_eq_getElem hjl]; exact List.getElem_mem hjl
    have hlt := HK.out.lt _ hmem
    dsimp only
    have HNE := hid hne
    have HB := hid hB
    have y2 := (x1.next hB).cell 0
    have y3 := (x2.next hB).cell 0
    have y4 := (x3.next hB).cell 0
    have y5 := (x4.next hB).cell 0
    have f4 := (x3.next hB).free 0
    have f5 := (x4.next hB).free 0
    have n45 : q4 ≠ q5 := by have := HE.out; omega
    have hmx : Try.prog.follows .mixedOrders = true := by kernel_rfl
    generalize hz : s.L.getD j 0 = z at *
    obtain ⟨p, rfl⟩ : ∃ p : Nat, z = p := ⟨z.toNat, by omega⟩
    have hp : p < 64 := by omega
    have hpp : (p : Int) < 64 := by omega
    have cV := (hU6.below hB).cV hp
    generalize hy : s.v p = y at *
    have HC4 := hid (((x3.next hB).set 0 (.int .i64 p)).far ⟨q5, 0, none⟩ (.bool true) (fun e => n45 e.symm))
    have HC5 := hid (((x4.next hB).far ⟨q4, 0, none⟩ (.int .i64 p) n45).set 0 (.bool true))
    have HBE := hid (((on HB6.out hB).setCell (p := ⟨q4, 0, none⟩) (by have := HE.out; show w.heap.size ≤ q4; omega) (.int .i64 p)).setCell (p := ⟨q5, 0, none⟩) (by have := HE.out; show w.heap.size ≤ q5; omega) (.bool true))
    clear hB hne x1 x2 x3 x4 hU6 hlt hmem bS hR6
    by_cases he : y = l
    · subst he
      have HV := hid (show s.v (s.L.getD j 0) = y from by rw [hz]; exact hy)
      have HZ := hid hz
      clear hz hy
      gi_wp2
      gi_region_o
      all_goals gi_wp2
      all_goals exact ⟨(((KeepsOthers.setCell _ _ _).trans (KeepsOthers.setCell _ _ _)).trans (KeepsOthers.drew _)).from _, ⟨rfl, pre, ⟨j, hj⟩, rfl, HNE.out, HV.out, by rw [HZ.out]; exact HC4.out.cell 0, HC5.out.cell 0⟩, HBE.out.drew⟩
    · have hne : (y == l) = false := by simpa using he
      have HV := hid (show s.v (s.L.getD j 0) ≠ l from by rw [hz, hy]; exact he)
      clear hz hy
      gi_wp2
      gi_region_o
      all_goals gi_wp2
      all_goals exact ⟨(KeepsOthers.drew _).from _, (Below.refl _ _).drew, (fun q hq => (List.mem_append.1 hq).elim (HNE.out q) (fun e => by rw [List.mem_singleton.1 e]; exact HV.out)), HB.out.drew⟩
  case done =>
    rintro D ys W hD hys ⟨hne, hB⟩ hK
    have HYV := hid (yv_no (s := s) (l := l) fun q hq => by
      rw [HN.out] at hq
      have hm : q ∈ pls ys := by rw [hys]; exact mem_bkq.2 ⟨n - 1 - q, by omega, by omega⟩
      obtain ⟨y, hy, e⟩ := List.mem_map.1 hm
      rw [← e]
      exact hne y hy)
    have y4 := (x3.next hB).cell 0
    have y5 := (x4.next hB).cell 0
    have f4 := (x3.next hB).free 0
    have f5 := (x4.next hB).free 0
    have n45 : q4 ≠ q5 := by have := HE.out; omega
    have HC4 := hid (((x3.next hB).set 0 (.int .i64 0)).far ⟨q5, 0, none⟩ (.bool false) (fun e => n45 e.symm))
    have HC5 := hid (((x4.next hB).far ⟨q4, 0, none⟩ (.int .i64 0) n45).set 0 (.bool false))
    have HBE := hid (((on HB6.out hB).setCell (p := ⟨q4, 0, none⟩) (by have := HE.out; show w.heap.size ≤ q4; omega) (.int .i64 0)).setCell (p := ⟨q5, 0, none⟩) (by have := HE.out; show w.heap.size ≤ q5; omega) (.bool false))
    have hK' := ((KeepsOthers.setCell W ⟨q4, 0, none⟩ (.int .i64 0)).trans (KeepsOthers.setCell _ ⟨q5, 0, none⟩ (.bool false))).same D _ hK rfl
    clear hB hne x1 x2 x3 x4 hU6 bS hR6
    gi_wp2
    refine ⟨by simp, .inl ⟨_, _, rfl, run_takeDeferred hK', ?_⟩⟩
    have hc4 := cell_kept (HC4.out.cell 0) (grownBy_putObj' _ D (.deferred none)) (fun r e => by cases e; exact ⟨_, hK', rfl⟩)
    have hc5 := cell_kept (HC5.out.cell 0) (grownBy_putObj' _ D (.deferred none)) (fun r e => by cases e; exact ⟨_, hK', rfl⟩)
    refine ⟨.tuple #[.int .i64 0, .bool false], ?_, congrArg Ending.returned HYV.out.symm, HBE.out.trans (belowK_b (w := w) (Nat.le_refl _) _ D _ _ (Nat.le_trans HB6.out.size hD) hK' rfl rfl)⟩
    simp at hc4 hc5
    simp [results, Try.f21, go_sem, hc4, hc5]
  case stop =>
    rintro D cc pre W hD ⟨kk, hkk, hys⟩ ⟨⟨rfl, ini, ⟨j, hj⟩, rfl, hno, hv, hc4, hc5⟩, hB⟩ hK
    have HYV := hid (show yv s l = .tuple #[.int .i64 (s.L.getD j 0), .bool true] from by
      obtain ⟨k2, rfl⟩ : ∃ k2, kk = k2 + 1 := by
        cases kk with
        | zero =>
          have := congrArg List.length hys
          simp [pls, bkq] at this
        | succ k2 => exact ⟨k2, rfl⟩
      rw [bkq_succ, show pls (ini ++ [(⟨j, hj⟩ : Pl n)]) = pls ini ++ [j] from List.map_append] at hys
      obtain ⟨h1, h2⟩ := List.append_inj' hys rfl
      have h3 : j = n - 1 - k2 := by simpa using h2
      refine yv_at (by rw [HN.out]; exact hj) hv fun q hq1 hq2 => ?_
      rw [HN.out] at hq2
      have hm : q ∈ pls ini := by rw [h1]; exact mem_bkq.2 ⟨n - 1 - q, by omega, by omega⟩
      obtain ⟨y, hy, e⟩ := List.mem_map.1 hm
      rw [← e]
      exact hno y hy)
    gi_wp2
    refine ⟨by simp, .inl ⟨_, _, rfl, run_takeDeferred hK, ?_⟩⟩
    have hc4' := cell_kept hc4 (grownBy_putObj' _ D (.deferred none)) (fun r e => by cases e; exact ⟨_, hK, rfl⟩)
    have hc5' := cell_kept hc5 (grownBy_putObj' _ D (.deferred none)) (fun r e => by cases e; exact ⟨_, hK, rfl⟩)
    refine ⟨.tuple #[.int .i64 (s.L.getD j 0), .bool true], ?_, congrArg Ending.returned HYV.out.symm, hB.trans (belowK_b (w := w) (Nat.le_refl _) _ D _ _ (Nat.le_trans HB6.out.size hD) hK rfl rfl)⟩
    simp [results, Try.f21, go_sem, hc4', hc5']
set_option maxHeartbeats 1000000 in
theorem un_yard_out (w : World) (v : Option Addr) (l : Int) (hl : ¬ lv l) : Calls Try.prog 21 #[.pointer v, .int .i64 l] w fun e w' => e = .returned (.tuple #[.int .i64 0, .bool false]) ∧ Below w.heap.size w w' := by
  have HL := hid (fun w => ulevel_any w l)
  rw [decide_eq_false hl] at HL
  have HT := hid (four_boxes w 25 3 3 4 (.pointer v) (.int .i64 l) (.int .i64 0) (.bool false))
  go_enter Try.func21, Try.ntmps21
  go_wp2_with (go_at_call 35; refine (HL.out _).mono ?_; rintro e w' ⟨rfl, rfl⟩)
  have hc4 := HT.out.b3.cell 0
  have hc5 := HT.out.b4.cell 0
  simp at hc4 hc5
  refine bodyPost_ret (v := .tuple #[.int .i64 0, .bool false]) ?_ rfl ⟨rfl, HT.out.b⟩
  simp [results, Try.f21, go_sem, hc4, hc5]
set_option maxRecDepth 100000 in
set_option maxHeartbeats 2000000 in
theorem un_yard_nil (w : World) (l : Int) : Calls Try.prog 21 #[.pointer none, .int .i64 l] w fun e w' => e = .returned (.tuple #[.int .i64 0, .bool false]) ∧ Below w.heap.size w w' := by
  by_cases hl : lv l
  · have HL := hid (fun w => ulevel_any w l)
    rw [decide_eq_true hl] at HL
    have HT := hid (four_boxes w 25 3 3 4 (.pointer none) (.int .i64 l) (.int .i64 0) (.bool false))
    refine (callsIn_wide (n := 4)).1 ?_
    refine callsIn_of_wp_marks Try.func21 rfl trivial ?_ rfl
    simp only [Try.ntmps21, List.size_toArray, List.length_cons, List.length_nil, Nat.reduceAdd, Nat.reduceSub, Array.replicate_succ, Array.replicate_zero, List.push_toArray, List.append_toArray, List.nil_append, List.cons_append]
    gi_wp2_with (first
      | (refine ⟨trivial, ?_⟩; gi_at_call 35; refine (callsIn_wide.2 (HL.out _)).mono ?_; rintro e w' ⟨rfl, rfl⟩)
      | (refine ⟨trivial, ?_⟩; gi_at_call 22; refine (callsIn_wide.2 (un_all_nil _)).mono ?_; rintro e w5 ⟨rfl, rfl⟩)
      | (refine ⟨trivial, ?_⟩; gi_at_call 36; refine (callsIn_wide.2 (backward_any _ _ _ _)).mono ?_; rintro e w' ⟨rfl, rfl⟩))
    have hT5 := HT.out
    have hqs : ((((w.alloc (.cells #[.pointer none] 25)).alloc (.cells #[.int .i64 l] 3)).alloc (.cells #[.int .i64 0] 3)).alloc (.cells #[.bool false] 4)).heap.size = w.heap.size + 1 + 1 + 1 + 1 := by simp
    clear HT
    generalize (((w.alloc (.cells #[.pointer none] 25)).alloc (.cells #[.int .i64 l] 3)).alloc (.cells #[.int .i64 0] 3)).alloc (.cells #[.bool false] 4) = w5 at *
    have hbx := below_alloc w5 (.cells #[.slice none 0 0] 45)
    have bS := Bx.new w5 45 #[.slice none 0 0]
    have hT6 := hT5.on hbx
    have hlast : w5.heap.size < (w5.alloc (.cells #[.slice none 0 0] 45)).heap.size := by rw [World.size_alloc]; omega
    generalize w5.alloc (.cells #[.slice none 0 0] 45) = W6 at *
    generalize w5.heap.size = qs at *
    subst hqs
    obtain ⟨x1, x2, x3, x4, hb6⟩ := hT6
    clear hT5 hbx
    have HB6 := hid hb6
    obtain ⟨q5, e5⟩ : ∃ q, w.heap.size + 1 + 1 + 1 = q := ⟨_, rfl⟩
    obtain ⟨q4, e4⟩ : ∃ q, w.heap.size + 1 + 1 = q := ⟨_, rfl⟩
    obtain ⟨q3, e3⟩ : ∃ q, w.heap.size + 1 = q := ⟨_, rfl⟩
    obtain ⟨q2, e2⟩ : ∃ q, w.heap.size = q := ⟨_, rfl⟩
    rw [e5] at x4 bS hlast ⊢
    rw [e4] at x3 ⊢
    rw [e3] at x2 ⊢
    rw [e2] at x1 ⊢
    have HE := hid (show w.heap.size = q2 ∧ q2 + 1 = q3 ∧ q2 + 2 = q4 ∧ q2 + 3 = q5 from by omega)
    clear hb6 e2 e3 e4 e5
    have l5 : q5 < W6.heap.size := x4.lt
    have l4 : q4 < W6.heap.size := x3.lt
    refine wpIn_rangeFunc_ownG rfl (by omega) (gf := 46) (lb := #[.pointer (some ⟨q5 + 1, 0, none⟩)]) rfl trivial (enters_of Try.func46 (by kernel_rfl) rfl)
      (back_stops (q5 + 1) W6.heap.size 0 0 none [] rfl (by omega) hlast W6 hlast (Nat.le_refl _) (bS.cell 0) (Rv.nil _ _ _)) belowK_t (belowK_b (Nat.le_refl _)) (Below.refl _ _) (fun _ => rfl)
      (fun _ W => True ∧ Below W6.heap.size W6 W)
      (fun _ _ _ => False)
      (OwnFrom.and (Own.from (fun _ _ _ _ hs _ _ => hs) _) (ownFrom_below (Nat.le_refl _) (Nat.le_refl _)))
      (fun _ _ _ _ _ hs _ _ => hs)
      ⟨trivial, Below.refl _ _⟩
      (fun _ => { tmps := #[], defers := [] }) ?assign ?body ?done ?stop
    case assign =>
      rintro l ⟨x, hx⟩ W K hK
      omega
    case body =>
      rintro l' pre ⟨j, hj⟩ W _ _
      omega
    case done =>
      rintro D ys W hD hys ⟨-, hB⟩ hK
      have y4 := (x3.next hB).cell 0
      have y5 := (x4.next hB).cell 0
      have f4 := (x3.next hB).free 0
      have f5 := (x4.next hB).free 0
      have n45 : q4 ≠ q5 := by have := HE.out; omega
      have HC4 := hid (((x3.next hB).set 0 (.int .i64 0)).far ⟨q5, 0, none⟩ (.bool false) (fun e => n45 e.symm))
      have HC5 := hid (((x4.next hB).far ⟨q4, 0, none⟩ (.int .i64 0) n45).set 0 (.bool false))
      have HBE := hid (((on HB6.out hB).setCell (p := ⟨q4, 0, none⟩) (by have := HE.out; show w.heap.size ≤ q4; omega) (.int .i64 0)).setCell (p := ⟨q5, 0, none⟩) (by have := HE.out; show w.heap.size ≤ q5; omega) (.bool false))
      have hK' := ((KeepsOthers.setCell W ⟨q4, 0, none⟩ (.int .i64 0)).trans (KeepsOthers.setCell _ ⟨q5, 0, none⟩ (.bool false))).same D _ hK rfl
      clear hB x1 x2 x3 x4 bS
      gi_wp2
      refine ⟨by simp, .inl ⟨_, _, rfl, run_takeDeferred hK', ?_⟩⟩
      have hc4 := cell_kept (HC4.out.cell 0) (grownBy_putObj' _ D (.deferred none)) (fun r e => by cases e; exact ⟨_, hK', rfl⟩)
      have hc5 := cell_kept (HC5.out.cell 0) (grownBy_putObj' _ D (.deferred none)) (fun r e => by cases e; exact ⟨_, hK', rfl⟩)
      refine ⟨.tuple #[.int .i64 0, .bool false], ?_, rfl, HBE.out.trans (belowK_b (w := w) (Nat.le_refl _) _ D _ _ (Nat.le_trans HB6.out.size hD) hK' rfl rfl)⟩
      simp at hc4 hc5
      simp [results, Try.f21, go_sem, hc4, hc5]
    case stop =>
      rintro D cc pre W _ _ h _
      exact h.elim
  · exact un_yard_out w none l hl
end
end Go.Proofs.Ytmkpimpckhppgaa
