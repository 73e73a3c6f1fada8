/-
  What is proved: dir's Sharers, Of, Forget, Len, New; bits.OnesCount of small words. Condition: the directory lies in memory as one.
-/
import Derived.Test.YtdpniggabidmbaaDr17
import Derived.Lib.Tables
namespace Go.Proofs.Ytdpniggabidmbaa
open Go.RowKit

section
variable {w : World} {g C B : Nat} {s : DrS}
set_option maxRecDepth 10000 in
set_option maxHeartbeats 1000000 in
theorem dsh_any (h : Dm w g C B s) (ok : Dok C B s) (z : Int) : Calls Try.prog 12 #[.pointer (some ⟨g, 0, none⟩), .int .i64 z] w (Told w (drSh s z)) := by
  have HD := hid h
  have HK := hid ok
  clear h ok
  go_enter Try.func12, Try.ntmps12
  go_wp2
  go_loopg [5, 7] 4 (fun gk x t wr => ∃ (j : Nat) (v : Value), j + gk = 4 ∧ v = x ∧ t = .int .i64 j ∧ OwnW wr 3 v (ints (drIdx (fun x => s x z) j)) ∧ GrW w wr nl v)
  case atStart => exact ⟨0, _, by omega, rfl, rfl, ownW_nil _ _, GrW.refl _ _⟩
  case round =>
    obtain ⟨j, v, hj, rfl, rfl, ho, hg⟩ := hrel
    by_cases hlt : j < 4
    · have hjn : (j : Int) < 4 := by omega
      have HH := hid (dhas_any (HD.out.below hg.nilBelow) HK.out j z)
      have HO := hid ho
      have HG := hid hg
      have hle : (drIdx (fun x => s x z) j).length ≤ j := drIdx_le j
      cases ht : s (j : Int) z with
      | false =>
        rw [ht] at HH
        have HN := hid (drIdx_no (p := (fun x => s x z)) (n := j) ht)
        clear ht ho hg
        go_wp2_with (go_at_call 16; refine HH.out.mono ?_; rintro e w' ⟨rfl, d, rfl⟩)
        go_roundg (gk - 1)
        case measure => omega
        case rel => exact ⟨j + 1, v, by omega, rfl, by go_num, by rw [HN.out]; exact HO.out.below (below_draws (Below.refl _ _) _), HG.out.trans (GrW.of (below_draws (Below.refl _ _) _) _)⟩
      | true =>
        rw [ht] at HH
        have HN := hid (drIdx_yes (p := (fun x => s x z)) (n := j) ht)
        obtain ⟨A, c0, e0, -⟩ := ho.read
        rw [ints_length] at e0
        subst e0
        obtain ⟨n, hn⟩ : ∃ n, (drIdx (fun x => s x z) j).length = n := ⟨_, rfl⟩
        rw [hn] at hle HO HG ⊢
        have HL1 := hid (show (ints (drIdx (fun x => s x z) j)).length = n from by rw [ints_length, hn])
        have hn64 : n ≤ 64 := by omega
        clear ht ho hg hn
        go_upto_region 6 with (go_at_call 16; refine HH.out.mono ?_; rintro e w' ⟨rfl, d, rfl⟩)
        have HO1 := hid (HO.out.below (on (below_draws (Below.refl wr.heap.size wr) d) (below_alloc (wr.drewN d) (.cells #[.int .i64 j] 3))))
        have HG1 := hid (HG.out.trans (GrW.of (on (below_draws (Below.refl wr.heap.size wr) d) (below_alloc (wr.drewN d) (.cells #[.int .i64 j] 3))) _))
        have HR1 := hid (rv_new (wr.drewN d) 3 #[.int .i64 j])
        go_wp2_with (at_builtin; go_loud (refine wpList_appW elt_int rfl (.tmp 14) (.tmp 16) rfl _ _ HO1.out rfl _ _ 1 1 [.int .i64 j] rfl rfl HR1.out (fun u hu => by simp at hu; subst hu; rfl) (by rw [HL1.out]; unfold maxLen; omega) (by rw [HL1.out]; omega) ?_); go_loud (intro v2 w2 hown2 hg2; have HG2 := hid (HG1.out.trans hg2); have HO2 := hid hown2; clear hown2 hg2))
        go_roundg (gk - 1)
        case measure => omega
        case rel => exact ⟨j + 1, v2, by omega, rfl, by go_num, by rw [HN.out]; unfold ints; rw [List.map_append]; exact HO2.out, HG2.out⟩
    · obtain rfl : j = 4 := by omega
      have HO := hid ho
      have HG := hid hg
      obtain ⟨A, c0, e0, -⟩ := ho.read
      rw [ints_length] at e0
      subst e0
      clear ho hg
      go_wp2
      go_ret
      exact ⟨_, _, rfl, HO.out, HG.out⟩
set_option maxRecDepth 10000 in
set_option maxHeartbeats 1000000 in
theorem dsh_nil (w : World) (z : Int) : Calls Try.prog 12 #[.pointer none, .int .i64 z] w fun e w' => e = .returned (.slice none 0 0) ∧ Below w.heap.size w w' := by
  go_enter Try.func12, Try.ntmps12
  go_wp2
  go_loopg [5, 7] 4 (fun gk x t wr => ∃ (j : Nat), j + gk = 4 ∧ x = .slice none 0 0 ∧ t = .int .i64 j ∧ Below w.heap.size w wr)
  case atStart => exact ⟨0, by omega, rfl, rfl, Below.refl _ _⟩
  case round =>
    obtain ⟨j, hj, rfl, rfl, hb⟩ := hrel
    have HB := hid hb
    clear hb
    by_cases hlt : j < 4
    · have hjn : (j : Int) < 4 := by omega
      go_wp2_with (go_at_call 16; refine (dhas_nil _ _ _).mono ?_; rintro e w' ⟨rfl, d, rfl⟩)
      go_roundg (gk - 1)
      case measure => omega
      case rel => exact ⟨j + 1, by omega, rfl, by go_num, below_draws HB.out _⟩
    · obtain rfl : j = 4 := by omega
      go_wp2
      go_ret
      exact ⟨rfl, HB.out⟩
set_option maxRecDepth 10000 in
set_option maxHeartbeats 1000000 in
theorem dof_any (h : Dm w g C B s) (ok : Dok C B s) (z : Int) : Calls Try.prog 14 #[.pointer (some ⟨g, 0, none⟩), .int .i64 z] w (Told w (drOf s z)) := by
  have HD := hid h
  have HK := hid ok
  clear h ok
  go_enter Try.func14, Try.ntmps14
  go_wp2
  go_loopg [5, 7] 32 (fun gk x t wr => ∃ (j : Nat) (v : Value), j + gk = 32 ∧ v = x ∧ t = .int .i64 j ∧ OwnW wr 3 v (ints (drIdx (s z) j)) ∧ GrW w wr nl v)
  case atStart => exact ⟨0, _, by omega, rfl, rfl, ownW_nil _ _, GrW.refl _ _⟩
  case round =>
    obtain ⟨j, v, hj, rfl, rfl, ho, hg⟩ := hrel
    by_cases hlt : j < 32
    · have hjn : (j : Int) < 32 := by omega
      have HH := hid (dhas_any (HD.out.below hg.nilBelow) HK.out z j)
      have HO := hid ho
      have HG := hid hg
      have hle : (drIdx (s z) j).length ≤ j := drIdx_le j
      cases ht : s z (j : Int) with
      | false =>
        rw [ht] at HH
        have HN := hid (drIdx_no (p := (s z)) (n := j) ht)
        clear ht ho hg
        go_wp2_with (go_at_call 16; refine HH.out.mono ?_; rintro e w' ⟨rfl, d, rfl⟩)
        go_roundg (gk - 1)
        case measure => omega
        case rel => exact ⟨j + 1, v, by omega, rfl, by go_num, by rw [HN.out]; exact HO.out.below (below_draws (Below.refl _ _) _), HG.out.trans (GrW.of (below_draws (Below.refl _ _) _) _)⟩
      | true =>
        rw [ht] at HH
        have HN := hid (drIdx_yes (p := (s z)) (n := j) ht)
        obtain ⟨A, c0, e0, -⟩ := ho.read
        rw [ints_length] at e0
        subst e0
        obtain ⟨n, hn⟩ : ∃ n, (drIdx (s z) j).length = n := ⟨_, rfl⟩
        rw [hn] at hle HO HG ⊢
        have HL1 := hid (show (ints (drIdx (s z) j)).length = n from by rw [ints_length, hn])
        have hn64 : n ≤ 64 := by omega
        clear ht ho hg hn
        go_upto_region 6 with (go_at_call 16; refine HH.out.mono ?_; rintro e w' ⟨rfl, d, rfl⟩)
        have HO1 := hid (HO.out.below (on (below_draws (Below.refl wr.heap.size wr) d) (below_alloc (wr.drewN d) (.cells #[.int .i64 j] 3))))
        have HG1 := hid (HG.out.trans (GrW.of (on (below_draws (Below.refl wr.heap.size wr) d) (below_alloc (wr.drewN d) (.cells #[.int .i64 j] 3))) _))
        have HR1 := hid (rv_new (wr.drewN d) 3 #[.int .i64 j])
        go_wp2_with (at_builtin; go_loud (refine wpList_appW elt_int rfl (.tmp 14) (.tmp 16) rfl _ _ HO1.out rfl _ _ 1 1 [.int .i64 j] rfl rfl HR1.out (fun u hu => by simp at hu; subst hu; rfl) (by rw [HL1.out]; unfold maxLen; omega) (by rw [HL1.out]; omega) ?_); go_loud (intro v2 w2 hown2 hg2; have HG2 := hid (HG1.out.trans hg2); have HO2 := hid hown2; clear hown2 hg2))
        go_roundg (gk - 1)
        case measure => omega
        case rel => exact ⟨j + 1, v2, by omega, rfl, by go_num, by rw [HN.out]; unfold ints; rw [List.map_append]; exact HO2.out, HG2.out⟩
    · obtain rfl : j = 32 := by omega
      have HO := hid ho
      have HG := hid hg
      obtain ⟨A, c0, e0, -⟩ := ho.read
      rw [ints_length] at e0
      subst e0
      clear ho hg
      go_wp2
      go_ret
      exact ⟨_, _, rfl, HO.out, HG.out⟩
set_option maxRecDepth 10000 in
set_option maxHeartbeats 1000000 in
theorem dof_nil (w : World) (z : Int) : Calls Try.prog 14 #[.pointer none, .int .i64 z] w fun e w' => e = .returned (.slice none 0 0) ∧ Below w.heap.size w w' := by
  go_enter Try.func14, Try.ntmps14
  go_wp2
  go_loopg [5, 7] 32 (fun gk x t wr => ∃ (j : Nat), j + gk = 32 ∧ x = .slice none 0 0 ∧ t = .int .i64 j ∧ Below w.heap.size w wr)
  case atStart => exact ⟨0, by omega, rfl, rfl, Below.refl _ _⟩
  case round =>
    obtain ⟨j, hj, rfl, rfl, hb⟩ := hrel
    have HB := hid hb
    clear hb
    by_cases hlt : j < 32
    · have hjn : (j : Int) < 32 := by omega
      go_wp2_with (go_at_call 16; refine (dhas_nil _ _ _).mono ?_; rintro e w' ⟨rfl, d, rfl⟩)
      go_roundg (gk - 1)
      case measure => omega
      case rel => exact ⟨j + 1, by omega, rfl, by go_num, below_draws HB.out _⟩
    · obtain rfl : j = 32 := by omega
      go_wp2
      go_ret
      exact ⟨rfl, HB.out⟩
set_option maxRecDepth 10000 in
set_option maxHeartbeats 1000000 in
theorem dfg_any (h : Dm w g C B s) (ok : Dok C B s) (z : Int) : Calls Try.prog 20 #[.pointer (some ⟨g, 0, none⟩), .int .i64 z] w fun e w' => e = .returned (.int .i64 (drOf s z).length) ∧ Dm w' g C B (drNo s z) ∧ Chg w w' (· = g) (· = g) := by
  have HK := hid ok
  have H0 := hid (show Dm w g C B (drFg s z 0) from by rw [drFg_0]; exact h)
  have HE := hid (drFg_end ok z)
  clear h ok
  go_enter Try.func20, Try.ntmps20
  go_wp2
  go_loopg [5, 7] 32 (fun gk x t wr => ∃ (j n : Nat), j + gk = 32 ∧ x = .int .i64 n ∧ t = .int .i64 j ∧ n = (drIdx (s z) j).length ∧ Dm wr g C B (drFg s z j) ∧ Chg w wr (· = g) (· = g))
  case atStart => exact ⟨0, 0, by omega, rfl, rfl, rfl, H0.out, Chg.refl _ _⟩
  case round =>
    obtain ⟨j, n, hj, rfl, rfl, hn, hd, hc⟩ := hrel
    have HN := hid hn
    have HD := hid hd
    have HC := hid hc
    by_cases hlt : j < 32
    · have hjn : (j : Int) < 32 := by omega
      have hle : n ≤ j := by rw [hn]; exact drIdx_le j
      have hat := drFg_at s z j
      clear hn hd hc
      cases ht : s z (j : Int) with
      | false =>
        rw [ht] at hat
        have HH := hid (drem_no HD.out (HK.out.fg z j) hat)
        have HS := hid (drFg_no s z j ht)
        have HL := hid (drIdx_no (p := s z) (n := j) ht)
        clear ht hat
        go_wp2_with (go_at_call 22; refine HH.out.mono ?_; rintro e w' ⟨rfl, d, rfl⟩)
        go_roundg (gk - 1)
        case measure => omega
        case rel => exact ⟨j + 1, n, by omega, rfl, by go_num, by rw [HL.out]; exact HN.out, by rw [HS.out]; exact HD.out.draws d, HC.out.draws d⟩
      | true =>
        rw [ht] at hat
        have HH := hid (drem_yes HD.out (HK.out.fg z j) hat)
        have HS := hid (drFg_yes s z j)
        have HL := hid (drIdx_yes (p := s z) (n := j) ht)
        clear ht hat
        go_wp2_with (go_at_call 22; refine HH.out.mono ?_; rintro e w' ⟨rfl, hd, hc⟩; have HD2 := hid hd; have HC2 := hid (HC.out.trans hc); clear hd hc)
        go_roundg (gk - 1)
        case measure => omega
        case rel => exact ⟨j + 1, n + 1, by omega, by go_num, by go_num, by rw [HL.out, List.length_append, ← HN.out]; rfl, by rw [HS.out]; exact HD2.out, HC2.out⟩
    · obtain rfl : j = 32 := by omega
      rw [HE.out] at HD
      clear hn hd hc
      go_wp2
      go_ret
      exact ⟨by rw [HN.out]; rfl, HD.out, HC.out⟩
set_option maxRecDepth 10000 in
set_option maxHeartbeats 1000000 in
theorem dfg_nil (w : World) (z : Int) : Calls Try.prog 20 #[.pointer none, .int .i64 z] w fun e w' => e = .returned (.int .i64 0) ∧ Below w.heap.size w w' := by
  go_enter Try.func20, Try.ntmps20
  go_wp2
  go_loopg [5, 7] 32 (fun gk x t wr => ∃ (j : Nat), j + gk = 32 ∧ x = .int .i64 0 ∧ t = .int .i64 j ∧ Below w.heap.size w wr)
  case atStart => exact ⟨0, by omega, rfl, rfl, Below.refl _ _⟩
  case round =>
    obtain ⟨j, hj, rfl, rfl, hb⟩ := hrel
    have HB := hid hb
    clear hb
    by_cases hlt : j < 32
    · have hjn : (j : Int) < 32 := by omega
      go_wp2_with (go_at_call 22; refine (drem_nil _ _ _).mono ?_; rintro e w' ⟨rfl, d, rfl⟩)
      go_roundg (gk - 1)
      case measure => omega
      case rel => exact ⟨j + 1, by omega, rfl, by go_num, below_draws HB.out _⟩
    · obtain rfl : j = 32 := by omega
      go_wp2
      go_ret
      exact ⟨rfl, HB.out⟩
end
/-- how many bits are set -/
def drPop (s : DrS) (y : Int) : Nat := drSum (fun x => (s x y).toNat) 4
set_option maxRecDepth 10000 in
set_option maxHeartbeats 4000000 in
theorem ones64 (n : Nat) (hn : n < 16) (w : World) : Calls Try.prog 30 #[.int .u64 n] w fun e w' => e = .returned (.int .i64 ((n % 2 + n / 2 % 2 + n / 4 % 2 + n / 8 % 2 : Nat) : Int)) ∧ w = w' := by
  have h : n = 0 ∨ n = 1 ∨ n = 2 ∨ n = 3 ∨ n = 4 ∨ n = 5 ∨ n = 6 ∨ n = 7 ∨ n = 8 ∨ n = 9 ∨ n = 10 ∨ n = 11 ∨ n = 12 ∨ n = 13 ∨ n = 14 ∨ n = 15 := by omega
  rcases h with rfl | rfl | rfl | rfl | rfl | rfl | rfl | rfl | rfl | rfl | rfl | rfl | rfl | rfl | rfl | rfl
  all_goals
    go_enter Try.func30, Try.ntmps30
    go_wp2
    go_ret
    exact ⟨by kernel_rfl, rfl⟩
theorem drPop_word (s : DrS) (y : Int) : drWord s y % 2 + drWord s y / 2 % 2 + drWord s y / 4 % 2 + drWord s y / 8 % 2 = drPop s y := by
  unfold drPop drWord
  show _ = (((0 + (s 0 y).toNat) + (s 1 y).toNat) + (s 2 y).toNat) + (s 3 y).toNat
  cases s 0 y <;> cases s 1 y <;> cases s 2 y <;> cases s 3 y <;> decide
set_option maxHeartbeats 400000 in
theorem ones_word (s : DrS) (y : Int) (w : World) : Calls Try.prog 28 #[.int .u64 (drWord s y)] w fun e w' => e = .returned (.int .i64 (drPop s y)) ∧ w = w' := by
  have HH := hid (fun w => ones64 (drWord s y) (drWord_lt s y) w)
  rw [drPop_word] at HH
  have hlt := drWord_lt s y
  generalize drWord s y = n at *
  generalize drPop s y = m at *
  have hn : (n : Int) < 16 := by omega
  go_enter Try.func28, Try.ntmps28
  go_wp2_with (go_at_call 30; refine (HH.out _).mono ?_; rintro e w' ⟨rfl, rfl⟩)
  go_ret
  exact ⟨rfl, rfl⟩
theorem infoUint : (Try.prog.info? 46).map (fun i => (i.zero, i.size, i.bytes)) = some (some (.int .u64 0), 1, 8) := by kernel_rfl
/-- the cells from an address on, loaded whole -/
theorem wpList_load_from {P : Program} {ops : Array Oper} {rest : List Oper} {op : Oper} {a : Act} {w : World} {Q : Exit → Act → World → Prop} (hgd : op.guard = none) (ty : TypeId) (x : Operand) (ho : op.op = .load ty x)
    (p : Addr) (hx : a.eval x = .pointer (some p)) (cs : List Value) (d : TypeDesc) (hc : ∀ j v, cs[j]? = some v → w.cell? (p.add j) = some v)
    (hu : P.underlying ty = some d) (hd : d.isRow = true) (hi : (P.info? ty).map (·.size) = some cs.length)
    (h : wpList P ops Q rest (a.put op.dst (.agg cs.toArray)) w) : wpList P ops Q (op :: rest) a w := by
  have hl : (loadCells p cs.length).run P w = .ok cs.toArray w := run_loadCells_list (P := P) w p cs hc
  have hrun : (loadVar ty p).run P w = .ok (.agg cs.toArray) w := by
    cases hq : P.info? ty with
    | none => simp [hq] at hi
    | some i =>
      have hs : i.size = cs.length := by simpa [hq] using hi
      have hagg : (isAgg ty).run P w = .ok true w := by
        unfold isAgg
        rw [Sem.run_bind, run_underlying hu w]
        cases d <;> simp_all
      simp [loadVar, Sem.run_bind, hagg, sizeOf, typeInfo, hq, hs, hl]
  refine wpList_plain hgd fun K hK => ?_
  unfold Oper.wp execOp
  simp only [ho, hx, Instr.loadAt, Instr.sureAddr, Sem.run_bind, Sem.run_pure, Result.andThen_ok, hrun]
  exact hK _ _ h
theorem index32 (cs : Array Value) (q : Nat) (v : Value) (hq : q < 32) (hv : cs[q]? = some v) (w : World) : (Instr.index 47 (.agg cs) (.int .i64 q)).run Try.prog w = .ok v w := by
  obtain ⟨i, hi, hz, hs, hb⟩ := info_parts infoUint
  have hagg : ∀ w, (isAgg 46).run Try.prog w = .ok false w := fun w => by unfold isAgg; rw [Sem.run_bind, run_underlying Try.underlying46 w]; rfl
  have h0 : (q : Int) < 32 := by omega
  simp [Instr.index, asIntOf, run_underlying Try.underlying47, part, hagg, hv, sizeOf, typeInfo, hi, hs]
  intro h
  omega
/-- the words -/
def drWords (s : DrS) : List Value := (List.range 32).map fun y : Nat => .int .u64 (drWord s y)
theorem drWords_at (s : DrS) {y : Nat} (h : y < 32) : (drWords s)[y]? = some (.int .u64 (drWord s y)) := by
  unfold drWords
  rw [List.getElem?_map, List.getElem?_range h]
  rfl
theorem drWords_len (s : DrS) : (drWords s).length = 32 := by simp [drWords]
section
variable {w : World} {g C B : Nat} {s : DrS}
set_option maxRecDepth 10000 in
set_option maxHeartbeats 1000000 in
theorem dlen_any (h : Dm w g C B s) : Calls Try.prog 18 #[.pointer (some ⟨g, 0, none⟩)] w fun e w' => e = .returned (.int .i64 (drLen s)) ∧ w = w' := by
  have HC := hid (show ∀ j v, (drWords s)[j]? = some v → w.cell? ((⟨g, 2, none⟩ : Addr).add j) = some v from fun j v e => by
    have hj : j < 32 := by have := (List.getElem?_eq_some_iff.1 e).1; rw [drWords_len] at this; exact this
    rw [drWords_at s hj] at e
    rw [← e, ← h.cY hj]
    unfold Addr.add
    by_cases h0 : j = 0
    · subst h0; rfl
    · rw [if_neg h0])
  have HLW := hid (show (Try.prog.info? 47).map (·.size) = some (drWords s).length from by rw [drWords_len]; kernel_rfl)
  have HIX := hid (fun (j : Nat) (hj : j < 32) (w : World) => index32 (drWords s).toArray j (.int .u64 (drWord s j)) hj (by rw [List.getElem?_toArray]; exact drWords_at s hj) w)
  have HON := hid (fun (j : Nat) (w : World) => ones_word s j w)
  have HST := hid (fun (j : Nat) => show drSum (fun y : Nat => drPop s y) (j + 1) = drSum (fun y : Nat => drPop s y) j + drPop s j from rfl)
  have HLE := hid (fun (j : Nat) => drSum_le (f := fun y : Nat => drPop s y) (k := 4) (fun _ => drSum_le (k := 1) (fun _ => toNat_le _) 4) j)
  have HE := hid (show drSum (fun y : Nat => drPop s y) 32 = drLen s from rfl)
  generalize drWords s = ws at *
  clear h
  go_enter Try.func18, Try.ntmps18
  go_upto_region 4 with fail
  go_wp2_with (go_loud (refine wpList_load_from rfl 47 (.tmp 10) rfl _ rfl ws _ HC.out Try.underlying47 rfl HLW.out ?_))
  go_loopg [3, 12] 32 (fun gk x t wr => ∃ (j : Nat), j + gk = 32 ∧ x = .int .i64 (drSum (fun y : Nat => drPop s y) j) ∧ t = .int .i64 j ∧ wr = w)
  case atStart => exact ⟨0, by omega, rfl, rfl, rfl⟩
  case round =>
    obtain ⟨j, hj, rfl, rfl, rfl⟩ := hrel
    by_cases hlt : j < 32
    · have hjn : (j : Int) < 32 := by omega
      have i0 := HIX.out j hlt
      have HO := hid (HON.out j)
      have HS := hid (HST.out j)
      have hle := HLE.out j
      have hle2 := HLE.out (j + 1)
      rw [HS.out] at hle2
      generalize drSum (fun y : Nat => drPop s y) j = n at *
      generalize drPop s j = m at *
      generalize ((drWord s j : Nat) : Int) = wd at *
      go_wp2_with (go_at_call 28; refine (HO.out _).mono ?_; rintro e w' ⟨rfl, rfl⟩)
      go_roundg (gk - 1)
      case measure => omega
      case rel => exact ⟨j + 1, by omega, by rw [HS.out]; go_num, by go_num, rfl⟩
    · obtain rfl : j = 32 := by omega
      rw [HE.out]
      go_wp2
      go_ret
      exact ⟨rfl, rfl⟩
set_option maxHeartbeats 400000 in
theorem dlen_nil (w : World) : Calls Try.prog 18 #[.pointer none] w fun e w' => e = .returned (.int .i64 0) ∧ w = w' := by
  go_enter Try.func18, Try.ntmps18
  go_wp2
  go_ret
  exact ⟨rfl, rfl⟩
end
/-- a number held within 1 and a greatest one -/
def drHeld (x : Int) (m : Nat) : Nat := (min (max x 1) (m : Int)).toNat
theorem drHeld_le (x : Int) {m : Nat} (hm : 1 ≤ m) : 1 ≤ drHeld x m ∧ drHeld x m ≤ m := by unfold drHeld; omega
theorem drHeld_4 (x : Int) : (x < 1 ∧ drHeld x 4 = 1) ∨ (¬ x < 1 ∧ 4 < x ∧ drHeld x 4 = 4) ∨ (¬ x < 1 ∧ ¬ 4 < x ∧ x = drHeld x 4) := by unfold drHeld; omega
theorem drHeld_32 (x : Int) : (x < 1 ∧ drHeld x 32 = 1) ∨ (¬ x < 1 ∧ 32 < x ∧ drHeld x 32 = 32) ∨ (¬ x < 1 ∧ ¬ 32 < x ∧ x = drHeld x 32) := by unfold drHeld; omega
theorem dr_cells0 (C B : Nat) : #[.int .i64 C, .int .i64 B] ++ Array.replicate 32 (Value.int .u64 0) = drCells C B dr0 := by
  refine Array.ext (by simp [drCells]) fun j h1 h2 => ?_
  have hj : j < 34 := by rw [drCells_size] at h2; exact h2
  simp only [drCells, Array.getElem_ofFn]
  by_cases h4 : j < 2
  · have h5 : j = 0 ∨ j = 1 := by omega
    rw [Array.getElem_append_left (by simp; omega)]
    rcases h5 with rfl | rfl <;> rfl
  · rw [Array.getElem_append_right (by simp; omega)]
    rw [Array.getElem_replicate, if_neg (show ¬ j = 0 from by omega), if_neg (show ¬ j = 1 from by omega)]
    rfl
/-- a directory that New has made -/
def DirNew (w : World) (x y : Int) (e : Ending) (w' : World) : Prop := ∃ g, e = .returned (.pointer (some ⟨g, 0, none⟩)) ∧ Dm w' g (drHeld x 4) (drHeld y 32) dr0 ∧ Below w.heap.size w w' ∧ w.heap.size ≤ g ∧ w'.heap.size = g + 1
/-- a struct that is built of its first two fields -/
theorem wpList_build2 {P : Program} {ops : Array Oper} {rest : List Oper} {o : Oper} {a : Act} {w : World} {Q : Exit → Act → World → Prop} (hgd : o.guard = none) (t : TypeId) (x y : Operand) (ho : o.op = .build t #[(0, x), (1, y)]) (u v : Value) (hx : a.eval x = u) (hy : a.eval y = v) (cs : Array Value)
    (hf : P.built t [(0, u), (1, v)] = some cs) (h : wpList P ops Q rest (a.put o.dst (.agg cs)) w) : wpList P ops Q (o :: rest) a w := by
  have hf2 : P.built t ((#[(0, x), (1, y)] : Array (Nat × Operand)).map fun (i, x) => (i, a.eval x)).toList = some cs := by
    subst hx
    subst hy
    simpa using hf
  exact wpList_plain hgd fun _ hK => wp_build t _ ho (by rw [hf2]; rfl) (by rw [hf2]; exact hK _ _ h)
set_option maxRecDepth 100000 in
theorem built_dir (x y : Int) : Try.prog.built 49 [(0, .int .i64 x), (1, .int .i64 y)] = some (#[.int .i64 x, .int .i64 y] ++ Array.replicate 32 (Value.int .u64 0)) := by kernel_rfl
end Go.Proofs.Ytdpniggabidmbaa
