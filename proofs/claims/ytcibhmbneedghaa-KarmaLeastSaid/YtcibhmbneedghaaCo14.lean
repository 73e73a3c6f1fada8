/-
  What is proved: KarmaCost's walk. Condition: hints and parts are read as such.
-/
import Derived.Test.YtcibhmbneedghaaRc14
import Derived.Test.YtcibhmbneedghaaLw14
namespace Go.Proofs.Ytcibhmbneedghaa
open Go.RowKit

/-- append onto a row of the call's own, as one operation -/
theorem wp_appV {P : Program} {S e : TypeId} {z : Value} {size bytes : Nat} (Z : Elt P S e z size bytes) {w : World} {o : Oper} {a : Act} {K : Act → World → Prop} {Q : Exit → Act → World → Prop} (s x : Operand)
    (ho : o.op = .call { callee := .builtin .append, args := #[s, x], argTypes := #[S, S] }) (b : Nat) (v : Value) (n : Nat) (us : List Value) (hown : OwnV w b e size v n us) (hs : a.eval s = v) (C : Nat) (A : Option Addr) (m c : Nat) (news : List Value)
    (hx : a.eval x = .slice A m c) (hm : news.length = m * size) (hr : Rv w C A news) (h1 : ∀ u ∈ news, u.oneCell' = true) (hlen : n + m ≤ maxLen) (hbytes : (n + m) * bytes ≤ 140737488355328) (hbase : b ≤ w.heap.size)
    (h : ∀ v' w', OwnV w' b e size v' (n + m) (us ++ news) → GrownV w w' v v' → K (a.put o.dst v') w') : o.wp P a w K Q := by
  obtain ⟨v', w', hrun, h2, h3⟩ := run_appV Z w o.type b v n us hown C A m c news hm hr h1 hlen hbytes hbase
  unfold Oper.wp execOp
  simp only [ho, resolve, invoke, builtin, Sem.run_bind, Sem.run_pure, Result.andThen_ok, List.map_toArray, List.map_cons, List.map_nil, hs, hx, hrun]
  exact h v' w' h2 h3
/-- four costs in a box -/
structure Kx (w0 w : World) (q : Nat) (k : Nat → Int) : Prop where
  bel : Below w0.heap.size w0 w
  bx : Bx w q 50 #[.int .i64 (k 0), .int .i64 (k 1), .int .i64 (k 2), .int .i64 (k 3)]
section
variable {w0 w w' : World} {q : Nat} {k : Nat → Int}
theorem Kx.new (w : World) (k : Nat → Int) : Kx w (w.alloc (.cells #[.int .i64 (k 0), .int .i64 (k 1), .int .i64 (k 2), .int .i64 (k 3)] 50)) w.heap.size k := ⟨below_alloc w _, Bx.new w _ _⟩
theorem Kx.below (h : Kx w0 w q k) (hb : Below w.heap.size w w') : Kx w0 w' q k := ⟨on h.bel hb, h.bx.next hb⟩
theorem Kx.all (h : Kx w0 w q k) : w.cell? ⟨q, 0, none⟩ = some (.int .i64 (k 0)) ∧ w.cell? ⟨q, 1, none⟩ = some (.int .i64 (k 1)) ∧ w.cell? ⟨q, 2, none⟩ = some (.int .i64 (k 2)) ∧ w.cell? ⟨q, 3, none⟩ = some (.int .i64 (k 3)) := ⟨h.bx.cell 0, h.bx.cell 1, h.bx.cell 2, h.bx.cell 3⟩
end
/-- what Cost tells, as the law has it -/
def CostV (hh : Nat → Hn) (n : Nat) (P : Nat → Nat → Int) (m : Nat) (k : Nat → Int) (T Bo E : Int) : Prop :=
  (¬ HintsP hh n 32 ∧ T = 0 ∧ Bo = 0 ∧ E = 14) ∨ (HintsP hh n 32 ∧ CBad n P m k ∧ T = 0 ∧ Bo = 0 ∧ E = 6) ∨ (HintsP hh n 32 ∧ ¬ CBad n P m k ∧ OBad hh n ∧ T = 0 ∧ Bo = 0 ∧ E = 4) ∨
  (HintsP hh n 32 ∧ ¬ CBad n P m k ∧ ¬ OBad hh n ∧ T = (sN (ct hh (fun i t => (P i t).toNat) (fun t => (k t).toNat) (cml (szs hh n))) n : Nat) ∧ Bo = (cml (szs hh n) : Nat) ∧ E = 0)
theorem Outs_succ {lo hi : Int} {f : Nat → Int} {n : Nat} : Outs lo hi f (n + 1) ↔ Outs lo hi f n ∨ (f n < lo ∨ hi < f n) := by
  constructor
  · rintro ⟨i, hi, h⟩
    by_cases e : i = n
    · subst e; exact .inr h
    · exact .inl ⟨i, by omega, h⟩
  · rintro (⟨i, hi, h⟩ | h)
    · exact ⟨i, by omega, h⟩
    · exact ⟨n, by omega, h⟩
theorem PBad_succ {P : Nat → Nat → Int} {m : Nat} : PBad P (m + 1) ↔ PBad P m ∨ Outs 0 32 (P m) 4 := by
  constructor
  · rintro ⟨i, hi, h⟩
    by_cases e : i = m
    · subst e; exact .inr h
    · exact .inl ⟨i, by omega, h⟩
  · rintro (⟨i, hi, h⟩ | h)
    · exact ⟨i, by omega, h⟩
    · exact ⟨m, by omega, h⟩
/-- the first N numbers of parts -/
def pvq (P : Nat → Nat → Int) (N : Nat) : List Value := (List.range N).map fun j => .int .i64 (P (j / 4) (j % 4))
theorem pvq_succ (P : Nat → Nat → Int) {j t : Nat} (ht : t < 4) : pvq P (j * 4 + (t + 1)) = pvq P (j * 4 + t) ++ [.int .i64 (P j t)] := by
  unfold pvq
  rw [show j * 4 + (t + 1) = (j * 4 + t) + 1 by omega, List.range_succ, List.map_append]
  show _ ++ [Value.int .i64 (P ((j * 4 + t) / 4) ((j * 4 + t) % 4))] = _
  rw [show (j * 4 + t) / 4 = j by omega, show (j * 4 + t) % 4 = t by omega]
set_option maxRecDepth 20000 in
set_option maxHeartbeats 8000000 in
theorem cost_short (A B : Option Addr) (n c m d : Nat) (hh : Nat → Hn) (P : Nat → Nat → Int) (k : Nat → Int) (T Bo E : Int) (w : World) (hn : n ≤ 20) (hm20 : m ≤ 20) (hr : Rv w w.heap.size A (hvs hh n)) (hp : Rv w w.heap.size B (pvs P m))
    (HCV : Hid (CostV hh n P m k T Bo E)) (HCO : Hid (∀ w' B' c', Rv w' w'.heap.size A (hvs hh n) → Rv w' w'.heap.size B' (pvs P m) → Calls Try.prog 23 #[.slice A n c, .slice B' m c', .agg #[.int .i64 (k 0), .int .i64 (k 1), .int .i64 (k 2), .int .i64 (k 3)]] w' fun e w'' => e = .returned (.tuple #[.int .i64 T, .int .i64 Bo, .int .i64 E]) ∧ Below w'.heap.size w' w'')) :
    Calls Try.prog 6 #[.slice A n c, .slice B m d, .agg #[.int .i64 (k 0), .int .i64 (k 1), .int .i64 (k 2), .int .i64 (k 3)]] w fun e w' => e = .returned (.bool true) ∧ Below w.heap.size w w' := by
  have hn20' : ¬ (n : Int) > 20 := by omega
  have hm20' : ¬ (m : Int) > 20 := by omega
  have HR := hid hr
  have HPR := hid hp
  have HX0 := hid (Kx.new w k)
  obtain ⟨q, hq⟩ : ∃ q, w.heap.size = q := ⟨_, rfl⟩
  have HQ2 := hid hq
  rw [hq] at HX0
  clear hr hp hq
  go_enter Try.func6, Try.ntmps6
  go_upto_region 1 with fail
  rw [HQ2.out]
  generalize w.alloc (.cells #[.int .i64 (k 0), .int .i64 (k 1), .int .i64 (k 2), .int .i64 (k 3)] 50) = w1 at *
  go_upto_region 5 with (go_at_call 10; refine (wakes_any _).mono ?_; rintro e w3 ⟨rfl, hb⟩; have HX3 := hid (HX0.out.below hb); clear hb)
  have HXD := hid (show Kx w w3.drew q k from HX3.out.below (below_draws (Below.refl _ _) 1))
  have HO := hid (show OwnV (w3.drew.alloc (.cells #[] 57)) w3.heap.size 57 4 (.slice (some ⟨w3.heap.size, 0, none⟩) 0 0) 0 [] from World.ownsRow_lit (size := 4) (e := 57) (base := w3.heap.size) w3.drew #[] 0 (Nat.le_refl _) (by unfold maxLen; omega) rfl)
  have HM := hid (show Rv (w3.drew.alloc (.cells #[] 57)) w3.heap.size B (pvs P m) from (show Rv w3.drew w3.drew.heap.size B (pvs P m) from HPR.out.now HXD.out.bel).below (below_alloc w3.drew _) (Nat.le_refl _))
  -- drawn
  refine wp_region_noPanic ?_
  refine wp_region_held_drew (S := fun w' => w'.cell? ⟨q, 0, none⟩ = some (.int .i64 (k 0)) ∧ w'.cell? ⟨q, 1, none⟩ = some (.int .i64 (k 1)) ∧ w'.cell? ⟨q, 2, none⟩ = some (.int .i64 (k 2)) ∧ w'.cell? ⟨q, 3, none⟩ = some (.int .i64 (k 3))) (by kernel_rfl) ?_ (fun hHeld => ?_)
  · exact HXD.out.all
  refine wpAnyH_take (i := 0) (oi := ⟨some 31, _, _, _, _, _⟩) (v := ?_) rfl (by kernel_rfl) (by kernel_rfl) (by kernel_rfl) (fun _ _ _ h => h) (Or.inl ⟨by rfl, ?_⟩) (by assumption) ?_
  rotate_left 1
  · intro w0 hSw
    obtain ⟨s0, s1, s2, s3⟩ := hSw
    go_simp
    try with_reducible rfl
  (try simp only [Act.put, List.setIfInBounds_toArray, List.set_cons_zero, List.set_cons_succ])
  refine wpAnyH_take (i := 2) (oi := ⟨some 33, _, _, _, _, _⟩) (v := ?_) rfl (by kernel_rfl) (by kernel_rfl) (by kernel_rfl) (fun _ _ _ h => h) (Or.inl ⟨by rfl, ?_⟩) (by assumption) ?_
  rotate_left 1
  · intro w0 hSw
    obtain ⟨s0, s1, s2, s3⟩ := hSw
    go_simp
    try with_reducible rfl
  (try simp only [Act.put, List.setIfInBounds_toArray, List.set_cons_zero, List.set_cons_succ])
  refine wpAnyH_take (i := 4) (oi := ⟨some 35, _, _, _, _, _⟩) (v := ?_) rfl (by kernel_rfl) (by kernel_rfl) (by kernel_rfl) (fun _ _ _ h => h) (Or.inl ⟨by rfl, ?_⟩) (by assumption) ?_
  rotate_left 1
  · intro w0 hSw
    obtain ⟨s0, s1, s2, s3⟩ := hSw
    go_simp
    try with_reducible rfl
  (try simp only [Act.put, List.setIfInBounds_toArray, List.set_cons_zero, List.set_cons_succ])
  refine wpAnyH_ready (rs := [1]) (by kernel_rfl) (by simp) ?_
  refine AllReadyH.cons (o := ⟨some 32, _, _, _, _, _⟩) rfl (fun K hK => ?_) AllReadyH.nil
  rw [if_pos (by rfl)]
  go_simp
  refine hK.out _ _ (HXD.out.below (below_alloc _ _)).all (fun hHeld => ?_)
  clear hK K
  (try simp only [Act.put, List.setIfInBounds_toArray, List.set_cons_zero, List.set_cons_succ])
  refine wpAnyH_ready (rs := [3]) (by kernel_rfl) (by simp) ?_
  refine AllReadyH.cons (o := ⟨some 34, _, _, _, _, _⟩) rfl (fun K hK => ?_) AllReadyH.nil
  rw [if_pos (by rfl)]
  refine wp_appV elt_part (.tmp 32) (.tmp 33) rfl w3.heap.size _ 0 [] HO.out rfl _ _ m d (pvs P m) rfl (pvs_length P m) HM.out (pvs_one P m) (by unfold maxLen; omega) (by omega) (by exact (below_alloc w3 (.cells #[] 57)).size) ?_
  intro v5 w5 hown hg5
  have hb5 : Below w3.drew.heap.size w3.drew w5 := (below_alloc w3.drew _).trans (hg5.below HO.out (by exact (below_alloc w3 (.cells #[] 57)).size))
  rw [List.nil_append, Nat.zero_add] at hown
  obtain ⟨A5, c5, rfl, hr5, -, -⟩ := own_row2 (w := w3.drew) hown (Nat.le_refl _)
  have HX5 := hid (HXD.out.below hb5)
  have HC5 := hid (HCO.out w5 A5 c5 (HR.out.now HX5.out.bel) hr5)
  have kp := HX5.out.all
  clear hown hg5 hb5 hr5
  refine hK.out _ _ kp (fun hHeld => ?_)
  clear hK K
  (try simp only [Act.put, List.setIfInBounds_toArray, List.set_cons_zero, List.set_cons_succ])
  refine wpAnyH_ready (rs := [5]) (by kernel_rfl) (by simp) ?_
  refine AllReadyH.cons (o := ⟨some 36, _, _, _, _, _⟩) rfl (fun K hK => ?_) AllReadyH.nil
  rw [if_pos (by rfl)]
  go_simp
  refine HC5.out.mono ?_
  rintro e w6 ⟨rfl, hb⟩
  have HX6 := hid (HX5.out.below hb)
  have kq := HX6.out.all
  clear hb
  go_simp
  refine hK.out _ _ kq (fun hHeld => ?_)
  clear hK K
  (try simp only [Act.put, List.setIfInBounds_toArray, List.set_cons_zero, List.set_cons_succ])
  refine wpAnyH_take (i := 6) (oi := ⟨some 30, _, _, _, _, _⟩) (v := ?_) rfl (by kernel_rfl) (by kernel_rfl) (by kernel_rfl) (fun _ _ _ h => h) (Or.inl ⟨by rfl, ?_⟩) (by assumption) ?_
  rotate_left 1
  · intro w0 hSw
    obtain ⟨s0, s1, s2, s3⟩ := hSw
    go_simp
    try with_reducible rfl
  (try simp only [Act.put, List.setIfInBounds_toArray, List.set_cons_zero, List.set_cons_succ])
  refine wpAnyH_take (i := 7) (oi := ⟨some 37, _, _, _, _, _⟩) (v := ?_) rfl (by kernel_rfl) (by kernel_rfl) (by kernel_rfl) (fun _ _ _ h => h) (Or.inl ⟨by rfl, ?_⟩) (by assumption) ?_
  rotate_left 1
  · intro w0 hSw
    obtain ⟨s0, s1, s2, s3⟩ := hSw
    go_simp
    try with_reducible rfl
  (try simp only [Act.put, List.setIfInBounds_toArray, List.set_cons_zero, List.set_cons_succ])
  refine wpAnyH_take (i := 8) (oi := ⟨some 38, _, _, _, _, _⟩) (v := ?_) rfl (by kernel_rfl) (by kernel_rfl) (by kernel_rfl) (fun _ _ _ h => h) (Or.inl ⟨by rfl, ?_⟩) (by assumption) ?_
  rotate_left 1
  · intro w0 hSw
    obtain ⟨s0, s1, s2, s3⟩ := hSw
    go_simp
    try with_reducible rfl
  (try simp only [Act.put, List.setIfInBounds_toArray, List.set_cons_zero, List.set_cons_succ])
  refine wpAnyH_take (i := 9) (oi := ⟨some 39, _, _, _, _, _⟩) (v := ?_) rfl (by kernel_rfl) (by kernel_rfl) (by kernel_rfl) (fun _ _ _ h => h) (Or.inl ⟨by rfl, ?_⟩) (by assumption) ?_
  rotate_left 1
  · intro w0 hSw
    obtain ⟨s0, s1, s2, s3⟩ := hSw
    go_simp
    try with_reducible rfl
  (try simp only [Act.put, List.setIfInBounds_toArray, List.set_cons_zero, List.set_cons_succ])
  refine wpAnyH_take (i := 10) (oi := ⟨some 7, _, _, _, _, _⟩) (v := ?_) rfl (by kernel_rfl) (by kernel_rfl) (by kernel_rfl) (fun _ _ _ h => h) (Or.inl ⟨by rfl, ?_⟩) (by assumption) ?_
  rotate_left 1
  · intro w0 hSw
    obtain ⟨s0, s1, s2, s3⟩ := hSw
    go_simp
    try with_reducible rfl
  (try simp only [Act.put, List.setIfInBounds_toArray, List.set_cons_zero, List.set_cons_succ])
  refine wpAnyH_take (i := 11) (oi := ⟨some 8, _, _, _, _, _⟩) (v := ?_) rfl (by kernel_rfl) (by kernel_rfl) (by kernel_rfl) (fun _ _ _ h => h) (Or.inl ⟨by rfl, ?_⟩) (by assumption) ?_
  rotate_left 1
  · intro w0 hSw
    obtain ⟨s0, s1, s2, s3⟩ := hSw
    go_simp
    try with_reducible rfl
  (try simp only [Act.put, List.setIfInBounds_toArray, List.set_cons_zero, List.set_cons_succ])
  refine wpAnyH_take (i := 12) (oi := ⟨some 9, _, _, _, _, _⟩) (v := ?_) rfl (by kernel_rfl) (by kernel_rfl) (by kernel_rfl) (fun _ _ _ h => h) (Or.inl ⟨by rfl, ?_⟩) (by assumption) ?_
  rotate_left 1
  · intro w0 hSw
    obtain ⟨s0, s1, s2, s3⟩ := hSw
    go_simp
    try with_reducible rfl
  (try simp only [Act.put, List.setIfInBounds_toArray, List.set_cons_zero, List.set_cons_succ])
  refine wpAnyH_done (by kernel_rfl) ?_ _
  refine NoPanic.normal ?_
  -- till here
  rcases HCV.out with ⟨h1, rfl, rfl, rfl⟩ | hrest
  · have HRH := hid (fun w hr => rhints_any A n c hh 32 w (by unfold maxLen; omega) hr)
    rw [dec_false h1] at HRH
    clear h1
    go_wp2_with (go_at_call 14; refine (HRH.out _ (HR.out.now HX6.out.bel)).mono ?_; rintro e w7 ⟨rfl, hb⟩; have HX7 := hid (HX6.out.below hb); clear hb)
    go_ret
    exact ⟨rfl, HX7.out.bel⟩
  · have hh1 : HintsP hh n 32 := by
      rcases hrest with h | h | h
      · exact h.1
      · exact h.1
      · exact h.1
    have HH := hid hh1
    have hn8 := hh1.1
    have HV := hid hrest
    have HRH := hid (fun w hr => rhints_any A n c hh 32 w (by unfold maxLen; omega) hr)
    rw [dec_true hh1] at HRH
    clear hrest hh1 HCV HCO HC5 HXD HO HM HX5
    go_upto_region 9 with (go_at_call 14; refine (HRH.out _ (HR.out.now HX6.out.bel)).mono ?_; rintro e w7 ⟨rfl, hb⟩; have HX7 := hid (HX6.out.below hb); clear hb)
    obtain ⟨b0, b1, b2, b3⟩ := HX7.out.all
    have HIX := hid (fun (j : Nat) (hj : j < 4) (W : World) => index4 #[.int .i64 (k 0), .int .i64 (k 1), .int .i64 (k 2), .int .i64 (k 3)] j (.int .i64 (k j)) hj (by
      have h4 : j = 0 ∨ j = 1 ∨ j = 2 ∨ j = 3 := by omega
      rcases h4 with rfl | rfl | rfl | rfl <;> rfl) W)
    have HE0 := hid (show ((m : Int) != (n : Int)) = dec (m ≠ n ∨ Outs 0 1000 k 0) from by
      by_cases e : m = n
      · rw [dec_false (by rintro (h | ⟨i, hi, _⟩); exact h e; omega), e]; simp
      · rw [dec_true (.inl e)]; simp; omega)
    go_wp2
    clear b0 b1 b2 b3
    go_loopg [10, 59] 4 (fun gk t10 t59 wr => ∃ j : Nat, j + gk = 4 ∧ t10 = .bool (dec (m ≠ n ∨ Outs 0 1000 k j)) ∧ t59 = .int .i64 j ∧ wr = w7)
    case atStart => exact ⟨0, by omega, congrArg Value.bool HE0.out, rfl, rfl⟩
    case round =>
      obtain ⟨j, hj, rfl, rfl, rfl⟩ := hrel
      by_cases hlt : j < 4
      · have hlt' : (j : Int) < 4 := by omega
        have i0 := HIX.out j hlt
        have HS := hid (show (m ≠ n ∨ Outs 0 1000 k (j + 1)) ↔ (m ≠ n ∨ Outs 0 1000 k j) ∨ (k j < 0 ∨ 1000 < k j) from by rw [Outs_succ, or_assoc])
        by_cases hb : m ≠ n ∨ Outs 0 1000 k j
        · rw [dec_true hb]
          have HN := hid (show dec (m ≠ n ∨ Outs 0 1000 k (j + 1)) = true from dec_true (HS.out.2 (.inl hb)))
          clear hb
          go_wp2
          go_roundg (gk - 1)
          case measure => omega
          case rel => exact ⟨j + 1, by omega, by rw [HN.out], by go_num, rfl⟩
        · rw [dec_false hb]
          generalize k j = kj at *
          by_cases h1 : kj < 0
          · have HN := hid (show dec (m ≠ n ∨ Outs 0 1000 k (j + 1)) = true from dec_true (HS.out.2 (.inr (.inl h1))))
            clear hb
            go_wp2
            go_roundg (gk - 1)
            case measure => omega
            case rel => exact ⟨j + 1, by omega, by rw [HN.out], by go_num, rfl⟩
          · by_cases h2 : kj > 1000
            · have HN := hid (show dec (m ≠ n ∨ Outs 0 1000 k (j + 1)) = true from dec_true (HS.out.2 (.inr (.inr h2))))
              clear hb
              go_wp2
              go_roundg (gk - 1)
              case measure => omega
              case rel => exact ⟨j + 1, by omega, by rw [HN.out], by go_num, rfl⟩
            · have HN := hid (show dec (m ≠ n ∨ Outs 0 1000 k (j + 1)) = false from dec_false fun h => (HS.out.1 h).elim hb (by omega))
              clear hb
              go_wp2
              go_roundg (gk - 1)
              case measure => omega
              case rel => exact ⟨j + 1, by omega, by rw [HN.out], by go_num, rfl⟩
      · have hlt' : ¬ (j : Int) < 4 := by omega
        have hj4 : j = 4 := by omega
        subst hj4
        obtain ⟨C0, hC0⟩ : ∃ C0 : Prop, C0 = (m ≠ n ∨ Outs 0 1000 k 4) := ⟨_, rfl⟩
        have HC0 := hid hC0
        rw [← hC0]
        clear hC0 hlt hj
        go_wp2
        generalize wr = ws at *
        have HBW0 := hid (Below.refl ws.heap.size ws)
        obtain ⟨bs, hbs⟩ : ∃ x, ws.heap.size = x := ⟨_, rfl⟩
        have HBSE := hid hbs
        rw [hbs] at HBW0
        have HQB := hid (show q < bs from by rw [← hbs]; exact HX7.out.bx.lt)
        have HWB := hid (show w.heap.size ≤ bs from by rw [← hbs]; exact HX7.out.bel.size)
        clear hbs
        go_loopg [10, 13, 74] m (fun gk t10 t13 t74 wi => ∃ j : Nat, j + gk = m ∧ t10 = .bool (dec (C0 ∨ PBad P j)) ∧ t74 = .int .i64 j ∧ OwnV wi bs 3 1 t13 (j * 4) (pvq P (j * 4)) ∧ Below bs ws wi)
        case atStart => exact ⟨0, by omega, by rw [dec_congr (p := C0 ∨ PBad P 0) (q := C0) ⟨fun h => h.resolve_right fun ⟨i, hi, _⟩ => absurd hi (Nat.not_lt_zero i), .inl⟩], rfl, ownV_nil _ _ _ _, HBW0.out⟩
        case round =>
          clear HBW0
          obtain ⟨j, hj, rfl, rfl, how, hbw⟩ := hrel
          have HOW := hid how
          have HBW := hid hbw
          have HBZ := hid (show bs ≤ wr.heap.size from by have h := hbw.size; rw [HBSE.out] at h; exact h)
          clear how hbw
          by_cases hlt : j < m
          · have hlt' : (j : Int) < (m : Int) := by omega
            obtain ⟨bd, rfl, hpt⟩ := (HPR.out.now (HX7.out.bel.trans (HBW.out.mono HWB.out))).part hlt
            have k0 := hpt.c0
            have k1 := hpt.c1
            have k2 := hpt.c2
            have k3 := hpt.c3
            have HIP := hid (fun (t : Nat) (ht : t < 4) (W : World) => index4 #[.int .i64 (P j 0), .int .i64 (P j 1), .int .i64 (P j 2), .int .i64 (P j 3)] t (.int .i64 (P j t)) ht (by
              have h4 : t = 0 ∨ t = 1 ∨ t = 2 ∨ t = 3 := by omega
              rcases h4 with rfl | rfl | rfl | rfl <;> rfl) W)
            have HPS := hid (PBad_succ (P := P) (m := j))
            have hcb := Bx.new wr 57 #[.int .i64 (P j 0), .int .i64 (P j 1), .int .i64 (P j 2), .int .i64 (P j 3)]
            have HOW2 := hid (HOW.out.below (below_alloc wr (.cells #[.int .i64 (P j 0), .int .i64 (P j 1), .int .i64 (P j 2), .int .i64 (P j 3)] 57)))
            have HBW2 := hid (HBW.out.trans ((below_alloc wr (.cells #[.int .i64 (P j 0), .int .i64 (P j 1), .int .i64 (P j 2), .int .i64 (P j 3)] 57)).mono HBZ.out))
            clear hpt
            go_upto_region 18 with fail
            obtain ⟨xb, hxb⟩ : ∃ x, wr.heap.size = x := ⟨_, rfl⟩
            rw [hxb] at hcb ⊢
            clear k0 k1 k2 k3
            generalize wr.alloc (.cells #[.int .i64 (P j 0), .int .i64 (P j 1), .int .i64 (P j 2), .int .i64 (P j 3)] 57) = w8 at *
            have k0 : w8.cell? ⟨xb, 0, none⟩ = some (.int .i64 (P j 0)) := hcb.cell 0
            have k1 : w8.cell? ⟨xb, 1, none⟩ = some (.int .i64 (P j 1)) := hcb.cell 1
            have k2 : w8.cell? ⟨xb, 2, none⟩ = some (.int .i64 (P j 2)) := hcb.cell 2
            have k3 : w8.cell? ⟨xb, 3, none⟩ = some (.int .i64 (P j 3)) := hcb.cell 3
            clear hcb
            generalize gk = K0 at *
            go_wp2
            clear k0 k1 k2 k3
            go_loopg [10, 13, 80] 4 (fun gk t10 t13 t80 wi => ∃ t : Nat, t + gk = 4 ∧ t10 = .bool (dec (C0 ∨ PBad P j ∨ Outs 0 32 (P j) t)) ∧ t80 = .int .i64 t ∧ OwnV wi bs 3 1 t13 (j * 4 + t) (pvq P (j * 4 + t)) ∧ Below bs ws wi)
            case atStart => exact ⟨0, by omega, by rw [dec_congr (p := C0 ∨ PBad P j ∨ Outs 0 32 (P j) 0) (q := C0 ∨ PBad P j) (or_congr Iff.rfl ⟨fun h => h.resolve_right fun ⟨i, hi, _⟩ => absurd hi (Nat.not_lt_zero i), .inl⟩)], rfl, HOW2.out, HBW2.out⟩
            case round =>
              clear HOW2 HBW2 HOW HBW HBZ
              obtain ⟨t, ht, rfl, rfl, how, hbw⟩ := hrel
              have HOW := hid how
              have HBW := hid hbw
              have HBZ := hid (show bs ≤ wr.heap.size from by have h := hbw.size; rw [HBSE.out] at h; exact h)
              clear how hbw
              by_cases ht4 : t < 4
              · have ht4' : (t : Int) < 4 := by omega
                have i0 := HIP.out t ht4
                have HS := hid (show (C0 ∨ PBad P j ∨ Outs 0 32 (P j) (t + 1)) ↔ (C0 ∨ PBad P j ∨ Outs 0 32 (P j) t) ∨ (P j t < 0 ∨ 32 < P j t) from by rw [Outs_succ, or_assoc, or_assoc])
                obtain ⟨pt, hpt⟩ : ∃ x, P j t = x := ⟨_, rfl⟩
                have HPT := hid hpt
                rw [hpt] at i0 HS
                clear hpt
                by_cases hb : C0 ∨ PBad P j ∨ Outs 0 32 (P j) t
                · rw [dec_true hb]
                  have HN := hid (show dec (C0 ∨ PBad P j ∨ Outs 0 32 (P j) (t + 1)) = true from dec_true (HS.out.2 (.inl hb)))
                  clear hb
                  go_upto_region 22 with fail
                  go_wp2_with (at_builtin; refine wpList_appV elt_int rfl (.tmp 92) (.tmp 94) rfl bs _ (j * 4 + t) (pvq P (j * 4 + t)) (HOW.out.below (below_alloc wr _)) rfl _ _ 1 1 [.int .i64 pt] rfl rfl (rv_new wr 3 #[.int .i64 pt]) (fun u hu => by simp at hu; rw [hu]; rfl) (by unfold maxLen; omega) (by omega) (by rw [World.size_alloc]; have := HBZ.out; omega) ?_; intro v8 w8 hown hg8; have HOW8 := hid hown; have HB8 := hid (show Below bs ws w8 from HBW.out.trans (((below_alloc wr (.cells #[.int .i64 pt] 3)).mono HBZ.out).trans (hg8.below (HOW.out.below (below_alloc wr _)) (by rw [World.size_alloc]; have := HBZ.out; omega)))); clear hown hg8)
                  go_roundg (gk - 1)
                  case measure => omega
                  case rel => exact ⟨t + 1, by omega, by rw [HN.out], by go_num, by rw [pvq_succ P ht4, HPT.out]; exact HOW8.out, HB8.out⟩
                · rw [dec_false hb]
                  by_cases h1 : pt < 0
                  · have HN := hid (show dec (C0 ∨ PBad P j ∨ Outs 0 32 (P j) (t + 1)) = true from dec_true (HS.out.2 (.inr (.inl h1))))
                    clear hb
                    go_upto_region 22 with fail
                    go_wp2_with (at_builtin; refine wpList_appV elt_int rfl (.tmp 92) (.tmp 94) rfl bs _ (j * 4 + t) (pvq P (j * 4 + t)) (HOW.out.below (below_alloc wr _)) rfl _ _ 1 1 [.int .i64 pt] rfl rfl (rv_new wr 3 #[.int .i64 pt]) (fun u hu => by simp at hu; rw [hu]; rfl) (by unfold maxLen; omega) (by omega) (by rw [World.size_alloc]; have := HBZ.out; omega) ?_; intro v8 w8 hown hg8; have HOW8 := hid hown; have HB8 := hid (show Below bs ws w8 from HBW.out.trans (((below_alloc wr (.cells #[.int .i64 pt] 3)).mono HBZ.out).trans (hg8.below (HOW.out.below (below_alloc wr _)) (by rw [World.size_alloc]; have := HBZ.out; omega)))); clear hown hg8)
                    go_roundg (gk - 1)
                    case measure => omega
                    case rel => exact ⟨t + 1, by omega, by rw [HN.out], by go_num, by rw [pvq_succ P ht4, HPT.out]; exact HOW8.out, HB8.out⟩
                  · by_cases h2 : pt > 32
                    · have HN := hid (show dec (C0 ∨ PBad P j ∨ Outs 0 32 (P j) (t + 1)) = true from dec_true (HS.out.2 (.inr (.inr h2))))
                      clear hb
                      go_upto_region 22 with fail
                      go_wp2_with (at_builtin; refine wpList_appV elt_int rfl (.tmp 92) (.tmp 94) rfl bs _ (j * 4 + t) (pvq P (j * 4 + t)) (HOW.out.below (below_alloc wr _)) rfl _ _ 1 1 [.int .i64 pt] rfl rfl (rv_new wr 3 #[.int .i64 pt]) (fun u hu => by simp at hu; rw [hu]; rfl) (by unfold maxLen; omega) (by omega) (by rw [World.size_alloc]; have := HBZ.out; omega) ?_; intro v8 w8 hown hg8; have HOW8 := hid hown; have HB8 := hid (show Below bs ws w8 from HBW.out.trans (((below_alloc wr (.cells #[.int .i64 pt] 3)).mono HBZ.out).trans (hg8.below (HOW.out.below (below_alloc wr _)) (by rw [World.size_alloc]; have := HBZ.out; omega)))); clear hown hg8)
                      go_roundg (gk - 1)
                      case measure => omega
                      case rel => exact ⟨t + 1, by omega, by rw [HN.out], by go_num, by rw [pvq_succ P ht4, HPT.out]; exact HOW8.out, HB8.out⟩
                    · have HN := hid (show dec (C0 ∨ PBad P j ∨ Outs 0 32 (P j) (t + 1)) = false from dec_false fun h => (HS.out.1 h).elim hb (by omega))
                      clear hb
                      go_upto_region 22 with fail
                      go_wp2_with (at_builtin; refine wpList_appV elt_int rfl (.tmp 92) (.tmp 94) rfl bs _ (j * 4 + t) (pvq P (j * 4 + t)) (HOW.out.below (below_alloc wr _)) rfl _ _ 1 1 [.int .i64 pt] rfl rfl (rv_new wr 3 #[.int .i64 pt]) (fun u hu => by simp at hu; rw [hu]; rfl) (by unfold maxLen; omega) (by omega) (by rw [World.size_alloc]; have := HBZ.out; omega) ?_; intro v8 w8 hown hg8; have HOW8 := hid hown; have HB8 := hid (show Below bs ws w8 from HBW.out.trans (((below_alloc wr (.cells #[.int .i64 pt] 3)).mono HBZ.out).trans (hg8.below (HOW.out.below (below_alloc wr _)) (by rw [World.size_alloc]; have := HBZ.out; omega)))); clear hown hg8)
                      go_roundg (gk - 1)
                      case measure => omega
                      case rel => exact ⟨t + 1, by omega, by rw [HN.out], by go_num, by rw [pvq_succ P ht4, HPT.out]; exact HOW8.out, HB8.out⟩
              · have ht4' : ¬ (t : Int) < 4 := by omega
                have ht5 : t = 4 := by omega
                subst ht5
                have HN := hid (show dec (C0 ∨ PBad P (j + 1)) = dec (C0 ∨ PBad P j ∨ Outs 0 32 (P j) 4) from dec_congr (or_congr Iff.rfl HPS.out))
                go_wp2
                go_roundg (K0 - 1)
                case measure => omega
                case rel => exact ⟨j + 1, by omega, by rw [HN.out], by go_num, by rw [show (j + 1) * 4 = j * 4 + 4 by omega]; exact HOW.out, HBW.out⟩
          · have hlt' : ¬ (j : Int) < (m : Int) := by omega
            have hjm : m = j := by omega
            subst hjm
            have HXE := hid (show Kx w wr q k from ⟨HX7.out.bel.trans (HBW.out.mono HWB.out), (HBW.out.block q HQB.out).trans HX7.out.bx⟩)
            have HCB := hid (show (C0 ∨ PBad P m) ↔ CBad n P m k from by
              rw [HC0.out]
              unfold CBad
              constructor
              · rintro ((h | h) | h)
                · exact .inl h
                · exact .inr (.inr h)
                · exact .inr (.inl h)
              · rintro (h | h | h)
                · exact .inl (.inl h)
                · exact .inr h
                · exact .inl (.inr h))
            rw [dec_congr HCB.out]
            rcases HV.out with ⟨-, h1, rfl, rfl, rfl⟩ | ⟨-, h1, h2, rfl, rfl, rfl⟩ | ⟨-, h1, h2, rfl, rfl, rfl⟩
            · rw [dec_true h1]
              go_wp2
              go_ret
              exact ⟨rfl, HXE.out.bel⟩
            · rw [dec_false h1]
              have HOB := hid h2
              clear h1 h2
              go_wp2
              go_loopg [111] n (fun gk t111 wi => ∃ i : Nat, i + gk = n ∧ t111 = .int .i64 i ∧ (∀ i', i' < i → ¬ (hh i').o > 100000) ∧ Kx w wi q k)
              case atStart => exact ⟨0, by omega, rfl, fun i' h => absurd h (Nat.not_lt_zero i'), HXE.out⟩
              case round =>
                clear HXE
                obtain ⟨i, hi, rfl, hall, hx⟩ := hrel
                have HALL := hid hall
                have HX := hid hx
                skip
                clear hall hx
                by_cases hlt : i < n
                · have hlt' : (i : Int) < (n : Int) := by omega
                  obtain ⟨ad, rfl, hat⟩ := (HR.out.now HX.out.bel).hint hlt
                  have HFO := hid (fun (h : 100000 < (hh i).o) => (show OBad hh n from ⟨i, hlt, .inr h⟩))
                  have HNX := hid (fun (h : ¬ (hh i).o > 100000) i' (h' : i' < i + 1) => (show ¬ (hh i').o > 100000 from by
                    by_cases e : i' = i
                    · rw [e]; exact h
                    · exact HALL.out i' (by omega)))
                  obtain ⟨⟨f, s, o, l⟩, hH⟩ : ∃ x, hh i = x := ⟨_, rfl⟩
                  rw [hH] at hat HFO HNX
                  have c0 := hat.f
                  have c1 := hat.s
                  have c2 := hat.o
                  have c3 := hat.l
                  dsimp only at c0 c1 c2 c3 HFO HNX
                  have hbx := below_alloc wr (.cells #[.int .i64 f, .int .i64 s, .int .i64 o, .bool l] 45)
                  have HX2 := hid (HX.out.below hbx)
                  skip
                  have HH2 := hid (hbox_new wr ⟨f, s, o, l⟩ 45)
                  clear hat hH hbx
                  go_upto_region 30 with fail
                  obtain ⟨xb, hxb⟩ : ∃ x, wr.heap.size = x := ⟨_, rfl⟩
                  rw [hxb] at HH2 ⊢
                  clear c0 c1 c2 c3
                  generalize wr.alloc (.cells #[.int .i64 f, .int .i64 s, .int .i64 o, .bool l] 45) = w9 at *
                  have x2 := HH2.out.o
                  dsimp only at x2
                  by_cases ho : o > 100000
                  · go_wp2
                    go_ret
                    exact ⟨rfl, HX2.out.bel⟩
                  · have HN2 := hid (HNX.out ho)
                    go_wp2
                    go_roundg (gk - 1)
                    case measure => omega
                    case rel => exact ⟨i + 1, by omega, by go_num, HN2.out, HX2.out⟩
                · have hlt' : ¬ (i : Int) < (n : Int) := by omega
                  have hin : n = i := by omega
                  subst hin
                  exact absurd HOB.out (by
                    rintro ⟨i', h1, h2⟩
                    have h3 := HALL.out i' h1
                    have h4 := HH.out.2.1 i' h1
                    unfold okH at h4
                    omega)
            · rw [dec_false h1]
              have HOB := hid h2
              have HNB := hid h1
              obtain ⟨A13, c13, rfl, hr13, -, -⟩ := own_row2 (w := ws) HOW.out (by rw [HBSE.out]; exact Nat.le_refl _)
              have HAL := hid hr13
              clear h1 h2 hr13
              go_wp2
              go_loopg [111] n (fun gk t111 wi => ∃ i : Nat, i + gk = n ∧ t111 = .int .i64 i ∧ (∀ i', i' < i → ¬ (hh i').o > 100000) ∧ Kx w wi q k ∧ Rv wi wi.heap.size A13 (pvq P (m * 4)))
              case atStart => exact ⟨0, by omega, rfl, fun i' h => absurd h (Nat.not_lt_zero i'), HXE.out, HAL.out⟩
              case round =>
                clear HXE HAL
                obtain ⟨i, hi, rfl, hall, hx, hal⟩ := hrel
                have HALL := hid hall
                have HX := hid hx
                have HAL := hid hal
                clear hall hx hal
                by_cases hlt : i < n
                · have hlt' : (i : Int) < (n : Int) := by omega
                  obtain ⟨ad, rfl, hat⟩ := (HR.out.now HX.out.bel).hint hlt
                  have HFO := hid (fun (h : 100000 < (hh i).o) => (show OBad hh n from ⟨i, hlt, .inr h⟩))
                  have HNX := hid (fun (h : ¬ (hh i).o > 100000) i' (h' : i' < i + 1) => (show ¬ (hh i').o > 100000 from by
                    by_cases e : i' = i
                    · rw [e]; exact h
                    · exact HALL.out i' (by omega)))
                  obtain ⟨⟨f, s, o, l⟩, hH⟩ : ∃ x, hh i = x := ⟨_, rfl⟩
                  rw [hH] at hat HFO HNX
                  have c0 := hat.f
                  have c1 := hat.s
                  have c2 := hat.o
                  have c3 := hat.l
                  dsimp only at c0 c1 c2 c3 HFO HNX
                  have hbx := below_alloc wr (.cells #[.int .i64 f, .int .i64 s, .int .i64 o, .bool l] 45)
                  have HX2 := hid (HX.out.below hbx)
                  have HAL2 := hid (HAL.out.now hbx)
                  have HH2 := hid (hbox_new wr ⟨f, s, o, l⟩ 45)
                  clear hat hH hbx
                  go_upto_region 30 with fail
                  obtain ⟨xb, hxb⟩ : ∃ x, wr.heap.size = x := ⟨_, rfl⟩
                  rw [hxb] at HH2 ⊢
                  clear c0 c1 c2 c3
                  generalize wr.alloc (.cells #[.int .i64 f, .int .i64 s, .int .i64 o, .bool l] 45) = w9 at *
                  have x2 := HH2.out.o
                  dsimp only at x2
                  by_cases ho : o > 100000
                  · exact absurd (HFO.out ho) HOB.out
                  · have HN2 := hid (HNX.out ho)
                    go_wp2
                    go_roundg (gk - 1)
                    case measure => omega
                    case rel => exact ⟨i + 1, by omega, by go_num, HN2.out, HX2.out, HAL2.out⟩
                · have hlt' : ¬ (i : Int) < (n : Int) := by omega
                  have hin : n = i := by omega
                  subst hin
                  have hmn : n = m := Classical.byContradiction fun h => HNB.out (.inl fun e => h e.symm)
                  subst hmn
                  have hnp : ∀ i, i < n → ∀ t, t < 4 → 0 ≤ P i t ∧ P i t ≤ 32 := fun i hi t ht => Classical.byContradiction fun h => HNB.out (.inr (.inl ⟨i, hi, t, ht, by omega⟩))
                  have hnk : ∀ t, t < 4 → 0 ≤ k t ∧ k t ≤ 1000 := fun t ht => Classical.byContradiction fun h => HNB.out (.inr (.inr ⟨t, ht, by omega⟩))
                  have hno : ∀ i, i < n → oft hh i ≤ 100000 := fun i hi => Classical.byContradiction fun h => HOB.out ⟨i, hi, .inr (by unfold oft at h; omega)⟩
                  have hps : pvq P (n * 4) = pvs (fun i t => (((P i t).toNat : Nat) : Int)) n := (show pvs P n = _ from pvs_congr fun i hi t ht => (Int.toNat_of_nonneg (hnp i hi t ht).1).symm)
                  rw [hps] at HAL
                  have HCM := hid (fun w hr => common_any A n c hh 32 w HH.out hr)
                  have hrc := fun w hr hp => rcost_any A A13 n c c13 (cml (szs hh n)) (n * 4) hh (fun i t => (P i t).toNat) (fun t => (k t).toNat) w rfl hr hp HH.out (fun i hi t ht => by have := hnp i hi t ht; omega) (fun t ht => by have := hnk t ht; omega) hno (szs_cml HH.out)
                  rw [show (((k 0).toNat : Nat) : Int) = k 0 from Int.toNat_of_nonneg (hnk 0 (by omega)).1, show (((k 1).toNat : Nat) : Int) = k 1 from Int.toNat_of_nonneg (hnk 1 (by omega)).1, show (((k 2).toNat : Nat) : Int) = k 2 from Int.toNat_of_nonneg (hnk 2 (by omega)).1, show (((k 3).toNat : Nat) : Int) = k 3 from Int.toNat_of_nonneg (hnk 3 (by omega)).1] at hrc
                  have HRC := hid hrc
                  clear hrc hps hnp hnk hno
                  obtain ⟨b0, b1, b2, b3⟩ := HX.out.all
                  generalize cml (szs hh n) = Bo at *
                  generalize sN (ct hh (fun i t => (P i t).toNat) (fun t => (k t).toNat) Bo) n = T at *
                  go_wp2_with (first
                    | (go_at_call 24; refine (HCM.out _ (HR.out.now HX.out.bel)).mono ?_; rintro e w10 ⟨rfl, rfl⟩)
                    | (go_at_call 26; refine (HRC.out _ (HR.out.now HX.out.bel) HAL.out).mono ?_; rintro e w11 ⟨rfl, hb⟩; have HX11 := hid (HX.out.below hb); clear hb))
                  go_ret
                  exact ⟨rfl, HX11.out.bel⟩
theorem cost_ref (A B : Option Addr) (n c m d : Nat) (hh : Nat → Hn) (P : Nat → Nat → Int) (k : Nat → Int) (r0 : Int) (w : World) (hn : n ≤ 20) (hm : m ≤ 20) (hr : Rv w w.heap.size A (hvs hh n)) (hp : Rv w w.heap.size B (pvs P m)) (h0 : r0 ≠ 0) (h : ∀ r, RefP hh n P m k r → r = r0) :
    Calls Try.prog 23 #[.slice A n c, .slice B m d, .agg #[.int .i64 (k 0), .int .i64 (k 1), .int .i64 (k 2), .int .i64 (k 3)]] w fun e w' => e = .returned (.tuple #[.int .i64 0, .int .i64 0, .int .i64 r0]) ∧ Below w.heap.size w w' :=
  (cost_bad A B n c m d hh P k w hn hm hr hp fun r hr => by rw [h r hr]; exact h0).mono fun e w' ⟨r, h1, h2, h3⟩ => ⟨by rw [h1, h r h2], h3⟩
theorem cost_cases (A : Option Addr) (n c m : Nat) (hh : Nat → Hn) (P : Nat → Nat → Int) (k : Nat → Int) (hn : n ≤ 20) (hm : m ≤ 20) :
    ∃ T Bo E : Int, CostV hh n P m k T Bo E ∧ ∀ w' B' c', Rv w' w'.heap.size A (hvs hh n) → Rv w' w'.heap.size B' (pvs P m) → Calls Try.prog 23 #[.slice A n c, .slice B' m c', .agg #[.int .i64 (k 0), .int .i64 (k 1), .int .i64 (k 2), .int .i64 (k 3)]] w' fun e w'' => e = .returned (.tuple #[.int .i64 T, .int .i64 Bo, .int .i64 E]) ∧ Below w'.heap.size w' w'' := by
  by_cases hH : HintsP hh n 32
  · by_cases hC : CBad n P m k
    · refine ⟨0, 0, 6, .inr (.inl ⟨hH, hC, rfl, rfl, rfl⟩), fun w' B' c' h1 h2 => cost_ref A B' n c m c' hh P k 6 w' hn hm h1 h2 (by decide) fun r h => ?_⟩
      rcases h with h | h | h | h
      · exact absurd hH h.1
      · exact h.2.2
      · exact absurd hC h.2.1
      · exact absurd hC h.2.1
    · by_cases hO : OBad hh n
      · refine ⟨0, 0, 4, .inr (.inr (.inl ⟨hH, hC, hO, rfl, rfl, rfl⟩)), fun w' B' c' h1 h2 => cost_ref A B' n c m c' hh P k 4 w' hn hm h1 h2 (by decide) fun r h => ?_⟩
        rcases h with h | h | h | h
        · exact absurd hH h.1
        · exact absurd h.2.1 hC
        · exact h.2.2.2
        · exact absurd hO h.2.2.1
      · refine ⟨_, _, 0, .inr (.inr (.inr ⟨hH, hC, hO, rfl, rfl, rfl⟩)), fun w' B' c' h1 h2 => ?_⟩
        have hmn : n = m := Classical.byContradiction fun h => hC (.inl fun e => h e.symm)
        subst hmn
        have hnp : ∀ i, i < n → ∀ t, t < 4 → 0 ≤ P i t ∧ P i t ≤ 32 := fun i hi t ht => Classical.byContradiction fun h => hC (.inr (.inl ⟨i, hi, t, ht, by omega⟩))
        have hnk : ∀ t, t < 4 → 0 ≤ k t ∧ k t ≤ 1000 := fun t ht => Classical.byContradiction fun h => hC (.inr (.inr ⟨t, ht, by omega⟩))
        have hno : ∀ i, i < n → oft hh i ≤ 100000 := fun i hi => Classical.byContradiction fun h => hO ⟨i, hi, .inr (by unfold oft at h; omega)⟩
        have hps : pvs P n = pvs (fun i t => (((P i t).toNat : Nat) : Int)) n := pvs_congr fun i hi t ht => (Int.toNat_of_nonneg (hnp i hi t ht).1).symm
        rw [hps] at h2
        have hg := cost_good A B' n c c' hh (fun i t => (P i t).toNat) (fun t => (k t).toNat) w' h1 h2 hH (fun i hi t ht => by have := hnp i hi t ht; omega) (fun t ht => by have := hnk t ht; omega) hno
        unfold c4n at hg
        rw [show (((k 0).toNat : Nat) : Int) = k 0 from Int.toNat_of_nonneg (hnk 0 (by omega)).1, show (((k 1).toNat : Nat) : Int) = k 1 from Int.toNat_of_nonneg (hnk 1 (by omega)).1, show (((k 2).toNat : Nat) : Int) = k 2 from Int.toNat_of_nonneg (hnk 2 (by omega)).1, show (((k 3).toNat : Nat) : Int) = k 3 from Int.toNat_of_nonneg (hnk 3 (by omega)).1] at hg
        exact hg
  · refine ⟨0, 0, 14, .inl ⟨hH, rfl, rfl, rfl⟩, fun w' B' c' h1 h2 => cost_ref A B' n c m c' hh P k 14 w' hn hm h1 h2 (by decide) fun r h => ?_⟩
    rcases h with h | h | h | h
    · exact h.2
    · exact absurd h.1 hH
    · exact absurd h.1 hH
    · exact absurd h.1 hH
set_option maxRecDepth 20000 in
set_option maxHeartbeats 1000000 in
theorem cost_walk (A B : Option Addr) (n c m d : Nat) (hh : Nat → Hn) (P : Nat → Nat → Int) (k : Nat → Int) (w : World) (hr : Rv w w.heap.size A (hvs hh n)) (hp : Rv w w.heap.size B (pvs P m)) :
    Calls Try.prog 6 #[.slice A n c, .slice B m d, .agg #[.int .i64 (k 0), .int .i64 (k 1), .int .i64 (k 2), .int .i64 (k 3)]] w fun e w' => e = .returned (.bool true) ∧ Below w.heap.size w w' := by
  by_cases hn : n ≤ 20
  · by_cases hm20 : m ≤ 20
    · obtain ⟨T, Bo, E, h1, h2⟩ := cost_cases A n c m hh P k hn hm20
      exact cost_short A B n c m d hh P k T Bo E w hn hm20 hr hp (hid h1) (hid h2)
    · have hn20' : ¬ (n : Int) > 20 := by omega
      have hm20' : (m : Int) > 20 := by omega
      have HX0 := hid (Kx.new w k)
      clear hr hp
      go_enter Try.func6, Try.ntmps6
      go_upto_region 1 with fail
      generalize w.alloc (.cells #[.int .i64 (k 0), .int .i64 (k 1), .int .i64 (k 2), .int .i64 (k 3)] 50) = w1 at *
      go_wp2_with (go_at_call 10; refine (wakes_any _).mono ?_; rintro e w3 ⟨rfl, hb⟩; have HX3 := hid (HX0.out.below hb); clear hb)
      go_ret
      exact ⟨rfl, HX3.out.bel⟩
  · have hn20' : (n : Int) > 20 := by omega
    have HX0 := hid (Kx.new w k)
    clear hr hp
    go_enter Try.func6, Try.ntmps6
    go_upto_region 1 with fail
    generalize w.alloc (.cells #[.int .i64 (k 0), .int .i64 (k 1), .int .i64 (k 2), .int .i64 (k 3)] 50) = w1 at *
    go_wp2_with (go_at_call 10; refine (wakes_any _).mono ?_; rintro e w3 ⟨rfl, hb⟩; have HX3 := hid (HX0.out.below hb); clear hb)
    go_ret
    exact ⟨rfl, HX3.out.bel⟩
end Go.Proofs.Ytcibhmbneedghaa
