/-
  What is proved: karma's densest answers the order of hints by density. Condition: the hints are right, and read as such.
-/
import Derived.Test.YtcibhmbneedghaaPm14
import Derived.Test.YtcibhmbneedghaaKq14
namespace Go.Proofs.Ytcibhmbneedghaa
open Go.RowKit

theorem made_same {z : Array Value} {u : Value} (h0 : 0 < z.size) (h : ∀ j, j < z.size → z[j]! = u) (m : Nat) : madeCells z m = (List.replicate m u).toArray := by
  unfold madeCells
  refine Array.ext (by simp) fun j h1 h2 => ?_
  simp only [Array.getElem_map, Array.getElem_range, List.getElem_toArray, List.getElem_replicate]
  exact h _ (Nat.mod_lt _ h0)
/-- a row of structs of equal cells is made -/
theorem wpList_makeS {P : Program} {S e : TypeId} {z : Value} {size bytes : Nat} (E : Elt P S e z size bytes) (u : Value) (hz1 : ∀ j, j < z.cells.size → z.cells[j]! = u) {w : World} {ops : Array Oper} {rest : List Oper} {o : Oper} {a : Act} {Q : Exit → Act → World → Prop} (hgd : o.guard = none) (x y : Operand)
    (ho : o.op = .makeSlice S x y) (n : Nat) (hx : a.eval x = .int .i64 n) (hy : a.eval y = .int .i64 n) (hbytes : bytes * n ≤ 281474976710656) (hn : n ≤ maxLen)
    (h : ∀ w1, Hid (w1 = w.alloc (.cells (List.replicate (n * size) u).toArray e)) → wpList P ops Q rest (a.put o.dst (.slice (some ⟨w.heap.size, 0, none⟩) n n)) w1) : wpList P ops Q (o :: rest) a w := by
  obtain ⟨i, hi, hz, hs, hb⟩ := info_parts E.info
  refine wpList_plain hgd fun K hK => ?_
  have hn' : (n : Int) ≤ 9223372036854775807 := by
    have := hn
    simp [maxLen] at this
    omega
  have hb' : (i.bytes : Int) * (n : Int) ≤ 281474976710656 := by
    have h : ((i.bytes * n : Nat) : Int) ≤ 281474976710656 := by rw [hb]; omega
    rwa [Int.natCast_mul] at h
  have hrun := run_make (P := P) w S e i z E.und hi hz .i64 .i64 n n (by omega) (Int.le_refl _) hb' hn'
  rw [made_same (by rw [E.zc]; exact E.pos) hz1, Int.toNat_natCast, hs] at hrun
  unfold Oper.wp execOp
  simp only [ho, hx, hy, hrun, Sem.run_bind, Sem.run_pure, Result.andThen_ok]
  exact hK _ _ (h _ rfl)
theorem infoFrac : (Try.prog.info? 82).map (fun i => (i.zero, i.size, i.bytes)) = some (some (.agg #[.int .i64 0, .int .i64 0]), 2, 16) := by kernel_rfl
theorem elt_frac : Elt Try.prog 80 82 (.agg #[.int .i64 0, .int .i64 0]) 2 16 := ⟨Try.underlying80, infoFrac, rfl, by decide⟩
theorem frac_same : ∀ j, j < (Value.agg #[.int .i64 0, .int .i64 0]).cells.size → (Value.agg #[.int .i64 0, .int .i64 0]).cells[j]! = .int .i64 0 := fun j hj => by
  have h : j < 2 := hj
  have h2 : j = 0 ∨ j = 1 := by omega
  rcases h2 with rfl | rfl <;> rfl
/-- the densities of the first q -/
def dns (hh : Nat → Hn) (q j : Nat) : Value := .int .i64 (if j / 2 < q then (if j % 2 = 0 then (hh (j / 2)).o else (hh (j / 2)).s) else 0)
/-- the order, as it is answered -/
def DensQ (hh : Nat → Hn) (n : Nat) (w : World) (e : Ending) (w' : World) : Prop :=
  ∃ (k : Nat) (d : Nat → Nat), e = .returned (.slice (some ⟨k, 0, none⟩) n n) ∧ (∀ i, i < n → w'.cell? ⟨k, i, none⟩ = some (.int .i64 (d i : Nat))) ∧ OrdH hh n d ∧ Below w.heap.size w w' ∧ w.heap.size ≤ k
set_option maxHeartbeats 1000000 in
theorem densest_any (A : Option Addr) (n c : Nat) (hh : Nat → Hn) (b : Int) (w : World) (hP : HintsP hh n b) (hr : Rv w w.heap.size A (hvs hh n)) :
    Calls Try.prog 42 #[.slice A n c] w (DensQ hh n w) := by
  have hn8 := hP.1
  have HR := hid hr
  have HP := hid hP
  clear hr hP
  go_enter Try.func42, Try.ntmps42
  go_upto_region 2 with (at_make; refine wpList_makeS elt_frac (.int .i64 0) frac_same rfl (.tmp 9) (.tmp 9) rfl n rfl rfl (by omega) (by unfold maxLen; omega) ?_; intro w1 hw1)
  obtain ⟨g, hg⟩ : ∃ g, w.heap.size = g := ⟨_, rfl⟩
  have hb1 : Below w.heap.size w w1 := by rw [hw1.out]; exact below_alloc w _
  have ha1 : Arr w1 g (n * 2) (dns hh 0) := by
    rw [hw1.out, ← hg]
    refine arr_new w _ _ _ fun j hj => ?_
    simp [dns, hj]
  rw [hg]
  have HB1 := hid hb1
  have HA1 := hid ha1
  have HG := hid hg
  clear hb1 ha1 hg hw1
  go_wp2
  go_loopg [13] n (fun gk t13 wr => ∃ q : Nat, q + gk = n ∧ t13 = .int .i64 q ∧ Below w.heap.size w wr ∧ Arr wr g (n * 2) (dns hh q))
  case atStart => exact ⟨0, by omega, rfl, HB1.out, HA1.out⟩
  case round =>
    clear HB1 HA1
    obtain ⟨q, hq, rfl, hb, ha⟩ := hrel
    have HB := hid hb
    have HA := hid ha
    clear hb ha
    by_cases hlt : q < n
    · have hlt' : (q : Int) < (n : Int) := by omega
      obtain ⟨ad, rfl, hat⟩ := (HR.out.now HB.out).hint hlt
      obtain ⟨⟨f, s, o, l⟩, hH⟩ : ∃ x, hh q = x := ⟨_, rfl⟩
      rw [hH] at hat
      have c0 := hat.f
      have c1 := hat.s
      have c2 := hat.o
      have c3 := hat.l
      dsimp only at c0 c1 c2 c3
      have HH := hid hH
      have hbx := below_alloc wr (.cells #[.int .i64 f, .int .i64 s, .int .i64 o, .bool l] 45)
      have HB3 := hid (on HB.out hbx)
      have HA3 := hid (HA.out.below hbx)
      have HH3 := hid (hbox_new wr ⟨f, s, o, l⟩ 45)
      have HGW := hid HA.out.lt
      clear hat hH hbx
      go_upto_region 5 with fail
      obtain ⟨hb, hhb⟩ : ∃ x, wr.heap.size = x := ⟨_, rfl⟩
      rw [hhb] at HH3 HGW ⊢
      clear c0 c1 c2 c3
      generalize wr.alloc (.cells #[.int .i64 f, .int .i64 s, .int .i64 o, .bool l] 45) = w3 at *
      have x1 := HH3.out.s
      have x2 := HH3.out.o
      dsimp only at x1 x2
      have a0 := HA3.out.cell (q * 2) (by omega)
      have a1 := HA3.out.cell (q * 2 + 1) (by omega)
      have b0 := HA3.out.free (q * 2) (by omega)
      have b1 := HA3.out.free (q * 2 + 1) (by omega)
      unfold dns at a0 a1
      have HB4 := hid (below_set (below_set HB3.out ⟨g, q * 2, none⟩ (.int .i64 o) (by rw [HG.out]; exact Nat.le_refl _)) ⟨g, q * 2 + 1, none⟩ (.int .i64 s) (by rw [HG.out]; exact Nat.le_refl _))
      have HA4 := hid (((HA3.out.set (i := q * 2) (by omega) (.int .i64 o)).set (i := q * 2 + 1) (by omega) (.int .i64 s)).alike (g := dns hh (q + 1)) fun j hj => by
        by_cases h1 : j = q * 2 + 1
        · rw [if_pos h1, h1]
          unfold dns
          rw [if_pos (by omega), if_neg (by omega), show (q * 2 + 1) / 2 = q by omega, HH.out]
        · rw [if_neg h1]
          by_cases h2 : j = q * 2
          · rw [if_pos h2, h2]
            unfold dns
            rw [if_pos (by omega), if_pos (by omega), show q * 2 / 2 = q by omega, HH.out]
          · rw [if_neg h2]
            unfold dns
            have h3 : j / 2 ≠ q := by omega
            by_cases h4 : j / 2 < q
            · rw [if_pos (by omega), if_pos h4]
            · rw [if_neg (by omega), if_neg h4])
      go_wp2
      go_roundg (gk - 1)
      case measure => omega
      case rel => exact ⟨q + 1, by omega, by go_num, HB4.out, HA4.out⟩
    · have hlt' : ¬ (q : Int) < (n : Int) := by omega
      obtain rfl : q = n := by omega
      have HOR := hid (fun wx (ha : Arr wx g (q * 2) (dns hh q)) => order_new wx (some ⟨g, 0, none⟩) g q q (fun i => (hh i).o) (fun i => (hh i).s) (by omega) (.inr rfl) (fun i hi => ⟨by
          rw [ha.cell (i * 2) (by omega)]
          unfold dns
          rw [if_pos (by omega), if_pos (by omega), show i * 2 / 2 = i by omega], by
          rw [ha.cell (i * 2 + 1) (by omega)]
          unfold dns
          rw [if_pos (by omega), if_neg (by omega), show (i * 2 + 1) / 2 = i by omega]⟩) (fun i hi => by
            have := HP.out.2.1 i hi
            unfold okH at this
            unfold okF plain
            omega))
      go_wp2_with (go_at_call 47; refine (HOR.out _ HA.out).mono ?_; rintro e w2 ⟨h | ⟨_, k, d, rfl, hd, hblk, hk⟩, hb⟩; exact absurd h.1 (by omega); have HD := hid hd; have HBK := hid hblk; have HK := hid (Nat.le_trans HB.out.size hk); have HB5 := hid (on HB.out hb); clear hd hblk hk hb)
      go_ret
      exact ⟨k, d, rfl, HD.out, ⟨fun i j h1 h2 => HBK.out.1 i j (Nat.zero_le _) h1 h2, fun i h => (HBK.out.2 i (Nat.zero_le _) h).2⟩, HB5.out, HK.out⟩
end Go.Proofs.Ytcibhmbneedghaa
