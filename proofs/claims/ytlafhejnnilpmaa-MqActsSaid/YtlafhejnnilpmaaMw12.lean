/-
  What is proved: bits.Len of small numbers; mq's queueOf. Condition: the MQ lies in memory as one.
-/
import Derived.Test.YtlafhejnnilpmaaMq12
import Derived.Lib.Tables
namespace Go.Proofs.Ytlafhejnnilpmaa
open Go.RowKit

set_option maxRecDepth 100000 in
theorem len8_log : ∀ n : Fin 256, 1 ≤ n.val → Lib.len8 (n.val : Int) = ((Nat.log2 n.val + 1 : Nat) : Int) := by decide +kernel
/-- a constant string at a place: its byte -/
theorem wpList_index_str {P : Program} {w : World} {ops : Array Oper} {rest : List Oper} {o : Oper} {a : Act} {Q : Exit → Act → World → Prop} (hgd : o.guard = none) (ty : TypeId) (s : ByteArray) (x : Operand) (ho : o.op = .index ty (.const (.string s)) x)
    (k : IntKind) (i v : Int) (hx : a.eval x = .int k i) (hv : (Instr.index ty (.string s) (.int k i)).run P w = .ok (.int .u8 v) w) (h : wpList P ops Q rest (a.put o.dst (.int .u8 v)) w) : wpList P ops Q (o :: rest) a w :=
  wpList_plain hgd fun K hK => by
    have hc : a.eval (.const (.string s)) = .string s := rfl
    unfold Oper.wp execOp
    simp only [ho, hx, hc, hv, Sem.run_bind, Sem.run_pure, Result.andThen_ok]
    exact hK _ _ h
set_option maxHeartbeats 1000000 in
set_option maxRecDepth 100000 in
theorem len64_any (n : Nat) (hn : 1 ≤ n ∧ n ≤ 255) (w : World) : Calls Try.prog 62 #[.int .u64 n] w fun e w' => e = .returned (.int .i64 ((Nat.log2 n + 1 : Nat))) ∧ w = w' := by
  have h := len8_log ⟨n, by omega⟩ hn.1
  have hl : Nat.log2 n < 8 := (Nat.log2_lt (by omega)).2 (by omega)
  obtain ⟨z, hz⟩ : ∃ z, Nat.log2 n + 1 = z := ⟨_, rfl⟩
  rw [hz] at h ⊢
  have hz9 : z ≤ 8 := by omega
  have h' : Lib.len8 (n : Int) = (z : Int) := h
  have n0 : (0 : Int) ≤ (n : Int) := by omega
  have n1 : (n : Int) ≤ 255 := by omega
  have HV := hid (fun (s : ByteArray) (hs : s = Lib.len8tab) (w : World) => show (Instr.index 9 (.string s) (.int .u8 n)).run Try.prog w = .ok (.int .u8 z) w from by
    rw [hs, Lib.run_index_len8tab w 9 .u8 n Try.underlying9 n0 n1, h'])
  clear hl hz h hn h'
  generalize (n : Int) = x at *
  go_enter Try.func62, Try.ntmps62
  generalize hsx : ({ data := (([0, 1, 2, 2, 3, 3, 3, 3, 4, 4, 4, 4, 4, 4, 4, 4, 5, 5, 5, 5, 5, 5, 5, 5, 5, 5, 5, 5, 5, 5, 5, 5, 6, 6, 6, 6, 6, 6, 6, 6, 6, 6, 6, 6, 6, 6, 6, 6, 6, 6, 6, 6, 6, 6, 6, 6, 6, 6, 6, 6, 6, 6, 6, 6].append [7, 7, 7, 7, 7, 7, 7, 7, 7, 7, 7, 7, 7, 7, 7, 7, 7, 7, 7, 7, 7, 7, 7, 7, 7, 7, 7, 7, 7, 7, 7, 7, 7, 7, 7, 7, 7, 7, 7, 7, 7, 7, 7, 7, 7, 7, 7, 7, 7, 7, 7, 7, 7, 7, 7, 7, 7, 7, 7, 7, 7, 7, 7, 7]).append ([8, 8, 8, 8, 8, 8, 8, 8, 8, 8, 8, 8, 8, 8, 8, 8, 8, 8, 8, 8, 8, 8, 8, 8, 8, 8, 8, 8, 8, 8, 8, 8, 8, 8, 8, 8, 8, 8, 8, 8, 8, 8, 8, 8, 8, 8, 8, 8, 8, 8, 8, 8, 8, 8, 8, 8, 8, 8, 8, 8, 8, 8, 8, 8].append [8, 8, 8, 8, 8, 8, 8, 8, 8, 8, 8, 8, 8, 8, 8, 8, 8, 8, 8, 8, 8, 8, 8, 8, 8, 8, 8, 8, 8, 8, 8, 8, 8, 8, 8, 8, 8, 8, 8, 8, 8, 8, 8, 8, 8, 8, 8, 8, 8, 8, 8, 8, 8, 8, 8, 8, 8, 8, 8, 8, 8, 8, 8, 8])).toArray } : ByteArray) = sx
  have HS := hid (show sx = Lib.len8tab from hsx.symm.trans (by kernel_rfl))
  clear hsx
  go_upto_region 10 with fail
  go_wp2_with (refine wpList_index_str rfl 9 _ (.tmp 21) rfl .u8 x z rfl (HV.out _ HS.out _) ?_)
  go_ret
  refine ⟨?_, rfl⟩
  go_num
set_option maxHeartbeats 400000 in
theorem bitlen_any (n : Nat) (hn : 1 ≤ n ∧ n ≤ 255) (w : World) : Calls Try.prog 55 #[.int .u64 n] w fun e w' => e = .returned (.int .i64 ((Nat.log2 n + 1 : Nat))) ∧ w = w' := by
  have HL := hid (len64_any n hn)
  generalize Nat.log2 n + 1 = z at *
  have n0 : (0 : Int) ≤ (n : Int) := by omega
  have n1 : (n : Int) ≤ 255 := by omega
  clear hn
  generalize (n : Int) = x at *
  go_enter Try.func55, Try.ntmps55
  go_wp2_with (go_at_call 62; refine (HL.out _).mono ?_; rintro e w' ⟨rfl, rfl⟩)
  go_ret
  exact ⟨rfl, rfl⟩
section
variable {w : World} {g k C N L H : Nat} {m : Ms}
set_option maxHeartbeats 1000000 in
theorem mq_queueof (h : Mq w g k C N L H m) (hN : 1 ≤ N ∧ N ≤ 8) (n : Int) (hn : 1 ≤ n ∧ n ≤ 255) : Calls Try.prog 45 #[.pointer (some ⟨g, 0, none⟩), .int .i64 n] w fun e w' => e = .returned (.int .i64 (qn n N : Nat)) ∧ ∃ d, w' = w.drewN d := by
  have c2 := h.c2
  obtain ⟨p, rfl⟩ : ∃ p : Nat, n = p := ⟨n.toNat, by omega⟩
  have hwr : IntKind.u64.wrap (p : Int) = (p : Int) := by
    show (p : Int) % 18446744073709551616 = p
    omega
  have HB := hid (fun w => show Calls Try.prog 55 #[.int .u64 (IntKind.u64.wrap (p : Int))] w fun e w' => e = .returned (.int .i64 ((Nat.log2 p + 1 : Nat))) ∧ w = w' from by rw [hwr]; exact bitlen_any p (by omega) w)
  clear hwr
  have hl : Nat.log2 p < 8 := (Nat.log2_lt (by omega)).2 (by omega)
  have e : ((qn (p : Int) N : Nat) : Int) = if ((Nat.log2 p : Nat) : Int) < (N : Int) - 1 then ((Nat.log2 p : Nat) : Int) else (N : Int) - 1 := by
    unfold qn
    rw [Int.toNat_natCast]
    split <;> omega
  rw [e]
  generalize Nat.log2 p = z at *
  have n0 : (0 : Int) ≤ (p : Int) := by omega
  have n1 : (p : Int) ≤ 255 := by omega
  have wz : IntKind.i64.wrap (z : Int) = (z : Int) := by rw [IntKind.wrap_i64]; omega
  have wn : IntKind.i64.wrap ((N : Int) - 1) = (N : Int) - 1 := by rw [IntKind.wrap_i64]; omega
  clear h e hn
  generalize (p : Int) = x at *
  by_cases hlt : (z : Int) < (N : Int) - 1
  all_goals
    (first | rw [if_pos hlt] | rw [if_neg hlt])
    go_enter Try.func45, Try.ntmps45
    go_upto_region 1 with fail
    go_region_with (go_at_call 55; refine (HB.out _).mono ?_; rintro e w' ⟨rfl, rfl⟩)
    all_goals
      first
        | (exfalso; omega)
        | (go_wp2; all_goals (first | (exfalso; omega) | (go_ret; exact ⟨congrArg Ending.returned (congrArg (Value.int IntKind.i64) (by omega)), 1, rfl⟩)))
end
end Go.Proofs.Ytlafhejnnilpmaa
