/-
  What is proved: msg's Fields answers the fields that a kind names, rising; what it writes lies in new memory. Condition: the table of the kinds' fields lies where the program lays it.
-/
import Derived.Test.YtihldenljddmoaaDoorRight4
import Derived.Test.YtihldenljddmoaaDoorRefs4
namespace Go.Proofs.YtihldenljddmoaaDoor
open Go.RowKit

theorem eIntM : Elt Tryd.prog 36 3 (.int .i64 0) 1 8 := ⟨Tryd.underlying36, by kernel_rfl, rfl, by decide⟩
/-- the cells of fields' numbers -/
def nums4 (l : List Nat) : List Value := l.map fun (f : Nat) => Value.int .i64 (f : Int)
theorem nums4_len (l : List Nat) : (nums4 l).length = l.length := List.length_map _
theorem nums4_fI {k : Int} (h : 1 ≤ k ∧ k ≤ 14) : nums4 (fl (mk k.toNat) 1) = ints (fI k) := by
  unfold nums4 ints fI
  rw [if_pos h, List.map_map]
  rfl
theorem fI_length {k : Int} (h : 1 ≤ k ∧ k ≤ 14) : (fI k).length = (fl (mk k.toNat) 1).length := by
  unfold fI
  rw [if_pos h, List.length_map]
theorem zero_msg : (Tryd.prog.info? 25).map (fun i => (i.zero, i.size)) = some (some (.agg (msgC (fun _ => 0) false none 0 0)), 11) := by kernel_rfl

set_option maxRecDepth 100000 in
set_option maxHeartbeats 1000000 in
theorem mfields_any (k : Int) (w : World) (hN : Nm w) : Calls Tryd.prog 15 #[.int .i64 k] w fun e w' => ∃ v, e = .returned v ∧ OwnI w' w.heap.size v (fI k) ∧ Below w.heap.size w w' := by
  have HN := hid hN
  clear hN
  by_cases hk : 1 ≤ k ∧ k ≤ 14
  · have hkn : kn k = true := by unfold kn; exact decide_eq_true hk
    have HE := hid (nums4_fI hk)
    have HL := hid (fI_length hk)
    obtain ⟨k, rfl⟩ : ∃ x : Nat, k = x := ⟨k.toNat, by omega⟩
    rw [Int.toNat_natCast] at HE HL
    have hk1 : 1 ≤ k ∧ k ≤ 14 := by omega
    have HKN := hid hkn
    clear hkn hk
    go_enter Tryd.func15, Tryd.ntmps15
    go_wp2_with fail
    refine (known_any _ _).mono ?_
    rintro e w1 ⟨rfl, rfl⟩
    rw [HKN.out]
    have K1 := hid (below_alloc w (.cells (msgC (fun _ => 0) false none 0 0) 25))
    have n0 : (w.alloc (.cells #[.int .i64 0, .int .i64 0, .int .i64 0, .int .i64 0, .int .i64 0, .int .i64 0, .int .i64 0, .int .i64 0, .int .i64 0, .bool false, .slice none 0 0] 25)).cell? ⟨0, k, none⟩ = some (.int .u64 (mk k)) := (HN.out.next K1.out).at_ k (by omega)
    go_wp2_with fail
    change Calls _ _ _ (w.alloc (.cells (msgC (fun _ => 0) false none 0 0) 25)) _
    refine (places_any w.heap.size (mk k) (Nat.lt_of_le_of_lt (mk_le k) (by omega)) _).mono ?_
    rintro e w3 ⟨v3, rfl, hown3, hb3⟩
    have HB3 := hid (on K1.out hb3)
    have HO3 := hid hown3
    obtain ⟨P, cpl, rfl, -, -, -⟩ := OwnV.read hown3
    generalize (w.alloc (.cells (msgC (fun _ => 0) false none 0 0) 25)).heap.size = B0 at HO3
    clear hown3 hb3 n0
    obtain ⟨T, hT⟩ : ∃ T, fl (mk k) 1 = T := ⟨_, rfl⟩
    rw [hT] at HO3 HE HL ⊢
    have hT10 : T.length ≤ 10 := by rw [← hT]; exact fl_len10 _
    clear hT
    go_wp2_with fail
    go_loopw [3, 16] (fun s i wr => ∃ q : Nat, i = .int .i64 q ∧ q ≤ T.length ∧ OwnV wr w3.heap.size 3 1 s q (nums4 (T.take q)) ∧ Below w3.heap.size w3 wr) (fun _ i _ => T.length - (intOf i).toNat)
    case atStart => exact ⟨0, rfl, by omega, ownV_nil _ _ _ _, Below.refl _ _⟩
    case round =>
      obtain ⟨q, rfl, hq, hs, hb⟩ := hrel
      have HS := hid hs
      have HK := hid hb
      clear hs hb
      by_cases hlt : q < T.length
      · have hlt' : (q : Int) < (T.length : Int) := by omega
        obtain ⟨ad, cx, hv, hat⟩ := own_place (OwnV.below HO3.out HK.out) q hlt
        injection hv with e1 e2 e3
        subst e1 e3
        obtain ⟨f, hf⟩ : ∃ f, T[q]'hlt = f := ⟨_, rfl⟩
        rw [hf] at hat
        have HF := hid hf
        obtain ⟨A1, A2, A3, A4, hA, hone⟩ := pcl_any w.heap.size f
        obtain ⟨m, hm⟩ : ∃ m, mo f = m := ⟨_, rfl⟩
        rw [hA, hm] at hat
        obtain ⟨_, d0, d1, d2, d3, d4, d5⟩ := hat
        simp only [List.getElem?_toArray, List.getElem?_cons_zero, List.getElem?_cons_succ] at d0 d1 d2 d3 d4 d5
        have HONE := hid hone
        clear hA hm hf e2 hone
        have O4 := hid (World.ownsRow.alloc (World.ownsRow.alloc HS.out (.cells #[.int .i64 f, A1, A2, A3, A4, .int .i64 m] 55)) (.cells #[.int .i64 f] 3))
        have K4 := hid (on (on HK.out (below_alloc wr (.cells #[.int .i64 f, A1, A2, A3, A4, .int .i64 m] 55))) (below_alloc (wr.alloc (.cells #[.int .i64 f, A1, A2, A3, A4, .int .i64 m] 55)) (.cells #[.int .i64 f] 3)))
        have rvn := rv_new (wr.alloc (.cells #[.int .i64 f, A1, A2, A3, A4, .int .i64 m] 55)) 3 #[.int .i64 f]
        rw [World.size_alloc] at rvn
        have RVN := hid rvn
        clear rvn
        go_wp2_with (first
          | (refine wpList_store_new rfl _ _ _ rfl rfl _ #[.int .i64 f, A1, A2, A3, A4, .int .i64 m] rfl rfl (by kernel_rfl) rfl (HONE.out m) ?_; have e0 := World.cell?_alloc_new wr #[.int .i64 f, A1, A2, A3, A4, .int .i64 m] 55 0; simp only [List.getElem?_toArray, List.getElem?_cons_zero] at e0)
          | (at_builtin; go_must (refine wpList_appV eIntM rfl (.tmp 20) (.tmp 23) rfl w3.heap.size _ _ _ O4.out rfl _ _ 1 1 [.int .i64 f] rfl rfl RVN.out (ints_one [(f : Int)]) (by unfold maxLen; omega) (by omega) K4.out.size ?_); intro v5 w5 hown5 hg5; have O5 := hid hown5; have K5 := hid (K4.out.trans (hg5.below O4.out K4.out.size)); clear hown5 hg5))
        go_roundw
        case rel =>
          refine ⟨q + 1, by go_num, by omega, ?_, K5.out⟩
          have := O5.out
          rw [← HF.out] at this
          have e : nums4 (T.take (q + 1)) = nums4 (T.take q) ++ [Value.int .i64 ((T[q]'hlt : Nat) : Int)] := by
            unfold nums4
            rw [List.take_add_one, List.getElem?_eq_getElem hlt, List.map_append]
            rfl
          rw [e]
          exact this
        case measure => simp [intOf]; omega
      · have hlt' : ¬ (q : Int) < (T.length : Int) := by omega
        obtain rfl : q = T.length := by omega
        go_wp2_with fail
        go_ret
        refine ⟨_, rfl, ?_, on HB3.out HK.out⟩
        have := HS.out
        rw [List.take_length, HE.out, ← HL.out] at this
        exact World.ownsRow.mono this HB3.out.size
  · have hkn : kn k = false := by unfold kn; exact decide_eq_false hk
    have HE := hid (fI_no hk)
    clear hk
    go_enter Tryd.func15, Tryd.ntmps15
    go_wp2_with fail
    refine (known_any _ _).mono ?_
    rintro e w1 ⟨rfl, rfl⟩
    rw [hkn]
    go_wp2_with fail
    go_ret
    exact ⟨_, rfl, by rw [HE.out]; exact ownV_nil _ _ _ _, Below.refl _ _⟩
end Go.Proofs.YtihldenljddmoaaDoor
