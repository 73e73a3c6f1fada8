/-
  What is proved: frame's Put answers a packet's bytes, or that it may not be; what it writes lies in new memory. Condition: its load is read as such.
-/
import Derived.Test.YtcamlbinakompaaRight7
import Derived.Test.YtcamlbinakompaaSum7
import Derived.Test.YtcamlbinakompaaPtx
import Derived.Deep.Onto
namespace Go.Proofs.Ytcamlbinakompaa
open Go.RowKit

theorem fput_no (m y s a : Int) (D : Option Addr) (n cp : Nat) (w : World) (hnm : n ≤ maxLen) (hno : ¬ RightP m y s a n) :
    Calls Try.prog 7 #[.agg (pk m y s a D n cp)] w fun e w' => e = .returned (.tuple #[.slice none 0 0, .int .i64 6]) ∧ Below w.heap.size w w' := by
  have hX := Bx.new w 24 (pk m y s a D n cp)
  have hb0 := below_alloc w (.cells (pk m y s a D n cp) 24)
  go_enter Try.func7, Try.ntmps7
  go_wp2_with (refine wpList_load_bx rfl 24 (.tmp 1) rfl _ _ _ _ rfl hX Try.underlying24 rfl (by kernel_rfl) ?_)
  refine (right_any m y s a D n cp _ hnm).mono ?_
  rintro e w1 ⟨rfl, hb1⟩
  rw [dec_false hno]
  go_wp2
  go_ret2
  exact ⟨rfl, on hb0 hb1⟩

theorem body_byte {m y s a : Nat} {ds : List Int} (hd : ∀ x ∈ ds, 0 ≤ x ∧ x ≤ 255) : ∀ x ∈ body m y s a ds, 0 ≤ x ∧ x ≤ 255 := fun x hx => by
  simp only [body, pre, List.mem_append] at hx
  rcases hx with ((((h | h) | h) | h) | h) | h
  · exact enc_byte _ x h
  · exact enc_byte _ x h
  · exact enc_byte _ x h
  · exact enc_byte _ x h
  · exact enc_byte _ x h
  · exact hd x h

theorem infoI : (Try.prog.info? 3).map (fun i => (i.zero, i.size, i.bytes)) = some (some (.int .i64 0), 1, 8) := by kernel_rfl
theorem index4 (cs : Array Value) (i : Int) (q : Nat) (v : Value) (hi : i = q) (hq : q < 4) (hv : cs[q]? = some v) (w : World) : (Instr.index 39 (.agg cs) (.int .i64 i)).run Try.prog w = .ok v w := by
  subst hi
  obtain ⟨i, hi, hz, hs, hb⟩ := info_parts infoI
  have hagg : ∀ w, (isAgg 3).run Try.prog w = .ok false w := fun w => by unfold isAgg; rw [Sem.run_bind, run_underlying Try.underlying3 w]; rfl
  have h0 : (q : Int) < 4 := by omega
  simp [Instr.index, asIntOf, run_underlying Try.underlying39, part, hagg, hv, sizeOf, typeInfo, hi, hs]
  intro h
  omega

set_option maxRecDepth 100000 in
set_option maxHeartbeats 1000000 in
theorem fput_yes (m y s a : Nat) (D : Option Addr) (n cp : Nat) (ds : List Int) (w : World) (hn : ds.length = n) (rd : Rn w D ds) (hd : ∀ x ∈ ds, 0 ≤ x ∧ x ≤ 255) (hy : RightP m y s a n) :
    Calls Try.prog 7 #[.agg (pk m y s a D n cp)] w fun e w' => ∃ v, e = .returned (.tuple #[v, .int .i64 0]) ∧ Own w' w.heap.size v (full m y s a ds) ∧ Below w.heap.size w w' := by
  have hX := Bx.new w 24 (pk m y s a D n cp)
  have hb0 := below_alloc w (.cells (pk m y s a D n cp) 24)
  have hm1 : m ≤ 1099511627776 := by have := hy.1; omega
  have hy1 : y ≤ 1099511627776 := by have := hy.2.1; omega
  have hs1 : s ≤ 1099511627776 := by have := hy.2.2.1; omega
  have ha1 : a ≤ 1099511627776 := by have := hy.2.2.2.1; omega
  have hn1 : n ≤ 128 := hy.2.2.2.2.1
  have HPL := hid (fun q => pre_len hm1 hy1 hs1 ha1 q)
  have HBL := hid (body_len hm1 hy1 hs1 ha1 (show ds.length ≤ 128 by omega))
  have HN := hid hn
  have HD := hid rd
  have HDB := hid (body_byte (m := m) (y := y) (s := s) (a := a) hd)
  have HE := hid (dec_true hy)
  clear hn rd hd hy
  go_enter Try.func7, Try.ntmps7
  go_wp2_with (refine wpList_load_bx rfl 24 (.tmp 1) rfl _ _ _ _ rfl hX Try.underlying24 rfl (by kernel_rfl) ?_)
  refine (right_any m y s a D n cp _ (by unfold maxLen; omega)).mono ?_
  rintro e w1 ⟨rfl, hb1⟩
  rw [HE.out]
  have HX1 := hid (hX.next hb1)
  have HB1 := hid (on hb0 hb1)
  have HW1 := hid HX1.out.lt
  obtain ⟨c0, c1, c2, c3, c4⟩ := HX1.out.all5
  clear hX hb0 hb1
  go_wp2_with fail
  go_loopw [4, 19] (fun v i wr => ∃ q : Nat, i = .int .i64 q ∧ q ≤ 4 ∧ Own wr w.heap.size v (pre m y s a q) ∧ Below w1.heap.size w1 wr) (fun _ i _ => 4 - (intOf i).toNat)
  case atStart => exact ⟨0, rfl, by omega, own_nil _ _, Below.refl _ _⟩
  case round =>
    obtain ⟨q, rfl, hq, hown, hb⟩ := hrel
    obtain ⟨S, cs, rfl, rs⟩ := Own.read hown
    obtain ⟨L, hL⟩ : ∃ L, (pre m y s a q).length = L := ⟨_, rfl⟩
    have hL1 : L ≤ 24 := by rw [← hL]; exact HPL.out q
    rw [hL]
    have HL := hid hL
    have HB := hid hb
    have HO := hid hown
    have HS := hid rs
    have HX2 := hid (HX1.out.next hb)
    have HZ := hid (show w.heap.size ≤ wr.heap.size from Nat.le_trans (Nat.le_of_lt HW1.out) hb.size)
    clear c0 c1 c2 c3 c4 hL hb hown rs
    obtain ⟨c0, c1, c2, c3, c4⟩ := HX2.out.all5
    have P := hid (fun (x : Nat) (hx : x ≤ 1099511627776) W (h : Rn W S (pre m y s a q)) => put_any S L cs (x : Int) (pre m y s a q) W _ HL.out (by omega) (by omega) h (Nat.le_refl _))
    have i0 := fun W => index4 #[.int .i64 m, .int .i64 y, .int .i64 s, .int .i64 a] 0 0 _ rfl (by omega) rfl W
    have i1 := fun W => index4 #[.int .i64 m, .int .i64 y, .int .i64 s, .int .i64 a] 1 1 _ rfl (by omega) rfl W
    have i2 := fun W => index4 #[.int .i64 m, .int .i64 y, .int .i64 s, .int .i64 a] 2 2 _ rfl (by omega) rfl W
    have i3 := fun W => index4 #[.int .i64 m, .int .i64 y, .int .i64 s, .int .i64 a] 3 3 _ rfl (by omega) rfl W
    rcases (show q = 0 ∨ q = 1 ∨ q = 2 ∨ q = 3 ∨ q = 4 by omega) with rfl | rfl | rfl | rfl | rfl
    case inr.inr.inr.inr =>
      go_wp2_with fail
      refine (puttext_any S D L cs n cp (pre m y s a 4) ds _ _ _ HL.out HN.out (by omega) (by omega) HS.out (Nat.le_refl _) (HD.out.now (on HB1.out HB.out)) (Nat.le_refl _)).mono ?_
      rintro e w2 ⟨v, rfl, hown2, hb2⟩
      have HB2 := hid (on (on HB1.out HB.out) hb2)
      have HO2 := hid (show Own w2 w.heap.size v (body m y s a ds) by unfold body; rw [HN.out]; exact World.ownsRow.mono hown2 HZ.out)
      clear hown2 hb2 c0 c1 c2 c3 c4
      obtain ⟨S2, cs2, rfl, rs2⟩ := Own.read HO2.out
      obtain ⟨M, hM⟩ : ∃ M, (body m y s a ds).length = M := ⟨_, rfl⟩
      have hM1 : M ≤ 161 := by rw [← hM]; exact HBL.out
      have HM := hid hM
      have HS2 := hid rs2
      rw [hM]
      clear hM rs2
      go_wp2_with fail
      refine (sum_any S2 M cs2 (body m y s a ds) _ _ HM.out (by omega) HDB HS2.out).mono ?_
      rintro e w3 ⟨rfl, rfl⟩
      go_wp2_with (at_builtin; refine wpList_app rfl _ _ rfl w.heap.size _ (body m y s a ds) (HO2.out.alloc _) (by rw [← HM.out]; rfl) _ _ 1 1 [sm (body m y s a ds)] rfl rfl (rd_one _ _) (by rw [HM.out]; omega) (by have := HB2.out.size; simp; omega) ?_; intro v' w4 hown4 hg4)
      go_ret2
      exact ⟨v', rfl, hown4, (HB2.out.alloc HB2.out.size _).trans (hg4.below (HO2.out.alloc _) (by have := HB2.out.size; simp; omega))⟩
    all_goals
      go_wp2_with fail
      first
        | (with_reducible refine (P.out m hm1 _ HS.out).mono ?_)
        | (with_reducible refine (P.out y hy1 _ HS.out).mono ?_)
        | (with_reducible refine (P.out s hs1 _ HS.out).mono ?_)
        | (with_reducible refine (P.out a ha1 _ HS.out).mono ?_)
      rintro e w2 ⟨v, rfl, hown2, hb2⟩
      rw [Int.toNat_natCast] at hown2
      have HB2 := hid (on HB.out hb2)
      have HO2 := hid (World.ownsRow.mono hown2 HZ.out)
      clear hown2 hb2 c0 c1 c2 c3 c4
      go_wp2_with fail
      go_roundw
      case rel => first | exact ⟨1, rfl, by omega, HO2.out, HB2.out⟩ | exact ⟨2, rfl, by omega, HO2.out, HB2.out⟩ | exact ⟨3, rfl, by omega, HO2.out, HB2.out⟩ | exact ⟨4, rfl, by omega, HO2.out, HB2.out⟩
      case measure => simp [intOf]
end Go.Proofs.Ytcamlbinakompaa
