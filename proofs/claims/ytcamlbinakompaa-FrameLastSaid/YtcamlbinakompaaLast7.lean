/-
  What is proved: the walk of FrameLast: the last byte of a packet's bytes is below 251, and all others are a packet with no other last byte. No condition.
-/
import Derived.Test.YtcamlbinakompaaTrn7
import Derived.Deep.QuietTactic
import Derived.BigQuiet
namespace Go.Proofs.Ytcamlbinakompaa
open Go.RowKit

set_option maxRecDepth 100000 in
set_option maxHeartbeats 1000000 in
theorem last_yes (m y s a : Nat) (D : Option Addr) (n cp : Nat) (ds : List Int) (b : Nat) (w : World) (hn : ds.length = n) (rd : Rn w D ds) (hd : ∀ x ∈ ds, 0 ≤ x ∧ x ≤ 255) (hy : RightP m y s a n) (hb1 : 1 ≤ b) (hb2 : b ≤ 255) :
    Calls Try.prog 5 #[.agg (pk m y s a D n cp), .int .u8 b] w fun e w' => e = .returned (.bool true) ∧ Below w.heap.size w w' := by
  have hX := Bx.new w 24 (pk m y s a D n cp)
  have K0 := below_alloc w (.cells (pk m y s a D n cp) 24)
  have hm1 : m ≤ 1099511627776 := by have := hy.1; omega
  have hy1 : y ≤ 1099511627776 := by have := hy.2.1; omega
  have hs1 : s ≤ 1099511627776 := by have := hy.2.2.1; omega
  have ha1 : a ≤ 1099511627776 := by have := hy.2.2.2.1; omega
  have hn1 : n ≤ 128 := hy.2.2.2.2.1
  have HBL := hid (body_len hm1 hy1 hs1 ha1 (show ds.length ≤ 128 by omega))
  have HDB := hid (body_byte (m := m) (y := y) (s := s) (a := a) hd)
  have P := hid (fun W (h : Rn W D ds) => fput_yes m y s a D n cp ds W hn h hd hy)
  have HR := hid rd
  have h300 : decide ((n : Int) > 300) = false := decide_eq_false (by omega)
  have hb0 : ((b : Int) == 0) = false := by simp; omega
  clear rd hd hy hn
  go_enter Try.func5, Try.ntmps5
  go_wp2_with fail
  refine (wakes_any _).mono ?_
  rintro e w1 ⟨rfl, hb1⟩
  have HX1 := hid (hX.next hb1)
  have HK1 := hid (on K0 hb1)
  obtain ⟨c0, c1, c2, c3, c4⟩ := HX1.out.all5
  clear hX K0 hb1
  go_wp2_with (refine wpList_load_bx rfl 24 (.tmp 2) rfl _ _ _ _ rfl HX1.out Try.underlying24 rfl (by kernel_rfl) ?_)
  refine (P.out _ (HR.out.now HK1.out)).mono ?_
  rintro e w2 ⟨v, rfl, hown, hb2⟩
  have HK2 := hid (on HK1.out hb2)
  obtain ⟨B, hB⟩ : ∃ B, body m y s a ds = B := ⟨_, rfl⟩
  unfold full at hown
  rw [hB] at hown HDB HBL
  obtain ⟨k, hk⟩ : ∃ k, B.length = k := ⟨_, rfl⟩
  have hk161 : k ≤ 161 := by rw [← hk]; exact HBL.out
  have hi : k < (B ++ [sm B]).length := by rw [List.length_append, hk]; exact Nat.lt_succ_self k
  obtain ⟨ad, cap, rfl, hblk, hcap, hcm, hrn, hc, hf⟩ := own_at hown _ hi
  rw [show (B ++ [sm B])[k] = sm B by subst hk; simp] at hc
  have hL : (B ++ [sm B]).length = k + 1 := by rw [List.length_append, hk]; rfl
  rw [hL] at hcap ⊢
  have hsb := sm_byte B
  have GN := fun (x : Int) W (h : Rd W w2.heap.size (some ad) (B ++ [x])) (h2 : w2.heap.size ≤ W.heap.size) => fget_no (some ad) k cap B x W w2.heap.size hk (by omega) (by omega) hcm HDB h h2
  have RS := fun (q : Nat) (x : Int) => rd_set (hrn.drewN q) k hi x
  have RB := hid (Rd.front hrn rfl)
  have SU := fun W (h : Rd W w2.heap.size (some ad) B) => rsum_any (some ad) k cap B W w2.heap.size hk (by omega) HDB h
  have hset : ∀ x : Int, (B ++ [sm B]).set k x = B ++ [x] := fun x => by subst hk; simp
  simp only [hset] at RS
  obtain ⟨z, hz⟩ : ∃ z, sm B = z := ⟨_, rfl⟩
  rw [hz] at hc hsb GN SU hrn
  obtain ⟨z, rfl⟩ : ∃ q : Nat, z = q := ⟨z.toNat, by omega⟩
  have HGN := hid GN
  have HRS := hid RS
  have HSU := hid SU
  have hblt : ad.block < w2.heap.size := by
    have := World.block_lt_of_cell? w2 _ hc
    rwa [addBlk] at this
  have HK3 := hid (fun (q : Nat) (x : Int) => below_set (below_draws HK2.out q) (ad.add k) (.int .u8 x) (by rw [addBlk]; exact Nat.le_trans (Nat.le_trans HK1.out.size hblk) (Nat.le_refl _)))
  clear hset GN RS SU hk hi hL hrn hz hown hB hb2 c0 c1 c2 c3 c4
  unfold maxLen at hcm
  have h251 : decide ((z : Int) ≥ 251) = false := decide_eq_false (by omega)
  have b0 : 0 ≤ (k : Int) := by omega
  have b1 : (k : Int) < (k : Int) + 1 := by omega
  have b2 : k < k + 1 := by omega
  have b3 : (k : Int) ≤ (cap : Int) := by omega
  have b4 : 0 ≤ (k : Int) ∧ (k : Int) < ((k + 1 : Nat) : Int) := by omega
  go_wp2_with fail
  go_quiet ((go_at_call 14; exact quietL7 (HSU.out _ (RB.out.drewN _))))
  go_upto_region 12 with fail
  have hx0 : 0 ≤ ((z : Int) + (b : Int)) % 256 ∧ ((z : Int) + (b : Int)) % 256 ≤ 255 := by omega
  have hxz : (z : Int) ≠ ((z : Int) + (b : Int)) % 256 := by omega
  generalize ((z : Int) + (b : Int)) % 256 = x at *
  have HR3 := hid (HRS.out nq x)
  have HK4 := hid (HK3.out nq x)
  have HSZ := hid (show w2.heap.size ≤ ((w2.drewN nq).setCell (ad.add k) (.int .u8 x)).heap.size by rw [setSize]; exact Nat.le_refl _)
  generalize (w2.drewN nq).setCell (ad.add k) (.int .u8 x) = w3 at *
  have GX := hid (HGN.out x w3 (Rd.more HR3.out (Nat.le_refl _)) HSZ.out hxz)
  clear hxz
  go_wp2_with fail
  refine GX.out.mono ?_
  rintro e w4 ⟨rfl, hb4⟩
  have HK5 := hid (on HK4.out hb4)
  go_wp2_with (refine wpList_store_new rfl _ _ _ rfl rfl _ (pk 0 0 0 0 none 0 0) rfl rfl (by kernel_rfl) rfl (pk_one _ _ _ _ _ _ _) ?_)
  go_ret
  exact ⟨rfl, on HK5.out (below_alloc _ _)⟩

set_option maxRecDepth 100000 in
set_option maxHeartbeats 1000000 in
theorem last_walk (m y s a : Int) (D : Option Addr) (n cp : Nat) (ds : List Int) (b : Nat) (w : World) (hn : ds.length = n) (hnm : n ≤ maxLen) (rd : Rn w D ds) (hd : ∀ x ∈ ds, 0 ≤ x ∧ x ≤ 255) (hb2 : b ≤ 255) :
    Calls Try.prog 5 #[.agg (pk m y s a D n cp), .int .u8 b] w fun e w' => e = .returned (.bool true) ∧ Below w.heap.size w w' := by
  have hX := Bx.new w 24 (pk m y s a D n cp)
  have K0 := below_alloc w (.cells (pk m y s a D n cp) 24)
  by_cases h3 : 300 < n
  · have h300 : decide ((n : Int) > 300) = true := decide_eq_true (by omega)
    clear rd hd hn
    unfold maxLen at hnm
    go_enter Try.func5, Try.ntmps5
    go_wp2_with fail
    refine (wakes_any _).mono ?_
    rintro e w1 ⟨rfl, hb1⟩
    have HX1 := hid (hX.next hb1)
    have HK1 := hid (on K0 hb1)
    obtain ⟨c0, c1, c2, c3, c4⟩ := HX1.out.all5
    clear hX K0 hb1
    go_wp2_with fail
    go_ret
    exact ⟨rfl, HK1.out⟩
  · have h300 : decide ((n : Int) > 300) = false := decide_eq_false (by omega)
    by_cases hb : b = 0
    · subst hb
      clear rd hd hn
      unfold maxLen at hnm
      go_enter Try.func5, Try.ntmps5
      go_wp2_with fail
      refine (wakes_any _).mono ?_
      rintro e w1 ⟨rfl, hb1⟩
      have HX1 := hid (hX.next hb1)
      have HK1 := hid (on K0 hb1)
      obtain ⟨c0, c1, c2, c3, c4⟩ := HX1.out.all5
      clear hX K0 hb1
      go_wp2_with fail
      go_ret
      exact ⟨rfl, HK1.out⟩
    · have hb0 : ((b : Int) == 0) = false := by simp; omega
      by_cases hy : RightP m y s a n
      · obtain ⟨m, rfl⟩ : ∃ x : Nat, m = x := ⟨m.toNat, by have := hy.1; omega⟩
        obtain ⟨y, rfl⟩ : ∃ x : Nat, y = x := ⟨y.toNat, by have := hy.2.1; omega⟩
        obtain ⟨s, rfl⟩ : ∃ x : Nat, s = x := ⟨s.toNat, by have := hy.2.2.1; omega⟩
        obtain ⟨a, rfl⟩ : ∃ x : Nat, a = x := ⟨a.toNat, by have := hy.2.2.2.1; omega⟩
        exact last_yes m y s a D n cp ds b w hn rd hd hy (by omega) hb2
      · have HY := hid hy
        clear rd hd hn hy
        have HNM := hid hnm
        unfold maxLen at hnm
        clear hb
        go_enter Try.func5, Try.ntmps5
        go_wp2_with fail
        refine (wakes_any _).mono ?_
        rintro e w1 ⟨rfl, hb1⟩
        have HX1 := hid (hX.next hb1)
        have HK1 := hid (on K0 hb1)
        obtain ⟨c0, c1, c2, c3, c4⟩ := HX1.out.all5
        clear hX K0 hb1
        go_wp2_with (refine wpList_load_bx rfl 24 (.tmp 2) rfl _ _ _ _ rfl HX1.out Try.underlying24 rfl (by kernel_rfl) ?_)
        refine (fput_no m y s a D n cp _ HNM.out HY.out).mono ?_
        rintro e w2 ⟨rfl, hb2⟩
        have HK2 := hid (on HK1.out hb2)
        go_wp2_with fail
        go_ret
        exact ⟨rfl, HK2.out⟩
end Go.Proofs.Ytcamlbinakompaa
