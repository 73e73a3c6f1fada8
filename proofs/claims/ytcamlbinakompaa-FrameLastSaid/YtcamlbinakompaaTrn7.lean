/-
  What is proved: the walk of FrameTurned: a packet of whose bytes one is changed, but by 251, is none. No condition.
-/
import Derived.Test.YtcamlbinakompaaGbad7
import Derived.Test.YtcamlbinakompaaWake7
import Derived.Deep.DeepCutAuto
import Derived.Deep.CutBlock
import Derived.Deep.DeepMust
import Derived.BigFrame
namespace Go.Proofs.Ytcamlbinakompaa
open Go.RowKit

theorem addOff (a : Addr) (n : Nat) : (a.add n).off = a.off + n := by unfold Addr.add; split <;> simp_all
theorem rd_set {w : World} {C : Nat} {ad : Addr} {l : List Int} (h : Rd w C (some ad) l) (i : Nat) (hi : i < l.length) (x : Int) : Rd (w.setCell (ad.add i) (.int .u8 x)) C (some ad) (l.set i x) := fun j y hy => by
  have hj : j < l.length := by
    have := (List.getElem?_eq_some_iff.1 hy).1
    rwa [List.length_set] at this
  by_cases e : i = j
  · subst e
    rw [List.getElem?_set_self hi] at hy
    injection hy with hy
    subst hy
    obtain ⟨ad', e, hb, hc⟩ := h i _ (List.getElem?_eq_getElem hi)
    injection e with e
    subst e
    exact ⟨ad, rfl, hb, World.cell?_setCell_same _ _ _ hc⟩
  · rw [List.getElem?_set_ne e] at hy
    obtain ⟨ad', e', hb, hc⟩ := h j y hy
    injection e' with e'
    subst e'
    refine ⟨ad, rfl, hb, (World.cell?_setCell_other _ _ _ _ fun he => e ?_).trans hc⟩
    have := congrArg Addr.off he
    rw [addOff, addOff] at this
    omega
theorem own_at {w : World} {b : Nat} {v : Value} {l : List Int} (h : Own w b v l) (i : Nat) (hi : i < l.length) : ∃ ad cap, v = .slice (some ad) l.length cap ∧ b ≤ ad.block ∧ l.length ≤ cap ∧ cap ≤ maxLen ∧ Rn w (some ad) l ∧ w.cell? (ad.add i) = some (.int .u8 (l[i]'hi)) ∧ w.frozen? (ad.add i) = false := by
  obtain ⟨A, c, e, hr, h1, h2⟩ := h.shape
  rcases h.2 with ⟨hv, h0⟩ | ⟨g, cap, cur, hv, hb, hh, hnc, hm, hs, ht⟩
  · omega
  · subst hv
    injection e with e1 e2 e3
    subst e1 e3
    obtain ⟨ad, e, _, hc⟩ := hr.get hi
    injection e with e
    subst e
    refine ⟨_, _, rfl, hb, h1, h2, hr, hc, ?_⟩
    have hz : ((⟨g, 0, none⟩ : Addr).add i) = ⟨g, i, none⟩ := by unfold Addr.add; split <;> simp_all
    rw [hz]
    exact frozen_of_row w g i cur _ hh

/-- a byte that is another one, but by 251: what is behind isn't the sum of what is ahead -/
theorem turned_bad {B : List Int} {i : Nat} {x : Int} (hi : i < (B ++ [sm B]).length) (hB : B.length ≤ 250) (hb : ∀ y ∈ B, 0 ≤ y ∧ y ≤ 255) (hx : 0 ≤ x ∧ x ≤ 255) (hne : x ≠ (B ++ [sm B])[i]) (h1 : x - (B ++ [sm B])[i] ≠ 251) (h2 : x - (B ++ [sm B])[i] ≠ -251) :
    ∃ B' c', (B ++ [sm B]).set i x = B' ++ [c'] ∧ B'.length = B.length ∧ (∀ y ∈ B', 0 ≤ y ∧ y ≤ 255) ∧ sm B' ≠ c' := by
  rw [List.length_append, List.length_singleton] at hi
  by_cases hl : i = B.length
  · subst hl
    refine ⟨B, x, by simp, rfl, hb, fun e => hne ?_⟩
    simp [← e]
  · have hlt : i < B.length := by omega
    rw [List.getElem_append_left hlt] at hne h1 h2
    refine ⟨B.set i x, sm B, by rw [List.set_append_left _ _ hlt], by simp, fun y hy => ?_, sm_moves B i hlt hB x (hb _ (List.getElem_mem hlt)) hx hne h1 h2⟩
    rcases List.mem_or_eq_of_mem_set hy with h | h
    · exact hb y h
    · rw [h]; exact hx

set_option maxRecDepth 100000 in
set_option maxHeartbeats 1000000 in
theorem turned_yes (m y s a : Nat) (D : Option Addr) (n cp : Nat) (ds : List Int) (t b : Nat) (w : World) (hn : ds.length = n) (rd : Rn w D ds) (hd : ∀ x ∈ ds, 0 ≤ x ∧ x ≤ 255) (hy : RightP m y s a n) (ht : t ≤ 255) (hb1 : 1 ≤ b) (hb2 : b ≤ 255) :
    Calls Try.prog 4 #[.agg (pk m y s a D n cp), .int .u8 t, .int .u8 b] w fun e w' => e = .returned (.bool true) ∧ Below w.heap.size w w' := by
  have hX := Bx.new w 24 (pk m y s a D n cp)
  have K0 := below_alloc w (.cells (pk m y s a D n cp) 24)
  have hm1 : m ≤ 1099511627776 := by have := hy.1; omega
  have hy1 : y ≤ 1099511627776 := by have := hy.2.1; omega
  have hs1 : s ≤ 1099511627776 := by have := hy.2.2.1; omega
  have ha1 : a ≤ 1099511627776 := by have := hy.2.2.2.1; omega
  have hn1 : n ≤ 128 := hy.2.2.2.2.1
  have HBL := hid (body_len hm1 hy1 hs1 ha1 (show ds.length ≤ 128 by omega))
  have HDB := hid (body_byte (m := m) (y := y) (s := s) (a := a) hd)
  have P := hid (fun W (h : Rn W D ds) => fput_yes m y s a D n cp ds W hn h hd hy)
  have HR := hid rd
  have h300 : decide ((n : Int) > 300) = false := decide_eq_false (by omega)
  have hb0 : ((b : Int) == 0) = false := by simp; omega
  clear rd hd hy hn
  go_enter Try.func4, Try.ntmps4
  go_wp2_with fail
  refine (wakes_any _).mono ?_
  rintro e w1 ⟨rfl, hb1⟩
  have HX1 := hid (hX.next hb1)
  have HK1 := hid (on K0 hb1)
  obtain ⟨c0, c1, c2, c3, c4⟩ := HX1.out.all5
  clear hX K0 hb1
  go_wp2_with (refine wpList_load_bx rfl 24 (.tmp 3) rfl _ _ _ _ rfl HX1.out Try.underlying24 rfl (by kernel_rfl) ?_)
  refine (P.out _ (HR.out.now HK1.out)).mono ?_
  rintro e w2 ⟨v, rfl, hown, hb2⟩
  have HK2 := hid (on HK1.out hb2)
  obtain ⟨B, hB⟩ : ∃ B, body m y s a ds = B := ⟨_, rfl⟩
  unfold full at hown
  rw [hB] at hown HDB HBL
  obtain ⟨L, hL⟩ : ∃ L, (B ++ [sm B]).length = L := ⟨_, rfl⟩
  have hL1 : L = B.length + 1 := by rw [← hL, List.length_append]; rfl
  have hi : t % L < (B ++ [sm B]).length := by rw [hL]; exact Nat.mod_lt _ (by omega)
  obtain ⟨ad, cap, rfl, hblk, hcap, hcm, hrn, hc, hf⟩ := own_at hown _ hi
  have hLb : L ≤ 162 := by rw [hL1]; have := HBL.out; omega
  have hby : 0 ≤ (B ++ [sm B])[t % L] ∧ (B ++ [sm B])[t % L] ≤ 255 := by
    rcases List.mem_append.1 (List.getElem_mem hi) with h | h
    · exact HDB.out _ h
    · have := sm_byte B
      simp at h
      omega
  have T := fun x => turned_bad (x := x) hi (by have := HBL.out; omega) HDB.out
  obtain ⟨z, hz⟩ : ∃ z, (B ++ [sm B])[t % L] = z := ⟨_, rfl⟩
  rw [hz] at hc hby T
  obtain ⟨z, rfl⟩ : ∃ q : Nat, z = q := ⟨z.toNat, by omega⟩
  rw [hL] at hcap ⊢
  have HL := hid hL
  have HT := hid T
  have HRN := hid hrn
  have HL1 := hid hL1
  have hkm : t % L < L := by rw [← hL]; rw [hL]; rw [hL] at hi; exact hi
  have hki : 0 ≤ (t : Int) % (L : Int) ∧ (t : Int) % (L : Int) < (L : Int) := by omega
  clear T hL hz hrn hL1 hB hown hb2 c0 c1 c2 c3 c4 hi
  go_upto_region 9 with fail
  simp only [← Int.natCast_emod]
  clear hki
  generalize t % L = k at *
  have hk0 : 0 ≤ (k : Int) ∧ (k : Int) < (L : Int) := by omega
  go_upto_region 11 with fail
  have hk1 : k < (B ++ [sm B]).length := by rw [HL.out]; exact hkm
  have R3 := fun x : Int => rd_set HRN.out k hk1 x
  have hblt : ad.block < w2.heap.size := by
    have := World.block_lt_of_cell? w2 _ hc
    rwa [addBlk] at this
  have hx0 : 0 ≤ ((z : Int) + (b : Int)) % 256 ∧ ((z : Int) + (b : Int)) % 256 ≤ 255 := by omega
  have hxz : ((z : Int) + (b : Int)) % 256 ≠ (z : Int) := by omega
  have hcs := fun x : Int => World.cell?_setCell_same w2 (ad.add k) (.int .u8 x) hc
  have HK3 := hid (fun x : Int => below_set HK2.out (ad.add k) (.int .u8 x) (by rw [addBlk]; exact Nat.le_trans (Nat.le_trans HK1.out.size hblk) (Nat.le_refl _)))
  generalize ((z : Int) + (b : Int)) % 256 = x at *
  have hc3 : (w2.setCell (ad.add k) (.int .u8 x)).cell? (ad.add k) = some (.int .u8 x) := hcs x
  have HR3 := hid (R3 x)
  have HSZ := hid (show w2.heap.size ≤ (w2.setCell (ad.add k) (.int .u8 x)).heap.size by rw [setSize]; exact Nat.le_refl _)
  have HK3 := hid (HK3.out x)
  clear hcs R3 hc hf
  generalize w2.setCell (ad.add k) (.int .u8 x) = w3 at *
  by_cases h1 : x - (z : Int) = 251
  · have g1 : ((x - (z : Int)) == 251) = true := by simp [h1]
    have H1 := hid h1
    clear h1
    go_wp2_with fail
    go_ret
    exact ⟨rfl, HK3.out⟩
  · have g1 : ((x - (z : Int)) == 251) = false := by simp [h1]
    by_cases h2 : x - (z : Int) = -251
    · have g2 : ((x - (z : Int)) == -251) = true := by simp [h2]
      have H2 := hid h2
      clear h1 h2
      go_wp2_with fail
      go_ret
      exact ⟨rfl, HK3.out⟩
    · have g2 : ((x - (z : Int)) == -251) = false := by simp [h2]
      obtain ⟨B', c', e1, e2, e3, e4⟩ := HT.out x hx0 hxz h1 h2
      have HR4 := HR3.out
      rw [e1] at HR4
      have HL1' := HL1.out
      rw [← e2] at HL1'
      unfold maxLen at hcm
      have GN := hid (fget_no (some ad) B'.length cap B' c' w3 _ rfl (by omega) (by omega) (by unfold maxLen; omega) (hid e3) (Rd.more HR4 (Nat.le_refl _)) HSZ.out e4)
      clear h1 h2 e1 e2 e3 e4 HR4 hxz
      subst HL1'
      go_wp2_with fail
      refine GN.out.mono ?_
      rintro e w4 ⟨rfl, hb4⟩
      have HK4 := hid (on HK3.out hb4)
      go_wp2_with (refine wpList_store_new rfl _ _ _ rfl rfl _ (pk 0 0 0 0 none 0 0) rfl rfl (by kernel_rfl) rfl (pk_one _ _ _ _ _ _ _) ?_)
      go_ret
      exact ⟨rfl, on HK4.out (below_alloc _ _)⟩

set_option maxRecDepth 100000 in
set_option maxHeartbeats 1000000 in
theorem turned_walk (m y s a : Int) (D : Option Addr) (n cp : Nat) (ds : List Int) (t b : Nat) (w : World) (hn : ds.length = n) (hnm : n ≤ maxLen) (rd : Rn w D ds) (hd : ∀ x ∈ ds, 0 ≤ x ∧ x ≤ 255) (ht : t ≤ 255) (hb2 : b ≤ 255) :
    Calls Try.prog 4 #[.agg (pk m y s a D n cp), .int .u8 t, .int .u8 b] w fun e w' => e = .returned (.bool true) ∧ Below w.heap.size w w' := by
  have hX := Bx.new w 24 (pk m y s a D n cp)
  have K0 := below_alloc w (.cells (pk m y s a D n cp) 24)
  by_cases h3 : 300 < n
  · have h300 : decide ((n : Int) > 300) = true := decide_eq_true (by omega)
    clear rd hd hn
    unfold maxLen at hnm
    go_enter Try.func4, Try.ntmps4
    go_wp2_with fail
    refine (wakes_any _).mono ?_
    rintro e w1 ⟨rfl, hb1⟩
    have HX1 := hid (hX.next hb1)
    have HK1 := hid (on K0 hb1)
    obtain ⟨c0, c1, c2, c3, c4⟩ := HX1.out.all5
    clear hX K0 hb1
    go_wp2_with fail
    go_ret
    exact ⟨rfl, HK1.out⟩
  · have h300 : decide ((n : Int) > 300) = false := decide_eq_false (by omega)
    by_cases hb : b = 0
    · subst hb
      clear rd hd hn
      unfold maxLen at hnm
      go_enter Try.func4, Try.ntmps4
      go_wp2_with fail
      refine (wakes_any _).mono ?_
      rintro e w1 ⟨rfl, hb1⟩
      have HX1 := hid (hX.next hb1)
      have HK1 := hid (on K0 hb1)
      obtain ⟨c0, c1, c2, c3, c4⟩ := HX1.out.all5
      clear hX K0 hb1
      go_wp2_with fail
      go_ret
      exact ⟨rfl, HK1.out⟩
    · have hb0 : ((b : Int) == 0) = false := by simp; omega
      by_cases hy : RightP m y s a n
      · obtain ⟨m, rfl⟩ : ∃ x : Nat, m = x := ⟨m.toNat, by have := hy.1; omega⟩
        obtain ⟨y, rfl⟩ : ∃ x : Nat, y = x := ⟨y.toNat, by have := hy.2.1; omega⟩
        obtain ⟨s, rfl⟩ : ∃ x : Nat, s = x := ⟨s.toNat, by have := hy.2.2.1; omega⟩
        obtain ⟨a, rfl⟩ : ∃ x : Nat, a = x := ⟨a.toNat, by have := hy.2.2.2.1; omega⟩
        exact turned_yes m y s a D n cp ds t b w hn rd hd hy ht (by omega) hb2
      · have HY := hid hy
        clear rd hd hn hy
        have HNM := hid hnm
        unfold maxLen at hnm
        clear hb
        go_enter Try.func4, Try.ntmps4
        go_wp2_with fail
        refine (wakes_any _).mono ?_
        rintro e w1 ⟨rfl, hb1⟩
        have HX1 := hid (hX.next hb1)
        have HK1 := hid (on K0 hb1)
        obtain ⟨c0, c1, c2, c3, c4⟩ := HX1.out.all5
        clear hX K0 hb1
        go_wp2_with (refine wpList_load_bx rfl 24 (.tmp 3) rfl _ _ _ _ rfl HX1.out Try.underlying24 rfl (by kernel_rfl) ?_)
        refine (fput_no m y s a D n cp _ HNM.out HY.out).mono ?_
        rintro e w2 ⟨rfl, hb2⟩
        have HK2 := hid (on HK1.out hb2)
        go_wp2_with fail
        go_ret
        exact ⟨rfl, HK2.out⟩
end Go.Proofs.Ytcamlbinakompaa
