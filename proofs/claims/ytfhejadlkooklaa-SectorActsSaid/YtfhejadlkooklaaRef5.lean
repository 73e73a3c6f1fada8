/-
  What is proved: the reference's New and Write, of a disk of its own. Condition: what is written is read as its bytes.
-/
import Derived.Test.YtfhejadlkooklaaDIo
namespace Go.Proofs.Ytfhejadlkooklaa
open Go.RowKit

theorem bs_empty {w w' : World} {u : Value} (h : Bs w u []) : Bs w' u [] := by
  obtain ⟨A, c, e, _, h1⟩ := h
  exact ⟨A, c, e, Rd.nil _ _ _, h1⟩
theorem rv_of_rd {w : World} {B : Nat} {A : Option Addr} {l : List Int} (h : Rd w B A l) : Rv w B A (bytes l) := fun j u hu => by
  simp only [bytes, List.getElem?_map, Option.map_eq_some_iff] at hu
  obtain ⟨x, hx, rfl⟩ := hu
  exact h j x hx
theorem ownV_bs {w : World} {b n : Nat} {v : Value} {l : List Int} (h : OwnV w b 5 1 v n (bytes l)) (hn : l.length = n) : Bs w v l := by
  subst hn
  obtain ⟨A, c, e, r, h1, h2⟩ := h.read
  refine ⟨A, c, e, fun j x hx => ?_, h1, h2⟩
  exact r j _ (by simp [bytes, hx])

set_option maxHeartbeats 400000 in
theorem refwrite_any {w : World} {b k : Nat} {v : Value} {s : St} (h : Dk w 39 b k v s) (i : Int) (A : Option Addr) (n c : Nat) (l : List Int) (hn : l.length = n) (hlen : n ≤ 140737488355328) (r : Rn w A l) :
    Calls Try.prog 12 #[.pointer (some ⟨k, 0, none⟩), .int .i64 i, .slice A n c] w fun e w' =>
      e = .returned (.int .i64 (s.told i l)) ∧ Dk w' 39 b k v (s.write i l) ∧ Only w w' k v := by
  obtain ⟨c0, c1, c2, f0, f1, f2⟩ := h.cells
  obtain ⟨A0, cc, rfl, hcc, hcm⟩ := h.shape
  have HN := hid hn
  have HR := hid r
  clear hn r
  by_cases hd : s.d = true
  · have e1 : s.told i l = 8 := by unfold St.told; rw [if_pos hd]
    have e2 : s.write i l = s := by unfold St.write; rw [if_pos hd]
    rw [e1, e2]
    rw [hd] at c2
    have H := hid (And.intro h (Only.refl w k (.slice A0 s.L.length cc)))
    clear h hd e1 e2 c0 c1
    go_enter Try.func12, Try.ntmps12
    go_wp2
    go_ret
    exact ⟨rfl, H.out⟩
  · have hd' : s.d = false := by simpa using hd
    rw [hd'] at c2
    by_cases hi : i < 0 ∨ (s.L.length : Int) ≤ i
    · have e1 : s.told i l = 3 := by unfold St.told; rw [if_neg hd, if_pos hi]
      have e2 : s.write i l = s := by unfold St.write; rw [if_neg hd, if_pos hi]
      rw [e1, e2]
      have H := hid (And.intro h (Only.refl w k (.slice A0 s.L.length cc)))
      clear h hd hd' e1 e2 c1
      generalize s.L.length = m at *
      by_cases h0 : i < 0
      · have hdc : decide (i < (0 : Int)) = true := by simpa using h0
        clear hi h0
        go_enter Try.func12, Try.ntmps12
        go_wp2
        go_ret
        exact ⟨rfl, H.out⟩
      · have h1 : (m : Int) ≤ i := by omega
        have hdc : decide (i < (0 : Int)) = false := by simpa using h0
        have hdc2 : decide ((m : Int) ≤ i) = true := by simpa using h1
        have h0' : 0 ≤ i := by omega
        clear hi h0
        go_enter Try.func12, Try.ntmps12
        go_wp2
        go_ret
        exact ⟨rfl, H.out⟩
    · obtain ⟨j, rfl⟩ : ∃ j : Nat, i = j := ⟨i.toNat, by omega⟩
      have hj : j < s.L.length := by omega
      have hjj : (j : Int) < (s.L.length : Int) := by omega
      by_cases h64 : 64 < n
      · have e1 : s.told j l = 4 := by unfold St.told; rw [if_neg hd, if_neg hi, if_pos (by rw [HN.out]; exact h64)]
        have e2 : s.write j l = s := by unfold St.write; rw [if_neg hd, if_neg hi, if_pos (by rw [HN.out]; exact h64)]
        rw [e1, e2]
        have H := hid (And.intro h (Only.refl w k (.slice A0 s.L.length cc)))
        clear h hd hd' e1 e2 hi c1
        generalize s.L.length = m at *
        go_enter Try.func12, Try.ntmps12
        go_wp2
        go_ret
        exact ⟨rfl, H.out⟩
      · have h64' : n ≤ 64 := by omega
        by_cases hf : s.f = 0
        · have e1 : s.told j l = 8 := by unfold St.told; rw [if_neg hd, if_neg hi, if_neg (by rw [HN.out]; exact h64), if_pos hf]
          have e2 : s.write j l = { s with d := true } := by unfold St.write; rw [if_neg hd, if_neg hi, if_neg (by rw [HN.out]; exact h64), if_pos hf]
          rw [e1, e2]
          rw [hf] at c1
          have H := hid (h.setD true)
          clear h hd hd' e1 e2 hi h64 hf
          generalize s.L.length = m at *
          go_enter Try.func12, Try.ntmps12
          go_wp2
          go_ret
          exact ⟨rfl, H.out⟩
        · have e1 : s.told j l = 0 := by unfold St.told; rw [if_neg hd, if_neg hi, if_neg (by rw [HN.out]; exact h64), if_neg hf]
          obtain ⟨g, c', u0, e, q1, q2, q3⟩ := h.sec (List.getElem?_eq_getElem hj)
          injection e with e _ e'
          subst e e'
          have hb := h.bnd
          by_cases h0 : 0 < s.f
          · have e2 : { (⟨s.L, s.f - 1, s.d⟩ : St) with L := s.L.set j l } = s.write j l := by
              unfold St.write St.burn
              rw [if_neg hd, if_neg hi, if_neg (by rw [HN.out]; exact h64), if_neg hf, if_neg hf, if_pos h0, Int.toNat_natCast]
            rw [e1]
            have HE := hid e2
            obtain ⟨H1, H2⟩ := h.setF (s.f - 1) (by omega)
            have HK1 := hid H1
            have HO1 := hid H2
            clear H1 H2 e1 e2 hd hi h64 hd' hf
            go_enter Try.func12, Try.ntmps12
            go_upto_region 13 with fail
            obtain ⟨W1, hW1⟩ : ∃ W1, w.setCell ⟨k, 1, none⟩ (.int .i64 (s.f - 1)) = W1 := ⟨_, rfl⟩
            rw [hW1] at HK1 HO1 ⊢
            have HR1 := hid (HR.out.stay HO1.out.stay HO1.out.size)
            clear hW1 c0 c1 c2 f0 f1 f2 q1 q2 q3 hb h0
            go_wp2_with (at_builtin; (refine wpList_appV elt_byte rfl (.tmp 46) (.tmp 47) rfl W1.heap.size _ 0 [] (ownV_nil _ _ _ _) rfl _ A n c (bytes l) rfl (by rw [bytes_length, HN.out, Nat.mul_one]) (rv_of_rd HR1.out) (bytes_one l) (by unfold maxLen; omega) (by omega) (Nat.le_refl _) ?_); intro v2 w2 hown2 hg2; rw [Nat.zero_add, List.nil_append] at hown2; have HB2 := hid (hg2.below (ownV_nil W1 W1.heap.size 5 1) (Nat.le_refl _)); have HU := hid (ownV_bs hown2 HN.out); obtain ⟨AA, ac, rfl, -, -, -⟩ := hown2.read; have z0 := (HK1.out.below HB2.out).cells.1; obtain ⟨u1, z1, z2⟩ := dk_at (HK1.out.below HB2.out) hj; clear hown2 hg2)
            obtain ⟨D1, D2⟩ := (HK1.out.below HB2.out).setL j _ l hj HU.out
            have D := hid (And.intro D1 ((HO1.out.trans (Only.of HB2.out k _)).trans D2))
            clear D1 D2
            go_wp2
            go_ret
            refine ⟨rfl, ?_, D.out.2⟩
            rw [← HE.out]
            exact D.out.1
          · have e2 : { (⟨s.L, s.f, s.d⟩ : St) with L := s.L.set j l } = s.write j l := by
              unfold St.write St.burn
              rw [if_neg hd, if_neg hi, if_neg (by rw [HN.out]; exact h64), if_neg hf, if_neg hf, if_neg h0, Int.toNat_natCast]
            rw [e1]
            have HE := hid e2
            have HK1 := hid h
            have HO1 := hid (Only.refl w k (.slice (some ⟨g, 0, none⟩) s.L.length cc))
            clear e1 e2 hd hi h64 hd'
            have hf1 : ((s.f : Int) == 0) = false := by simpa using hf
            have hf2 : decide (0 < s.f) = false := by simpa using h0
            clear hf h0
            go_enter Try.func12, Try.ntmps12
            go_upto_region 13 with fail
            have HR1 := HR
            clear c0 c1 c2 f0 f1 f2 q1 q2 q3 hb hf1 hf2
            go_wp2_with (at_builtin; (refine wpList_appV elt_byte rfl (.tmp 46) (.tmp 47) rfl w.heap.size _ 0 [] (ownV_nil _ _ _ _) rfl _ A n c (bytes l) rfl (by rw [bytes_length, HN.out, Nat.mul_one]) (rv_of_rd HR1.out) (bytes_one l) (by unfold maxLen; omega) (by omega) (Nat.le_refl _) ?_); intro v2 w2 hown2 hg2; rw [Nat.zero_add, List.nil_append] at hown2; have HB2 := hid (hg2.below (ownV_nil w w.heap.size 5 1) (Nat.le_refl _)); have HU := hid (ownV_bs hown2 HN.out); obtain ⟨AA, ac, rfl, -, -, -⟩ := hown2.read; have z0 := (HK1.out.below HB2.out).cells.1; obtain ⟨u1, z1, z2⟩ := dk_at (HK1.out.below HB2.out) hj; clear hown2 hg2)
            obtain ⟨D1, D2⟩ := (HK1.out.below HB2.out).setL j _ l hj HU.out
            have D := hid (And.intro D1 ((HO1.out.trans (Only.of HB2.out k _)).trans D2))
            clear D1 D2
            go_wp2
            go_ret
            refine ⟨rfl, ?_, D.out.2⟩
            rw [← HE.out]
            exact D.out.1
end Go.Proofs.Ytfhejadlkooklaa
