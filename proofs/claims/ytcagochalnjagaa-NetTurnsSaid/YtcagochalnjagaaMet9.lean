/-
  What is proved: net's New makes a net of so many ways, held within 0 and 32; without answers all frames of a row but one. Condition: the row is the call's own.
-/
import Derived.Test.YtcagochalnjagaaFn9
namespace Go.Proofs.Ytcagochalnjagaa
open Go.RowKit

/-- the empty string -/
abbrev st0 : Value := .string ⟨#[]⟩
theorem infoStr : (Try.prog.info? 9).map (fun i => (i.zero, i.size, i.bytes)) = some (some st0, 1, 16) := by kernel_rfl
theorem infoStrs : (Try.prog.info? 62).map (fun i => (i.zero, i.size, i.bytes)) = some (some (.slice none 0 0), 1, 24) := by kernel_rfl
theorem elt_str : Elt Try.prog 62 9 st0 1 16 := ⟨Try.underlying62, infoStr, rfl, by decide⟩
theorem elt_strs : Elt Try.prog 55 62 (.slice none 0 0) 1 24 := ⟨Try.underlying55, infoStrs, rfl, by decide⟩

set_option maxHeartbeats 400000 in
theorem nwithout_any {w : World} {u : Value} {cs : List Value} (ho : OwnW w 9 u cs) (i : Nat) (hi : i < cs.length) (h400 : cs.length ≤ 400) (h1 : ∀ x ∈ cs, x.oneCell' = true) (hb : ∀ x ∈ cs, NB x) :
    Calls Try.prog 27 #[u, .int .i64 i] w fun e w' => ∃ A n c, e = .returned (.slice A n c) ∧ OwnW w' 9 (.slice A n c) (cs.eraseIdx i) ∧ GrW w w' u (.slice A n c) := by
  obtain ⟨g, c, rfl⟩ := ho.place (by omega)
  obtain ⟨A, c', e, _, hc, hm⟩ := ho.read
  simp only [Value.slice.injEq, true_and] at e
  obtain ⟨-, rfl⟩ := e
  unfold maxLen at hm
  have O1 := (ho.set hi (nb_str ⟨#[]⟩)).1
  have G1 := (ho.set hi (nb_str ⟨#[]⟩)).2
  have f1 := (ho.cellAt hi).2
  obtain ⟨x0, hx0⟩ : ∃ x, cs[i]? = some x := ⟨_, List.getElem?_eq_getElem hi⟩
  have f0 : w.cell? ⟨g, i, none⟩ = some x0 := (ho.cellAt hi).1.trans hx0
  have C1 := O1.cut i (by rw [List.length_set]; omega)
  have HR : ∀ A2 : Option Addr, (if c = i + 1 then some (⟨g, 0, none⟩ : Addr) else some ⟨g, i + 1, none⟩) = A2 → Rv (w.setCell ⟨g, i, none⟩ st0) w.heap.size A2 (cs.drop (i + 1)) := by
    intro A2 hA j x hx
    rw [List.getElem?_drop] at hx
    have hj := (List.getElem?_eq_some_iff.1 hx).1
    rw [if_neg (by omega)] at hA
    subst hA
    refine ⟨_, rfl, ho.lt rfl, ?_⟩
    have e1 : (⟨g, i + 1, none⟩ : Addr).add j = ⟨g, i + 1 + j, none⟩ := by unfold Addr.add; split <;> simp_all
    rw [e1, (O1.cellAt (j := i + 1 + j) (by rw [List.length_set]; omega)).1, List.getElem?_set_ne (by omega), hx]
  have HO := hid C1
  have HG := hid (G1.trans ⟨World.grownBy.refl _ _, .inl rfl, fun _ _ e => e⟩ : GrW w (w.setCell ⟨g, i, none⟩ st0) (.slice (some ⟨g, 0, none⟩) cs.length c) (.slice (some ⟨g, 0, none⟩) i i))
  have HRR := hid HR
  have H1 := hid h1
  have HB := hid hb
  have HL := hid (show (cs.set i st0).take i ++ cs.drop (i + 1) = cs.eraseIdx i from by rw [List.take_set_of_le (Nat.le_refl _), List.eraseIdx_eq_take_drop_succ])
  have HN := hid (show ((cs.set i st0).take i).length = i ∧ (cs.drop (i + 1)).length = cs.length - (i + 1) from ⟨by rw [List.length_take, List.length_set]; omega, List.length_drop⟩)
  have b0 : (0 : Int) ≤ (i : Int) := by omega
  have b1 : (i : Int) ≤ (c : Int) := by omega
  have b2 : (0 : Int) ≤ (i : Int) + 1 := by omega
  have b3 : (i : Int) + 1 ≤ (cs.length : Int) := by omega
  have b4 : (i : Int) < (cs.length : Int) := by omega
  clear ho O1 G1 C1 HR h1 hb hx0
  generalize hn : cs.length = n at *
  have HNN := hid hn
  clear hn
  go_enter Try.func27, Try.ntmps27
  go_upto_region 1 with fail
  go_region
  obtain ⟨A2, hA2⟩ : ∃ A2, (if c = i + 1 then some (⟨g, 0, none⟩ : Addr) else some ⟨g, i + 1, none⟩) = A2 := ⟨_, rfl⟩
  rw [hA2]
  have HA := hid (HRR.out A2 hA2)
  clear hA2
  go_upto_region 2 with fail
  go_upto_region 3 with fail
  have HO2 := hid (show OwnW (w.setCell ⟨g, i, none⟩ st0).drew 9 (.slice (some ⟨g, 0, none⟩) i i) ((cs.set i st0).take i) from HO.out)
  have HA2 := hid (show Rv (w.setCell ⟨g, i, none⟩ st0).drew w.heap.size A2 (cs.drop (i + 1)) from HA.out)
  have HD := hid (show GrW w (w.setCell ⟨g, i, none⟩ st0).drew (.slice (some ⟨g, 0, none⟩) n c) (.slice (some ⟨g, 0, none⟩) i i) from ⟨grown_draws HG.out.gr 1, HG.out.at_, HG.out.stay⟩)
  obtain ⟨w1, hw1⟩ : ∃ w1, (w.setCell ⟨g, i, none⟩ st0).drew = w1 := ⟨_, rfl⟩
  rw [hw1] at HO2 HA2 HD ⊢
  clear hw1 HA HO HG HRR f0 f1
  go_wp2_with (at_builtin; (refine wpList_appW elt_str rfl (nb_str _) rfl (.tmp 18) (.tmp 19) rfl _ _ HO2.out rfl _ A2 (n - (i + 1)) (c - (i + 1)) (cs.drop (i + 1)) rfl (HN.out.2.trans (by rfl)) HA2.out (fun x hx => H1.out x (List.mem_of_mem_drop hx)) (fun x hx => HB.out x (List.mem_of_mem_drop hx)) (by rw [HN.out.1]; unfold maxLen; omega) (by rw [HN.out.1]; omega) ?_); intro v2 w2 ho2 hg2; have HF := hid (And.intro ho2 hg2); clear ho2 hg2)
  go_ret
  obtain ⟨A9, c9, e9, -⟩ := HF.out.1.read
  subst e9
  refine ⟨_, _, _, rfl, ?_, HD.out.trans HF.out.2⟩
  rw [← HL.out]
  exact HF.out.1
end Go.Proofs.Ytcagochalnjagaa
