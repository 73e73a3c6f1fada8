/-
  What is proved: what Set of the reference's cache does. No condition.
-/
import Derived.Test.YtmfdlkkligjcbaaGreatJ01
import Derived.Test.YtmfdlkkligjcbaaGreatJ37
import Derived.Test.YtmfdlkkligjcbaaGreatJ39
namespace Go.Proofs.YtmfdlkkligjcbaaGreat
open Go.RowKit

section
variable {w w' : World} {Z Y X P Q : Nat → Prop} {g d n cp T cv K k1 c1 : Nat} {c : Nat → Int} {A A1 : Option Addr} {lv mv pv : Value} {us : List Value} {o : Ob} {E : Int → List Int} {b : Int}
/-- a row of bytes is put in its place -/
theorem Rc.put_row (h : Rc w Z Y g d c A n cp T lv mv pv cv us o E) {k : Nat} (hk : k < 32) {u : Value} {l : List Int} (hu : By w Z u l) : Rc (w.setCell ⟨d, k, none⟩ u) Z Y g d c A n cp T lv mv pv cv (us.set k u) o (updB E k l) := by
  have hc : Chg w (w.setCell ⟨d, k, none⟩ u) (· = d) (· = d) := chg_one w d k u
  have hz : ∀ j, j = d → Z j := fun j e => e ▸ h.zd
  exact { h with
    box := hc.bx h.box h.gd
    ord := h.ord.chg hc hz fun j e hy => h.yd (e ▸ hy)
    row := (h.row.set (by rw [h.ul]; exact hk)).1
    dat := fun i u2 hu2 => by
      by_cases e : i = k
      · subst e
        rw [List.getElem?_set_self (by rw [h.ul]; exact hk)] at hu2
        injection hu2 with hu2
        rw [← hu2, show updB E (i : Int) l (i : Int) = l from if_pos rfl]
        exact hu.chg hc hz
      · rw [List.getElem?_set_ne (fun e2 => e e2.symm)] at hu2
        rw [show updB E (k : Int) l (i : Int) = E i from if_neg (by omega)]
        exact (h.dat i u2 hu2).chg hc hz
    lt := fun j hj => Nat.lt_of_lt_of_le (h.lt j hj) hc.size }
set_option maxRecDepth 20000 in
set_option maxHeartbeats 1000000 in
theorem rc_set_no (h : Rc w Z Y g d c A n cp T lv mv pv cv us o E) (r : Rok o K T c) (hn : ¬ (b ∈ o.all ∧ (k1 : Int) = c 3)) : Calls Tryz.prog 42 #[.pointer (some ⟨g, 0, none⟩), .agg #[.int .i64 b, .slice A1 k1 c1]] w fun e w' => e = .returned (.bool false) ∧ Below w.heap.size w w' := by
  have HLT := hid (And.intro h.lt (And.intro h.zg (And.intro h.yz h.zd)))
  have HX0 := hid (Bx.new w 38 #[.int .i64 b, .slice A1 k1 c1])
  have HW0 := hid (below_alloc w (.cells #[.int .i64 b, .slice A1 k1 c1] 38))
  have h0 := h.alloc (.cells #[.int .i64 b, .slice A1 k1 c1] 38)
  have HXD := hid (HX0.out.next (below_draws (Below.refl _ _) 1))
  have HRD := hid (h0.draws 1)
  have HH := hid (rc_has HRD.out r.ok b)
  by_cases hb : b ∈ o.all
  · have d3 : ((k1 : Int) != c 3) = true := by
      have : ¬ (k1 : Int) = c 3 := fun e => hn ⟨hb, e⟩
      simpa using this
    rw [dec_true hb] at HH
    clear h r h0 hn hb HLT
    go_enter Tryz.func42, Tryz.ntmps42
    go_upto_region 1 with fail
    obtain ⟨W0, hW0⟩ : ∃ x, w.alloc (.cells #[.int .i64 b, .slice A1 k1 c1] 38) = x := ⟨_, rfl⟩
    obtain ⟨p, hp⟩ : ∃ x, w.heap.size = x := ⟨_, rfl⟩
    have HP := hid hp
    rw [hW0] at HW0 HXD HRD HH ⊢
    rw [hp] at HXD HRD ⊢
    clear hW0 hp HX0
    have HBD := hid (show Below w.heap.size w W0.drew from below_draws HW0.out 1)
    refine wp_region_noPanic ?_
    refine wp_region_held_drew (S := fun w' => w'.cell? ⟨p, 0, none⟩ = some (.int .i64 b) ∧ w'.cell? ⟨p, 1, none⟩ = some (.slice A1 k1 c1) ∧ w'.cell? ⟨g, 3, none⟩ = some (.int .i64 (c 3))) (by kernel_rfl) ?_ (fun hHeld => ?_)
    · exact ⟨HXD.out.cell 0, HXD.out.cell 1, HRD.out.c3⟩
    refine tkv 0 (some 6) rfl ?_
    refine tkv 1 (some 7) rfl ?_
    refine tkv 2 (some 8) rfl ?_
    refine tkc 3 (some 9) rfl fun K hK => ?_
    go_simp
    refine HH.out.mono ?_
    rintro e W1 ⟨rfl, hb1⟩
    have HB1 := hid hb1
    have HX1 := hid (HXD.out.next hb1)
    have HR1 := hid (HRD.out.below hb1)
    have kp := And.intro (HX1.out.cell 0) (And.intro (HX1.out.cell 1) HR1.out.c3)
    clear hb1
    go_simp
    refine hK.out _ _ kp (fun hHeld => ?_)
    clear hK K
    (try simp only [Act.put, tkA, tk0, tk1])
    refine tkv 4 (some 10) rfl ?_
    refine tkv 5 (some 11) rfl ?_
    refine tkv 6 (some 12) rfl ?_
    refine tkv 7 (some 13) rfl ?_
    refine tkv 8 (some 14) rfl ?_
    refine tkv 9 (some 15) rfl ?_
    refine tkv 10 (some 16) rfl ?_
    refine tkv 11 (some 17) rfl ?_
    refine tkv 12 (some 18) rfl ?_
    refine tkv 13 (some 19) rfl ?_
    refine tkv 14 (some 20) rfl ?_
    refine tkv 15 (some 21) rfl ?_
    refine wpAnyH_done (by kernel_rfl) ?_ _
    refine NoPanic.normal ?_
    go_wp2
    go_ret
    exact ⟨rfl, on HBD.out HB1.out⟩
  · rw [dec_false hb] at HH
    clear h r h0 hn hb HLT
    go_enter Tryz.func42, Tryz.ntmps42
    go_upto_region 1 with fail
    obtain ⟨W0, hW0⟩ : ∃ x, w.alloc (.cells #[.int .i64 b, .slice A1 k1 c1] 38) = x := ⟨_, rfl⟩
    obtain ⟨p, hp⟩ : ∃ x, w.heap.size = x := ⟨_, rfl⟩
    have HP := hid hp
    rw [hW0] at HW0 HXD HRD HH ⊢
    rw [hp] at HXD HRD ⊢
    clear hW0 hp HX0
    have HBD := hid (show Below w.heap.size w W0.drew from below_draws HW0.out 1)
    refine wp_region_noPanic ?_
    refine wp_region_held_drew (S := fun w' => w'.cell? ⟨p, 0, none⟩ = some (.int .i64 b) ∧ w'.cell? ⟨p, 1, none⟩ = some (.slice A1 k1 c1) ∧ w'.cell? ⟨g, 3, none⟩ = some (.int .i64 (c 3))) (by kernel_rfl) ?_ (fun hHeld => ?_)
    · exact ⟨HXD.out.cell 0, HXD.out.cell 1, HRD.out.c3⟩
    refine tkv 0 (some 6) rfl ?_
    refine tkv 1 (some 7) rfl ?_
    refine tkv 2 (some 8) rfl ?_
    refine tkc 3 (some 9) rfl fun K hK => ?_
    go_simp
    refine HH.out.mono ?_
    rintro e W1 ⟨rfl, hb1⟩
    have HB1 := hid hb1
    have HX1 := hid (HXD.out.next hb1)
    have HR1 := hid (HRD.out.below hb1)
    have kp := And.intro (HX1.out.cell 0) (And.intro (HX1.out.cell 1) HR1.out.c3)
    clear hb1
    go_simp
    refine hK.out _ _ kp (fun hHeld => ?_)
    clear hK K
    (try simp only [Act.put, tkA, tk0, tk1])
    refine tkv 4 (some 10) rfl ?_
    refine tkv 5 (some 11) rfl ?_
    refine tks 6 (some 12) rfl ?_
    (try simp only [Act.put, tkA, tk0, tk1])
    refine tks 7 (some 13) rfl ?_
    (try simp only [Act.put, tkA, tk0, tk1])
    refine tks 8 (some 14) rfl ?_
    (try simp only [Act.put, tkA, tk0, tk1])
    refine tks 9 (some 15) rfl ?_
    (try simp only [Act.put, tkA, tk0, tk1])
    refine tks 10 (some 16) rfl ?_
    (try simp only [Act.put, tkA, tk0, tk1])
    refine tks 11 (some 17) rfl ?_
    (try simp only [Act.put, tkA, tk0, tk1])
    refine tks 12 (some 18) rfl ?_
    (try simp only [Act.put, tkA, tk0, tk1])
    refine tks 13 (some 19) rfl ?_
    (try simp only [Act.put, tkA, tk0, tk1])
    refine tks 14 (some 20) rfl ?_
    (try simp only [Act.put, tkA, tk0, tk1])
    refine tkv 15 (some 21) rfl ?_
    refine wpAnyH_done (by kernel_rfl) ?_ _
    refine NoPanic.normal ?_
    go_wp2
    go_ret
    exact ⟨rfl, on HBD.out HB1.out⟩
set_option maxRecDepth 20000 in
set_option maxHeartbeats 1000000 in
theorem rc_set_yes (h : Rc w Z Y g d c A n cp T lv mv pv cv us o E) (r : Rok o K T c) {l : List Int} (hd : By w Z (.slice A1 k1 c1) l) (hb : b ∈ o.all) (h3 : (k1 : Int) = c 3) (h16 : k1 ≤ 16) :
    Calls Tryz.prog 42 #[.pointer (some ⟨g, 0, none⟩), .agg #[.int .i64 b, .slice A1 k1 c1]] w fun e w' => e = .returned (.bool true) ∧ (∃ us', Rc w' Z Y g d c A n cp T lv mv pv cv us' o (updB E b l)) ∧ Chg w w' (· = d) (· = d) := by
  have HLT := hid (And.intro h.lt (And.intro h.zg (And.intro h.yz h.zd)))
  have HX0 := hid (Bx.new w 38 #[.int .i64 b, .slice A1 k1 c1])
  have HW0 := hid (below_alloc w (.cells #[.int .i64 b, .slice A1 k1 c1] 38))
  have h0 := h.alloc (.cells #[.int .i64 b, .slice A1 k1 c1] 38)
  have HXD := hid (HX0.out.next (below_draws (Below.refl _ _) 1))
  have HRD := hid (h0.draws 1)
  have HH := hid (rc_has HRD.out r.ok b)
  rw [dec_true hb] at HH
  have d3 : ((k1 : Int) != c 3) = false := by simpa using h3
  have hlt := r.lt b hb
  obtain ⟨k, rfl⟩ : ∃ k : Nat, b = k := ⟨b.toNat, by omega⟩
  have hk : k < 32 := by omega
  have hk2 : (k : Int) < 32 := by omega
  have HD0 := hid hd
  have H16 := hid h16
  clear h r h0 hb h3 hlt hd h16
  go_enter Tryz.func42, Tryz.ntmps42
  go_upto_region 1 with fail
  obtain ⟨W0, hW0⟩ : ∃ x, w.alloc (.cells #[.int .i64 k, .slice A1 k1 c1] 38) = x := ⟨_, rfl⟩
  obtain ⟨p, hp⟩ : ∃ x, w.heap.size = x := ⟨_, rfl⟩
  have HP := hid hp
  rw [hW0] at HW0 HXD HRD HH ⊢
  rw [hp] at HXD HRD ⊢
  clear hW0 hp HX0
  have HBD := hid (show Below w.heap.size w W0.drew from below_draws HW0.out 1)
  refine wp_region_noPanic ?_
  refine wp_region_held_drew (S := fun w' => w'.cell? ⟨p, 0, none⟩ = some (.int .i64 k) ∧ w'.cell? ⟨p, 1, none⟩ = some (.slice A1 k1 c1) ∧ w'.cell? ⟨g, 3, none⟩ = some (.int .i64 (c 3))) (by kernel_rfl) ?_ (fun hHeld => ?_)
  · exact ⟨HXD.out.cell 0, HXD.out.cell 1, HRD.out.c3⟩
  refine tkv 0 (some 6) rfl ?_
  refine tkv 1 (some 7) rfl ?_
  refine tkv 2 (some 8) rfl ?_
  refine tkc 3 (some 9) rfl fun K hK => ?_
  go_simp
  refine HH.out.mono ?_
  rintro e W1 ⟨rfl, hb1⟩
  have HB1 := hid hb1
  have HX1 := hid (HXD.out.next hb1)
  have HR1 := hid (HRD.out.below hb1)
  have kp := And.intro (HX1.out.cell 0) (And.intro (HX1.out.cell 1) HR1.out.c3)
  clear hb1
  go_simp
  refine hK.out _ _ kp (fun hHeld => ?_)
  clear hK K
  (try simp only [Act.put, tkA, tk0, tk1])
  refine tkv 4 (some 10) rfl ?_
  refine tkv 5 (some 11) rfl ?_
  refine tkv 6 (some 12) rfl ?_
  refine tkv 7 (some 13) rfl ?_
  refine tkv 8 (some 14) rfl ?_
  refine tkv 9 (some 15) rfl ?_
  refine tkv 10 (some 16) rfl ?_
  refine tkv 11 (some 17) rfl ?_
  refine tkv 12 (some 18) rfl ?_
  refine tkv 13 (some 19) rfl ?_
  refine tkv 14 (some 20) rfl ?_
  refine tkv 15 (some 21) rfl ?_
  refine wpAnyH_done (by kernel_rfl) ?_ _
  refine NoPanic.normal ?_
  have HWB := hid (on HBD.out HB1.out)
  have HY1 := hid ((HD0.out.more (Y := fun j => Z j ∨ j = p) (fun j hj => hj.imp id fun e => by have := HP.out; omega)).below HWB.out)
  have HLK := hid HY1.out.at_.2
  go_upto_region 5 with (at_builtin; refine wpList_appV elt_u8 rfl _ _ rfl W1.heap.size _ 0 [] (ownV_nil _ _ _ _) rfl _ _ k1 c1 (bytes l) rfl (by unfold bytes; rw [List.length_map, HLK.out, Nat.mul_one]) HY1.out.at_.1 (bytes_one l) (by have := H16.out; unfold maxLen; omega) (by have := H16.out; omega) (Nat.le_refl _) ?_; intro v2 W2 hown2 hg2)
  have hb2 : Below W1.heap.size W1 W2 := hg2.below (ownV_nil _ _ 5 1) (Nat.le_refl _)
  rw [List.nil_append, Nat.zero_add] at hown2
  obtain ⟨A2, c2, rfl, hr2, ha2, hc2, hge⟩ := own_by (w := W1) hown2 HLK.out (Nat.le_refl _)
  have HY2 := hid (show By W2 (fun j => Z j ∨ j = p) (.slice A2 l.length c2) l from ⟨A2, c2, rfl, hr2, ha2, hc2, fun ad ea _ => ⟨(hge ad ea).2, fun hz => by have := HR1.out.lt ad.block hz; have := (hge ad ea).1; omega⟩⟩)
  have HR2 := hid (HR1.out.below hb2)
  have HX2 := hid (HX1.out.next hb2)
  have HB2 := hid hb2
  clear hown2 hg2 hb2 hr2 ha2 hc2 hge
  obtain ⟨W3, hW3⟩ : ∃ x, W2.drew = x := ⟨_, rfl⟩
  have HE3 := hid hW3
  have HB23 := hid (show Below W2.heap.size W2 W3 from hW3 ▸ below_draws (Below.refl _ _) 1)
  have HRE := hid (HR2.out.below HB23.out)
  have HXE := hid (HX2.out.next HB23.out)
  have HYE := hid (HY2.out.below HB23.out)
  have HNPD := hid (show ¬ p = d from fun e => by have h1 := HP.out; have h2 := HLT.out.1 d HLT.out.2.2.2; omega)
  clear hW3
  refine wp_region_noPanic ?_
  refine wp_region_held_drew (S := fun w' => w'.cell? ⟨p, 0, none⟩ = some (.int .i64 k) ∧ w'.cell? ⟨g, 21, none⟩ = some (.slice (some ⟨d, 0, none⟩) 32 cv)) (by kernel_rfl) ?_ (fun hHeld => ?_)
  · rw [HE3.out]; exact ⟨HXE.out.cell 0, HRE.out.c21⟩
  refine tkv 0 (some 26) rfl ?_
  refine tkv 1 (some 27) rfl ?_
  refine tkv 2 (some 28) rfl ?_
  refine tkv 3 (some 29) rfl ?_
  refine tkv 4 (some 30) rfl ?_
  refine tkv 5 (some 31) rfl ?_
  refine tkv 6 (some 32) rfl ?_
  refine tkv 7 (some 33) rfl ?_
  refine tkc 8 (none) rfl fun K hK => ?_
  obtain ⟨hcc, hfz⟩ := HRE.out.row.cellAt (j := k) (by rw [HRE.out.ul]; exact hk)
  obtain ⟨u0, hu0⟩ : ∃ x, us[k]? = some x := ⟨_, List.getElem?_eq_getElem (by rw [HRE.out.ul]; exact hk)⟩
  rw [hu0] at hcc
  rw [HE3.out]
  go_simp
  have HRF := hid (HRE.out.put_row hk HYE.out)
  have HCF := hid (chg_one W3 d k (.slice A2 l.length c2))
  have HXF := hid (HCF.out.bx HXE.out HNPD.out)
  have kq := And.intro (HXF.out.cell 0) HRF.out.c21
  refine hK.out _ _ kq (fun hHeld => ?_)
  clear hK K
  (try simp only [Act.put, tkA, tk0, tk1])
  refine wpAnyH_done (by kernel_rfl) ?_ _
  refine NoPanic.normal ?_
  go_wp2
  go_ret
  exact ⟨rfl, ⟨_, HRF.out.less (fun j hj => .inl hj) fun j hj => hj.elim (fun hy => HLT.out.2.2.1 j hy) fun e => e.elim (fun e => e ▸ HLT.out.2.1) fun e => e ▸ HLT.out.2.2.2⟩, (Chg.of (on (on HWB.out HB2.out) HB23.out) _).trans HCF.out⟩
end
end Go.Proofs.YtmfdlkkligjcbaaGreat
