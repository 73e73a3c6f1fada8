/-
  What is proved: an act of the reference's order (a use, an addition, a removal), whichever order it is. Condition: an MQ was used at most 10000000 times.
-/
import Derived.Test.YtmfdlkkligjcbaaGreatJ01
import Derived.Test.YtmfdlkkligjcbaaGreatJ35
namespace Go.Proofs.YtmfdlkkligjcbaaGreat
open Go.RowKit

/-- while do is at it: the act's block, the answer's -/
structure Dq (w W : World) (p q : Nat) (κ b : Int) (cs : Array Value) : Prop where
  bp : Bx W p 123 #[.int .i64 κ, .int .i64 b]
  bq : Bx W q 120 cs
  hp : w.heap.size ≤ p
  hq : w.heap.size ≤ q
  ne : p ≠ q
section
variable {w W W' : World} {P Q : Nat → Prop} {p q : Nat} {κ b : Int} {cs cs' : Array Value}
theorem Dq.below (h : Dq w W p q κ b cs) (hb : Below W.heap.size W W') : Dq w W' p q κ b cs := ⟨h.bp.next hb, h.bq.next hb, h.hp, h.hq, h.ne⟩
theorem Dq.chg (h : Dq w W p q κ b cs) (hc : Chg W W' P Q) (h1 : ¬ P p) (h2 : ¬ P q) : Dq w W' p q κ b cs := ⟨hc.bx h.bp h1, hc.bx h.bq h2, h.hp, h.hq, h.ne⟩
theorem dq_made (w : World) (κ b : Int) : Dq w ((w.alloc (.cells #[.int .i64 κ, .int .i64 b] 123)).alloc (.cells wz 120)) w.heap.size (w.heap.size + 1) κ b wz := by
  have hs : (w.alloc (.cells #[.int .i64 κ, .int .i64 b] 123)).heap.size = w.heap.size + 1 := World.size_alloc w _
  have h2 := Bx.new (w.alloc (.cells #[.int .i64 κ, .int .i64 b] 123)) 120 wz
  rw [hs] at h2
  exact ⟨(Bx.new w _ _).next (below_alloc _ _), h2, Nat.le_refl _, by omega, by omega⟩
end
section
variable {w w' : World} {Z Y X P Q : Nat → Prop} {g d n cp T cv : Nat} {c : Nat → Int} {A : Option Addr} {lv mv pv : Value} {us : List Value} {o o' : Ob} {E : Int → List Int}
/-- the order's own blocks change -/
theorem Rc.to (h : Rc w Z Y g d c A n cp T lv mv pv cv us o E) (hc : Chg w w' P Q) (h1 : ∀ j, P j → Y j) (ho : Ro16 w' Z Y lv mv pv o') : Rc w' Z Y g d c A n cp T lv mv pv cv us o' E :=
  { h with
    box := hc.bx h.box fun hp => h.yg (h1 g hp)
    ord := ho
    row := h.row.kept fun k e => by
      have e2 : some d = some k := e
      injection e2 with e2
      subst e2
      exact hc.block d (h.lt d h.zd) fun hp => h.yd (h1 d hp)
    dat := fun i u hu => (h.dat i u hu).chg hc fun j hj => h.yz j (h1 j hj)
    lt := fun j hj => Nat.lt_of_lt_of_le (h.lt j hj) hc.size }
/-- the act's and the answer's blocks are put into Z -/
theorem Rc.with_dq (h : Rc w Z Y g d c A n cp T lv mv pv cv us o E) (κ b : Int) : Rc ((w.alloc (.cells #[.int .i64 κ, .int .i64 b] 123)).alloc (.cells wz 120)) (fun j => (Z j ∨ j = w.heap.size) ∨ j = w.heap.size + 1) Y g d c A n cp T lv mv pv cv us o E := by
  have hs : (w.alloc (.cells #[.int .i64 κ, .int .i64 b] 123)).heap.size = w.heap.size + 1 := World.size_alloc w _
  have h2 := (h.alloc (.cells #[.int .i64 κ, .int .i64 b] 123)).alloc (.cells wz 120)
  rw [hs] at h2
  exact h2
/-- the list is another row -/
theorem Rc.setL {C : Nat} {L0 L : List Int} {lv' : Value} (h : Rc w Z Y g d c A n cp T lv mv pv cv us (.lru C L0) E) (hl : Rt w Z lv' L) : Rc (w.setCell ⟨g, 18, none⟩ lv') Z Y g d c A n cp T lv' mv pv cv us (.lru C L) E := by
  have hc : Chg w (w.setCell ⟨g, 18, none⟩ lv') (· = g) (· = g) := ⟨by unfold World.setCell; split <;> rfl, by unfold World.setCell; split <;> rfl, by unfold World.setCell; split <;> rfl, by rw [setSize]; exact Nat.le_refl _, fun j _ hj => Below.heap_setCell w _ _ j fun e => hj e, fun _ e => .inl e⟩
  obtain ⟨h1, h2, _⟩ := h.ord
  exact { h with
    box := h.box.set 18 lv'
    ord := ⟨h1, h2, hl.chg hc fun j e => e ▸ h.zg⟩
    row := h.row.kept fun k e => by
      have e2 : some d = some k := e
      injection e2 with e2
      subst e2
      exact hc.block d (h.lt d h.zd) fun e3 => h.gd e3.symm
    dat := fun i u hu => (h.dat i u hu).chg hc fun j e => e ▸ h.zg
    lt := fun j hj => by rw [setSize]; exact h.lt j hj }
theorem chg_one (w : World) (k i : Nat) (u : Value) : Chg w (w.setCell ⟨k, i, none⟩ u) (· = k) (· = k) := ⟨by unfold World.setCell; split <;> rfl, by unfold World.setCell; split <;> rfl, by unfold World.setCell; split <;> rfl, by rw [setSize]; exact Nat.le_refl _, fun j _ hj => Below.heap_setCell w _ _ j fun e => hj e, fun _ e => .inl e⟩
/-- an act's new state -/
noncomputable def Ob.act (κ b : Int) (o : Ob) : Ob := if κ = 0 then o.use b else if κ = 1 then o.add b else o.rem b
/-- what comes of an act -/
def RdoQ (w : World) (Z Y : Nat → Prop) (g d : Nat) (c : Nat → Int) (A : Option Addr) (n cp T : Nat) (mv pv : Value) (cv : Nat) (us : List Value) (o : Ob) (E : Int → List Int) (κ b : Int) (e : Ending) (w' : World) : Prop :=
  ∃ (A3 : Option Addr) (n3 c3 : Nat) (vi : Int) (gn was : Bool) (er : Int), e = .returned (.agg #[.slice A3 n3 c3, .int .i64 vi, .bool gn, .bool was, .int .i64 er]) ∧ (∃ lv', Rc w' Z Y g d c A n cp T lv' mv pv cv us (o.act κ b) E) ∧ Chg w w' (fun j => Y j ∨ j = g) (fun j => Y j ∨ j = g) ∧ (κ = 1 → gn = o.gn b ∧ vi = o.vi b)
set_option maxRecDepth 20000 in
set_option maxHeartbeats 2000000 in
theorem rdo16_prt {rg : Int → Option Nat} {pt : Nat → Nat} {lp : Nat → Bool} {n2 : Nat} {S : List (List Int)} {K : Nat} {κ b : Int} (h : Rc w Z Y g d c A n cp T lv mv pv cv us (.prt rg pt lp n2 S) E) (ok : (Ob.prt rg pt lp n2 S).Ok K) (hz : zb b) (hk : 0 ≤ κ ∧ κ ≤ 2) :
    Calls Tryz.prog 62 #[.pointer (some ⟨g, 0, none⟩), .agg #[.int .i64 κ, .int .i64 b]] w (RdoQ w Z Y g d c A n cp T mv pv cv us (.prt rg pt lp n2 S) E κ b) := by
  have HD0 := hid (dq_made w κ b)
  have HB0 := hid (on (below_alloc w (.cells #[.int .i64 κ, .int .i64 b] 123)) (below_alloc _ (.cells wz 120)))
  have HR0 := hid (h.with_dq κ b)
  have HZL := hid (And.intro h.lt (And.intro h.yz (And.intro h.zg h.zd)))
  obtain ⟨r, gp, b', A', c', hh, pf, B, cv', us', T', rfl, -, -⟩ := id h.ord
  have HOK := hid ok
  have HZB := hid hz
  have HK := hid hk
  clear h ok hz hk
  go_enter Tryz.func62, Tryz.ntmps62
  go_upto_region 1 with fail
  obtain ⟨W0, hW0⟩ : ∃ x, (w.alloc (.cells #[.int .i64 κ, .int .i64 b] 123)).alloc (.cells wz 120) = x := ⟨_, rfl⟩
  obtain ⟨q, hq⟩ : ∃ x, w.heap.size + 1 = x := ⟨_, rfl⟩
  obtain ⟨p, hp⟩ : ∃ x, w.heap.size = x := ⟨_, rfl⟩
  rw [hW0, hq, hp] at HD0 HR0
  rw [hW0] at HB0 ⊢
  rw [hq, hp]
  have HPQ := hid (And.intro hp hq)
  have HNP := hid (show ∀ j, Z j → j ≠ p ∧ j ≠ q from fun j hj => by have := HZL.out.1 j hj; omega)
  have HNY := hid (show ∀ j, Y j → j ≠ p ∧ j ≠ q from fun j hj => HNP.out j (HZL.out.2.1 j hj))
  clear hW0 hp hq
  have g20 : W0.cell? ⟨g, 20, none⟩ = some (.pointer (some ⟨r, 0, none⟩)) := HR0.out.c20
  go_upto_region 2 with fail
  clear g20
  have HRD := hid (HR0.out.draws 1)
  have HDD := hid (show Dq w W0.drew p q κ b wz from HD0.out.below (below_draws (Below.refl _ _) 1))
  have g20 : W0.drew.cell? ⟨g, 20, none⟩ = some (.pointer (some ⟨r, 0, none⟩)) := HRD.out.c20
  have HBD := hid (show Below w.heap.size w W0.drew from below_draws HB0.out 1)
  obtain ⟨r2, gp2, b2, A2, c2, hh2, pf2, B2, cv2, us2, T2, he, hrp, hbk⟩ := HRD.out.ord
  cases he
  have HDO := hid (rp_do hrp HOK.out.1 HZB.out HK.out)
  have HBK := hid hbk
  clear hrp hbk
  refine wp_region_noPanic ?_
  refine wp_region_held_drew (S := fun w' => w'.cell? ⟨g, 20, none⟩ = some (.pointer (some ⟨r, 0, none⟩)) ∧ w'.cell? ⟨p, 0, none⟩ = some (.int .i64 κ) ∧ w'.cell? ⟨p, 1, none⟩ = some (.int .i64 b)) (by kernel_rfl) ?_ (fun hHeld => ?_)
  · exact ⟨g20, HDD.out.bp.cell 0, HDD.out.bp.cell 1⟩
  refine tkv 0 (some 13) rfl ?_
  refine tkv 1 (some 14) rfl ?_
  refine tkv 2 (some 15) rfl ?_
  refine tkv 3 (some 16) rfl ?_
  refine tkv 4 (some 17) rfl ?_
  refine tkc 5 (some 18) rfl fun K hK => ?_
  go_simp
  refine HDO.out.mono ?_
  rintro e w5 ⟨rfl, ⟨us5, hrp5⟩, hch⟩
  have HRP := hid hrp5
  have HCH := hid (hch.wide HBK.out)
  have HD5 := hid (HDD.out.chg HCH.out (fun hy => (HNY.out p hy).1 rfl) fun hy => (HNY.out q hy).2 rfl)
  have kp := And.intro ((HCH.out.bx HRD.out.box HRD.out.yg).cell 20) (And.intro (HD5.out.bp.cell 0) (HD5.out.bp.cell 1))
  clear hrp5 hch
  go_simp
  refine hK.out _ _ kp (fun hHeld => ?_)
  clear hK K
  (try simp only [Act.put, tkA, tk0, tk1])
  refine tkc 6 (none) rfl fun K hK => ?_
  refine wp_store_row 120 (.tmp 4) (.tmp 18) rfl q #[.slice none 0 0, .int .i64 (dwV pt lp (rg b) κ b S), .bool (dwG pt (rg b) κ b S), .bool (dec (inS S b)), .int .i64 (dwE pt (rg b) κ)] rfl rfl _ _ HD5.out.bq (by kernel_rfl) rfl (by simp [Value.oneCell']) ?_
  have hq9 : Chg w5 (w5.setRow q #[.slice none 0 0, .int .i64 (dwV pt lp (rg b) κ b S), .bool (dwG pt (rg b) κ b S), .bool (dec (inS S b)), .int .i64 (dwE pt (rg b) κ)]) (· = q) (· = q) := chg_row _ _ _
  have HGQ := hid (show ¬ g = q from (HNP.out g HZL.out.2.2.1).2)
  have kq := And.intro ((hq9.bx (HCH.out.bx HRD.out.box HRD.out.yg) HGQ.out).cell 20) (And.intro ((hq9.bx HD5.out.bp HD5.out.ne).cell 0) ((hq9.bx HD5.out.bp HD5.out.ne).cell 1))
  have HQ9 := hid hq9
  clear hq9
  refine hK.out _ _ kq (fun hHeld => ?_)
  clear hK K
  (try simp only [Act.put])
  refine wpAnyH_done (by kernel_rfl) ?_ _
  refine NoPanic.normal ?_
  go_wp2
  refine bodyPost_ret (results_bx1 rfl _ rfl (HD5.out.bq.row (cs' := #[.slice none 0 0, .int .i64 (dwV pt lp (rg b) κ b S), .bool (dwG pt (rg b) κ b S), .bool (dec (inS S b)), .int .i64 (dwE pt (rg b) κ)])) Tryz.underlying120 rfl (by kernel_rfl)) rfl ?_
  have hst : dwS rg pt lp κ b S = (if κ = 0 then usS rg b S else if κ = 1 then adS pt lp (rg b) b S else woS b S) := rfl
  have hact : (Ob.prt rg pt lp n2 S).act κ b = .prt rg pt lp n2 (dwS rg pt lp κ b S) := by
    unfold Ob.act
    rw [hst]
    split
    · rfl
    · split <;> rfl
  have hr5 := HRD.out.to (o' := .prt rg pt lp n2 (dwS rg pt lp κ b S)) HCH.out (fun j hj => hj) ⟨_, _, _, _, _, _, _, _, _, _, _, rfl, HRP.out, HBK.out⟩
  have hrow : Chg w5 (w5.setRow q #[.slice none 0 0, .int .i64 (dwV pt lp (rg b) κ b S), .bool (dwG pt (rg b) κ b S), .bool (dec (inS S b)), .int .i64 (dwE pt (rg b) κ)]) (· = q) (· = q) := chg_row _ _ _
  have hrc := (Rc.chg hr5 hrow (fun j e => .inr e) fun j e => ⟨fun hy => (HNY.out j hy).2 e, fun e2 => (HNP.out g HZL.out.2.2.1).2 (e2 ▸ e), fun e2 => (HNP.out d HZL.out.2.2.2).2 (e2 ▸ e)⟩).less (X := Z) (fun j hj => .inl (.inl hj)) fun j hj => hj.elim (HZL.out.2.1 j) fun e => e.elim (fun e => e ▸ HZL.out.2.2.1) fun e => e ▸ HZL.out.2.2.2
  have hch : Chg w (w5.setRow q #[.slice none 0 0, .int .i64 (dwV pt lp (rg b) κ b S), .bool (dwG pt (rg b) κ b S), .bool (dec (inS S b)), .int .i64 (dwE pt (rg b) κ)]) (fun j => Y j ∨ j = g) (fun j => Y j ∨ j = g) := chg_fresh ((Chg.of HBD.out _).trans (HCH.out.wide fun j hj => .inl hj)) (by have := HPQ.out; omega) _
  exact ⟨none, 0, 0, _, _, _, _, rfl, ⟨_, by rw [hact]; exact hrc⟩, hch, fun e => by subst e; exact ⟨rfl, rfl⟩⟩
set_option maxRecDepth 20000 in
set_option maxHeartbeats 2000000 in
theorem rdo16_lru {C : Nat} {L : List Int} {K : Nat} {κ b : Int} (h : Rc w Z Y g d c A n cp T lv mv pv cv us (.lru C L) E) (ok : (Ob.lru C L).Ok K) (t1 : 1 ≤ T) (t3 : T ≤ 3) (hcap : c (9 + (T - 1)) = (C : Nat)) (hk : 0 ≤ κ ∧ κ ≤ 2) :
    Calls Tryz.prog 62 #[.pointer (some ⟨g, 0, none⟩), .agg #[.int .i64 κ, .int .i64 b]] w (RdoQ w Z Y g d c A n cp T mv pv cv us (.lru C L) E κ b) := by
  have HD0 := hid (dq_made w κ b)
  have HB0 := hid (on (below_alloc w (.cells #[.int .i64 κ, .int .i64 b] 123)) (below_alloc _ (.cells wz 120)))
  have HR0 := hid (h.with_dq κ b)
  have HZL := hid (And.intro h.lt (And.intro h.yz (And.intro h.zg h.zd)))
  obtain ⟨rfl, rfl, A3, c3, rfl, -⟩ := id h.ord
  have HOK := hid ok
  have HK := hid hk
  obtain ⟨t0, ht0, ht3⟩ : ∃ t0 : Nat, T = t0 + 1 ∧ t0 < 3 := ⟨T - 1, by omega, by omega⟩
  rw [show T - 1 = t0 from by omega] at hcap
  have HCP := hid (show ∀ W, Bx W g 78 (rcc c A n cp T (.slice A3 L.length c3) (.pointer none) (.pointer none) (.slice (some ⟨d, 0, none⟩) 32 cv)) → W.cell? ⟨g, 9 + t0, none⟩ = some (.int .i64 C) from fun W hx => by
    rw [hx.cell, ← hcap]
    obtain rfl | rfl | rfl : t0 = 0 ∨ t0 = 1 ∨ t0 = 2 := by omega
    all_goals rfl)
  have hTm : (T : Int) - 1 = (t0 : Int) := by omega
  have ht0' : (0 : Int) ≤ (t0 : Int) := by omega
  have ht3' : (t0 : Int) < 3 := by omega
  have htw : IntKind.i64.wrap (t0 : Int) = (t0 : Int) := by rw [IntKind.wrap_i64]; omega
  clear h ok hk t1 t3 hcap ht0 ht3
  go_enter Tryz.func62, Tryz.ntmps62
  go_upto_region 1 with fail
  obtain ⟨W0, hW0⟩ : ∃ x, (w.alloc (.cells #[.int .i64 κ, .int .i64 b] 123)).alloc (.cells wz 120) = x := ⟨_, rfl⟩
  obtain ⟨q, hq⟩ : ∃ x, w.heap.size + 1 = x := ⟨_, rfl⟩
  obtain ⟨p, hp⟩ : ∃ x, w.heap.size = x := ⟨_, rfl⟩
  rw [hW0, hq, hp] at HD0 HR0
  rw [hW0] at HB0 ⊢
  rw [hq, hp]
  have HPQ := hid (And.intro hp hq)
  have HNP := hid (show ∀ j, Z j → j ≠ p ∧ j ≠ q from fun j hj => by have := HZL.out.1 j hj; omega)
  have HNY := hid (show ∀ j, Y j → j ≠ p ∧ j ≠ q from fun j hj => HNP.out j (HZL.out.2.1 j hj))
  clear hW0 hp hq
  have g19 : W0.cell? ⟨g, 19, none⟩ = some (.pointer none) := HR0.out.c19
  have g20 : W0.cell? ⟨g, 20, none⟩ = some (.pointer none) := HR0.out.c20
  go_upto_region 4 with fail
  clear g19 g20
  obtain ⟨WD, hWD⟩ : ∃ x, W0.drew = x := ⟨_, rfl⟩
  have HWD := hid hWD
  have hrd := HR0.out.draws 1
  have hdd := HD0.out.below (below_draws (Below.refl W0.heap.size W0) 1)
  have hbd := below_draws HB0.out 1
  rw [show W0.drewN 1 = WD from hWD] at hrd hdd hbd
  have HRD := hid hrd
  have HDD := hid hdd
  have HBD := hid hbd
  clear hrd hdd hbd
  have HDO := hid (fun (W : World) (n : Nat) (hr : Rw W A3 L) (hc : L.length ≤ c3 ∧ c3 ≤ maxLen) => rdo_any (C := C) (b := b) (n := L.length) hr rfl hc HOK.out.2.1.2 HOK.out.2.2.2.1 HOK.out.2.2.1 HOK.out.2.2.2.2 κ HK.out)
  have f0 := HDD.out.bp.cell 0
  have f1 := HDD.out.bp.cell 1
  have f2 := HCP.out _ HRD.out.box
  have f3 := HRD.out.c17
  have f4 := HRD.out.c18
  have HS0 := hid (And.intro f0 (And.intro f1 (And.intro f2 (And.intro f3 f4))))
  clear f0 f1 f2 f3 f4 hWD
  refine wp_region_noPanic ?_
  refine wp_region_held_drew (S := fun w' => w'.cell? ⟨p, 0, none⟩ = some (.int .i64 κ) ∧ w'.cell? ⟨p, 1, none⟩ = some (.int .i64 b) ∧ w'.cell? ⟨g, 9 + t0, none⟩ = some (.int .i64 C) ∧ w'.cell? ⟨g, 17, none⟩ = some (.int .i64 T) ∧ w'.cell? ⟨g, 18, none⟩ = some (.slice A3 L.length c3)) (by kernel_rfl) ?_ (fun hHeld => ?_)
  · rw [HWD.out]; exact HS0.out
  refine tkv 0 (some 24) rfl ?_
  refine tkv 1 (some 25) rfl ?_
  refine tkv 2 (some 26) rfl ?_
  refine tkv 3 (some 27) rfl ?_
  refine tkv 4 (some 28) rfl ?_
  refine tkv 5 (some 29) rfl ?_
  refine tkv 6 (some 30) rfl ?_
  refine tkv 7 (some 31) rfl ?_
  refine tkv 8 (some 32) rfl ?_
  refine tkv 9 (some 33) rfl ?_
  refine tkv 10 (some 34) rfl ?_
  refine tkv 11 (some 35) rfl ?_
  refine tkv 12 (some 36) rfl ?_
  refine tkv 13 (some 37) rfl ?_
  refine tkv 14 (some 38) rfl ?_
  refine tkv 15 (some 39) rfl ?_
  refine wpAnyH_ready (rs := [16, 17]) (by kernel_rfl) (by simp) ?_
  refine (AllReadyH.cons (o := ⟨some 40, _, _, _, _, _⟩) rfl (fun K hK => ?_) (AllReadyH.cons (o := ⟨some 5, _, _, _, _, _⟩) rfl (fun K hK => ?_) AllReadyH.nil))
  · rw [if_pos (by rfl)]
    rw [HWD.out]
    go_simp
    have HLR := hid HRD.out.ord.2.2
    obtain ⟨A9, c9, e9, i1, i2, i3, i4⟩ := HLR.out
    cases e9
    refine (HDO.out _ 0 i1 ⟨i2, i3⟩).mono ?_
    rintro e w5 ⟨A6, c6, rfl, j1, j2, j3, j4, j5⟩
    have HRB := hid (HRD.out.below j5)
    have HDB := hid (HDD.out.below j5)
    have HBB := hid (on HBD.out j5)
    have HTB := hid (show Rt w5 (fun j => (Z j ∨ j = p) ∨ j = q) (.slice A6 (dL C κ b L).length c6) (dL C κ b L) from ⟨A6, c6, rfl, j1, j2, j3, fun ad e hz => j4.elim (fun e2 => i4 ad (e2 ▸ e) hz) fun h2 => Nat.lt_irrefl _ (Nat.lt_of_lt_of_le (HRD.out.lt _ hz) (h2 ad e))⟩)
    have kp := And.intro (HDB.out.bp.cell 0) (And.intro (HDB.out.bp.cell 1) (And.intro (HCP.out _ HRB.out.box) (And.intro HRB.out.c17 HRB.out.c18)))
    clear i1 i2 i3 i4 j1 j2 j3 j4 j5 HLR
    go_simp
    refine hK.out _ _ kp (fun hHeld => ?_)
    clear hK K
    (try simp only [Act.put, tkA, tk0, tk1])
    refine tkc 17 (some 5) rfl fun K hK => ?_
    have hal := below_alloc w5 (.cells wz 120)
    have HRA := hid (HRB.out.alloc (.cells wz 120))
    have HDA := hid (HDB.out.below hal)
    have HBA := hid (on HBB.out hal)
    have HXA := hid (Bx.new w5 120 wz)
    have HTA := hid ((HTB.out.more (Y := fun j => ((Z j ∨ j = p) ∨ j = q) ∨ j = w5.heap.size) (fun j hj => hj.elim .inl fun e => .inr (Nat.le_of_eq e.symm))).below hal)
    have kq := And.intro (HDA.out.bp.cell 0) (And.intro (HDA.out.bp.cell 1) (And.intro (HCP.out _ HRA.out.box) (And.intro HRA.out.c17 HRA.out.c18)))
    clear hal
    go_simp
    refine hK.out _ _ kq (fun hHeld => ?_)
    clear hK K
    (try simp only [Act.put, tkA, tk0, tk1])
    refine tkc 18 (none) rfl fun K hK => ?_
    refine wp_store_row 120 (.tmp 5) (.tmp 40) rfl (w5.heap.size) #[.slice A6 (dL C κ b L).length c6, .int .i64 (dV C κ b L), .bool (dG C κ b L), .bool (dec (b ∈ L)), .int .i64 (dE κ b)] rfl rfl _ _ HXA.out (by kernel_rfl) rfl (by simp [Value.oneCell']) ?_
    have hq9 : Chg (w5.alloc (.cells wz 120)) ((w5.alloc (.cells wz 120)).setRow (w5.heap.size) #[.slice A6 (dL C κ b L).length c6, .int .i64 (dV C κ b L), .bool (dG C κ b L), .bool (dec (b ∈ L)), .int .i64 (dE κ b)]) (· = w5.heap.size) (· = w5.heap.size) := chg_row _ _ _
    have HNR := hid (show ∀ j, ((Z j ∨ j = p) ∨ j = q) → ¬ j = w5.heap.size from fun j hj e => by have := HRB.out.lt j hj; omega)
    have HR9 := hid (HRA.out.chg hq9 (fun j e => .inr e) fun j e => ⟨fun hy => HNR.out j (.inl (.inl (HZL.out.2.1 j hy))) e, fun e2 => HNR.out g (.inl (.inl HZL.out.2.2.1)) (e2 ▸ e), fun e2 => HNR.out d (.inl (.inl HZL.out.2.2.2)) (e2 ▸ e)⟩)
    have HT9 := hid (HTA.out.chg hq9 fun j e => .inr e)
    have HD9 := hid (HDA.out.chg hq9 (HNR.out p (.inl (.inr rfl))) (HNR.out q (.inr rfl)))
    have HX9 := hid (Bx.row (cs' := #[.slice A6 (dL C κ b L).length c6, .int .i64 (dV C κ b L), .bool (dG C κ b L), .bool (dec (b ∈ L)), .int .i64 (dE κ b)]) HXA.out)
    have HB9 := hid (below_setRow HBA.out (show w.heap.size ≤ w5.heap.size from by have h1 := HBD.out.size; have h2 := HBB.out.size; first | exact h1 | exact h2) #[.slice A6 (dL C κ b L).length c6, .int .i64 (dV C κ b L), .bool (dG C κ b L), .bool (dec (b ∈ L)), .int .i64 (dE κ b)])
    have kr := And.intro (HD9.out.bp.cell 0) (And.intro (HD9.out.bp.cell 1) (And.intro (HCP.out _ HR9.out.box) (And.intro HR9.out.c17 HR9.out.c18)))
    clear hq9
    refine hK.out _ _ kr (fun hHeld => ?_)
    clear hK K
    (try simp only [Act.put])
    refine wpAnyH_done (by kernel_rfl) ?_ _
    refine NoPanic.normal ?_
    go_upto_region 5 with fail
    obtain ⟨r9, hr9⟩ : ∃ x, w5.heap.size = x := ⟨_, rfl⟩
    rw [hr9] at HR9 HT9 HD9 HX9 HB9 HNR ⊢
    clear hr9
    generalize (w5.alloc (.cells wz 120)).setRow r9 #[.slice A6 (dL C κ b L).length c6, .int .i64 (dV C κ b L), .bool (dG C κ b L), .bool (dec (b ∈ L)), .int .i64 (dE κ b)] = W9 at *
    have x0 : W9.cell? ⟨r9, 0, none⟩ = some (.slice A6 (dL C κ b L).length c6) := HX9.out.cell 0
    have z18 := HR9.out.c18
    have y18 := HR9.out.box.free 18
    go_upto_region 6 with fail
    clear x0 z18 y18
    have HRF := hid (HR9.out.setL HT9.out)
    have hcg : Chg W9 (W9.setCell ⟨g, 18, none⟩ (.slice A6 (dL C κ b L).length c6)) (· = g) (· = g) := ⟨by unfold World.setCell; split <;> rfl, by unfold World.setCell; split <;> rfl, by unfold World.setCell; split <;> rfl, by rw [setSize]; exact Nat.le_refl _, fun j _ hj => Below.heap_setCell W9 _ _ j fun e => hj e, fun _ e => .inl e⟩
    have HCG := hid hcg
    have HXF := hid (hcg.bx HX9.out fun e => HNR.out g (.inl (.inl HZL.out.2.2.1)) e.symm)
    have HDF := hid (HD9.out.chg hcg (fun e => (HNP.out g HZL.out.2.2.1).1 e.symm) fun e => (HNP.out g HZL.out.2.2.1).2 e.symm)
    clear hcg
    obtain ⟨WF, hWF⟩ : ∃ x, W9.setCell ⟨g, 18, none⟩ (.slice A6 (dL C κ b L).length c6) = x := ⟨_, rfl⟩
    rw [hWF] at HRF HCG HXF HDF ⊢
    clear hWF
    go_wp2_with (first
      | (refine wpList_load_bx rfl 120 (.tmp 5) rfl r9 _ _ _ rfl HXF.out Tryz.underlying120 rfl (by kernel_rfl) ?_)
      | (refine wpList_store_bx rfl 120 (.tmp 4) (.tmp 46) rfl rfl q _ _ #[.slice A6 (dL C κ b L).length c6, .int .i64 (dV C κ b L), .bool (dG C κ b L), .bool (dec (b ∈ L)), .int .i64 (dE κ b)] rfl rfl HDF.out.bq (by kernel_rfl) rfl (by simp [Value.oneCell']) ?_))
    refine bodyPost_ret (results_bx1 rfl _ rfl (HDF.out.bq.row (cs' := #[.slice A6 (dL C κ b L).length c6, .int .i64 (dV C κ b L), .bool (dG C κ b L), .bool (dec (b ∈ L)), .int .i64 (dE κ b)])) Tryz.underlying120 rfl (by kernel_rfl)) rfl ?_
    have hact : (Ob.lru C L).act κ b = .lru C (dL C κ b L) := by
      have hk := HK.out
      unfold Ob.act dL
      obtain rfl | rfl | rfl : κ = 0 ∨ κ = 1 ∨ κ = 2 := by omega
      all_goals rfl
    have hchx : Chg w WF (fun j => Y j ∨ j = g) (fun j => Y j ∨ j = g) := (Chg.of HB9.out _).trans (HCG.out.wide fun j e => .inr e)
    have hrf := HRF.out.less (X := fun j => (Z j ∨ j = p) ∨ j = q) (fun j hj => .inl hj) fun j hj => .inl (.inl (hj.elim (HZL.out.2.1 j) fun e => e.elim (fun e => e ▸ HZL.out.2.2.1) fun e => e ▸ HZL.out.2.2.2))
    have hrow : Chg WF (WF.setRow q #[.slice A6 (dL C κ b L).length c6, .int .i64 (dV C κ b L), .bool (dG C κ b L), .bool (dec (b ∈ L)), .int .i64 (dE κ b)]) (· = q) (· = q) := chg_row _ _ _
    have hrc := (Rc.chg hrf hrow (fun j e => .inr e) fun j e => ⟨fun hy => (HNY.out j hy).2 e, fun e2 => (HNP.out g HZL.out.2.2.1).2 (e2 ▸ e), fun e2 => (HNP.out d HZL.out.2.2.2).2 (e2 ▸ e)⟩).less (X := Z) (fun j hj => .inl (.inl hj)) fun j hj => hj.elim (HZL.out.2.1 j) fun e => e.elim (fun e => e ▸ HZL.out.2.2.1) fun e => e ▸ HZL.out.2.2.2
    have hch : Chg w (WF.setRow q #[.slice A6 (dL C κ b L).length c6, .int .i64 (dV C κ b L), .bool (dG C κ b L), .bool (dec (b ∈ L)), .int .i64 (dE κ b)]) (fun j => Y j ∨ j = g) (fun j => Y j ∨ j = g) := chg_fresh hchx (by have := HPQ.out; omega) _
    exact ⟨A6, _, c6, _, _, _, _, rfl, ⟨_, by rw [hact]; exact hrc⟩, hch, fun e => by subst e; exact ⟨by unfold dG; simp only [true_and]; rfl, rfl⟩⟩
  · rw [if_pos (by rfl)]
    rw [HWD.out]
    have hal := below_alloc WD (.cells wz 120)
    have HRA := hid (HRD.out.alloc (.cells wz 120))
    have HDA := hid (HDD.out.below hal)
    have HBA := hid (on HBD.out hal)
    have HXA := hid (Bx.new WD 120 wz)
    have kq := And.intro (HDA.out.bp.cell 0) (And.intro (HDA.out.bp.cell 1) (And.intro (HCP.out _ HRA.out.box) (And.intro HRA.out.c17 HRA.out.c18)))
    clear hal
    go_simp
    refine hK.out _ _ kq (fun hHeld => ?_)
    clear hK K
    (try simp only [Act.put, tkA, tk0, tk1])
    refine tkc 16 (some 40) rfl fun K hK => ?_
    go_simp
    have HLR := hid HRA.out.ord.2.2
    obtain ⟨A9, c9, e9, i1, i2, i3, i4⟩ := HLR.out
    cases e9
    refine (HDO.out _ 0 i1 ⟨i2, i3⟩).mono ?_
    rintro e w5 ⟨A6, c6, rfl, j1, j2, j3, j4, j5⟩
    have HRB := hid (HRA.out.below j5)
    have HDB := hid (HDA.out.below j5)
    have HBB := hid (on HBA.out j5)
    have HTB := hid (show Rt w5 (fun j => ((Z j ∨ j = p) ∨ j = q) ∨ j = WD.heap.size) (.slice A6 (dL C κ b L).length c6) (dL C κ b L) from ⟨A6, c6, rfl, j1, j2, j3, fun ad e hz => j4.elim (fun e2 => i4 ad (e2 ▸ e) hz) fun h2 => Nat.lt_irrefl _ (Nat.lt_of_lt_of_le (HRA.out.lt _ hz) (h2 ad e))⟩)
    have HXB := hid (HXA.out.next j5)
    have kp := And.intro (HDB.out.bp.cell 0) (And.intro (HDB.out.bp.cell 1) (And.intro (HCP.out _ HRB.out.box) (And.intro HRB.out.c17 HRB.out.c18)))
    clear i1 i2 i3 i4 j1 j2 j3 j4 j5 HLR
    go_simp
    refine hK.out _ _ kp (fun hHeld => ?_)
    clear hK K
    (try simp only [Act.put, tkA, tk0, tk1])
    refine tkc 18 (none) rfl fun K hK => ?_
    refine wp_store_row 120 (.tmp 5) (.tmp 40) rfl (WD.heap.size) #[.slice A6 (dL C κ b L).length c6, .int .i64 (dV C κ b L), .bool (dG C κ b L), .bool (dec (b ∈ L)), .int .i64 (dE κ b)] rfl rfl _ _ HXB.out (by kernel_rfl) rfl (by simp [Value.oneCell']) ?_
    have hq9 : Chg w5 (w5.setRow (WD.heap.size) #[.slice A6 (dL C κ b L).length c6, .int .i64 (dV C κ b L), .bool (dG C κ b L), .bool (dec (b ∈ L)), .int .i64 (dE κ b)]) (· = WD.heap.size) (· = WD.heap.size) := chg_row _ _ _
    have HNR := hid (show ∀ j, ((Z j ∨ j = p) ∨ j = q) → ¬ j = WD.heap.size from fun j hj e => by have := HRD.out.lt j hj; omega)
    have HR9 := hid (HRB.out.chg hq9 (fun j e => .inr e) fun j e => ⟨fun hy => HNR.out j (.inl (.inl (HZL.out.2.1 j hy))) e, fun e2 => HNR.out g (.inl (.inl HZL.out.2.2.1)) (e2 ▸ e), fun e2 => HNR.out d (.inl (.inl HZL.out.2.2.2)) (e2 ▸ e)⟩)
    have HT9 := hid (HTB.out.chg hq9 fun j e => .inr e)
    have HD9 := hid (HDB.out.chg hq9 (HNR.out p (.inl (.inr rfl))) (HNR.out q (.inr rfl)))
    have HX9 := hid (Bx.row (cs' := #[.slice A6 (dL C κ b L).length c6, .int .i64 (dV C κ b L), .bool (dG C κ b L), .bool (dec (b ∈ L)), .int .i64 (dE κ b)]) HXB.out)
    have HB9 := hid (below_setRow HBB.out (show w.heap.size ≤ WD.heap.size from by have h1 := HBD.out.size; have h2 := HBB.out.size; first | exact h1 | exact h2) #[.slice A6 (dL C κ b L).length c6, .int .i64 (dV C κ b L), .bool (dG C κ b L), .bool (dec (b ∈ L)), .int .i64 (dE κ b)])
    have kr := And.intro (HD9.out.bp.cell 0) (And.intro (HD9.out.bp.cell 1) (And.intro (HCP.out _ HR9.out.box) (And.intro HR9.out.c17 HR9.out.c18)))
    clear hq9
    refine hK.out _ _ kr (fun hHeld => ?_)
    clear hK K
    (try simp only [Act.put])
    refine wpAnyH_done (by kernel_rfl) ?_ _
    refine NoPanic.normal ?_
    go_upto_region 5 with fail
    obtain ⟨r9, hr9⟩ : ∃ x, WD.heap.size = x := ⟨_, rfl⟩
    rw [hr9] at HR9 HT9 HD9 HX9 HB9 HNR ⊢
    clear hr9
    generalize w5.setRow r9 #[.slice A6 (dL C κ b L).length c6, .int .i64 (dV C κ b L), .bool (dG C κ b L), .bool (dec (b ∈ L)), .int .i64 (dE κ b)] = W9 at *
    have x0 : W9.cell? ⟨r9, 0, none⟩ = some (.slice A6 (dL C κ b L).length c6) := HX9.out.cell 0
    have z18 := HR9.out.c18
    have y18 := HR9.out.box.free 18
    go_upto_region 6 with fail
    clear x0 z18 y18
    have HRF := hid (HR9.out.setL HT9.out)
    have hcg : Chg W9 (W9.setCell ⟨g, 18, none⟩ (.slice A6 (dL C κ b L).length c6)) (· = g) (· = g) := ⟨by unfold World.setCell; split <;> rfl, by unfold World.setCell; split <;> rfl, by unfold World.setCell; split <;> rfl, by rw [setSize]; exact Nat.le_refl _, fun j _ hj => Below.heap_setCell W9 _ _ j fun e => hj e, fun _ e => .inl e⟩
    have HCG := hid hcg
    have HXF := hid (hcg.bx HX9.out fun e => HNR.out g (.inl (.inl HZL.out.2.2.1)) e.symm)
    have HDF := hid (HD9.out.chg hcg (fun e => (HNP.out g HZL.out.2.2.1).1 e.symm) fun e => (HNP.out g HZL.out.2.2.1).2 e.symm)
    clear hcg
    obtain ⟨WF, hWF⟩ : ∃ x, W9.setCell ⟨g, 18, none⟩ (.slice A6 (dL C κ b L).length c6) = x := ⟨_, rfl⟩
    rw [hWF] at HRF HCG HXF HDF ⊢
    clear hWF
    go_wp2_with (first
      | (refine wpList_load_bx rfl 120 (.tmp 5) rfl r9 _ _ _ rfl HXF.out Tryz.underlying120 rfl (by kernel_rfl) ?_)
      | (refine wpList_store_bx rfl 120 (.tmp 4) (.tmp 46) rfl rfl q _ _ #[.slice A6 (dL C κ b L).length c6, .int .i64 (dV C κ b L), .bool (dG C κ b L), .bool (dec (b ∈ L)), .int .i64 (dE κ b)] rfl rfl HDF.out.bq (by kernel_rfl) rfl (by simp [Value.oneCell']) ?_))
    refine bodyPost_ret (results_bx1 rfl _ rfl (HDF.out.bq.row (cs' := #[.slice A6 (dL C κ b L).length c6, .int .i64 (dV C κ b L), .bool (dG C κ b L), .bool (dec (b ∈ L)), .int .i64 (dE κ b)])) Tryz.underlying120 rfl (by kernel_rfl)) rfl ?_
    have hact : (Ob.lru C L).act κ b = .lru C (dL C κ b L) := by
      have hk := HK.out
      unfold Ob.act dL
      obtain rfl | rfl | rfl : κ = 0 ∨ κ = 1 ∨ κ = 2 := by omega
      all_goals rfl
    have hchx : Chg w WF (fun j => Y j ∨ j = g) (fun j => Y j ∨ j = g) := (Chg.of HB9.out _).trans (HCG.out.wide fun j e => .inr e)
    have hrf := HRF.out.less (X := fun j => (Z j ∨ j = p) ∨ j = q) (fun j hj => .inl hj) fun j hj => .inl (.inl (hj.elim (HZL.out.2.1 j) fun e => e.elim (fun e => e ▸ HZL.out.2.2.1) fun e => e ▸ HZL.out.2.2.2))
    have hrow : Chg WF (WF.setRow q #[.slice A6 (dL C κ b L).length c6, .int .i64 (dV C κ b L), .bool (dG C κ b L), .bool (dec (b ∈ L)), .int .i64 (dE κ b)]) (· = q) (· = q) := chg_row _ _ _
    have hrc := (Rc.chg hrf hrow (fun j e => .inr e) fun j e => ⟨fun hy => (HNY.out j hy).2 e, fun e2 => (HNP.out g HZL.out.2.2.1).2 (e2 ▸ e), fun e2 => (HNP.out d HZL.out.2.2.2).2 (e2 ▸ e)⟩).less (X := Z) (fun j hj => .inl (.inl hj)) fun j hj => hj.elim (HZL.out.2.1 j) fun e => e.elim (fun e => e ▸ HZL.out.2.2.1) fun e => e ▸ HZL.out.2.2.2
    have hch : Chg w (WF.setRow q #[.slice A6 (dL C κ b L).length c6, .int .i64 (dV C κ b L), .bool (dG C κ b L), .bool (dec (b ∈ L)), .int .i64 (dE κ b)]) (fun j => Y j ∨ j = g) (fun j => Y j ∨ j = g) := chg_fresh hchx (by have := HPQ.out; omega) _
    exact ⟨A6, _, c6, _, _, _, _, rfl, ⟨_, by rw [hact]; exact hrc⟩, hch, fun e => by subst e; exact ⟨by unfold dG; simp only [true_and]; rfl, rfl⟩⟩
theorem rs_add {h a p e C N L H : Nat} {m : Ms} {b : Int} (r : Rs w Z h a p e C N L H m) (ok : Okm C N L H m) (hH : H ≤ 16) (ht : m.t ≤ 10000000) (hv : vb b) :
    Calls Tryz.prog 76 #[.pointer (some ⟨h, 0, none⟩), .int .i64 b] w fun en w' => en = .returned (.agg #[.int .i64 (m.adV C b), .bool (decide (m.goes C b)), .int .i64 0]) ∧ Rs w' Z h a p e C N L H (m.adM C N L H b) ∧ Chg w w' (Fr h a p e) (Fr h a p e) := by
  by_cases hb : b ∈ m.al
  · have hg : ¬ m.goes C b := fun h => h.2.1 hb
    have e1 : m.adV C b = 0 := if_neg hg
    have e2 : m.adM C N L H b = m.us N L b := (if_neg hg).trans (if_pos hv)
    rw [e1, e2, decide_eq_false hg]
    exact rs_add_was r ok ht hb
  · by_cases hl : m.al.length < C
    · have hg : ¬ m.goes C b := fun h => by have := h.2.2; omega
      have e1 : m.adV C b = 0 := if_neg hg
      have e2 : m.adM C N L H b = m.us N L b := (if_neg hg).trans (if_pos hv)
      rw [e1, e2, decide_eq_false hg]
      exact rs_add_room r ok ht hv hb hl
    · have hf : m.al.length = C := by have := ok.cap; omega
      have hg : m.goes C b := ⟨hv, hb, hf⟩
      have e1 : m.adV C b = m.vc := if_pos hg
      have e2 : m.adM C N L H b = (m.ha H m.vc).us N L b := if_pos hg
      rw [e1, e2, decide_eq_true hg]
      exact rs_add_full r ok hH ht hv hb hf
set_option maxRecDepth 20000 in
set_option maxHeartbeats 2000000 in
theorem rdo16_mq0 {C N L H : Nat} {m : Ms} {K : Nat} {b : Int} (h : Rc w Z Y g d c A n cp T lv mv pv cv us (.mq C N L H m) E) (ok : (Ob.mq C N L H m).Ok K) (ht : m.t ≤ 10000000) :
    Calls Tryz.prog 62 #[.pointer (some ⟨g, 0, none⟩), .agg #[.int .i64 0, .int .i64 b]] w (RdoQ w Z Y g d c A n cp T mv pv cv us (.mq C N L H m) E 0 b) := by
  have HD0 := hid (dq_made w 0 b)
  have HB0 := hid (on (below_alloc w (.cells #[.int .i64 0, .int .i64 b] 123)) (below_alloc _ (.cells wz 120)))
  have HR0 := hid (h.with_dq 0 b)
  have HZL := hid (And.intro h.lt (And.intro h.yz (And.intro h.zg h.zd)))
  obtain ⟨rfl, h0, a0, p0, e0, rfl, -⟩ := id h.ord
  have HOK := hid ok
  have HTM := hid ht
  clear h ok ht
  go_enter Tryz.func62, Tryz.ntmps62
  go_upto_region 1 with fail
  obtain ⟨W0, hW0⟩ : ∃ x, (w.alloc (.cells #[.int .i64 0, .int .i64 b] 123)).alloc (.cells wz 120) = x := ⟨_, rfl⟩
  obtain ⟨q, hq⟩ : ∃ x, w.heap.size + 1 = x := ⟨_, rfl⟩
  obtain ⟨p, hp⟩ : ∃ x, w.heap.size = x := ⟨_, rfl⟩
  rw [hW0, hq, hp] at HD0 HR0
  rw [hW0] at HB0 ⊢
  rw [hq, hp]
  have HPQ := hid (And.intro hp hq)
  have HNP := hid (show ∀ j, Z j → j ≠ p ∧ j ≠ q from fun j hj => by have := HZL.out.1 j hj; omega)
  have HNY := hid (show ∀ j, Y j → j ≠ p ∧ j ≠ q from fun j hj => HNP.out j (HZL.out.2.1 j hj))
  clear hW0 hp hq
  have g19 : W0.cell? ⟨g, 19, none⟩ = some (.pointer (some ⟨h0, 0, none⟩)) := HR0.out.c19
  have g20 : W0.cell? ⟨g, 20, none⟩ = some (.pointer none) := HR0.out.c20
  have x1 : W0.cell? ⟨p, 1, none⟩ = some (.int .i64 b) := HD0.out.bp.cell 1
  have HHA := hid (rc_has HR0.out HOK.out b)
  go_upto_region 8 with (go_at_call 20; refine HHA.out.mono ?_; rintro e w1 ⟨rfl, hb⟩; have HR1 := hid (HR0.out.below hb); have HD1 := hid (HD0.out.below hb); have HB1 := hid (on HB0.out hb); clear hb)
  clear g19 g20 x1 HHA
  generalize dec (b ∈ (Ob.mq C N L H m).all) = was at *
  have hal := below_alloc w1 (.cells #[.slice none 0 0, .int .i64 0, .bool false, .bool was, .int .i64 0] 120)
  have hr2 := HR1.out.alloc (.cells #[.slice none 0 0, .int .i64 0, .bool false, .bool was, .int .i64 0] 120)
  have hx2 := Bx.new w1 120 #[.slice none 0 0, .int .i64 0, .bool false, .bool was, .int .i64 0]
  have hd2 := HD1.out.below hal
  have hb2 := on HB1.out hal
  have hn6 : ∀ j, ((Z j ∨ j = p) ∨ j = q) → ¬ j = w1.heap.size := fun j hj e => by have := HR1.out.lt j hj; omega
  have h6 : w.heap.size ≤ w1.heap.size := HB1.out.size
  obtain ⟨W2, hW2⟩ : ∃ x, w1.alloc (.cells #[.slice none 0 0, .int .i64 0, .bool false, .bool was, .int .i64 0] 120) = x := ⟨_, rfl⟩
  obtain ⟨r6, hr6⟩ : ∃ x, w1.heap.size = x := ⟨_, rfl⟩
  rw [hW2] at hr2 hx2 hd2 hb2 ⊢
  rw [hr6] at hr2 hx2 hn6 h6 ⊢
  have HR2 := hid hr2
  have HX2 := hid hx2
  have HD2 := hid hd2
  have HB2 := hid hb2
  have HN6 := hid hn6
  have H6 := hid h6
  have x0 : W2.cell? ⟨p, 0, none⟩ = some (.int .i64 0) := hd2.bp.cell 0
  clear hal hr2 hx2 hd2 hb2 hn6 h6 hW2 hr6
  go_upto_region 9 with fail
  clear x0
  obtain ⟨WD, hWD⟩ : ∃ x, W2.drew = x := ⟨_, rfl⟩
  have HWD := hid hWD
  have hrd := HR2.out.draws 1
  have hdd := HD2.out.below (below_draws (Below.refl W2.heap.size W2) 1)
  have hbd := below_draws HB2.out 1
  have hxd := HX2.out.next (below_draws (Below.refl W2.heap.size W2) 1)
  rw [show W2.drewN 1 = WD from hWD] at hrd hdd hbd hxd
  have HRD := hid hrd
  have HDD := hid hdd
  have HBD := hid hbd
  have HXD := hid hxd
  clear hrd hdd hbd hxd hWD
  have HS0 := hid (show WD.cell? ⟨g, 19, none⟩ = some (.pointer (some ⟨h0, 0, none⟩)) ∧ WD.cell? ⟨p, 1, none⟩ = some (.int .i64 b) from ⟨HRD.out.c19, HDD.out.bp.cell 1⟩)
  refine wp_region_noPanic ?_
  refine wp_region_held_drew (S := fun w' => w'.cell? ⟨g, 19, none⟩ = some (.pointer (some ⟨h0, 0, none⟩)) ∧ w'.cell? ⟨p, 1, none⟩ = some (.int .i64 b)) (by kernel_rfl) ?_ (fun hHeld => ?_)
  · rw [HWD.out]; exact HS0.out
  refine tkv 0 (some 55) rfl ?_
  refine tkv 1 (some 56) rfl ?_
  refine tkv 2 (some 57) rfl ?_
  refine tkv 3 (some 58) rfl ?_
  refine tkv 4 (some 59) rfl ?_
  refine tkv 5 (some 60) rfl ?_
  refine tkc 6 (some 61) rfl fun K hK => ?_
  rw [HWD.out]
  go_simp
  obtain ⟨-, h2, a2, p2, e2, he, h5, h6⟩ := HRD.out.ord
  cases he
  have HFY := hid h6
  have HCO := hid (rs_use h5 HOK.out.2.1 HTM.out b)
  clear h5 h6
  refine HCO.out.mono ?_
  rintro e w5 ⟨rfl, hrs, hch⟩
  have HCH := hid (hch.wide HFY.out)
  have HRX := hid (HRD.out.to (o' := .mq C N L H (m.useM N L b)) HCH.out (fun j hj => hj) ⟨rfl, _, a2, p2, e2, rfl, hrs, HFY.out⟩)
  have HDX := hid (HDD.out.chg HCH.out (fun hy => (HNY.out p hy).1 rfl) fun hy => (HNY.out q hy).2 rfl)
  have HXX := hid (HCH.out.bx HXD.out fun hy => HN6.out r6 (.inl (.inl (HZL.out.2.1 r6 hy))) rfl)
  have HCW := hid (show Chg w w5 (fun j => Y j ∨ j = g) (fun j => Y j ∨ j = g) from (Chg.of HBD.out _).trans (HCH.out.wide fun j hj => .inl hj))
  have kp := And.intro HRX.out.c19 (HDX.out.bp.cell 1)
  clear hrs hch
  go_simp
  refine hK.out _ _ kp (fun hHeld => ?_)
  clear hK K
  (try simp only [Act.put, tkA, tk0, tk1])
  refine wpAnyH_done (by kernel_rfl) ?_ _
  refine NoPanic.normal ?_
  have x0 : w5.cell? ⟨p, 0, none⟩ = some (.int .i64 0) := HDX.out.bp.cell 0
  go_wp2_with (first
    | (refine wpList_load_bx rfl 120 (.tmp 6) rfl r6 _ _ _ rfl HXX.out Tryz.underlying120 rfl (by kernel_rfl) ?_)
    | (refine wpList_store_bx rfl 120 (.tmp 4) (.tmp 91) rfl rfl q _ _ #[.slice none 0 0, .int .i64 0, .bool false, .bool was, .int .i64 0] rfl rfl HDX.out.bq (by kernel_rfl) rfl (by simp [Value.oneCell']) ?_))
  refine bodyPost_ret (results_bx1 rfl _ rfl (HDX.out.bq.row (cs' := #[.slice none 0 0, .int .i64 0, .bool false, .bool was, .int .i64 0])) Tryz.underlying120 rfl (by kernel_rfl)) rfl ?_
  have hrl := HRX.out.less (X := fun j => (Z j ∨ j = p) ∨ j = q) (fun j hj => .inl hj) fun j hj => .inl (.inl (hj.elim (HZL.out.2.1 j) fun e => e.elim (fun e => e ▸ HZL.out.2.2.1) fun e => e ▸ HZL.out.2.2.2))
  have hrow : Chg w5 (w5.setRow q #[.slice none 0 0, .int .i64 0, .bool false, .bool was, .int .i64 0]) (· = q) (· = q) := chg_row _ _ _
  have hrc := (Rc.chg hrl hrow (fun j e => .inr e) fun j e => ⟨fun hy => (HNY.out j hy).2 e, fun e2 => (HNP.out g HZL.out.2.2.1).2 (e2 ▸ e), fun e2 => (HNP.out d HZL.out.2.2.2).2 (e2 ▸ e)⟩).less (X := Z) (fun j hj => .inl (.inl hj)) fun j hj => hj.elim (HZL.out.2.1 j) fun e => e.elim (fun e => e ▸ HZL.out.2.2.1) fun e => e ▸ HZL.out.2.2.2
  have hch : Chg w (w5.setRow q #[.slice none 0 0, .int .i64 0, .bool false, .bool was, .int .i64 0]) (fun j => Y j ∨ j = g) (fun j => Y j ∨ j = g) := chg_fresh HCW.out (by have := HPQ.out; omega) _
  exact ⟨none, 0, 0, _, _, _, _, rfl, ⟨_, hrc⟩, hch, fun e => by cases e⟩
set_option maxRecDepth 20000 in
set_option maxHeartbeats 2000000 in
theorem rdo16_mq1 {C N L H : Nat} {m : Ms} {K : Nat} {b : Int} (h : Rc w Z Y g d c A n cp T lv mv pv cv us (.mq C N L H m) E) (ok : (Ob.mq C N L H m).Ok K) (ht : m.t ≤ 10000000) (hv : vb b) :
    Calls Tryz.prog 62 #[.pointer (some ⟨g, 0, none⟩), .agg #[.int .i64 1, .int .i64 b]] w (RdoQ w Z Y g d c A n cp T mv pv cv us (.mq C N L H m) E 1 b) := by
  have HD0 := hid (dq_made w 1 b)
  have HB0 := hid (on (below_alloc w (.cells #[.int .i64 1, .int .i64 b] 123)) (below_alloc _ (.cells wz 120)))
  have HR0 := hid (h.with_dq 1 b)
  have HZL := hid (And.intro h.lt (And.intro h.yz (And.intro h.zg h.zd)))
  obtain ⟨rfl, h0, a0, p0, e0, rfl, -⟩ := id h.ord
  have HOK := hid ok
  have HTM := hid ht
  have HVB := hid hv
  clear h ok ht hv
  go_enter Tryz.func62, Tryz.ntmps62
  go_upto_region 1 with fail
  obtain ⟨W0, hW0⟩ : ∃ x, (w.alloc (.cells #[.int .i64 1, .int .i64 b] 123)).alloc (.cells wz 120) = x := ⟨_, rfl⟩
  obtain ⟨q, hq⟩ : ∃ x, w.heap.size + 1 = x := ⟨_, rfl⟩
  obtain ⟨p, hp⟩ : ∃ x, w.heap.size = x := ⟨_, rfl⟩
  rw [hW0, hq, hp] at HD0 HR0
  rw [hW0] at HB0 ⊢
  rw [hq, hp]
  have HPQ := hid (And.intro hp hq)
  have HNP := hid (show ∀ j, Z j → j ≠ p ∧ j ≠ q from fun j hj => by have := HZL.out.1 j hj; omega)
  have HNY := hid (show ∀ j, Y j → j ≠ p ∧ j ≠ q from fun j hj => HNP.out j (HZL.out.2.1 j hj))
  clear hW0 hp hq
  have g19 : W0.cell? ⟨g, 19, none⟩ = some (.pointer (some ⟨h0, 0, none⟩)) := HR0.out.c19
  have g20 : W0.cell? ⟨g, 20, none⟩ = some (.pointer none) := HR0.out.c20
  have x1 : W0.cell? ⟨p, 1, none⟩ = some (.int .i64 b) := HD0.out.bp.cell 1
  have HHA := hid (rc_has HR0.out HOK.out b)
  go_upto_region 8 with (go_at_call 20; refine HHA.out.mono ?_; rintro e w1 ⟨rfl, hb⟩; have HR1 := hid (HR0.out.below hb); have HD1 := hid (HD0.out.below hb); have HB1 := hid (on HB0.out hb); clear hb)
  clear g19 g20 x1 HHA
  generalize dec (b ∈ (Ob.mq C N L H m).all) = was at *
  have hal := below_alloc w1 (.cells #[.slice none 0 0, .int .i64 0, .bool false, .bool was, .int .i64 0] 120)
  have hr2 := HR1.out.alloc (.cells #[.slice none 0 0, .int .i64 0, .bool false, .bool was, .int .i64 0] 120)
  have hx2 := Bx.new w1 120 #[.slice none 0 0, .int .i64 0, .bool false, .bool was, .int .i64 0]
  have hd2 := HD1.out.below hal
  have hb2 := on HB1.out hal
  have hn6 : ∀ j, ((Z j ∨ j = p) ∨ j = q) → ¬ j = w1.heap.size := fun j hj e => by have := HR1.out.lt j hj; omega
  have h6 : w.heap.size ≤ w1.heap.size := HB1.out.size
  obtain ⟨W2, hW2⟩ : ∃ x, w1.alloc (.cells #[.slice none 0 0, .int .i64 0, .bool false, .bool was, .int .i64 0] 120) = x := ⟨_, rfl⟩
  obtain ⟨r6, hr6⟩ : ∃ x, w1.heap.size = x := ⟨_, rfl⟩
  rw [hW2] at hr2 hx2 hd2 hb2 ⊢
  rw [hr6] at hr2 hx2 hn6 h6 ⊢
  have HR2 := hid hr2
  have HX2 := hid hx2
  have HD2 := hid hd2
  have HB2 := hid hb2
  have HN6 := hid hn6
  have H6 := hid h6
  have x0 : W2.cell? ⟨p, 0, none⟩ = some (.int .i64 1) := hd2.bp.cell 0
  clear hal hr2 hx2 hd2 hb2 hn6 h6 hW2 hr6
  go_upto_region 11 with fail
  clear x0
  obtain ⟨WD, hWD⟩ : ∃ x, W2.drew = x := ⟨_, rfl⟩
  have HWD := hid hWD
  have hrd := HR2.out.draws 1
  have hdd := HD2.out.below (below_draws (Below.refl W2.heap.size W2) 1)
  have hbd := below_draws HB2.out 1
  have hxd := HX2.out.next (below_draws (Below.refl W2.heap.size W2) 1)
  rw [show W2.drewN 1 = WD from hWD] at hrd hdd hbd hxd
  have HRD := hid hrd
  have HDD := hid hdd
  have HBD := hid hbd
  have HXD := hid hxd
  clear hrd hdd hbd hxd hWD
  have HS0 := hid (show WD.cell? ⟨g, 19, none⟩ = some (.pointer (some ⟨h0, 0, none⟩)) ∧ WD.cell? ⟨p, 1, none⟩ = some (.int .i64 b) from ⟨HRD.out.c19, HDD.out.bp.cell 1⟩)
  refine wp_region_noPanic ?_
  refine wp_region_held_drew (S := fun w' => w'.cell? ⟨g, 19, none⟩ = some (.pointer (some ⟨h0, 0, none⟩)) ∧ w'.cell? ⟨p, 1, none⟩ = some (.int .i64 b)) (by kernel_rfl) ?_ (fun hHeld => ?_)
  · rw [HWD.out]; exact HS0.out
  refine tkv 0 (some 65) rfl ?_
  refine tkv 1 (some 66) rfl ?_
  refine tkv 2 (some 67) rfl ?_
  refine tkv 3 (some 68) rfl ?_
  refine tkv 4 (some 69) rfl ?_
  refine tkv 5 (some 70) rfl ?_
  refine wpAnyH_ready (rs := [6, 7]) (by kernel_rfl) (by simp) ?_
  refine (AllReadyH.cons (o := ⟨some 71, _, _, _, _, _⟩) rfl (fun K hK => ?_) (AllReadyH.cons (o := ⟨some 7, _, _, _, _, _⟩) rfl (fun K hK => ?_) AllReadyH.nil))
  · rw [if_pos (by rfl)]
    rw [HWD.out]
    go_simp
    obtain ⟨-, h2, a2, p2, e2, he, h5, h6⟩ := HRD.out.ord
    cases he
    have HFY := hid h6
    have HCO := hid (rs_add h5 HOK.out.2.1 HOK.out.2.2 HTM.out HVB.out)
    clear h5 h6
    refine HCO.out.mono ?_
    rintro e w5 ⟨rfl, hrs, hch⟩
    have HCH := hid (hch.wide HFY.out)
    have HRX := hid (HRD.out.to (o' := .mq C N L H (m.adM C N L H b)) HCH.out (fun j hj => hj) ⟨rfl, _, a2, p2, e2, rfl, hrs, HFY.out⟩)
    have HDX := hid (HDD.out.chg HCH.out (fun hy => (HNY.out p hy).1 rfl) fun hy => (HNY.out q hy).2 rfl)
    have HXX := hid (HCH.out.bx HXD.out fun hy => HN6.out r6 (.inl (.inl (HZL.out.2.1 r6 hy))) rfl)
    have HCW := hid (show Chg w w5 (fun j => Y j ∨ j = g) (fun j => Y j ∨ j = g) from (Chg.of HBD.out _).trans (HCH.out.wide fun j hj => .inl hj))
    have kp := And.intro HRX.out.c19 (HDX.out.bp.cell 1)
    clear hrs hch
    go_simp
    refine hK.out _ _ kp (fun hHeld => ?_)
    clear hK K
    (try simp only [Act.put, tkA, tk0, tk1])
    refine tkc 7 (some 7) rfl fun K hK => ?_
    have hal := below_alloc w5 (.cells #[.int .i64 0, .bool false, .int .i64 0] 151)
    have HRA := hid (HRX.out.alloc (.cells #[.int .i64 0, .bool false, .int .i64 0] 151))
    have HDA := hid (HDX.out.below hal)
    have HXA := hid (HXX.out.next hal)
    have HYA := hid (Bx.new w5 151 #[.int .i64 0, .bool false, .int .i64 0])
    have HN7 := hid (show ∀ x : Nat, Z w5.heap.size → False from fun _ hz => by have := HRX.out.lt _ (.inl (.inl (.inl hz))); omega)
    have HSZ := hid (show r6 < w5.heap.size ∧ p < w5.heap.size ∧ q < w5.heap.size ∧ g < w5.heap.size from ⟨HXX.out.lt, HDX.out.bp.lt, HDX.out.bq.lt, HRX.out.box.lt⟩)
    have HCA := hid (HCW.out.trans (Chg.of hal _))
    have kq := And.intro HRA.out.c19 (HDA.out.bp.cell 1)
    clear hal
    go_simp
    refine hK.out _ _ kq (fun hHeld => ?_)
    clear hK K
    (try simp only [Act.put, tkA, tk0, tk1])
    refine tkc 8 (none) rfl fun K hK => ?_
    refine wp_store_row 151 (.tmp 7) (.tmp 71) rfl (w5.heap.size) #[.int .i64 (m.adV C b), .bool (decide (m.goes C b)), .int .i64 0] rfl rfl _ _ HYA.out (by kernel_rfl) rfl (by simp [Value.oneCell']) ?_
    have hq9 : Chg (w5.alloc (.cells #[.int .i64 0, .bool false, .int .i64 0] 151)) ((w5.alloc (.cells #[.int .i64 0, .bool false, .int .i64 0] 151)).setRow (w5.heap.size) #[.int .i64 (m.adV C b), .bool (decide (m.goes C b)), .int .i64 0]) (· = w5.heap.size) (· = w5.heap.size) := chg_row _ _ _
    have hne : r6 ≠ w5.heap.size ∧ p ≠ w5.heap.size ∧ q ≠ w5.heap.size ∧ g ≠ w5.heap.size := by have h9 := HSZ.out; omega
    have HR9 := hid (HRA.out.chg hq9 (fun j e => .inr e) fun j e => ⟨fun hy => HN7.out 0 (e ▸ HZL.out.2.1 j hy), fun e2 => hne.2.2.2 (e2.symm.trans e), fun e2 => HN7.out 0 (e ▸ e2 ▸ HZL.out.2.2.2)⟩)
    have HD9 := hid (HDA.out.chg hq9 hne.2.1 hne.2.2.1)
    have HX9 := hid (hq9.bx HXA.out hne.1)
    have HY9 := hid (Bx.row (cs' := #[.int .i64 (m.adV C b), .bool (decide (m.goes C b)), .int .i64 0]) HYA.out)
    have HC9 := hid (show Chg w ((w5.alloc (.cells #[.int .i64 0, .bool false, .int .i64 0] 151)).setRow (w5.heap.size) #[.int .i64 (m.adV C b), .bool (decide (m.goes C b)), .int .i64 0]) (fun j => Y j ∨ j = g) (fun j => Y j ∨ j = g) from chg_fresh HCA.out (by have h1 := HBD.out.size; have h2 := HCW.out.size; first | exact h2 | exact h1) _)
    have HN9 := hid hne
    have kr := And.intro HR9.out.c19 (HD9.out.bp.cell 1)
    clear hq9 hne
    refine hK.out _ _ kr (fun hHeld => ?_)
    clear hK K
    (try simp only [Act.put])
    refine wpAnyH_done (by kernel_rfl) ?_ _
    refine NoPanic.normal ?_
    go_upto_region 12 with fail
    obtain ⟨r7, hr7⟩ : ∃ x, w5.heap.size = x := ⟨_, rfl⟩
    rw [hr7] at HR9 HD9 HX9 HY9 HC9 HN9 ⊢
    clear hr7
    generalize (w5.alloc (.cells #[.int .i64 0, .bool false, .int .i64 0] 151)).setRow r7 #[.int .i64 (m.adV C b), .bool (decide (m.goes C b)), .int .i64 0] = W9 at *
    have y0 : W9.cell? ⟨r7, 0, none⟩ = some (.int .i64 (m.adV C b)) := HY9.out.cell 0
    have z1 : W9.cell? ⟨r6, 1, none⟩ = some (.int .i64 0) := HX9.out.cell 1
    have f1 := HX9.out.free 1
    go_upto_region 13 with fail
    clear y0 z1 f1
    have hs10 := chg_one W9 r6 1 (.int .i64 (m.adV C b))
    have HR10 := hid (HR9.out.chg hs10 (fun j e => .inl (.inr e)) fun j e => ⟨fun hy => HN6.out j (.inl (.inl (HZL.out.2.1 j hy))) e, fun e2 => HN6.out g (.inl (.inl HZL.out.2.2.1)) (e2 ▸ e), fun e2 => HN6.out d (.inl (.inl HZL.out.2.2.2)) (e2 ▸ e)⟩)
    have HD10 := hid (HD9.out.chg hs10 (HN6.out p (.inl (.inr rfl))) (HN6.out q (.inr rfl)))
    have HY10 := hid (hs10.bx HY9.out fun e => HN9.out.1 e.symm)
    have HX10 := hid (show Bx _ r6 120 #[.slice none 0 0, .int .i64 (m.adV C b), .bool false, .bool was, .int .i64 0] from HX9.out.set 1 (.int .i64 (m.adV C b)))
    have HC10 := hid (chg_far HC9.out H6.out 1 (.int .i64 (m.adV C b)))
    clear hs10
    generalize W9.setCell ⟨r6, 1, none⟩ (.int .i64 (m.adV C b)) = W10 at *
    have y1 : W10.cell? ⟨r7, 1, none⟩ = some (.bool (decide (m.goes C b))) := HY10.out.cell 1
    have z2 : W10.cell? ⟨r6, 2, none⟩ = some (.bool false) := HX10.out.cell 2
    have f2 := HX10.out.free 2
    go_upto_region 14 with fail
    clear y1 z2 f2
    have hs11 := chg_one W10 r6 2 (.bool (decide (m.goes C b)))
    have HR11 := hid (HR10.out.chg hs11 (fun j e => .inl (.inr e)) fun j e => ⟨fun hy => HN6.out j (.inl (.inl (HZL.out.2.1 j hy))) e, fun e2 => HN6.out g (.inl (.inl HZL.out.2.2.1)) (e2 ▸ e), fun e2 => HN6.out d (.inl (.inl HZL.out.2.2.2)) (e2 ▸ e)⟩)
    have HD11 := hid (HD10.out.chg hs11 (HN6.out p (.inl (.inr rfl))) (HN6.out q (.inr rfl)))
    have HY11 := hid (hs11.bx HY10.out fun e => HN9.out.1 e.symm)
    have HX11 := hid (show Bx _ r6 120 #[.slice none 0 0, .int .i64 (m.adV C b), .bool (decide (m.goes C b)), .bool was, .int .i64 0] from HX10.out.set 2 (.bool (decide (m.goes C b))))
    have HC11 := hid (chg_far HC10.out H6.out 2 (.bool (decide (m.goes C b))))
    clear hs11
    generalize W10.setCell ⟨r6, 2, none⟩ (.bool (decide (m.goes C b))) = W11 at *
    have y2 : W11.cell? ⟨r7, 2, none⟩ = some (.int .i64 0) := HY11.out.cell 2
    have z4 : W11.cell? ⟨r6, 4, none⟩ = some (.int .i64 0) := HX11.out.cell 4
    have f4 := HX11.out.free 4
    go_upto_region 15 with fail
    clear y2 z4 f4
    have hs12 := chg_one W11 r6 4 (.int .i64 0)
    have HR12 := hid (HR11.out.chg hs12 (fun j e => .inl (.inr e)) fun j e => ⟨fun hy => HN6.out j (.inl (.inl (HZL.out.2.1 j hy))) e, fun e2 => HN6.out g (.inl (.inl HZL.out.2.2.1)) (e2 ▸ e), fun e2 => HN6.out d (.inl (.inl HZL.out.2.2.2)) (e2 ▸ e)⟩)
    have HD12 := hid (HD11.out.chg hs12 (HN6.out p (.inl (.inr rfl))) (HN6.out q (.inr rfl)))
    have HY12 := hid (hs12.bx HY11.out fun e => HN9.out.1 e.symm)
    have HX12 := hid (show Bx _ r6 120 #[.slice none 0 0, .int .i64 (m.adV C b), .bool (decide (m.goes C b)), .bool was, .int .i64 0] from HX11.out.set 4 (.int .i64 0))
    have HC12 := hid (chg_far HC11.out H6.out 4 (.int .i64 0))
    clear hs12
    generalize W11.setCell ⟨r6, 4, none⟩ (.int .i64 0) = W12 at *
    have x0 : W12.cell? ⟨p, 0, none⟩ = some (.int .i64 1) := HD12.out.bp.cell 0
    go_wp2_with (first
      | (refine wpList_load_bx rfl 120 (.tmp 6) rfl r6 _ _ _ rfl HX12.out Tryz.underlying120 rfl (by kernel_rfl) ?_)
      | (refine wpList_store_bx rfl 120 (.tmp 4) (.tmp 91) rfl rfl q _ _ #[.slice none 0 0, .int .i64 (m.adV C b), .bool (decide (m.goes C b)), .bool was, .int .i64 0] rfl rfl HD12.out.bq (by kernel_rfl) rfl (by simp [Value.oneCell']) ?_))
    refine bodyPost_ret (results_bx1 rfl _ rfl (HD12.out.bq.row (cs' := #[.slice none 0 0, .int .i64 (m.adV C b), .bool (decide (m.goes C b)), .bool was, .int .i64 0])) Tryz.underlying120 rfl (by kernel_rfl)) rfl ?_
    have hrl := HR12.out.less (X := fun j => (Z j ∨ j = p) ∨ j = q) (fun j hj => .inl (.inl hj)) fun j hj => .inl (.inl (hj.elim (HZL.out.2.1 j) fun e => e.elim (fun e => e ▸ HZL.out.2.2.1) fun e => e ▸ HZL.out.2.2.2))
    have hrow : Chg W12 (W12.setRow q #[.slice none 0 0, .int .i64 (m.adV C b), .bool (decide (m.goes C b)), .bool was, .int .i64 0]) (· = q) (· = q) := chg_row _ _ _
    have hrc := (Rc.chg hrl hrow (fun j e => .inr e) fun j e => ⟨fun hy => (HNY.out j hy).2 e, fun e2 => (HNP.out g HZL.out.2.2.1).2 (e2 ▸ e), fun e2 => (HNP.out d HZL.out.2.2.2).2 (e2 ▸ e)⟩).less (X := Z) (fun j hj => .inl (.inl hj)) fun j hj => hj.elim (HZL.out.2.1 j) fun e => e.elim (fun e => e ▸ HZL.out.2.2.1) fun e => e ▸ HZL.out.2.2.2
    have hch : Chg w (W12.setRow q #[.slice none 0 0, .int .i64 (m.adV C b), .bool (decide (m.goes C b)), .bool was, .int .i64 0]) (fun j => Y j ∨ j = g) (fun j => Y j ∨ j = g) := chg_fresh HC12.out (by have := HPQ.out; omega) _
    exact ⟨none, 0, 0, _, _, _, _, rfl, ⟨_, hrc⟩, hch, fun _ => ⟨rfl, rfl⟩⟩
  · rw [if_pos (by rfl)]
    rw [HWD.out]
    have hal := below_alloc WD (.cells #[.int .i64 0, .bool false, .int .i64 0] 151)
    have HRA := hid (HRD.out.alloc (.cells #[.int .i64 0, .bool false, .int .i64 0] 151))
    have HDA := hid (HDD.out.below hal)
    have HXA := hid (HXD.out.next hal)
    have HYA := hid (Bx.new WD 151 #[.int .i64 0, .bool false, .int .i64 0])
    have HN7 := hid (show ∀ x : Nat, Z WD.heap.size → False from fun _ hz => by have := HRD.out.lt _ (.inl (.inl (.inl hz))); omega)
    have HSZ := hid (show r6 < WD.heap.size ∧ p < WD.heap.size ∧ q < WD.heap.size ∧ g < WD.heap.size from ⟨HXD.out.lt, HDD.out.bp.lt, HDD.out.bq.lt, HRD.out.box.lt⟩)
    have HBA := hid (on HBD.out hal)
    have kq := And.intro HRA.out.c19 (HDA.out.bp.cell 1)
    clear hal
    go_simp
    refine hK.out _ _ kq (fun hHeld => ?_)
    clear hK K
    (try simp only [Act.put, tkA, tk0, tk1])
    refine tkc 6 (some 71) rfl fun K hK => ?_
    go_simp
    obtain ⟨-, h2, a2, p2, e2, he, h5, h6⟩ := HRA.out.ord
    cases he
    have HFY := hid h6
    have HCO := hid (rs_add h5 HOK.out.2.1 HOK.out.2.2 HTM.out HVB.out)
    clear h5 h6
    refine HCO.out.mono ?_
    rintro e w5 ⟨rfl, hrs, hch⟩
    have HCH := hid (hch.wide HFY.out)
    have HRX := hid (HRA.out.to (o' := .mq C N L H (m.adM C N L H b)) HCH.out (fun j hj => hj) ⟨rfl, _, a2, p2, e2, rfl, hrs, HFY.out⟩)
    have HDX := hid (HDA.out.chg HCH.out (fun hy => (HNY.out p hy).1 rfl) fun hy => (HNY.out q hy).2 rfl)
    have HXX := hid (HCH.out.bx HXA.out fun hy => HN6.out r6 (.inl (.inl (HZL.out.2.1 r6 hy))) rfl)
    have HCW := hid (show Chg w w5 (fun j => Y j ∨ j = g) (fun j => Y j ∨ j = g) from (Chg.of HBA.out _).trans (HCH.out.wide fun j hj => .inl hj))
    have HYX := hid (HCH.out.bx HYA.out fun hy => HN7.out r6 (HZL.out.2.1 _ hy))
    have kp := And.intro HRX.out.c19 (HDX.out.bp.cell 1)
    clear hrs hch
    go_simp
    refine hK.out _ _ kp (fun hHeld => ?_)
    clear hK K
    (try simp only [Act.put, tkA, tk0, tk1])
    refine tkc 8 (none) rfl fun K hK => ?_
    refine wp_store_row 151 (.tmp 7) (.tmp 71) rfl (WD.heap.size) #[.int .i64 (m.adV C b), .bool (decide (m.goes C b)), .int .i64 0] rfl rfl _ _ HYX.out (by kernel_rfl) rfl (by simp [Value.oneCell']) ?_
    have hq9 : Chg w5 (w5.setRow (WD.heap.size) #[.int .i64 (m.adV C b), .bool (decide (m.goes C b)), .int .i64 0]) (· = WD.heap.size) (· = WD.heap.size) := chg_row _ _ _
    have hne : r6 ≠ WD.heap.size ∧ p ≠ WD.heap.size ∧ q ≠ WD.heap.size ∧ g ≠ WD.heap.size := by have h9 := HSZ.out; omega
    have HR9 := hid (HRX.out.chg hq9 (fun j e => .inr e) fun j e => ⟨fun hy => HN7.out 0 (e ▸ HZL.out.2.1 j hy), fun e2 => hne.2.2.2 (e2.symm.trans e), fun e2 => HN7.out 0 (e ▸ e2 ▸ HZL.out.2.2.2)⟩)
    have HD9 := hid (HDX.out.chg hq9 hne.2.1 hne.2.2.1)
    have HX9 := hid (hq9.bx HXX.out hne.1)
    have HY9 := hid (Bx.row (cs' := #[.int .i64 (m.adV C b), .bool (decide (m.goes C b)), .int .i64 0]) HYX.out)
    have HC9 := hid (show Chg w (w5.setRow (WD.heap.size) #[.int .i64 (m.adV C b), .bool (decide (m.goes C b)), .int .i64 0]) (fun j => Y j ∨ j = g) (fun j => Y j ∨ j = g) from chg_fresh HCW.out (by have h1 := HBD.out.size; have h2 := HCW.out.size; first | exact h2 | exact h1) _)
    have HN9 := hid hne
    have kr := And.intro HR9.out.c19 (HD9.out.bp.cell 1)
    clear hq9 hne
    refine hK.out _ _ kr (fun hHeld => ?_)
    clear hK K
    (try simp only [Act.put])
    refine wpAnyH_done (by kernel_rfl) ?_ _
    refine NoPanic.normal ?_
    go_upto_region 12 with fail
    obtain ⟨r7, hr7⟩ : ∃ x, WD.heap.size = x := ⟨_, rfl⟩
    rw [hr7] at HR9 HD9 HX9 HY9 HC9 HN9 ⊢
    clear hr7
    generalize w5.setRow r7 #[.int .i64 (m.adV C b), .bool (decide (m.goes C b)), .int .i64 0] = W9 at *
    have y0 : W9.cell? ⟨r7, 0, none⟩ = some (.int .i64 (m.adV C b)) := HY9.out.cell 0
    have z1 : W9.cell? ⟨r6, 1, none⟩ = some (.int .i64 0) := HX9.out.cell 1
    have f1 := HX9.out.free 1
    go_upto_region 13 with fail
    clear y0 z1 f1
    have hs10 := chg_one W9 r6 1 (.int .i64 (m.adV C b))
    have HR10 := hid (HR9.out.chg hs10 (fun j e => .inl (.inr e)) fun j e => ⟨fun hy => HN6.out j (.inl (.inl (HZL.out.2.1 j hy))) e, fun e2 => HN6.out g (.inl (.inl HZL.out.2.2.1)) (e2 ▸ e), fun e2 => HN6.out d (.inl (.inl HZL.out.2.2.2)) (e2 ▸ e)⟩)
    have HD10 := hid (HD9.out.chg hs10 (HN6.out p (.inl (.inr rfl))) (HN6.out q (.inr rfl)))
    have HY10 := hid (hs10.bx HY9.out fun e => HN9.out.1 e.symm)
    have HX10 := hid (show Bx _ r6 120 #[.slice none 0 0, .int .i64 (m.adV C b), .bool false, .bool was, .int .i64 0] from HX9.out.set 1 (.int .i64 (m.adV C b)))
    have HC10 := hid (chg_far HC9.out H6.out 1 (.int .i64 (m.adV C b)))
    clear hs10
    generalize W9.setCell ⟨r6, 1, none⟩ (.int .i64 (m.adV C b)) = W10 at *
    have y1 : W10.cell? ⟨r7, 1, none⟩ = some (.bool (decide (m.goes C b))) := HY10.out.cell 1
    have z2 : W10.cell? ⟨r6, 2, none⟩ = some (.bool false) := HX10.out.cell 2
    have f2 := HX10.out.free 2
    go_upto_region 14 with fail
    clear y1 z2 f2
    have hs11 := chg_one W10 r6 2 (.bool (decide (m.goes C b)))
    have HR11 := hid (HR10.out.chg hs11 (fun j e => .inl (.inr e)) fun j e => ⟨fun hy => HN6.out j (.inl (.inl (HZL.out.2.1 j hy))) e, fun e2 => HN6.out g (.inl (.inl HZL.out.2.2.1)) (e2 ▸ e), fun e2 => HN6.out d (.inl (.inl HZL.out.2.2.2)) (e2 ▸ e)⟩)
    have HD11 := hid (HD10.out.chg hs11 (HN6.out p (.inl (.inr rfl))) (HN6.out q (.inr rfl)))
    have HY11 := hid (hs11.bx HY10.out fun e => HN9.out.1 e.symm)
    have HX11 := hid (show Bx _ r6 120 #[.slice none 0 0, .int .i64 (m.adV C b), .bool (decide (m.goes C b)), .bool was, .int .i64 0] from HX10.out.set 2 (.bool (decide (m.goes C b))))
    have HC11 := hid (chg_far HC10.out H6.out 2 (.bool (decide (m.goes C b))))
    clear hs11
    generalize W10.setCell ⟨r6, 2, none⟩ (.bool (decide (m.goes C b))) = W11 at *
    have y2 : W11.cell? ⟨r7, 2, none⟩ = some (.int .i64 0) := HY11.out.cell 2
    have z4 : W11.cell? ⟨r6, 4, none⟩ = some (.int .i64 0) := HX11.out.cell 4
    have f4 := HX11.out.free 4
    go_upto_region 15 with fail
    clear y2 z4 f4
    have hs12 := chg_one W11 r6 4 (.int .i64 0)
    have HR12 := hid (HR11.out.chg hs12 (fun j e => .inl (.inr e)) fun j e => ⟨fun hy => HN6.out j (.inl (.inl (HZL.out.2.1 j hy))) e, fun e2 => HN6.out g (.inl (.inl HZL.out.2.2.1)) (e2 ▸ e), fun e2 => HN6.out d (.inl (.inl HZL.out.2.2.2)) (e2 ▸ e)⟩)
    have HD12 := hid (HD11.out.chg hs12 (HN6.out p (.inl (.inr rfl))) (HN6.out q (.inr rfl)))
    have HY12 := hid (hs12.bx HY11.out fun e => HN9.out.1 e.symm)
    have HX12 := hid (show Bx _ r6 120 #[.slice none 0 0, .int .i64 (m.adV C b), .bool (decide (m.goes C b)), .bool was, .int .i64 0] from HX11.out.set 4 (.int .i64 0))
    have HC12 := hid (chg_far HC11.out H6.out 4 (.int .i64 0))
    clear hs12
    generalize W11.setCell ⟨r6, 4, none⟩ (.int .i64 0) = W12 at *
    have x0 : W12.cell? ⟨p, 0, none⟩ = some (.int .i64 1) := HD12.out.bp.cell 0
    go_wp2_with (first
      | (refine wpList_load_bx rfl 120 (.tmp 6) rfl r6 _ _ _ rfl HX12.out Tryz.underlying120 rfl (by kernel_rfl) ?_)
      | (refine wpList_store_bx rfl 120 (.tmp 4) (.tmp 91) rfl rfl q _ _ #[.slice none 0 0, .int .i64 (m.adV C b), .bool (decide (m.goes C b)), .bool was, .int .i64 0] rfl rfl HD12.out.bq (by kernel_rfl) rfl (by simp [Value.oneCell']) ?_))
    refine bodyPost_ret (results_bx1 rfl _ rfl (HD12.out.bq.row (cs' := #[.slice none 0 0, .int .i64 (m.adV C b), .bool (decide (m.goes C b)), .bool was, .int .i64 0])) Tryz.underlying120 rfl (by kernel_rfl)) rfl ?_
    have hrl := HR12.out.less (X := fun j => (Z j ∨ j = p) ∨ j = q) (fun j hj => .inl (.inl hj)) fun j hj => .inl (.inl (hj.elim (HZL.out.2.1 j) fun e => e.elim (fun e => e ▸ HZL.out.2.2.1) fun e => e ▸ HZL.out.2.2.2))
    have hrow : Chg W12 (W12.setRow q #[.slice none 0 0, .int .i64 (m.adV C b), .bool (decide (m.goes C b)), .bool was, .int .i64 0]) (· = q) (· = q) := chg_row _ _ _
    have hrc := (Rc.chg hrl hrow (fun j e => .inr e) fun j e => ⟨fun hy => (HNY.out j hy).2 e, fun e2 => (HNP.out g HZL.out.2.2.1).2 (e2 ▸ e), fun e2 => (HNP.out d HZL.out.2.2.2).2 (e2 ▸ e)⟩).less (X := Z) (fun j hj => .inl (.inl hj)) fun j hj => hj.elim (HZL.out.2.1 j) fun e => e.elim (fun e => e ▸ HZL.out.2.2.1) fun e => e ▸ HZL.out.2.2.2
    have hch : Chg w (W12.setRow q #[.slice none 0 0, .int .i64 (m.adV C b), .bool (decide (m.goes C b)), .bool was, .int .i64 0]) (fun j => Y j ∨ j = g) (fun j => Y j ∨ j = g) := chg_fresh HC12.out (by have := HPQ.out; omega) _
    exact ⟨none, 0, 0, _, _, _, _, rfl, ⟨_, hrc⟩, hch, fun _ => ⟨rfl, rfl⟩⟩
set_option maxRecDepth 20000 in
set_option maxHeartbeats 2000000 in
theorem rdo16_mq2 {C N L H : Nat} {m : Ms} {K : Nat} {b : Int} (h : Rc w Z Y g d c A n cp T lv mv pv cv us (.mq C N L H m) E) (ok : (Ob.mq C N L H m).Ok K) (ht : m.t ≤ 10000000) :
    Calls Tryz.prog 62 #[.pointer (some ⟨g, 0, none⟩), .agg #[.int .i64 2, .int .i64 b]] w (RdoQ w Z Y g d c A n cp T mv pv cv us (.mq C N L H m) E 2 b) := by
  have HD0 := hid (dq_made w 2 b)
  have HB0 := hid (on (below_alloc w (.cells #[.int .i64 2, .int .i64 b] 123)) (below_alloc _ (.cells wz 120)))
  have HR0 := hid (h.with_dq 2 b)
  have HZL := hid (And.intro h.lt (And.intro h.yz (And.intro h.zg h.zd)))
  obtain ⟨rfl, h0, a0, p0, e0, rfl, -⟩ := id h.ord
  have HOK := hid ok
  have HTM := hid ht
  clear h ok ht
  go_enter Tryz.func62, Tryz.ntmps62
  go_upto_region 1 with fail
  obtain ⟨W0, hW0⟩ : ∃ x, (w.alloc (.cells #[.int .i64 2, .int .i64 b] 123)).alloc (.cells wz 120) = x := ⟨_, rfl⟩
  obtain ⟨q, hq⟩ : ∃ x, w.heap.size + 1 = x := ⟨_, rfl⟩
  obtain ⟨p, hp⟩ : ∃ x, w.heap.size = x := ⟨_, rfl⟩
  rw [hW0, hq, hp] at HD0 HR0
  rw [hW0] at HB0 ⊢
  rw [hq, hp]
  have HPQ := hid (And.intro hp hq)
  have HNP := hid (show ∀ j, Z j → j ≠ p ∧ j ≠ q from fun j hj => by have := HZL.out.1 j hj; omega)
  have HNY := hid (show ∀ j, Y j → j ≠ p ∧ j ≠ q from fun j hj => HNP.out j (HZL.out.2.1 j hj))
  clear hW0 hp hq
  have g19 : W0.cell? ⟨g, 19, none⟩ = some (.pointer (some ⟨h0, 0, none⟩)) := HR0.out.c19
  have g20 : W0.cell? ⟨g, 20, none⟩ = some (.pointer none) := HR0.out.c20
  have x1 : W0.cell? ⟨p, 1, none⟩ = some (.int .i64 b) := HD0.out.bp.cell 1
  have HHA := hid (rc_has HR0.out HOK.out b)
  go_upto_region 8 with (go_at_call 20; refine HHA.out.mono ?_; rintro e w1 ⟨rfl, hb⟩; have HR1 := hid (HR0.out.below hb); have HD1 := hid (HD0.out.below hb); have HB1 := hid (on HB0.out hb); clear hb)
  clear g19 g20 x1 HHA
  generalize dec (b ∈ (Ob.mq C N L H m).all) = was at *
  have hal := below_alloc w1 (.cells #[.slice none 0 0, .int .i64 0, .bool false, .bool was, .int .i64 0] 120)
  have hr2 := HR1.out.alloc (.cells #[.slice none 0 0, .int .i64 0, .bool false, .bool was, .int .i64 0] 120)
  have hx2 := Bx.new w1 120 #[.slice none 0 0, .int .i64 0, .bool false, .bool was, .int .i64 0]
  have hd2 := HD1.out.below hal
  have hb2 := on HB1.out hal
  have hn6 : ∀ j, ((Z j ∨ j = p) ∨ j = q) → ¬ j = w1.heap.size := fun j hj e => by have := HR1.out.lt j hj; omega
  have h6 : w.heap.size ≤ w1.heap.size := HB1.out.size
  obtain ⟨W2, hW2⟩ : ∃ x, w1.alloc (.cells #[.slice none 0 0, .int .i64 0, .bool false, .bool was, .int .i64 0] 120) = x := ⟨_, rfl⟩
  obtain ⟨r6, hr6⟩ : ∃ x, w1.heap.size = x := ⟨_, rfl⟩
  rw [hW2] at hr2 hx2 hd2 hb2 ⊢
  rw [hr6] at hr2 hx2 hn6 h6 ⊢
  have HR2 := hid hr2
  have HX2 := hid hx2
  have HD2 := hid hd2
  have HB2 := hid hb2
  have HN6 := hid hn6
  have H6 := hid h6
  have x0 : W2.cell? ⟨p, 0, none⟩ = some (.int .i64 2) := hd2.bp.cell 0
  clear hal hr2 hx2 hd2 hb2 hn6 h6 hW2 hr6
  go_upto_region 16 with fail
  clear x0
  obtain ⟨WD, hWD⟩ : ∃ x, W2.drew = x := ⟨_, rfl⟩
  have HWD := hid hWD
  have hrd := HR2.out.draws 1
  have hdd := HD2.out.below (below_draws (Below.refl W2.heap.size W2) 1)
  have hbd := below_draws HB2.out 1
  have hxd := HX2.out.next (below_draws (Below.refl W2.heap.size W2) 1)
  rw [show W2.drewN 1 = WD from hWD] at hrd hdd hbd hxd
  have HRD := hid hrd
  have HDD := hid hdd
  have HBD := hid hbd
  have HXD := hid hxd
  clear hrd hdd hbd hxd hWD
  have HS0 := hid (show WD.cell? ⟨g, 19, none⟩ = some (.pointer (some ⟨h0, 0, none⟩)) ∧ WD.cell? ⟨p, 1, none⟩ = some (.int .i64 b) from ⟨HRD.out.c19, HDD.out.bp.cell 1⟩)
  refine wp_region_noPanic ?_
  refine wp_region_held_drew (S := fun w' => w'.cell? ⟨g, 19, none⟩ = some (.pointer (some ⟨h0, 0, none⟩)) ∧ w'.cell? ⟨p, 1, none⟩ = some (.int .i64 b)) (by kernel_rfl) ?_ (fun hHeld => ?_)
  · rw [HWD.out]; exact HS0.out
  refine tkv 0 (some 84) rfl ?_
  refine tkv 1 (some 85) rfl ?_
  refine tkv 2 (some 86) rfl ?_
  refine tkv 3 (some 87) rfl ?_
  refine tkv 4 (some 88) rfl ?_
  refine tkv 5 (some 89) rfl ?_
  refine tkc 6 (some 90) rfl fun K hK => ?_
  rw [HWD.out]
  go_simp
  obtain ⟨-, h2, a2, p2, e2, he, h5, h6⟩ := HRD.out.ord
  cases he
  have HFY := hid h6
  have HCO := hid (rs_remove h5 HOK.out.2.1 b)
  clear h5 h6
  refine HCO.out.mono ?_
  rintro e w5 ⟨rfl, hrs, hch⟩
  have HCH := hid (hch.wide HFY.out)
  have HRX := hid (HRD.out.to (o' := .mq C N L H (m.remM b)) HCH.out (fun j hj => hj) ⟨rfl, _, a2, p2, e2, rfl, hrs, HFY.out⟩)
  have HDX := hid (HDD.out.chg HCH.out (fun hy => (HNY.out p hy).1 rfl) fun hy => (HNY.out q hy).2 rfl)
  have HXX := hid (HCH.out.bx HXD.out fun hy => HN6.out r6 (.inl (.inl (HZL.out.2.1 r6 hy))) rfl)
  have HCW := hid (show Chg w w5 (fun j => Y j ∨ j = g) (fun j => Y j ∨ j = g) from (Chg.of HBD.out _).trans (HCH.out.wide fun j hj => .inl hj))
  have kp := And.intro HRX.out.c19 (HDX.out.bp.cell 1)
  clear hrs hch
  go_simp
  refine hK.out _ _ kp (fun hHeld => ?_)
  clear hK K
  (try simp only [Act.put, tkA, tk0, tk1])
  refine wpAnyH_done (by kernel_rfl) ?_ _
  refine NoPanic.normal ?_
  have x0 : w5.cell? ⟨p, 0, none⟩ = some (.int .i64 2) := HDX.out.bp.cell 0
  go_wp2_with (first
    | (refine wpList_load_bx rfl 120 (.tmp 6) rfl r6 _ _ _ rfl HXX.out Tryz.underlying120 rfl (by kernel_rfl) ?_)
    | (refine wpList_store_bx rfl 120 (.tmp 4) (.tmp 91) rfl rfl q _ _ #[.slice none 0 0, .int .i64 0, .bool false, .bool was, .int .i64 0] rfl rfl HDX.out.bq (by kernel_rfl) rfl (by simp [Value.oneCell']) ?_))
  refine bodyPost_ret (results_bx1 rfl _ rfl (HDX.out.bq.row (cs' := #[.slice none 0 0, .int .i64 0, .bool false, .bool was, .int .i64 0])) Tryz.underlying120 rfl (by kernel_rfl)) rfl ?_
  have hrl := HRX.out.less (X := fun j => (Z j ∨ j = p) ∨ j = q) (fun j hj => .inl hj) fun j hj => .inl (.inl (hj.elim (HZL.out.2.1 j) fun e => e.elim (fun e => e ▸ HZL.out.2.2.1) fun e => e ▸ HZL.out.2.2.2))
  have hrow : Chg w5 (w5.setRow q #[.slice none 0 0, .int .i64 0, .bool false, .bool was, .int .i64 0]) (· = q) (· = q) := chg_row _ _ _
  have hrc := (Rc.chg hrl hrow (fun j e => .inr e) fun j e => ⟨fun hy => (HNY.out j hy).2 e, fun e2 => (HNP.out g HZL.out.2.2.1).2 (e2 ▸ e), fun e2 => (HNP.out d HZL.out.2.2.2).2 (e2 ▸ e)⟩).less (X := Z) (fun j hj => .inl (.inl hj)) fun j hj => hj.elim (HZL.out.2.1 j) fun e => e.elim (fun e => e ▸ HZL.out.2.2.1) fun e => e ▸ HZL.out.2.2.2
  have hch : Chg w (w5.setRow q #[.slice none 0 0, .int .i64 0, .bool false, .bool was, .int .i64 0]) (fun j => Y j ∨ j = g) (fun j => Y j ∨ j = g) := chg_fresh HCW.out (by have := HPQ.out; omega) _
  exact ⟨none, 0, 0, _, _, _, _, rfl, ⟨_, hrc⟩, hch, fun e => by cases e⟩
end
end Go.Proofs.YtmfdlkkligjcbaaGreat
