/-
  What is proved: a cache and the reference's tell the same of an act. Condition: as many as 10000000 acts at most.
-/
import Derived.Test.YtmfdlkkligjcbaaGreatJ01
import Derived.Test.YtmfdlkkligjcbaaGreatJ42
import Derived.Test.YtmfdlkkligjcbaaGreatJ43
import Derived.Test.YtmfdlkkligjcbaaGreatJ45
import Derived.Test.YtmfdlkkligjcbaaGreatJ47
namespace Go.Proofs.YtmfdlkkligjcbaaGreat
open Go.RowKit

/-- a cache beside the reference's; Z: what both write to -/
structure Bo16 (w : World) (Z : Nat → Prop) (G M : Nat) (F : Nat → Prop) (c : Nat → Int) (A : Option Addr) (n cp : Nat) (hh : Nat → Hn) (T : Nat) (v : Value) (o : Ob) (D : Int → List Int) (B : Nat) (Y : Nat → Prop) (g d : Nat) (A2 : Option Addr) (cp2 : Nat) (lv mv pv : Value) (cv : Nat) (us : List Value) (E : Int → List Int) : Prop where
  cm : Cm w Z G M F c A n cp hh T v o D B
  rc : Rc w Z Y g d c A2 n cp2 T lv mv pv cv us o E
  ap : ∀ j, Own16 F G M j → ¬ (Y j ∨ j = g ∨ j = d)
  de : ∀ x, x ∈ o.all → D x = E x
  lt : ∀ x, x ∈ o.all → 0 ≤ x ∧ x < 32
section
variable {w w' : World} {Z P Q F Y : Nat → Prop} {G M n cp T B B' g d cp2 cv k1 c1 : Nat} {c : Nat → Int} {A A1 A2 : Option Addr} {hh : Nat → Hn} {v lv lv' mv pv : Value} {o o' : Ob} {D D' E E' : Int → List Int} {us us' : List Value} {κ lev b : Int}
theorem Bo16.below (h : Bo16 w Z G M F c A n cp hh T v o D B Y g d A2 cp2 lv mv pv cv us E) (hb : Below w.heap.size w w') : Bo16 w' Z G M F c A n cp hh T v o D B Y g d A2 cp2 lv mv pv cv us E := ⟨h.cm.below hb, h.rc.below hb, h.ap, h.de, h.lt⟩
theorem Bo16.rok (h : Bo16 w Z G M F c A n cp hh T v o D B Y g d A2 cp2 lv mv pv cv us E) (hB : B ≤ 10000000) : Rok o (cps c (T - 1)) T c := by
  have hk := h.cm.kd
  have hc2 : (1 : Int) ≤ c 2 ∧ c 2 ≤ 32 := h.cm.rt.1 2 (by omega)
  refine ⟨h.cm.ok, h.cm.t1, h.cm.t3, fun C L e => ?_, Nat.le_trans h.cm.tm hB, h.lt, fun rg pt lp n2 S e h5 => ?_, hc2.2⟩
  · subst e
    have h1 : C = cps c (T - 1) := h.cm.ok.1
    have ht : T - 1 < 3 := by have := h.cm.t1; have := h.cm.t3; omega
    have h4 := h.cm.rt.1 (9 + (T - 1)) (by omega)
    have h5 : lo (9 + (T - 1)) = 1 := by
      obtain h | h | h : T - 1 = 0 ∨ T - 1 = 1 ∨ T - 1 = 2 := by omega
      all_goals rw [h]; rfl
    rw [h1, cps_at ht]
    omega
  · subst e
    have h5 : ¬ c 5 = 2 := by omega
    by_cases h6 : c (6 + (T - 1)) = 2
    · rw [Ob.new_mq h5 h6] at hk; exact hk
    · rw [Ob.new_lru h5 h6] at hk; exact hk
/-- the cache's step leaves the reference's alone, and the other way round -/
theorem Bo16.keepR (h : Bo16 w Z G M F c A n cp hh T v o D B Y g d A2 cp2 lv mv pv cv us E) (hc : Chg w w' P Q) (hP : ∀ j, P j → Own16 F G M j) : Rc w' Z Y g d c A2 n cp2 T lv mv pv cv us o E :=
  h.rc.chg hc (fun j hj => (hP j hj).elim (h.cm.fx j) fun e => e.elim (fun e => e ▸ h.cm.xG) fun e => e ▸ h.cm.xM) fun j hj => ⟨fun hy => h.ap j (hP j hj) (.inl hy), fun e => h.ap j (hP j hj) (.inr (.inl e)), fun e => h.ap j (hP j hj) (.inr (.inr e))⟩
theorem Cm.keepL (h : Cm w Z G M F c A n cp hh T v o D B) (hap : ∀ j, Own16 F G M j → ¬ (Y j ∨ j = g ∨ j = d)) (hz : ∀ j, (Y j ∨ j = g ∨ j = d) → Z j) (hc : Chg w w' P Q) (hP : ∀ j, P j → (Y j ∨ j = g ∨ j = d)) : Cm w' Z G M F c A n cp hh T v o D B :=
  h.chg hc (fun j hj => hz j (hP j hj)) fun j hj => ⟨fun hf => hap j (.inl hf) (hP j hj), fun e => hap j (.inr (.inl e)) (hP j hj), fun e => hap j (.inr (.inr e)) (hP j hj)⟩
theorem Rc.wide (h : Rc w Z Y g d c A2 n cp2 T lv mv pv cv us o E) : ∀ j, (Y j ∨ j = g ∨ j = d) → Z j := fun j hj => hj.elim (h.yz j) fun e => e.elim (fun e => e ▸ h.zg) fun e => e ▸ h.zd
/-- what comes of an act -/
def DoQ (w : World) (Z : Nat → Prop) (G M : Nat) (F : Nat → Prop) (c : Nat → Int) (A : Option Addr) (n cp : Nat) (hh : Nat → Hn) (T : Nat) (v : Value) (B : Nat) (Y : Nat → Prop) (g d : Nat) (A2 : Option Addr) (cp2 : Nat) (mv pv : Value) (cv : Nat) (e : Ending) (w' : World) : Prop :=
  e = .returned (.bool true) ∧ ∃ o D lv us E, Bo16 w' Z G M F c A n cp hh T v o D (B + 1) Y g d A2 cp2 lv mv pv cv us E ∧ Chg w w' Z Z
set_option maxRecDepth 20000 in
set_option maxHeartbeats 2000000 in
theorem do_use (h : Bo16 w Z G M F c A n cp hh T v o D B Y g d A2 cp2 lv mv pv cv us E) (hB : B ≤ 10000000) : Calls Tryz.prog 14 #[.pointer (some ⟨G, 0, none⟩), .pointer (some ⟨g, 0, none⟩), .agg #[.int .i64 0, .int .i64 lev, .int .i64 b, .slice A1 k1 c1]] w (DoQ w Z G M F c A n cp hh T v B Y g d A2 cp2 mv pv cv) := by
  have hb0 := below_alloc w (.cells #[.int .i64 0, .int .i64 lev, .int .i64 b, .slice A1 k1 c1] 40)
  have HX0 := hid (Bx.new w 40 #[.int .i64 0, .int .i64 lev, .int .i64 b, .slice A1 k1 c1])
  have HB0 := hid hb0
  have H0 := hid (h.below hb0)
  have HOK := hid (h.rok hB)
  have HLT := hid h.cm.lt
  have HU := hid (cm_use H0.out.cm hB b)
  clear h hb0
  go_enter Tryz.func14, Tryz.ntmps14
  go_upto_region 1 with fail
  obtain ⟨W0, hW0⟩ : ∃ x, w.alloc (.cells #[.int .i64 0, .int .i64 lev, .int .i64 b, .slice A1 k1 c1] 40) = x := ⟨_, rfl⟩
  obtain ⟨p, hp⟩ : ∃ x, w.heap.size = x := ⟨_, rfl⟩
  rw [hW0] at HX0 HB0 H0 HU ⊢
  rw [hp] at HX0 ⊢
  have HNP := hid (show ∀ j, Z j → j ≠ p from fun j hj => by have := HLT.out j hj; omega)
  clear hW0 hp
  have y0 : W0.cell? ⟨p, 0, none⟩ = some (.int .i64 0) := HX0.out.cell 0
  have y2 : W0.cell? ⟨p, 2, none⟩ = some (.int .i64 b) := HX0.out.cell 2
  go_upto_region 4 with (go_at_call 24; refine HU.out.mono ?_; rintro e W1 ⟨u1, rfl, hcm, hch, hy1, hn1⟩; have HC1 := hid hcm; have HH1 := hid hch; have HY1 := hid hy1; have HN1 := hid hn1; clear hcm hch hy1 hn1)
  clear y0 y2
  have HR1 := hid (H0.out.keepR HH1.out fun j hj => .inl hj)
  have HX1 := hid (HH1.out.bx HX0.out fun hf => HNP.out p (H0.out.cm.fx p hf) rfl)
  have HRU := hid (rc_use HR1.out HOK.out b)
  have y2 : W1.cell? ⟨p, 2, none⟩ = some (.int .i64 b) := HX1.out.cell 2
  go_upto_region 5 with (go_at_call 40; refine HRU.out.mono ?_; rintro e W2 ⟨u2, rfl, ⟨lv', hrc⟩, hch2, hy2, hn2⟩; have HR2 := hid hrc; have HH2 := hid hch2; have HY2 := hid hy2; have HN2 := hid hn2; clear hrc hch2 hy2 hn2)
  clear y2
  have hP2 : ∀ j, (Y j ∨ j = g) → (Y j ∨ j = g ∨ j = d) := fun j hj => hj.elim .inl fun e => .inr (.inl e)
  have HC2 := hid (HC1.out.keepL H0.out.ap HR1.out.wide HH2.out hP2)
  have HS := hid (show Calls Tryz.prog 25 #[u1, u2] W2 (fun e w' => e = .returned (.bool true) ∧ ∃ k, w' = W2.drewN k) from by
    by_cases hb : b ∈ o.all
    · have h1 := (HY1.out hb).chg HH2.out fun j hj => HR1.out.wide j (hP2 j hj)
      rw [H0.out.de b hb] at h1
      exact same_by h1 (HY2.out hb)
    · rw [HN1.out hb, HN2.out hb]
      exact same_nil W2)
  go_wp2_with (go_at_call 25; refine HS.out.mono ?_; rintro e W3 ⟨rfl, k3, rfl⟩)
  go_ret
  have hm := fun x => Ob.use_mem HOK.out.ok b x
  exact ⟨rfl, o.use b, D, lv', us, E, ⟨HC2.out.draws k3, HR2.out.draws k3, H0.out.ap, fun x hx => H0.out.de x ((hm x).1 hx), fun x hx => H0.out.lt x ((hm x).1 hx)⟩, (((Chg.of HB0.out _).trans (HH1.out.wide fun j hj => H0.out.cm.fx j hj)).trans (HH2.out.wide fun j hj => HR1.out.wide j (hP2 j hj))).draws k3⟩
set_option maxRecDepth 20000 in
set_option maxHeartbeats 2000000 in
theorem do_other (h : Bo16 w Z G M F c A n cp hh T v o D B Y g d A2 cp2 lv mv pv cv us E) (hB : B ≤ 10000000) (h0 : ¬ κ = 0) (h1 : ¬ κ = 1) (h2 : ¬ κ = 2) (h3 : ¬ κ = 3) : Calls Tryz.prog 14 #[.pointer (some ⟨G, 0, none⟩), .pointer (some ⟨g, 0, none⟩), .agg #[.int .i64 κ, .int .i64 lev, .int .i64 b, .slice A1 k1 c1]] w (DoQ w Z G M F c A n cp hh T v B Y g d A2 cp2 mv pv cv) := by
  have hb0 := below_alloc w (.cells #[.int .i64 κ, .int .i64 lev, .int .i64 b, .slice A1 k1 c1] 40)
  have HX0 := hid (Bx.new w 40 #[.int .i64 κ, .int .i64 lev, .int .i64 b, .slice A1 k1 c1])
  have HB0 := hid hb0
  have H0 := hid (h.below hb0)
  have HOK := hid (h.rok hB)
  have HLT := hid h.cm.lt
  have d0 : (κ == 0) = false := by simpa using h0
  have d1 : (κ == 1) = false := by simpa using h1
  have d2 : (κ == 2) = false := by simpa using h2
  have d3 : (κ == 3) = false := by simpa using h3
  clear h0 h1 h2 h3
  clear h hb0
  go_enter Tryz.func14, Tryz.ntmps14
  go_upto_region 1 with fail
  obtain ⟨W0, hW0⟩ : ∃ x, w.alloc (.cells #[.int .i64 κ, .int .i64 lev, .int .i64 b, .slice A1 k1 c1] 40) = x := ⟨_, rfl⟩
  obtain ⟨p, hp⟩ : ∃ x, w.heap.size = x := ⟨_, rfl⟩
  rw [hW0] at HX0 HB0 H0 ⊢
  rw [hp] at HX0 ⊢
  have HNP := hid (show ∀ j, Z j → j ≠ p from fun j hj => by have := HLT.out j hj; omega)
  clear hW0 hp
  have y0 : W0.cell? ⟨p, 0, none⟩ = some (.int .i64 κ) := HX0.out.cell 0
  have y2 : W0.cell? ⟨p, 2, none⟩ = some (.int .i64 b) := HX0.out.cell 2
  go_wp2
  go_ret
  exact ⟨rfl, o, D, lv, us, E, ⟨H0.out.cm.up (Nat.le_succ _), H0.out.rc, H0.out.ap, H0.out.de, H0.out.lt⟩, Chg.of HB0.out _⟩
theorem Ob.rem_self {K : Nat} (h : o.Ok K) (hb : b ∉ o.all) : o.rem b = o := by
  cases o with
  | lru C L => exact congrArg (Ob.lru C) (wo_out hb)
  | mq C N L H m =>
    show Ob.mq C N L H (m.remM b) = _
    unfold Ms.remM
    rw [if_neg (c := b ∈ m.al) hb]
  | prt rg pt lp n S => exact congrArg (Ob.prt rg pt lp n) (woS_out fun hi => hb ((allp_in h.1 h.2.2 b).2 hi))
theorem by_nil (w : World) (X : Nat → Prop) : By w X (.slice none 0 0) [] := ⟨none, 0, rfl, Rv.nil _ _ _, Nat.le_refl _, by unfold maxLen; omega, fun ad e => by cases e⟩
/-- what is dropped: the block, its bytes -/
noncomputable def dropX (o : Ob) (b : Int) : Int := if dec (b ∈ o.all) then b else 0
noncomputable def dropL (o : Ob) (D : Int → List Int) (b : Int) : List Int := if dec (b ∈ o.all) then D b else []
theorem drop_l (h : Cm w Z G M F c A n cp hh T v o D B) (b : Int) : Calls Tryz.prog 26 #[.pointer (some ⟨G, 0, none⟩), .int .i64 b] w fun e w' => ∃ A5 k5 c5, e = .returned (.tuple #[.agg #[.int .i64 (dropX o b), .slice A5 k5 c5], .bool (dec (b ∈ o.all))]) ∧ Cm w' Z G M F c A n cp hh T v (o.rem b) D (B + 1) ∧ Chg w w' (fun j => F j ∨ j = M) (fun j => F j ∨ j = M) ∧ By w' Z (.slice A5 k5 c5) (dropL o D b) := by
  refine (cm_drop h b).mono ?_
  rintro e w2 ⟨x, u, rfl, h1, h2, h3, h4⟩
  unfold dropX dropL
  by_cases hb : b ∈ o.all
  · obtain ⟨rfl, hy⟩ := h3 hb
    obtain ⟨A5, c5, rfl, -⟩ := id hy
    rw [dec_true hb]
    exact ⟨A5, _, c5, rfl, h1, h2, hy⟩
  · obtain ⟨rfl, rfl⟩ := h4 hb
    rw [dec_false hb]
    exact ⟨none, 0, 0, rfl, h1, h2, by_nil _ _⟩
theorem drop_r {K : Nat} (h : Rc w Z Y g d c A n cp T lv mv pv cv us o E) (r : Rok o K T c) (b : Int) : Calls Tryz.prog 43 #[.pointer (some ⟨g, 0, none⟩), .int .i64 b] w fun e w' => ∃ A5 k5 c5, e = .returned (.tuple #[.agg #[.int .i64 (dropX o b), .slice A5 k5 c5], .bool (dec (b ∈ o.all))]) ∧ (∃ lv', Rc w' Z Y g d c A n cp T lv' mv pv cv us (o.rem b) E) ∧ Chg w w' (fun j => Y j ∨ j = g) (fun j => Y j ∨ j = g) ∧ By w' Z (.slice A5 k5 c5) (dropL o E b) := by
  refine (rc_drop h r b).mono ?_
  rintro e w2 ⟨h1, h2⟩
  unfold dropX dropL
  by_cases hb : b ∈ o.all
  · obtain ⟨u, rfl, h3, h4, hy⟩ := h1 hb
    obtain ⟨A5, c5, rfl, -⟩ := id hy
    rw [dec_true hb]
    exact ⟨A5, _, c5, rfl, h3, h4, hy⟩
  · obtain ⟨rfl, h3⟩ := h2 hb
    rw [dec_false hb, Ob.rem_self r.ok hb]
    exact ⟨none, 0, 0, rfl, ⟨lv, h.below h3⟩, Chg.of h3 _, by_nil _ _⟩
set_option maxRecDepth 20000 in
set_option maxHeartbeats 2000000 in
theorem do_drop (h : Bo16 w Z G M F c A n cp hh T v o D B Y g d A2 cp2 lv mv pv cv us E) (hB : B ≤ 10000000) : Calls Tryz.prog 14 #[.pointer (some ⟨G, 0, none⟩), .pointer (some ⟨g, 0, none⟩), .agg #[.int .i64 3, .int .i64 lev, .int .i64 b, .slice A1 k1 c1]] w (DoQ w Z G M F c A n cp hh T v B Y g d A2 cp2 mv pv cv) := by
  have hb0 := below_alloc w (.cells #[.int .i64 3, .int .i64 lev, .int .i64 b, .slice A1 k1 c1] 40)
  have HX0 := hid (Bx.new w 40 #[.int .i64 3, .int .i64 lev, .int .i64 b, .slice A1 k1 c1])
  have HB0 := hid hb0
  have H0 := hid (h.below hb0)
  have HOK := hid (h.rok hB)
  have HLT := hid h.cm.lt
  have HU := hid (drop_l H0.out.cm b)
  clear h hb0
  go_enter Tryz.func14, Tryz.ntmps14
  go_upto_region 1 with fail
  obtain ⟨W0, hW0⟩ : ∃ x, w.alloc (.cells #[.int .i64 3, .int .i64 lev, .int .i64 b, .slice A1 k1 c1] 40) = x := ⟨_, rfl⟩
  obtain ⟨p, hp⟩ : ∃ x, w.heap.size = x := ⟨_, rfl⟩
  rw [hW0] at HX0 HB0 H0 HU ⊢
  rw [hp] at HX0 ⊢
  have HNP := hid (show ∀ j, Z j → j ≠ p from fun j hj => by have := HLT.out j hj; omega)
  clear hW0 hp
  have y0 : W0.cell? ⟨p, 0, none⟩ = some (.int .i64 3) := HX0.out.cell 0
  have y2 : W0.cell? ⟨p, 2, none⟩ = some (.int .i64 b) := HX0.out.cell 2
  go_upto_region 15 with (first
    | (go_at_call 26; refine HU.out.mono ?_; rintro e W1 ⟨A5, k5, c5, rfl, hcm, hch, hy1⟩; have HC1 := hid hcm; have HH1 := hid hch; have HY1 := hid hy1; clear hcm hch hy1)
    | (refine wpList_store_new rfl 38 (.tmp 16) (.tmp 116) rfl rfl _ #[.int .i64 (dropX o b), .slice A5 k5 c5] rfl rfl (by kernel_rfl) rfl (by simp [Value.oneCell']) ?_))
  clear y0 y2
  have hR1 := H0.out.keepR HH1.out (fun j hj => hj.elim .inl fun e => .inr (.inr e))
  have hX1 := HH1.out.bx HX0.out fun hf => HNP.out p (hf.elim (H0.out.cm.fx p) fun e => e ▸ H0.out.cm.xM) rfl
  have hb2 := below_alloc W1 (.cells #[.int .i64 (dropX o b), .slice A5 k5 c5] 38)
  have HC2 := hid (HC1.out.below hb2)
  have HR2 := hid (hR1.below hb2)
  have HX2 := hid (hX1.next hb2)
  have HY2 := hid (HY1.out.below hb2)
  have HK2 := hid (((Chg.of HB0.out _).trans (HH1.out.wide fun j hj => hj.elim (H0.out.cm.fx j) fun e => e ▸ H0.out.cm.xM)).trans (Chg.of hb2 Z))
  have HQ1 := hid (Bx.new W1 38 #[.int .i64 (dropX o b), .slice A5 k5 c5])
  have HN1 := hid (show ∀ j, Z j → j ≠ W1.heap.size from fun j hj => by have := HC1.out.lt j hj; omega)
  obtain ⟨q1, hq1⟩ : ∃ x, W1.heap.size = x := ⟨_, rfl⟩
  obtain ⟨W2, hW2⟩ : ∃ x, W1.alloc (.cells #[.int .i64 (dropX o b), .slice A5 k5 c5] 38) = x := ⟨_, rfl⟩
  rw [hW2] at HC2 HR2 HX2 HY2 HK2 HQ1 ⊢
  rw [hq1] at HQ1 HN1 ⊢
  clear hW2 hq1 hR1 hX1 hb2 HC1 HY1
  have HRU := hid (drop_r HR2.out HOK.out b)
  have y2 : W2.cell? ⟨p, 2, none⟩ = some (.int .i64 b) := HX2.out.cell 2
  go_upto_region 16 with (first
    | (go_at_call 43; refine HRU.out.mono ?_; rintro e W3 ⟨A6, k6, c6, rfl, ⟨lv', hrc⟩, hch2, hy2⟩; have HR3 := hid hrc; have HH3 := hid hch2; have HV3 := hid hy2; clear hrc hch2 hy2)
    | (refine wpList_store_new rfl 38 (.tmp 18) (.tmp 124) rfl rfl _ #[.int .i64 (dropX o b), .slice A6 k6 c6] rfl rfl (by kernel_rfl) rfl (by simp [Value.oneCell']) ?_))
  clear y2
  have hP2 : ∀ j, (Y j ∨ j = g) → (Y j ∨ j = g ∨ j = d) := fun j hj => hj.elim .inl fun e => .inr (.inl e)
  have hZ2 : ∀ j, (Y j ∨ j = g) → Z j := fun j hj => HR2.out.wide j (hP2 j hj)
  have hC3 := HC2.out.keepL H0.out.ap HR2.out.wide HH3.out hP2
  have hY3 := HY2.out.chg HH3.out hZ2
  have hQ3 := HH3.out.bx HQ1.out fun hj => HN1.out q1 (hZ2 q1 hj) rfl
  have hb4 := below_alloc W3 (.cells #[.int .i64 (dropX o b), .slice A6 k6 c6] 38)
  have HC4 := hid (hC3.below hb4)
  have HR4 := hid (HR3.out.below hb4)
  have HY4 := hid (hY3.below hb4)
  have HV4 := hid (HV3.out.below hb4)
  have HQ4 := hid (hQ3.next hb4)
  have HK4 := hid ((HK2.out.trans (HH3.out.wide hZ2)).trans (Chg.of hb4 Z))
  have HP4 := hid (Bx.new W3 38 #[.int .i64 (dropX o b), .slice A6 k6 c6])
  obtain ⟨q2, hq2⟩ : ∃ x, W3.heap.size = x := ⟨_, rfl⟩
  obtain ⟨W4, hW4⟩ : ∃ x, W3.alloc (.cells #[.int .i64 (dropX o b), .slice A6 k6 c6] 38) = x := ⟨_, rfl⟩
  rw [hW4] at HC4 HR4 HY4 HV4 HQ4 HK4 HP4 ⊢
  rw [hq2] at HP4 ⊢
  have hde : dropL o D b = dropL o E b := by
    unfold dropL
    by_cases hb : b ∈ o.all
    · rw [dec_true hb, H0.out.de b hb]
    · rw [dec_false hb]
      rfl
  have hy4 := HY4.out
  rw [hde] at hy4
  have HS := hid (same_frame (dropX o b) hy4 HV4.out)
  clear hW4 hq2 hP2 hZ2 hC3 hY3 hQ3 hb4 hde hy4 HR3 HV3 HRU HU
  go_wp2_with (first
    | (refine wpList_load_bxg (by rfl) 38 (.tmp 16) rfl q1 _ _ _ rfl HQ4.out Tryz.underlying38 rfl (by kernel_rfl) ?_)
    | (refine wpList_load_bxg (by rfl) 38 (.tmp 18) rfl q2 _ _ _ rfl HP4.out Tryz.underlying38 rfl (by kernel_rfl) ?_)
    | (go_at_call 31; refine HS.out.mono ?_; rintro e W5 ⟨rfl, hb5⟩; have HB5 := hid hb5; clear hb5))
  go_ret
  have hm := fun x => Ob.rem_mem HOK.out.ok b x
  exact ⟨rfl, o.rem b, D, lv', us, E, ⟨HC4.out.below HB5.out, HR4.out.below HB5.out, H0.out.ap, fun x hx => H0.out.de x ((hm x).1 hx).1, fun x hx => H0.out.lt x ((hm x).1 hx).1⟩, HK4.out.trans (Chg.of HB5.out _)⟩
theorem act_range {p : Nat} {x0 x1 x2 x3 : Value} (h : Bx w p 40 #[x0, x1, x2, x3]) : w.rangeAt p 2 (#[x2, x3] : Array Value).toList := fun j u hj => by
  have hj3 : j < 2 := (List.getElem?_eq_some_iff.1 hj).1
  rw [h.cell, ← hj]
  rcases j with _ | _ | j
  · rfl
  · rfl
  · omega
theorem went_range {p : Nat} {x0 x1 x2 x3 : Value} (h : Bx w p 82 #[x0, x1, x2, x3]) : w.rangeAt p 0 (#[x0, x1] : Array Value).toList := fun j u hj => by
  have hj3 : j < 2 := (List.getElem?_eq_some_iff.1 hj).1
  rw [h.cell, ← hj]
  rcases j with _ | _ | j
  · rfl
  · rfl
  · omega
/-- what comes of Put: the order, the bytes, whether one goes, which, its bytes -/
noncomputable def putO (z : Int) (o : Ob) (b : Int) : Ob := if z = 0 then o.add b else o
noncomputable def putD (z : Int) (D : Int → List Int) (b : Int) (l : List Int) : Int → List Int := if z = 0 then updB D b l else D
noncomputable def putG (z : Int) (o : Ob) (b : Int) : Bool := if z = 0 then o.gn b else false
noncomputable def putX (z : Int) (o : Ob) (b : Int) : Int := if putG z o b then o.vi b else 0
noncomputable def putL (z : Int) (o : Ob) (D : Int → List Int) (b : Int) : List Int := if putG z o b then D (o.vi b) else []
theorem put_l (h : Cm w Z G M F c A n cp hh T v o D B) (hB : B ≤ 10000000) {l : List Int} (hd : By w Z (.slice A1 k1 c1) l) : Calls Tryz.prog 23 #[.pointer (some ⟨G, 0, none⟩), .agg #[.int .i64 b, .slice A1 k1 c1], .int .i64 lev] w fun e w' => ∃ A5 k5 c5, e = .returned (.tuple #[.agg #[.int .i64 (putX (putR c T o b lev k1) o b), .slice A5 k5 c5], .bool (putG (putR c T o b lev k1) o b), .int .i64 (putR c T o b lev k1)]) ∧
    Cm w' Z G M F c A n cp hh T v (putO (putR c T o b lev k1) o b) (putD (putR c T o b lev k1) D b l) (B + 1) ∧ Chg w w' (fun j => F j ∨ j = M) (fun j => F j ∨ j = M) ∧ By w' Z (.slice A5 k5 c5) (putL (putR c T o b lev k1) o D b) ∧ (putR c T o b lev k1 = 0 → o.tk b ∧ (0 ≤ b ∧ b < c 2)) := by
  refine (cm_put h hB hd lev).mono ?_
  rintro e w2 (⟨hz, rfl, h1⟩ | ⟨hz, hb, htk, x, u, rfl, h2, h3, h4, h5⟩)
  · have eg : putG (putR c T o b lev k1) o b = false := if_neg hz
    rw [show putO (putR c T o b lev k1) o b = o from if_neg hz, show putD (putR c T o b lev k1) D b l = D from if_neg hz, show putX (putR c T o b lev k1) o b = 0 from if_neg (by rw [eg]; decide), show putL (putR c T o b lev k1) o D b = [] from if_neg (by rw [eg]; decide), eg]
    exact ⟨none, 0, 0, rfl, (h.below h1).up (Nat.le_succ _), Chg.of h1 _, by_nil _ _, fun e => absurd e hz⟩
  · rw [hz]
    have eg : putG 0 o b = o.gn b := if_pos rfl
    rw [show putO 0 o b = o.add b from if_pos rfl, show putD 0 D b l = updB D b l from if_pos rfl, eg]
    unfold putX putL
    rw [eg]
    cases hg : o.gn b with
    | true =>
      obtain ⟨rfl, hy⟩ := h4 hg
      obtain ⟨A5, c5, rfl, -⟩ := id hy
      exact ⟨A5, _, c5, rfl, h2, h3, hy, fun _ => ⟨htk, hb⟩⟩
    | false =>
      obtain ⟨rfl, rfl⟩ := h5 hg
      exact ⟨none, 0, 0, rfl, h2, h3, by_nil _ _, fun _ => ⟨htk, hb⟩⟩
theorem put_r {K : Nat} (h : Rc w Z Y g d c A n cp T lv mv pv cv us o E) (r : Rok o K T c) {l : List Int} (hd : By w Z (.slice A1 k1 c1) l) (h16 : c 3 ≤ 16) (htk : putR c T o b lev k1 = 0 → o.tk b) : Calls Tryz.prog 41 #[.pointer (some ⟨g, 0, none⟩), .agg #[.int .i64 b, .slice A1 k1 c1], .int .i64 lev] w fun e w' => ∃ A5 k5 c5, e = .returned (.agg #[.int .i64 (putX (putR c T o b lev k1) o b), .slice A5 k5 c5, .bool (putG (putR c T o b lev k1) o b), .int .i64 (putR c T o b lev k1)]) ∧
    (∃ us' lv', Rc w' Z Y g d c A n cp T lv' mv pv cv us' (putO (putR c T o b lev k1) o b) (putD (putR c T o b lev k1) E b l)) ∧ Chg w w' (fun j => (Y j ∨ j = g) ∨ j = d) (fun j => (Y j ∨ j = g) ∨ j = d) ∧ By w' Z (.slice A5 k5 c5) (putL (putR c T o b lev k1) o E b) := by
  by_cases hz : putR c T o b lev k1 = 0
  · refine (rc_put_yes h r hd hz h16 (htk hz)).mono ?_
    rintro e w2 ⟨x, u, rfl, h2, h3, h4, h5⟩
    rw [hz]
    have eg : putG 0 o b = o.gn b := if_pos rfl
    rw [show putO 0 o b = o.add b from if_pos rfl, show putD 0 E b l = updB E b l from if_pos rfl, eg]
    unfold putX putL
    rw [eg]
    cases hg : o.gn b with
    | true =>
      obtain ⟨rfl, hy⟩ := h4 hg
      obtain ⟨A5, c5, rfl, -⟩ := id hy
      exact ⟨A5, _, c5, rfl, h2, h3, hy⟩
    | false =>
      obtain ⟨rfl, rfl⟩ := h5 hg
      exact ⟨none, 0, 0, rfl, h2, h3, by_nil _ _⟩
  · refine (rc_put_no h r hz).mono ?_
    rintro e w2 ⟨rfl, h1⟩
    have eg : putG (putR c T o b lev k1) o b = false := if_neg hz
    rw [show putO (putR c T o b lev k1) o b = o from if_neg hz, show putD (putR c T o b lev k1) E b l = E from if_neg hz, show putX (putR c T o b lev k1) o b = 0 from if_neg (by rw [eg]; decide), show putL (putR c T o b lev k1) o E b = [] from if_neg (by rw [eg]; decide), eg]
    exact ⟨none, 0, 0, rfl, ⟨us, lv, h.below h1⟩, Chg.of h1 _, by_nil _ _⟩
set_option maxRecDepth 20000 in
set_option maxHeartbeats 2000000 in
theorem do_put (h : Bo16 w Z G M F c A n cp hh T v o D B Y g d A2 cp2 lv mv pv cv us E) (hB : B ≤ 10000000) {l : List Int} (hd : By w Z (.slice A1 k1 c1) l) (h100 : k1 ≤ 100) : Calls Tryz.prog 14 #[.pointer (some ⟨G, 0, none⟩), .pointer (some ⟨g, 0, none⟩), .agg #[.int .i64 1, .int .i64 lev, .int .i64 b, .slice A1 k1 c1]] w (DoQ w Z G M F c A n cp hh T v B Y g d A2 cp2 mv pv cv) := by
  have hb0 := below_alloc w (.cells #[.int .i64 1, .int .i64 lev, .int .i64 b, .slice A1 k1 c1] 40)
  have HX0 := hid (Bx.new w 40 #[.int .i64 1, .int .i64 lev, .int .i64 b, .slice A1 k1 c1])
  have HB0 := hid hb0
  have H0 := hid (h.below hb0)
  have HOK := hid (h.rok hB)
  have HLT := hid h.cm.lt
  have HD0 := hid (hd.below hb0)
  have HLK := hid hd.at_.2
  have H16 := hid (show c 3 ≤ 16 from (h.cm.rt.1 3 (by omega)).2)
  have HC2 := hid (show c 2 ≤ 32 from (h.cm.rt.1 2 (by omega)).2)
  have HBB := hid hB
  clear hd
  clear h hb0
  go_enter Tryz.func14, Tryz.ntmps14
  go_upto_region 1 with fail
  obtain ⟨W0, hW0⟩ : ∃ x, w.alloc (.cells #[.int .i64 1, .int .i64 lev, .int .i64 b, .slice A1 k1 c1] 40) = x := ⟨_, rfl⟩
  obtain ⟨p, hp⟩ : ∃ x, w.heap.size = x := ⟨_, rfl⟩
  rw [hW0] at HX0 HB0 H0 HD0 ⊢
  rw [hp] at HX0 ⊢
  have HNP := hid (show ∀ j, Z j → j ≠ p from fun j hj => by have := HLT.out j hj; omega)
  clear hW0 hp
  have y0 : W0.cell? ⟨p, 0, none⟩ = some (.int .i64 1) := HX0.out.cell 0
  have y2 : W0.cell? ⟨p, 2, none⟩ = some (.int .i64 b) := HX0.out.cell 2
  have y3 : (W0.alloc (.cells #[] 5)).cell? ⟨p, 3, none⟩ = some (.slice A1 k1 c1) := (HX0.out.next (below_alloc W0 _)).cell 3
  have HO := hid (World.ownsRow_lit (size := 1) (e := 5) (base := W0.heap.size) W0 #[] 0 (Nat.le_refl _) (by unfold maxLen; omega) rfl)
  go_upto_region 8 with (at_builtin; refine wpList_appV elt_u8 rfl _ _ rfl W0.heap.size _ 0 [] HO.out rfl _ _ k1 c1 (bytes l) rfl (by unfold bytes; rw [List.length_map, HLK.out, Nat.mul_one]) (HD0.out.at_.1.below (below_alloc W0 _) (Nat.le_refl _)) (bytes_one l) (by unfold maxLen; omega) (by omega) (by rw [World.size_alloc]; omega) ?_; intro v' W1 hown2 hg2)
  have hb1 : Below W0.heap.size W0 W1 := (below_alloc W0 _).trans (hg2.below HO.out (by rw [World.size_alloc]; omega))
  rw [List.nil_append, Nat.zero_add] at hown2
  obtain ⟨A3, c3, rfl, hr3, ha3, hc3, hge⟩ := own_by (w := W0) hown2 HLK.out (Nat.le_refl _)
  have HY1 := hid (show By W1 Z (.slice A3 l.length c3) l from ⟨A3, c3, rfl, hr3, ha3, hc3, fun ad ea _ => ⟨(hge ad ea).2, fun hz => by have := H0.out.cm.lt ad.block hz; have := (hge ad ea).1; omega⟩⟩)
  clear hown2 hg2 hr3 ha3 hc3 hge y0 y2 y3 HO
  have HB1 := hid hb1
  have H1 := hid (H0.out.below hb1)
  have HX1 := hid (HX0.out.next hb1)
  have HD1 := hid (HD0.out.below hb1)
  clear hb1
  have y1 : W1.cell? ⟨p, 1, none⟩ = some (.int .i64 lev) := HX1.out.cell 1
  have y2 : W1.cell? ⟨p, 2, none⟩ = some (.int .i64 b) := HX1.out.cell 2
  have hput := put_l (b := b) (lev := lev) H1.out.cm HBB.out HY1.out
  rw [HLK.out] at hput
  obtain ⟨z, hz⟩ : ∃ z, putR c T o b lev k1 = z := ⟨_, rfl⟩
  rw [hz] at hput
  have HZ := hid hz
  have HPU := hid hput
  clear hz hput
  rw [HLK.out]
  go_upto_region 9 with (first
    | (go_at_call 23; refine HPU.out.mono ?_; rintro e W2 ⟨A5, k5, c5, rfl, hcm, hch, hy1, htk⟩; have HC3 := hid hcm; have HH3 := hid hch; have HY3 := hid hy1; have HTK := hid htk; clear hcm hch hy1 htk)
    | (refine wpList_store_new rfl 38 (.tmp 12) (.tmp 65) rfl rfl _ #[.int .i64 (putX z o b), .slice A5 k5 c5] rfl rfl (by kernel_rfl) rfl (by simp [Value.oneCell']) ?_))
  clear y1 y2
  have hwz : ∀ j, (F j ∨ j = M) → Z j := fun j hj => hj.elim (H0.out.cm.fx j) fun e => e ▸ H0.out.cm.xM
  have hR2 := H1.out.keepR HH3.out (fun j hj => hj.elim .inl fun e => .inr (.inr e))
  have hX2 := HH3.out.bx HX1.out fun hf => HNP.out p (hwz p hf) rfl
  have hD2 := HD1.out.chg HH3.out hwz
  have hO2 := HY1.out.chg HH3.out hwz
  have hb3 := below_alloc W2 (.cells #[.int .i64 (putX z o b), .slice A5 k5 c5] 38)
  have HC4 := hid (HC3.out.below hb3)
  have HR4 := hid (hR2.below hb3)
  have HX4 := hid (hX2.next hb3)
  have HY4 := hid (HY3.out.below hb3)
  have HD4 := hid (hD2.below hb3)
  have HO4 := hid (hO2.below hb3)
  have HK4 := hid ((((Chg.of HB0.out Z).trans (Chg.of HB1.out Z)).trans (HH3.out.wide hwz)).trans (Chg.of hb3 Z))
  have HQ4 := hid (Bx.new W2 38 #[.int .i64 (putX z o b), .slice A5 k5 c5])
  have HN4 := hid (show ∀ j, Z j → j ≠ W2.heap.size from fun j hj => by have := HC3.out.lt j hj; omega)
  obtain ⟨q1, hq1⟩ : ∃ x, W2.heap.size = x := ⟨_, rfl⟩
  obtain ⟨W4, hW4⟩ : ∃ x, W2.alloc (.cells #[.int .i64 (putX z o b), .slice A5 k5 c5] 38) = x := ⟨_, rfl⟩
  rw [hW4] at HC4 HR4 HX4 HY4 HD4 HO4 HK4 HQ4 ⊢
  rw [hq1] at HQ4 HN4 ⊢
  clear hW4 hq1 hR2 hX2 hb3 hD2 hO2 HC3 HY3 HH3 H1 HX1 HD1 HY1 HD0
  have hpr := put_r (b := b) (lev := lev) HR4.out HOK.out HD4.out H16.out (by rw [HZ.out]; exact fun e => (HTK.out e).1)
  rw [HZ.out] at hpr
  have HRU := hid hpr
  have HRG := hid (act_range HX4.out)
  have y1 : W4.cell? ⟨p, 1, none⟩ = some (.int .i64 lev) := HX4.out.cell 1
  clear hpr
  go_upto_region 10 with (first
    | (refine wpList_load_pre (by rfl) 38 (.tmp 69) rfl p 2 rfl #[.int .i64 b, .slice A1 k1 c1] _ HRG.out Tryz.underlying38 rfl (by kernel_rfl) ?_)
    | (go_at_call 41; refine HRU.out.mono ?_; rintro e W5 ⟨A6, k6, c6, rfl, ⟨us', lv', hrc⟩, hch2, hy2⟩; have HR5 := hid hrc; have HH5 := hid hch2; have HV5 := hid hy2; clear hrc hch2 hy2)
    | (refine wpList_store_new rfl 82 (.tmp 15) (.tmp 73) rfl rfl _ #[.int .i64 (putX z o b), .slice A6 k6 c6, .bool (putG z o b), .int .i64 z] rfl rfl (by kernel_rfl) rfl (by simp [Value.oneCell']) ?_))
  clear y1
  have hP2 : ∀ j, ((Y j ∨ j = g) ∨ j = d) → (Y j ∨ j = g ∨ j = d) := fun j hj => hj.elim (fun h => h.elim .inl fun e => .inr (.inl e)) fun e => .inr (.inr e)
  have hZ2 : ∀ j, ((Y j ∨ j = g) ∨ j = d) → Z j := fun j hj => HR4.out.wide j (hP2 j hj)
  have hC5 := HC4.out.keepL H0.out.ap HR4.out.wide HH5.out hP2
  have hY5 := HY4.out.chg HH5.out hZ2
  have hD5 := HD4.out.chg HH5.out hZ2
  have hO5 := HO4.out.chg HH5.out hZ2
  have hQ5 := HH5.out.bx HQ4.out fun hj => HN4.out q1 (hZ2 q1 hj) rfl
  have hX5 := HH5.out.bx HX4.out fun hj => HNP.out p (hZ2 p hj) rfl
  have hb6 := below_alloc W5 (.cells #[.int .i64 (putX z o b), .slice A6 k6 c6, .bool (putG z o b), .int .i64 z] 82)
  have HC6 := hid (hC5.below hb6)
  have HR6 := hid (HR5.out.below hb6)
  have HY6 := hid (hY5.below hb6)
  have HV6 := hid (HV5.out.below hb6)
  have HD6 := hid (hD5.below hb6)
  have HO6 := hid (hO5.below hb6)
  have HQ6 := hid (hQ5.next hb6)
  have HX6 := hid (hX5.next hb6)
  have HK6 := hid ((HK4.out.trans (HH5.out.wide hZ2)).trans (Chg.of hb6 Z))
  have HP6 := hid (Bx.new W5 82 #[.int .i64 (putX z o b), .slice A6 k6 c6, .bool (putG z o b), .int .i64 z])
  obtain ⟨q2, hq2⟩ : ∃ x, W5.heap.size = x := ⟨_, rfl⟩
  obtain ⟨W6, hW6⟩ : ∃ x, W5.alloc (.cells #[.int .i64 (putX z o b), .slice A6 k6 c6, .bool (putG z o b), .int .i64 z] 82) = x := ⟨_, rfl⟩
  rw [hW6] at HC6 HR6 HY6 HV6 HD6 HO6 HQ6 HX6 HK6 HP6 ⊢
  rw [hq2] at HP6 ⊢
  have HAM := hid (fun hz => Ob.add_mem HOK.out.ok (HTK.out hz).1)
  have hde : putL z o D b = putL z o E b := by
    unfold putL
    cases hg : putG z o b with
    | true =>
      have hz : z = 0 := Decidable.byContradiction fun hz => by
        have : putG z o b = false := if_neg hz
        rw [this] at hg
        cases hg
      have hgn : o.gn b = true := (show putG z o b = o.gn b from if_pos hz).symm.trans hg
      rw [if_pos rfl, if_pos rfl]
      exact H0.out.de _ ((HAM.out hz).2 hgn).2.1
    | false => rfl
  have hy6 := HY6.out
  rw [hde] at hy6
  have HS := hid (same_frame (putX z o b) hy6 HV6.out)
  have HSA := hid (fun w' (hb : Below W6.heap.size W6 w') => same_by (HO6.out.below hb) (HD6.out.below hb))
  rw [HLK.out] at HSA
  have HRG2 := hid (went_range HP6.out)
  clear hW6 hq2 hP2 hZ2 hC5 hY5 hD5 hO5 hQ5 hX5 hb6 hde hy6 HR5 HV5 HRU HPU HRG HH5
  go_wp2_with (first
    | (refine wpList_load_bx rfl 38 (.tmp 12) rfl q1 _ _ _ rfl HQ6.out Tryz.underlying38 rfl (by kernel_rfl) ?_)
    | (refine wpList_load_pre (by rfl) 38 (.tmp 75) rfl q2 0 rfl #[.int .i64 (putX z o b), .slice A6 k6 c6] _ HRG2.out Tryz.underlying38 rfl (by kernel_rfl) ?_)
    | (go_at_call 31; refine HS.out.mono ?_; rintro e W7 ⟨rfl, hb7⟩; have HB7 := hid hb7; have HS2 := hid (HSA.out _ hb7); have z2 : W7.cell? ⟨q2, 2, none⟩ = some (.bool (putG z o b)) := (HP6.out.next hb7).cell 2; have z3 : W7.cell? ⟨q2, 3, none⟩ = some (.int .i64 z) := (HP6.out.next hb7).cell 3; have y3 : W7.cell? ⟨p, 3, none⟩ = some (.slice A1 k1 c1) := (HX6.out.next hb7).cell 3; clear hb7)
    | (go_at_call 25; refine HS2.out.mono ?_; rintro e W8 ⟨rfl, k8, rfl⟩))
  go_ret
  refine ⟨rfl, putO z o b, putD z D b l, lv', us', putD z E b l, ⟨(HC6.out.below HB7.out).draws k8, (HR6.out.below HB7.out).draws k8, H0.out.ap, fun x hx => ?_, fun x hx => ?_⟩, (HK6.out.trans (Chg.of HB7.out Z)).draws k8⟩
  · by_cases hz : z = 0
    · rw [show putO z o b = o.add b from if_pos hz] at hx
      rw [show putD z D b l = updB D b l from if_pos hz, show putD z E b l = updB E b l from if_pos hz]
      unfold updB
      by_cases e : x = b
      · rw [if_pos e, if_pos e]
      · rw [if_neg e, if_neg e]
        exact H0.out.de x ((((HAM.out hz).1 x).1 hx).elim (fun h => absurd h e) (·.1))
    · rw [show putO z o b = o from if_neg hz] at hx
      rw [show putD z D b l = D from if_neg hz, show putD z E b l = E from if_neg hz]
      exact H0.out.de x hx
  · by_cases hz : z = 0
    · rw [show putO z o b = o.add b from if_pos hz] at hx
      rcases ((HAM.out hz).1 x).1 hx with rfl | h
      · have := (HTK.out hz).2
        have := HC2.out
        omega
      · exact H0.out.lt x h.1
    · rw [show putO z o b = o from if_neg hz] at hx
      exact H0.out.lt x hx
theorem set_l (h : Cm w Z G M F c A n cp hh T v o D B) (hB : B ≤ 10000000) {l : List Int} (hd : By w Z (.slice A1 k1 c1) l) : Calls Tryz.prog 27 #[.pointer (some ⟨G, 0, none⟩), .agg #[.int .i64 b, .slice A1 k1 c1]] w fun e w' => e = .returned (.bool (dec (b ∈ o.all ∧ (k1 : Int) = c 3))) ∧ Cm w' Z G M F c A n cp hh T v o (if dec (b ∈ o.all ∧ (k1 : Int) = c 3) then updB D b l else D) (B + 1) ∧ Chg w w' (fun j => F j ∨ j = M) (fun j => F j ∨ j = M) := by
  by_cases hp : b ∈ o.all ∧ (k1 : Int) = c 3
  · rw [dec_true hp]
    exact cm_set_yes h hB hd hp.1 hp.2
  · rw [dec_false hp]
    exact (cm_set_no h hp).mono fun e w2 ⟨h1, h2⟩ => ⟨h1, (h.below h2).up (Nat.le_succ _), Chg.of h2 _⟩
theorem set_r {K : Nat} (h : Rc w Z Y g d c A n cp T lv mv pv cv us o E) (r : Rok o K T c) {l : List Int} (hd : By w Z (.slice A1 k1 c1) l) (h16 : c 3 ≤ 16) : Calls Tryz.prog 42 #[.pointer (some ⟨g, 0, none⟩), .agg #[.int .i64 b, .slice A1 k1 c1]] w fun e w' => e = .returned (.bool (dec (b ∈ o.all ∧ (k1 : Int) = c 3))) ∧ (∃ us', Rc w' Z Y g d c A n cp T lv mv pv cv us' o (if dec (b ∈ o.all ∧ (k1 : Int) = c 3) then updB E b l else E)) ∧ Chg w w' (· = d) (· = d) := by
  by_cases hp : b ∈ o.all ∧ (k1 : Int) = c 3
  · rw [dec_true hp]
    exact rc_set_yes h r hd hp.1 hp.2 (by omega)
  · rw [dec_false hp]
    exact (rc_set_no h r hp).mono fun e w2 ⟨h1, h2⟩ => ⟨h1, ⟨us, h.below h2⟩, Chg.of h2 _⟩
set_option maxRecDepth 20000 in
set_option maxHeartbeats 2000000 in
theorem do_set (h : Bo16 w Z G M F c A n cp hh T v o D B Y g d A2 cp2 lv mv pv cv us E) (hB : B ≤ 10000000) {l : List Int} (hd : By w Z (.slice A1 k1 c1) l) : Calls Tryz.prog 14 #[.pointer (some ⟨G, 0, none⟩), .pointer (some ⟨g, 0, none⟩), .agg #[.int .i64 2, .int .i64 lev, .int .i64 b, .slice A1 k1 c1]] w (DoQ w Z G M F c A n cp hh T v B Y g d A2 cp2 mv pv cv) := by
  have hb0 := below_alloc w (.cells #[.int .i64 2, .int .i64 lev, .int .i64 b, .slice A1 k1 c1] 40)
  have HX0 := hid (Bx.new w 40 #[.int .i64 2, .int .i64 lev, .int .i64 b, .slice A1 k1 c1])
  have HB0 := hid hb0
  have H0 := hid (h.below hb0)
  have HOK := hid (h.rok hB)
  have HLT := hid h.cm.lt
  have HD0 := hid (hd.below hb0)
  have H16 := hid (show c 3 ≤ 16 from (h.cm.rt.1 3 (by omega)).2)
  have HBB := hid hB
  clear hd
  clear h hb0
  go_enter Tryz.func14, Tryz.ntmps14
  go_upto_region 1 with fail
  obtain ⟨W0, hW0⟩ : ∃ x, w.alloc (.cells #[.int .i64 2, .int .i64 lev, .int .i64 b, .slice A1 k1 c1] 40) = x := ⟨_, rfl⟩
  obtain ⟨p, hp⟩ : ∃ x, w.heap.size = x := ⟨_, rfl⟩
  rw [hW0] at HX0 HB0 H0 HD0 ⊢
  rw [hp] at HX0 ⊢
  have HNP := hid (show ∀ j, Z j → j ≠ p from fun j hj => by have := HLT.out j hj; omega)
  clear hW0 hp
  have y0 : W0.cell? ⟨p, 0, none⟩ = some (.int .i64 2) := HX0.out.cell 0
  have y2 : W0.cell? ⟨p, 2, none⟩ = some (.int .i64 b) := HX0.out.cell 2
  go_upto_region 12 with fail
  clear y0 y2
  obtain ⟨W1, hW1⟩ : ∃ x, W0.drew = x := ⟨_, rfl⟩
  have HE1 := hid hW1
  have hb1 : Below W0.heap.size W0 W1 := hW1 ▸ below_draws (Below.refl _ _) 1
  have HB1 := hid hb1
  have HX1 := hid (HX0.out.next hb1)
  have H1 := hid (H0.out.below hb1)
  have HD1 := hid (HD0.out.below hb1)
  have HSL := hid (set_l (b := b) H1.out.cm HBB.out HD1.out)
  clear hW1 hb1
  refine wp_region_noPanic ?_
  refine wp_region_held_drew (S := fun w' => w'.rangeAt p 2 (#[.int .i64 b, .slice A1 k1 c1] : Array Value).toList) (by kernel_rfl) ?_ (fun hHeld => ?_)
  · rw [HE1.out]; exact act_range HX1.out
  refine tkv 0 (some 99) rfl ?_
  refine tkv 1 (some 100) rfl ?_
  refine wpAnyH_take (i := 2) (oi := ⟨some 101, _, _, _, _, _⟩) (v := _) rfl (by kernel_rfl) (by kernel_rfl) (by kernel_rfl) (fun _ _ _ h => h) (yieldsIf_load_mid (by rfl) 38 (.tmp 100) rfl p 2 rfl (#[.int .i64 b, .slice A1 k1 c1] : Array Value).toList _ (fun w hw => hw) Tryz.underlying38 rfl (by kernel_rfl)) (by assumption) ?_
  (try simp only [Act.put, tkA, tk0, tk1])
  refine tkv 4 (some 103) rfl ?_
  refine tkv 5 (some 104) rfl ?_
  refine wpAnyH_take (i := 6) (oi := ⟨some 105, _, _, _, _, _⟩) (v := _) rfl (by kernel_rfl) (by kernel_rfl) (by kernel_rfl) (fun _ _ _ h => h) (yieldsIf_load_mid (by rfl) 38 (.tmp 104) rfl p 2 rfl (#[.int .i64 b, .slice A1 k1 c1] : Array Value).toList _ (fun w hw => hw) Tryz.underlying38 rfl (by kernel_rfl)) (by assumption) ?_
  (try simp only [Act.put, tkA, tk0, tk1])
  refine tkc 3 (some 102) rfl fun K hK => ?_
  rw [HE1.out]
  go_simp
  refine HSL.out.mono ?_
  rintro e W2 ⟨rfl, hcm, hch⟩
  have HC2 := hid hcm
  have HH2 := hid hch
  have hwz : ∀ j, (F j ∨ j = M) → Z j := fun j hj => hj.elim (H0.out.cm.fx j) fun e => e ▸ H0.out.cm.xM
  have HX2 := hid (hch.bx HX1.out fun hf => HNP.out p (hwz p hf) rfl)
  have HR2 := hid (H1.out.keepR hch (fun j hj => hj.elim .inl fun e => .inr (.inr e)))
  have HD2 := hid (HD1.out.chg hch hwz)
  have kp := act_range HX2.out
  have HSR := hid (set_r (b := b) HR2.out HOK.out HD2.out H16.out)
  clear hcm hch hwz
  go_simp
  refine hK.out _ _ kp (fun hHeld => ?_)
  clear hK K
  (try simp only [Act.put, tkA, tk0, tk1])
  refine tkc 7 (some 106) rfl fun K hK => ?_
  go_simp
  refine HSR.out.mono ?_
  rintro e W3 ⟨rfl, ⟨us2, hrc⟩, hch⟩
  have HR3 := hid hrc
  have HH3 := hid hch
  have HX3 := hid (hch.bx HX2.out fun e => HNP.out d HR2.out.zd e.symm)
  have kq := act_range HX3.out
  clear hrc hch
  go_simp
  refine hK.out _ _ kq (fun hHeld => ?_)
  clear hK K
  (try simp only [Act.put, tkA, tk0, tk1])
  refine tkv 8 (some 107) rfl ?_
  refine tkv 9 (some 6) rfl ?_
  refine wpAnyH_done (by kernel_rfl) ?_ _
  refine NoPanic.normal ?_
  go_wp2
  go_ret
  have hP2 : ∀ j, j = d → (Y j ∨ j = g ∨ j = d) := fun j e => .inr (.inr e)
  have hwz : ∀ j, (F j ∨ j = M) → Z j := fun j hj => hj.elim (H0.out.cm.fx j) fun e => e ▸ H0.out.cm.xM
  refine ⟨rfl, o, _, lv, us2, _, ⟨HC2.out.keepL H0.out.ap HR2.out.wide HH3.out hP2, HR3.out, H0.out.ap, fun x hx => ?_, H0.out.lt⟩, (((Chg.of HB0.out Z).trans (Chg.of HB1.out Z)).trans (HH2.out.wide hwz)).trans (HH3.out.wide fun j hj => HR2.out.wide j (hP2 j hj))⟩
  by_cases hp : b ∈ o.all ∧ (k1 : Int) = c 3
  · rw [dec_true hp, if_pos rfl, if_pos rfl]
    unfold updB
    by_cases e : x = b
    · rw [if_pos e, if_pos e]
    · rw [if_neg e, if_neg e]
      exact H0.out.de x hx
  · rw [dec_false hp]
    exact H0.out.de x hx
/-- whatever is done -/
theorem do_any (h : Bo16 w Z G M F c A n cp hh T v o D B Y g d A2 cp2 lv mv pv cv us E) (hB : B ≤ 10000000) {l : List Int} (hd : By w Z (.slice A1 k1 c1) l) (h100 : k1 ≤ 100) : Calls Tryz.prog 14 #[.pointer (some ⟨G, 0, none⟩), .pointer (some ⟨g, 0, none⟩), .agg #[.int .i64 κ, .int .i64 lev, .int .i64 b, .slice A1 k1 c1]] w (DoQ w Z G M F c A n cp hh T v B Y g d A2 cp2 mv pv cv) := by
  by_cases h0 : κ = 0
  · subst h0
    exact do_use h hB
  · by_cases h1 : κ = 1
    · subst h1
      exact do_put h hB hd h100
    · by_cases h2 : κ = 2
      · subst h2
        exact do_set h hB hd
      · by_cases h3 : κ = 3
        · subst h3
          exact do_drop h hB
        · exact do_other h hB h0 h1 h2 h3
end
end Go.Proofs.YtmfdlkkligjcbaaGreat
