/-
  What is proved: what Set of a tier's cache does. Condition: as many as 10000000 were put and set at most.
  (Left out here, as nothing of this law reaches it: cm_set_no, cm_set_yes.) -/
import Derived.Test.YtbcejfonkehjgaaGreatDoorK01
import Derived.Test.YtbcejfonkehjgaaGreatDoorK25
import Derived.Test.YtbcejfonkehjgaaGreatDoorK24
namespace Go.Proofs.YtbcejfonkehjgaaGreatDoor
open Go.RowKit

variable {w w' : World} {X F Q : Nat → Prop} {G M n cp T B k1 c1 : Nat} {c : Nat → Int} {A A1 : Option Addr} {hh : Nat → Hn} {v : Value} {o : Ob} {D : Int → List Int} {b : Int}






















































































































































end Go.Proofs.YtbcejfonkehjgaaGreatDoor
namespace Go.Proofs.YtbcejfonkehjgaaGreatDoor
open Go.RowKit

section
variable {w w' : World} {X F : Nat → Prop} {G M n cp T B : Nat} {c : Nat → Int} {A : Option Addr} {hh : Nat → Hn} {v : Value} {o : Ob} {D : Int → List Int}
theorem Cm.with_new (h : Cm w X G M F c A n cp hh T v o D B) (ob : Obj) : Cm (w.alloc ob) (fun j => X j ∨ j = w.heap.size) G M F c A n cp hh T v o D B :=
  h.more (below_alloc w ob) (fun _ hj => .inl hj) fun j hj => hj.elim .inl fun e => .inr ⟨by omega, by rw [World.size_alloc]; omega⟩
set_option maxRecDepth 20000 in
set_option maxHeartbeats 1000000 in
theorem cm_Takes (h : Cm w X G M F c A n cp hh T v o D B) (b lv : Int) : Calls Tryz.prog 128 #[.pointer (some ⟨G, 0, none⟩), .int .i64 b, .int .i64 lv] w fun e w' => e = .returned (.bool (decide (0 ≤ b ∧ b < c 2) && o.takes (c 5) T b lv)) ∧ Below w.heap.size w w' := by
  have HL := hid h.range
  have HI := hid (isblk_any c A n cp b w)
  have H := hid h
  clear h
  cases hp : decide (0 ≤ b ∧ b < c 2) with
  | true =>
    rw [hp] at HI
    go_enter Tryz.func128, Tryz.ntmps128
    go_wp2_with (first
      | (go_at_call 129; refine HI.out.mono ?_; rintro e w1 ⟨rfl, hb⟩; have HC := hid (cm_takes (H.out.below hb) b lv); have HB := hid hb; clear hb)
      | (go_at_call 130; refine HC.out.mono ?_; rintro e w2 ⟨rfl, hb⟩; have HB2 := hid (on HB.out hb); clear hb)
      | (refine wpList_load_pre (by rfl) 25 (.tmp 12) rfl G 0 rfl (cfgC c A n cp) _ HL.out Tryz.underlying25 rfl (by kernel_rfl) ?_))
    go_ret
    exact ⟨by simp, HB2.out⟩
  | false =>
    rw [hp] at HI
    go_enter Tryz.func128, Tryz.ntmps128
    go_wp2_with (first
      | (go_at_call 129; refine HI.out.mono ?_; rintro e w1 ⟨rfl, hb⟩; have HB := hid hb; clear hb)
      | (refine wpList_load_pre (by rfl) 25 (.tmp 12) rfl G 0 rfl (cfgC c A n cp) _ HL.out Tryz.underlying25 rfl (by kernel_rfl) ?_))
    go_ret
    exact ⟨by simp, HB.out⟩
def UseQ (w : World) (X F : Nat → Prop) (G M n cp T B : Nat) (c : Nat → Int) (A : Option Addr) (hh : Nat → Hn) (v : Value) (o : Ob) (D : Int → List Int) (b : Int) (e : Ending) (w' : World) : Prop :=
  ∃ u, e = .returned (.tuple #[u, .bool (dec (b ∈ o.all))]) ∧ Cm w' X G M F c A n cp hh T v (o.use b) D (B + 1) ∧ Chg w w' F F ∧ (b ∈ o.all → By w' X u (D b)) ∧ (b ∉ o.all → u = .slice none 0 0)
set_option maxRecDepth 20000 in
set_option maxHeartbeats 1000000 in
theorem cu_use_oml {C : Nat} {Ls : List Int} (h : Cm w X G M F c A n cp hh T v (.lru C Ls) D B) (_ : B ≤ 10000000) (b : Int) : Calls Tryz.prog 88 #[.pointer (some ⟨G, 0, none⟩), .int .i64 b] w (UseQ w X F G M n cp T B c A hh v (.lru C Ls) D b) := by
  have g18 := h.c18
  have g19 := h.c19
  obtain ⟨g, rfl, hc⟩ := oml_use h.ord b
  have HC := hid hc
  have HS := hid (fun (w2 : World) (ho : Om w2 F _ _) (hch : Chg w w2 F F) => h.ords hch ho (h.ok.use b) (Ob.tm_use h.ok b) (Ob.kin_use b h.kd) fun x hx => (Ob.use_mem h.ok b x).1 hx)
  have hm : ∀ w : World, (method 394 163 (.pointer (some ⟨g, 0, none⟩)) "Use").run Tryz.prog w = .ok (242, .pointer (some ⟨g, 0, none⟩)) w := fun _ => by kernel_rfl
  have HG := hid (World.block_lt_of_cell? w _ g19)
  have HFG := hid h.fG
  clear hc
  by_cases hb : b ∈ (Ob.lru C Ls).all
  · have HX := hid (h.wf hb)
    have HSZ := hid (h.sz b hb)
    have HUM := hid ((Ob.use_mem h.ok b b).2 hb)
    have HBM := hid hb
    have HLX := hid h.lt
    rw [dec_true hb] at HC
    clear h hb
    go_enter Tryz.func88, Tryz.ntmps88
    go_upto_region 3 with (go_at_call 242; refine HC.out.mono ?_; rintro e w1 ⟨rfl, ho, hch⟩; have HC1 := hid (HS.out _ ho hch); have HCH := hid hch; clear ho hch)
    have g19 := HC1.out.c19
    obtain ⟨f, hmf, hfx⟩ := HC1.out.map
    obtain ⟨u, hfu, hbu⟩ := hfx b HUM.out
    have hlk := hmf.look Tryz.underlying3 Tryz.underlying105 (zero_u8s _) HX.out
    rw [hfu] at hlk
    have hlk2 : (Instr.lookup 105 (.map (some M)) (.int .i64 b) false).run Tryz.prog w1 = .ok u w1 := hlk
    obtain ⟨A1, c1, rfl, h1, h2, h3, h4⟩ := hbu
    have HCL := hid (clone_bytes A1 _ c1 (D b) w1 rfl (by have := HSZ.out; omega) h1)
    clear hmf hfx hfu hlk h1 h2 h3 h4
    go_wp2_with (go_at_call 122; refine HCL.out.mono ?_; rintro e w2 hq; obtain ⟨u, rfl, h5, h6⟩ := CpQ.by_ hq X HC1.out.lt; have HU := hid h5; have HB2 := hid h6; clear hq h5 h6)
    go_ret2
    exact ⟨u, (by rw [dec_true HBM.out]; rfl), HC1.out.below HB2.out, HCH.out.trans (Chg.of HB2.out _), fun _ => HU.out, fun hn => absurd HBM.out hn⟩
  · have HBM := hid hb
    rw [dec_false hb] at HC
    clear h hb
    go_enter Tryz.func88, Tryz.ntmps88
    go_wp2_with (go_at_call 242; refine HC.out.mono ?_; rintro e w1 ⟨rfl, ho, hch⟩; have HC1 := hid (HS.out _ ho hch); have HCH := hid hch; clear ho hch)
    go_ret2
    exact ⟨.slice none 0 0, (by rw [dec_false HBM.out]; rfl), HC1.out, HCH.out, fun hb => absurd hb HBM.out, fun _ => rfl⟩
set_option maxRecDepth 20000 in
set_option maxHeartbeats 1000000 in
theorem cu_use_omm {C N L H : Nat} {m : Ms} (h : Cm w X G M F c A n cp hh T v (.mq C N L H m) D B) (hB : B ≤ 10000000) (b : Int) : Calls Tryz.prog 88 #[.pointer (some ⟨G, 0, none⟩), .int .i64 b] w (UseQ w X F G M n cp T B c A hh v (.mq C N L H m) D b) := by
  have g18 := h.c18
  have g19 := h.c19
  obtain ⟨g, rfl, hc⟩ := omm_use h.ord h.ok (Nat.le_trans h.tm hB) b
  have HC := hid hc
  have HS := hid (fun (w2 : World) (ho : Om w2 F _ _) (hch : Chg w w2 F F) => h.ords hch ho (h.ok.use b) (Ob.tm_use h.ok b) (Ob.kin_use b h.kd) fun x hx => (Ob.use_mem h.ok b x).1 hx)
  have hm : ∀ w : World, (method 394 158 (.pointer (some ⟨g, 0, none⟩)) "Use").run Tryz.prog w = .ok (225, .pointer (some ⟨g, 0, none⟩)) w := fun _ => by kernel_rfl
  have HG := hid (World.block_lt_of_cell? w _ g19)
  have HFG := hid h.fG
  clear hc
  by_cases hb : b ∈ (Ob.mq C N L H m).all
  · have HX := hid (h.wf hb)
    have HSZ := hid (h.sz b hb)
    have HUM := hid ((Ob.use_mem h.ok b b).2 hb)
    have HBM := hid hb
    have HLX := hid h.lt
    rw [dec_true hb] at HC
    clear h hb
    go_enter Tryz.func88, Tryz.ntmps88
    go_upto_region 3 with (go_at_call 225; refine HC.out.mono ?_; rintro e w1 ⟨rfl, ho, hch⟩; have HC1 := hid (HS.out _ ho hch); have HCH := hid hch; clear ho hch)
    have g19 := HC1.out.c19
    obtain ⟨f, hmf, hfx⟩ := HC1.out.map
    obtain ⟨u, hfu, hbu⟩ := hfx b HUM.out
    have hlk := hmf.look Tryz.underlying3 Tryz.underlying105 (zero_u8s _) HX.out
    rw [hfu] at hlk
    have hlk2 : (Instr.lookup 105 (.map (some M)) (.int .i64 b) false).run Tryz.prog w1 = .ok u w1 := hlk
    obtain ⟨A1, c1, rfl, h1, h2, h3, h4⟩ := hbu
    have HCL := hid (clone_bytes A1 _ c1 (D b) w1 rfl (by have := HSZ.out; omega) h1)
    clear hmf hfx hfu hlk h1 h2 h3 h4
    go_wp2_with (go_at_call 122; refine HCL.out.mono ?_; rintro e w2 hq; obtain ⟨u, rfl, h5, h6⟩ := CpQ.by_ hq X HC1.out.lt; have HU := hid h5; have HB2 := hid h6; clear hq h5 h6)
    go_ret2
    exact ⟨u, (by rw [dec_true HBM.out]; rfl), HC1.out.below HB2.out, HCH.out.trans (Chg.of HB2.out _), fun _ => HU.out, fun hn => absurd HBM.out hn⟩
  · have HBM := hid hb
    rw [dec_false hb] at HC
    clear h hb
    go_enter Tryz.func88, Tryz.ntmps88
    go_wp2_with (go_at_call 225; refine HC.out.mono ?_; rintro e w1 ⟨rfl, ho, hch⟩; have HC1 := hid (HS.out _ ho hch); have HCH := hid hch; clear ho hch)
    go_ret2
    exact ⟨.slice none 0 0, (by rw [dec_false HBM.out]; rfl), HC1.out, HCH.out, fun hb => absurd hb HBM.out, fun _ => rfl⟩
set_option maxRecDepth 20000 in
set_option maxHeartbeats 1000000 in
theorem cu_use_omp {rg : Int → Option Nat} {pt : Nat → Nat} {lp : Nat → Bool} {n2 : Nat} {S : List (List Int)} (h : Cm w X G M F c A n cp hh T v (.prt rg pt lp n2 S) D B) (_ : B ≤ 10000000) (b : Int) : Calls Tryz.prog 88 #[.pointer (some ⟨G, 0, none⟩), .int .i64 b] w (UseQ w X F G M n cp T B c A hh v (.prt rg pt lp n2 S) D b) := by
  have g18 := h.c18
  have g19 := h.c19
  obtain ⟨g, rfl, hc⟩ := omp_use h.ord b
  have HC := hid hc
  have HS := hid (fun (w2 : World) (ho : Om w2 F _ _) (hch : Chg w w2 F F) => h.ords hch ho (h.ok.use b) (Ob.tm_use h.ok b) (Ob.kin_use b h.kd) fun x hx => (Ob.use_mem h.ok b x).1 hx)
  have hm : ∀ w : World, (method 394 155 (.pointer (some ⟨g, 0, none⟩)) "Use").run Tryz.prog w = .ok (204, .pointer (some ⟨g, 0, none⟩)) w := fun _ => by kernel_rfl
  have HG := hid (World.block_lt_of_cell? w _ g19)
  have HFG := hid h.fG
  clear hc
  by_cases hb : b ∈ (Ob.prt rg pt lp n2 S).all
  · have HX := hid (h.wf hb)
    have HSZ := hid (h.sz b hb)
    have HUM := hid ((Ob.use_mem h.ok b b).2 hb)
    have HBM := hid hb
    have HLX := hid h.lt
    rw [dec_true hb] at HC
    clear h hb
    go_enter Tryz.func88, Tryz.ntmps88
    go_upto_region 3 with (go_at_call 204; refine HC.out.mono ?_; rintro e w1 ⟨rfl, ho, hch⟩; have HC1 := hid (HS.out _ ho hch); have HCH := hid hch; clear ho hch)
    have g19 := HC1.out.c19
    obtain ⟨f, hmf, hfx⟩ := HC1.out.map
    obtain ⟨u, hfu, hbu⟩ := hfx b HUM.out
    have hlk := hmf.look Tryz.underlying3 Tryz.underlying105 (zero_u8s _) HX.out
    rw [hfu] at hlk
    have hlk2 : (Instr.lookup 105 (.map (some M)) (.int .i64 b) false).run Tryz.prog w1 = .ok u w1 := hlk
    obtain ⟨A1, c1, rfl, h1, h2, h3, h4⟩ := hbu
    have HCL := hid (clone_bytes A1 _ c1 (D b) w1 rfl (by have := HSZ.out; omega) h1)
    clear hmf hfx hfu hlk h1 h2 h3 h4
    go_wp2_with (go_at_call 122; refine HCL.out.mono ?_; rintro e w2 hq; obtain ⟨u, rfl, h5, h6⟩ := CpQ.by_ hq X HC1.out.lt; have HU := hid h5; have HB2 := hid h6; clear hq h5 h6)
    go_ret2
    exact ⟨u, (by rw [dec_true HBM.out]; rfl), HC1.out.below HB2.out, HCH.out.trans (Chg.of HB2.out _), fun _ => HU.out, fun hn => absurd HBM.out hn⟩
  · have HBM := hid hb
    rw [dec_false hb] at HC
    clear h hb
    go_enter Tryz.func88, Tryz.ntmps88
    go_wp2_with (go_at_call 204; refine HC.out.mono ?_; rintro e w1 ⟨rfl, ho, hch⟩; have HC1 := hid (HS.out _ ho hch); have HCH := hid hch; clear ho hch)
    go_ret2
    exact ⟨.slice none 0 0, (by rw [dec_false HBM.out]; rfl), HC1.out, HCH.out, fun hb => absurd hb HBM.out, fun _ => rfl⟩
theorem cm_use (h : Cm w X G M F c A n cp hh T v o D B) (hB : B ≤ 10000000) (b : Int) : Calls Tryz.prog 88 #[.pointer (some ⟨G, 0, none⟩), .int .i64 b] w (UseQ w X F G M n cp T B c A hh v o D b) := by
  cases o with
  | lru C Ls => exact cu_use_oml h hB b
  | mq C N L H m => exact cu_use_omm h hB b
  | prt rg pt lp n2 S => exact cu_use_omp h hB b
def DropQ (w : World) (X F : Nat → Prop) (G M n cp T B : Nat) (c : Nat → Int) (A : Option Addr) (hh : Nat → Hn) (v : Value) (o : Ob) (D : Int → List Int) (b : Int) (e : Ending) (w' : World) : Prop :=
  ∃ b' u, e = .returned (.tuple #[.agg #[.int .i64 b', u], .bool (dec (b ∈ o.all))]) ∧ Cm w' X G M F c A n cp hh T v (o.rem b) D (B + 1) ∧ Chg w w' (fun j => F j ∨ j = M) (fun j => F j ∨ j = M) ∧ (b ∈ o.all → b' = b ∧ By w' X u (D b)) ∧ (b ∉ o.all → b' = 0 ∧ u = .slice none 0 0)
set_option maxRecDepth 20000 in
set_option maxHeartbeats 1000000 in
theorem cu_drop_oml {C : Nat} {Ls : List Int} (h : Cm w X G M F c A n cp hh T v (.lru C Ls) D B) (b : Int) : Calls Tryz.prog 93 #[.pointer (some ⟨G, 0, none⟩), .int .i64 b] w (DropQ w X F G M n cp T B c A hh v (.lru C Ls) D b) := by
  have hb0 := below_alloc w (.cells #[.int .i64 0, .slice none 0 0] 88)
  have HB0 := hid (Bx.new w 88 #[.int .i64 0, .slice none 0 0])
  have HW0 := hid hb0
  have HXL := hid h.lt
  have HFX := hid (And.intro h.fx (And.intro h.xG h.xM))
  have h0 := h.with_new (.cells #[.int .i64 0, .slice none 0 0] 88)
  have g18 := h0.c18
  obtain ⟨g, rfl, hc⟩ := oml_rem h0.ord b
  have HC := hid hc
  have hm : ∀ w : World, (method 394 163 (.pointer (some ⟨g, 0, none⟩)) "Remove").run Tryz.prog w = .ok (241, .pointer (some ⟨g, 0, none⟩)) w := fun _ => by kernel_rfl
  have H0 := hid h0
  clear hc hb0
  by_cases hb : b ∈ (Ob.lru C Ls).all
  · have HX := hid (h.wf hb)
    have HBM := hid hb
    rw [dec_true hb] at HC
    clear h h0 hb
    go_enter Tryz.func93, Tryz.ntmps93
    go_upto_region 1 with fail
    obtain ⟨W0, hW0⟩ : ∃ x, w.alloc (.cells #[.int .i64 0, .slice none 0 0] 88) = x := ⟨_, rfl⟩
    obtain ⟨r0, hr0⟩ : ∃ x, w.heap.size = x := ⟨_, rfl⟩
    rw [hW0] at HB0 HW0 HC H0 g18 ⊢
    rw [hr0] at HB0 H0 ⊢
    have HR0 := hid (show ∀ j, X j → j ≠ r0 from fun j hj => by have := HXL.out j hj; omega)
    have HRS := hid hr0
    clear hW0 hr0
    go_upto_region 3 with (go_at_call 241; refine HC.out.mono ?_; rintro e w1 ⟨rfl, ho, hch⟩; have HO := hid ho; have HCH := hid hch; clear ho hch)
    have g19 := (HCH.out.bx H0.out.box H0.out.fG).cell 19
    obtain ⟨f, hmf, hfx⟩ := H0.out.map
    obtain ⟨u, hfu, hbu⟩ := hfx b HBM.out
    have hbu1 := hbu.chg HCH.out H0.out.fx
    have hmf1 := hmf.same (HCH.out.block M hmf.lt H0.out.fM)
    have HFV := hid hfx
    have HX0 := hid (HCH.out.bx HB0.out fun hf => HR0.out _ (HFX.out.1 _ hf) rfl)
    have HBU := hid hbu1
    have hul : ∃ A1 k1 c1, u = .slice A1 k1 c1 := by
      obtain ⟨A1, c1, rfl, -⟩ := hbu
      exact ⟨A1, _, c1, rfl⟩
    obtain ⟨A1, k1, c1, rfl⟩ := hul
    have HTK := hid (cm_take g19 hmf1 hfu HX.out)
    have HNM := hid (show r0 ≠ M from fun e => HR0.out M HFX.out.2.2 e.symm)
    clear hmf hfx hfu hbu hbu1 hmf1
    go_wp2_with (first
      | (go_at_call 131; refine HTK.out.mono ?_; rintro e w2 ⟨rfl, hm2, hc2⟩; have HM2 := hid hm2; have HC2 := hid hc2; have HX2 := hid (hc2.bx HX0.out HNM.out); clear hm2 hc2)
      | (refine wpList_store_bx rfl 88 (.tmp 4) (.tmp 20) rfl rfl r0 _ _ #[.int .i64 b, .slice A1 k1 c1] rfl rfl HX2.out (by kernel_rfl) rfl (by simp [Value.oneCell']) ?_))
    refine bodyPost_ret (results_bx2 rfl _ rfl (HX2.out.row (cs' := #[.int .i64 b, .slice A1 k1 c1])) Tryz.underlying88 rfl (by kernel_rfl)) rfl ?_
    have hch1 : Chg W0 w2 (fun j => F j ∨ j = M) (fun j => F j ∨ j = M) := (HCH.out.wide fun j hj => .inl hj).trans (HC2.out.wide fun j hj => .inr hj)
    have hcm : Cm w2 (fun j => X j ∨ j = r0) G M F c A n cp hh T (.iface 163 (.pointer (some ⟨g, 0, none⟩))) ((Ob.lru C Ls).rem b) D (B + 1) := by
      refine H0.out.to hch1 (HO.out.chg HC2.out fun j hf e => H0.out.fM (e ▸ hf)) (H0.out.ok.rem b) (by have := H0.out.tm; have := Ob.tm_rem H0.out.ok b; omega) (Ob.kin_rem b H0.out.kd) ⟨_, HM2.out.mono (Nat.le_succ _), fun x hx => ?_⟩ fun x hx => H0.out.sz x ((Ob.rem_mem H0.out.ok b x).1 hx).1
      obtain ⟨h1, h2⟩ := (Ob.rem_mem H0.out.ok b x).1 hx
      obtain ⟨u, h3, h4⟩ := HFV.out x h1
      exact ⟨u, (if_neg h2).trans h3, (h4.chg HCH.out H0.out.fx).chg HC2.out fun j e => .inl (e ▸ HFX.out.2.2)⟩
    have hrow : Chg w2 (w2.setRow r0 #[.int .i64 b, .slice A1 k1 c1]) (· = r0) (· = r0) := chg_row _ _ _
    have hby := ((HBU.out.chg HC2.out fun j e => .inl (e ▸ HFX.out.2.2)).chg hrow fun j e => .inr e).less (Y := X) fun j hj => .inl hj
    have hcm2 := hcm.chg hrow (fun j e => .inr e) fun j e => ⟨fun hf => HR0.out j (HFX.out.1 j hf) e, fun e2 => HR0.out G HFX.out.2.1 (e2 ▸ e), fun e2 => HR0.out M HFX.out.2.2 (e2 ▸ e)⟩
    exact ⟨b, .slice A1 k1 c1, (by rw [dec_true HBM.out]; rfl), hcm2.less (fun j hj => .inl hj) (fun j hj => hj.elim (HFX.out.1 j) fun e => e.elim (fun e => e ▸ HFX.out.2.1) fun e => e ▸ HFX.out.2.2), chg_fresh ((Chg.of HW0.out _).trans hch1) (Nat.le_of_eq HRS.out) _, fun _ => ⟨rfl, hby⟩, fun hn => absurd HBM.out hn⟩
  · have HBM := hid hb
    rw [dec_false hb] at HC
    clear h h0 hb
    go_enter Tryz.func93, Tryz.ntmps93
    go_upto_region 1 with fail
    obtain ⟨W0, hW0⟩ : ∃ x, w.alloc (.cells #[.int .i64 0, .slice none 0 0] 88) = x := ⟨_, rfl⟩
    obtain ⟨r0, hr0⟩ : ∃ x, w.heap.size = x := ⟨_, rfl⟩
    rw [hW0] at HB0 HW0 HC H0 g18 ⊢
    rw [hr0] at HB0 H0 ⊢
    have HR0 := hid (show ∀ j, X j → j ≠ r0 from fun j hj => by have := HXL.out j hj; omega)
    have HRS := hid hr0
    clear hW0 hr0
    go_wp2_with (first
      | (go_at_call 241; refine HC.out.mono ?_; rintro e w1 ⟨rfl, ho, hch⟩; have HO := hid ho; have HCH := hid hch; have HX0 := hid (hch.bx HB0.out fun hf => HR0.out _ (HFX.out.1 _ hf) rfl); clear ho hch)
      | (refine wpList_store_bx rfl 88 (.tmp 4) (.tmp 17) rfl rfl r0 _ _ #[.int .i64 0, .slice none 0 0] rfl rfl HX0.out (by kernel_rfl) rfl (by simp [Value.oneCell']) ?_))
    refine bodyPost_ret (results_bx2 rfl _ rfl (HX0.out.row (cs' := #[.int .i64 0, .slice none 0 0])) Tryz.underlying88 rfl (by kernel_rfl)) rfl ?_
    have hcm := H0.out.ords HCH.out HO.out (H0.out.ok.rem b) (Ob.tm_rem H0.out.ok b) (Ob.kin_rem b H0.out.kd) fun x hx => ((Ob.rem_mem H0.out.ok b x).1 hx).1
    have hrow : Chg w1 (w1.setRow r0 #[.int .i64 0, .slice none 0 0]) (· = r0) (· = r0) := chg_row _ _ _
    have hcm2 := hcm.chg hrow (fun j e => .inr e) fun j e => ⟨fun hf => HR0.out j (HFX.out.1 j hf) e, fun e2 => HR0.out G HFX.out.2.1 (e2 ▸ e), fun e2 => HR0.out M HFX.out.2.2 (e2 ▸ e)⟩
    exact ⟨0, .slice none 0 0, (by rw [dec_false HBM.out]; rfl), hcm2.less (fun j hj => .inl hj) (fun j hj => hj.elim (HFX.out.1 j) fun e => e.elim (fun e => e ▸ HFX.out.2.1) fun e => e ▸ HFX.out.2.2), chg_fresh ((Chg.of HW0.out _).trans (HCH.out.wide fun j hj => .inl hj)) (Nat.le_of_eq HRS.out) _, fun hb => absurd hb HBM.out, fun _ => ⟨rfl, rfl⟩⟩
set_option maxRecDepth 20000 in
set_option maxHeartbeats 1000000 in
theorem cu_drop_omm {C N L H : Nat} {m : Ms} (h : Cm w X G M F c A n cp hh T v (.mq C N L H m) D B) (b : Int) : Calls Tryz.prog 93 #[.pointer (some ⟨G, 0, none⟩), .int .i64 b] w (DropQ w X F G M n cp T B c A hh v (.mq C N L H m) D b) := by
  have hb0 := below_alloc w (.cells #[.int .i64 0, .slice none 0 0] 88)
  have HB0 := hid (Bx.new w 88 #[.int .i64 0, .slice none 0 0])
  have HW0 := hid hb0
  have HXL := hid h.lt
  have HFX := hid (And.intro h.fx (And.intro h.xG h.xM))
  have h0 := h.with_new (.cells #[.int .i64 0, .slice none 0 0] 88)
  have g18 := h0.c18
  obtain ⟨g, rfl, hc⟩ := omm_rem h0.ord h0.ok b
  have HC := hid hc
  have hm : ∀ w : World, (method 394 158 (.pointer (some ⟨g, 0, none⟩)) "Remove").run Tryz.prog w = .ok (224, .pointer (some ⟨g, 0, none⟩)) w := fun _ => by kernel_rfl
  have H0 := hid h0
  clear hc hb0
  by_cases hb : b ∈ (Ob.mq C N L H m).all
  · have HX := hid (h.wf hb)
    have HBM := hid hb
    rw [dec_true hb] at HC
    clear h h0 hb
    go_enter Tryz.func93, Tryz.ntmps93
    go_upto_region 1 with fail
    obtain ⟨W0, hW0⟩ : ∃ x, w.alloc (.cells #[.int .i64 0, .slice none 0 0] 88) = x := ⟨_, rfl⟩
    obtain ⟨r0, hr0⟩ : ∃ x, w.heap.size = x := ⟨_, rfl⟩
    rw [hW0] at HB0 HW0 HC H0 g18 ⊢
    rw [hr0] at HB0 H0 ⊢
    have HR0 := hid (show ∀ j, X j → j ≠ r0 from fun j hj => by have := HXL.out j hj; omega)
    have HRS := hid hr0
    clear hW0 hr0
    go_upto_region 3 with (go_at_call 224; refine HC.out.mono ?_; rintro e w1 ⟨rfl, ho, hch⟩; have HO := hid ho; have HCH := hid hch; clear ho hch)
    have g19 := (HCH.out.bx H0.out.box H0.out.fG).cell 19
    obtain ⟨f, hmf, hfx⟩ := H0.out.map
    obtain ⟨u, hfu, hbu⟩ := hfx b HBM.out
    have hbu1 := hbu.chg HCH.out H0.out.fx
    have hmf1 := hmf.same (HCH.out.block M hmf.lt H0.out.fM)
    have HFV := hid hfx
    have HX0 := hid (HCH.out.bx HB0.out fun hf => HR0.out _ (HFX.out.1 _ hf) rfl)
    have HBU := hid hbu1
    have hul : ∃ A1 k1 c1, u = .slice A1 k1 c1 := by
      obtain ⟨A1, c1, rfl, -⟩ := hbu
      exact ⟨A1, _, c1, rfl⟩
    obtain ⟨A1, k1, c1, rfl⟩ := hul
    have HTK := hid (cm_take g19 hmf1 hfu HX.out)
    have HNM := hid (show r0 ≠ M from fun e => HR0.out M HFX.out.2.2 e.symm)
    clear hmf hfx hfu hbu hbu1 hmf1
    go_wp2_with (first
      | (go_at_call 131; refine HTK.out.mono ?_; rintro e w2 ⟨rfl, hm2, hc2⟩; have HM2 := hid hm2; have HC2 := hid hc2; have HX2 := hid (hc2.bx HX0.out HNM.out); clear hm2 hc2)
      | (refine wpList_store_bx rfl 88 (.tmp 4) (.tmp 20) rfl rfl r0 _ _ #[.int .i64 b, .slice A1 k1 c1] rfl rfl HX2.out (by kernel_rfl) rfl (by simp [Value.oneCell']) ?_))
    refine bodyPost_ret (results_bx2 rfl _ rfl (HX2.out.row (cs' := #[.int .i64 b, .slice A1 k1 c1])) Tryz.underlying88 rfl (by kernel_rfl)) rfl ?_
    have hch1 : Chg W0 w2 (fun j => F j ∨ j = M) (fun j => F j ∨ j = M) := (HCH.out.wide fun j hj => .inl hj).trans (HC2.out.wide fun j hj => .inr hj)
    have hcm : Cm w2 (fun j => X j ∨ j = r0) G M F c A n cp hh T (.iface 158 (.pointer (some ⟨g, 0, none⟩))) ((Ob.mq C N L H m).rem b) D (B + 1) := by
      refine H0.out.to hch1 (HO.out.chg HC2.out fun j hf e => H0.out.fM (e ▸ hf)) (H0.out.ok.rem b) (by have := H0.out.tm; have := Ob.tm_rem H0.out.ok b; omega) (Ob.kin_rem b H0.out.kd) ⟨_, HM2.out.mono (Nat.le_succ _), fun x hx => ?_⟩ fun x hx => H0.out.sz x ((Ob.rem_mem H0.out.ok b x).1 hx).1
      obtain ⟨h1, h2⟩ := (Ob.rem_mem H0.out.ok b x).1 hx
      obtain ⟨u, h3, h4⟩ := HFV.out x h1
      exact ⟨u, (if_neg h2).trans h3, (h4.chg HCH.out H0.out.fx).chg HC2.out fun j e => .inl (e ▸ HFX.out.2.2)⟩
    have hrow : Chg w2 (w2.setRow r0 #[.int .i64 b, .slice A1 k1 c1]) (· = r0) (· = r0) := chg_row _ _ _
    have hby := ((HBU.out.chg HC2.out fun j e => .inl (e ▸ HFX.out.2.2)).chg hrow fun j e => .inr e).less (Y := X) fun j hj => .inl hj
    have hcm2 := hcm.chg hrow (fun j e => .inr e) fun j e => ⟨fun hf => HR0.out j (HFX.out.1 j hf) e, fun e2 => HR0.out G HFX.out.2.1 (e2 ▸ e), fun e2 => HR0.out M HFX.out.2.2 (e2 ▸ e)⟩
    exact ⟨b, .slice A1 k1 c1, (by rw [dec_true HBM.out]; rfl), hcm2.less (fun j hj => .inl hj) (fun j hj => hj.elim (HFX.out.1 j) fun e => e.elim (fun e => e ▸ HFX.out.2.1) fun e => e ▸ HFX.out.2.2), chg_fresh ((Chg.of HW0.out _).trans hch1) (Nat.le_of_eq HRS.out) _, fun _ => ⟨rfl, hby⟩, fun hn => absurd HBM.out hn⟩
  · have HBM := hid hb
    rw [dec_false hb] at HC
    clear h h0 hb
    go_enter Tryz.func93, Tryz.ntmps93
    go_upto_region 1 with fail
    obtain ⟨W0, hW0⟩ : ∃ x, w.alloc (.cells #[.int .i64 0, .slice none 0 0] 88) = x := ⟨_, rfl⟩
    obtain ⟨r0, hr0⟩ : ∃ x, w.heap.size = x := ⟨_, rfl⟩
    rw [hW0] at HB0 HW0 HC H0 g18 ⊢
    rw [hr0] at HB0 H0 ⊢
    have HR0 := hid (show ∀ j, X j → j ≠ r0 from fun j hj => by have := HXL.out j hj; omega)
    have HRS := hid hr0
    clear hW0 hr0
    go_wp2_with (first
      | (go_at_call 224; refine HC.out.mono ?_; rintro e w1 ⟨rfl, ho, hch⟩; have HO := hid ho; have HCH := hid hch; have HX0 := hid (hch.bx HB0.out fun hf => HR0.out _ (HFX.out.1 _ hf) rfl); clear ho hch)
      | (refine wpList_store_bx rfl 88 (.tmp 4) (.tmp 17) rfl rfl r0 _ _ #[.int .i64 0, .slice none 0 0] rfl rfl HX0.out (by kernel_rfl) rfl (by simp [Value.oneCell']) ?_))
    refine bodyPost_ret (results_bx2 rfl _ rfl (HX0.out.row (cs' := #[.int .i64 0, .slice none 0 0])) Tryz.underlying88 rfl (by kernel_rfl)) rfl ?_
    have hcm := H0.out.ords HCH.out HO.out (H0.out.ok.rem b) (Ob.tm_rem H0.out.ok b) (Ob.kin_rem b H0.out.kd) fun x hx => ((Ob.rem_mem H0.out.ok b x).1 hx).1
    have hrow : Chg w1 (w1.setRow r0 #[.int .i64 0, .slice none 0 0]) (· = r0) (· = r0) := chg_row _ _ _
    have hcm2 := hcm.chg hrow (fun j e => .inr e) fun j e => ⟨fun hf => HR0.out j (HFX.out.1 j hf) e, fun e2 => HR0.out G HFX.out.2.1 (e2 ▸ e), fun e2 => HR0.out M HFX.out.2.2 (e2 ▸ e)⟩
    exact ⟨0, .slice none 0 0, (by rw [dec_false HBM.out]; rfl), hcm2.less (fun j hj => .inl hj) (fun j hj => hj.elim (HFX.out.1 j) fun e => e.elim (fun e => e ▸ HFX.out.2.1) fun e => e ▸ HFX.out.2.2), chg_fresh ((Chg.of HW0.out _).trans (HCH.out.wide fun j hj => .inl hj)) (Nat.le_of_eq HRS.out) _, fun hb => absurd hb HBM.out, fun _ => ⟨rfl, rfl⟩⟩
set_option maxRecDepth 20000 in
set_option maxHeartbeats 1000000 in
theorem cu_drop_omp {rg : Int → Option Nat} {pt : Nat → Nat} {lp : Nat → Bool} {n2 : Nat} {S : List (List Int)} (h : Cm w X G M F c A n cp hh T v (.prt rg pt lp n2 S) D B) (b : Int) : Calls Tryz.prog 93 #[.pointer (some ⟨G, 0, none⟩), .int .i64 b] w (DropQ w X F G M n cp T B c A hh v (.prt rg pt lp n2 S) D b) := by
  have hb0 := below_alloc w (.cells #[.int .i64 0, .slice none 0 0] 88)
  have HB0 := hid (Bx.new w 88 #[.int .i64 0, .slice none 0 0])
  have HW0 := hid hb0
  have HXL := hid h.lt
  have HFX := hid (And.intro h.fx (And.intro h.xG h.xM))
  have h0 := h.with_new (.cells #[.int .i64 0, .slice none 0 0] 88)
  have g18 := h0.c18
  obtain ⟨g, rfl, hc⟩ := omp_rem h0.ord b
  have HC := hid hc
  have hm : ∀ w : World, (method 394 155 (.pointer (some ⟨g, 0, none⟩)) "Remove").run Tryz.prog w = .ok (203, .pointer (some ⟨g, 0, none⟩)) w := fun _ => by kernel_rfl
  have H0 := hid h0
  clear hc hb0
  by_cases hb : b ∈ (Ob.prt rg pt lp n2 S).all
  · have HX := hid (h.wf hb)
    have HBM := hid hb
    rw [dec_true hb] at HC
    clear h h0 hb
    go_enter Tryz.func93, Tryz.ntmps93
    go_upto_region 1 with fail
    obtain ⟨W0, hW0⟩ : ∃ x, w.alloc (.cells #[.int .i64 0, .slice none 0 0] 88) = x := ⟨_, rfl⟩
    obtain ⟨r0, hr0⟩ : ∃ x, w.heap.size = x := ⟨_, rfl⟩
    rw [hW0] at HB0 HW0 HC H0 g18 ⊢
    rw [hr0] at HB0 H0 ⊢
    have HR0 := hid (show ∀ j, X j → j ≠ r0 from fun j hj => by have := HXL.out j hj; omega)
    have HRS := hid hr0
    clear hW0 hr0
    go_upto_region 3 with (go_at_call 203; refine HC.out.mono ?_; rintro e w1 ⟨rfl, ho, hch⟩; have HO := hid ho; have HCH := hid hch; clear ho hch)
    have g19 := (HCH.out.bx H0.out.box H0.out.fG).cell 19
    obtain ⟨f, hmf, hfx⟩ := H0.out.map
    obtain ⟨u, hfu, hbu⟩ := hfx b HBM.out
    have hbu1 := hbu.chg HCH.out H0.out.fx
    have hmf1 := hmf.same (HCH.out.block M hmf.lt H0.out.fM)
    have HFV := hid hfx
    have HX0 := hid (HCH.out.bx HB0.out fun hf => HR0.out _ (HFX.out.1 _ hf) rfl)
    have HBU := hid hbu1
    have hul : ∃ A1 k1 c1, u = .slice A1 k1 c1 := by
      obtain ⟨A1, c1, rfl, -⟩ := hbu
      exact ⟨A1, _, c1, rfl⟩
    obtain ⟨A1, k1, c1, rfl⟩ := hul
    have HTK := hid (cm_take g19 hmf1 hfu HX.out)
    have HNM := hid (show r0 ≠ M from fun e => HR0.out M HFX.out.2.2 e.symm)
    clear hmf hfx hfu hbu hbu1 hmf1
    go_wp2_with (first
      | (go_at_call 131; refine HTK.out.mono ?_; rintro e w2 ⟨rfl, hm2, hc2⟩; have HM2 := hid hm2; have HC2 := hid hc2; have HX2 := hid (hc2.bx HX0.out HNM.out); clear hm2 hc2)
      | (refine wpList_store_bx rfl 88 (.tmp 4) (.tmp 20) rfl rfl r0 _ _ #[.int .i64 b, .slice A1 k1 c1] rfl rfl HX2.out (by kernel_rfl) rfl (by simp [Value.oneCell']) ?_))
    refine bodyPost_ret (results_bx2 rfl _ rfl (HX2.out.row (cs' := #[.int .i64 b, .slice A1 k1 c1])) Tryz.underlying88 rfl (by kernel_rfl)) rfl ?_
    have hch1 : Chg W0 w2 (fun j => F j ∨ j = M) (fun j => F j ∨ j = M) := (HCH.out.wide fun j hj => .inl hj).trans (HC2.out.wide fun j hj => .inr hj)
    have hcm : Cm w2 (fun j => X j ∨ j = r0) G M F c A n cp hh T (.iface 155 (.pointer (some ⟨g, 0, none⟩))) ((Ob.prt rg pt lp n2 S).rem b) D (B + 1) := by
      refine H0.out.to hch1 (HO.out.chg HC2.out fun j hf e => H0.out.fM (e ▸ hf)) (H0.out.ok.rem b) (by have := H0.out.tm; have := Ob.tm_rem H0.out.ok b; omega) (Ob.kin_rem b H0.out.kd) ⟨_, HM2.out.mono (Nat.le_succ _), fun x hx => ?_⟩ fun x hx => H0.out.sz x ((Ob.rem_mem H0.out.ok b x).1 hx).1
      obtain ⟨h1, h2⟩ := (Ob.rem_mem H0.out.ok b x).1 hx
      obtain ⟨u, h3, h4⟩ := HFV.out x h1
      exact ⟨u, (if_neg h2).trans h3, (h4.chg HCH.out H0.out.fx).chg HC2.out fun j e => .inl (e ▸ HFX.out.2.2)⟩
    have hrow : Chg w2 (w2.setRow r0 #[.int .i64 b, .slice A1 k1 c1]) (· = r0) (· = r0) := chg_row _ _ _
    have hby := ((HBU.out.chg HC2.out fun j e => .inl (e ▸ HFX.out.2.2)).chg hrow fun j e => .inr e).less (Y := X) fun j hj => .inl hj
    have hcm2 := hcm.chg hrow (fun j e => .inr e) fun j e => ⟨fun hf => HR0.out j (HFX.out.1 j hf) e, fun e2 => HR0.out G HFX.out.2.1 (e2 ▸ e), fun e2 => HR0.out M HFX.out.2.2 (e2 ▸ e)⟩
    exact ⟨b, .slice A1 k1 c1, (by rw [dec_true HBM.out]; rfl), hcm2.less (fun j hj => .inl hj) (fun j hj => hj.elim (HFX.out.1 j) fun e => e.elim (fun e => e ▸ HFX.out.2.1) fun e => e ▸ HFX.out.2.2), chg_fresh ((Chg.of HW0.out _).trans hch1) (Nat.le_of_eq HRS.out) _, fun _ => ⟨rfl, hby⟩, fun hn => absurd HBM.out hn⟩
  · have HBM := hid hb
    rw [dec_false hb] at HC
    clear h h0 hb
    go_enter Tryz.func93, Tryz.ntmps93
    go_upto_region 1 with fail
    obtain ⟨W0, hW0⟩ : ∃ x, w.alloc (.cells #[.int .i64 0, .slice none 0 0] 88) = x := ⟨_, rfl⟩
    obtain ⟨r0, hr0⟩ : ∃ x, w.heap.size = x := ⟨_, rfl⟩
    rw [hW0] at HB0 HW0 HC H0 g18 ⊢
    rw [hr0] at HB0 H0 ⊢
    have HR0 := hid (show ∀ j, X j → j ≠ r0 from fun j hj => by have := HXL.out j hj; omega)
    have HRS := hid hr0
    clear hW0 hr0
    go_wp2_with (first
      | (go_at_call 203; refine HC.out.mono ?_; rintro e w1 ⟨rfl, ho, hch⟩; have HO := hid ho; have HCH := hid hch; have HX0 := hid (hch.bx HB0.out fun hf => HR0.out _ (HFX.out.1 _ hf) rfl); clear ho hch)
      | (refine wpList_store_bx rfl 88 (.tmp 4) (.tmp 17) rfl rfl r0 _ _ #[.int .i64 0, .slice none 0 0] rfl rfl HX0.out (by kernel_rfl) rfl (by simp [Value.oneCell']) ?_))
    refine bodyPost_ret (results_bx2 rfl _ rfl (HX0.out.row (cs' := #[.int .i64 0, .slice none 0 0])) Tryz.underlying88 rfl (by kernel_rfl)) rfl ?_
    have hcm := H0.out.ords HCH.out HO.out (H0.out.ok.rem b) (Ob.tm_rem H0.out.ok b) (Ob.kin_rem b H0.out.kd) fun x hx => ((Ob.rem_mem H0.out.ok b x).1 hx).1
    have hrow : Chg w1 (w1.setRow r0 #[.int .i64 0, .slice none 0 0]) (· = r0) (· = r0) := chg_row _ _ _
    have hcm2 := hcm.chg hrow (fun j e => .inr e) fun j e => ⟨fun hf => HR0.out j (HFX.out.1 j hf) e, fun e2 => HR0.out G HFX.out.2.1 (e2 ▸ e), fun e2 => HR0.out M HFX.out.2.2 (e2 ▸ e)⟩
    exact ⟨0, .slice none 0 0, (by rw [dec_false HBM.out]; rfl), hcm2.less (fun j hj => .inl hj) (fun j hj => hj.elim (HFX.out.1 j) fun e => e.elim (fun e => e ▸ HFX.out.2.1) fun e => e ▸ HFX.out.2.2), chg_fresh ((Chg.of HW0.out _).trans (HCH.out.wide fun j hj => .inl hj)) (Nat.le_of_eq HRS.out) _, fun hb => absurd hb HBM.out, fun _ => ⟨rfl, rfl⟩⟩
theorem cm_drop (h : Cm w X G M F c A n cp hh T v o D B) (b : Int) : Calls Tryz.prog 93 #[.pointer (some ⟨G, 0, none⟩), .int .i64 b] w (DropQ w X F G M n cp T B c A hh v o D b) := by
  cases o with
  | lru C Ls => exact cu_drop_oml h b
  | mq C N L H m => exact cu_drop_omm h b
  | prt rg pt lp n2 S => exact cu_drop_omp h b
end
end Go.Proofs.YtbcejfonkehjgaaGreatDoor
namespace Go.Proofs.YtbcejfonkehjgaaGreatDoor
open Go.RowKit

section
variable {w w' : World} {X F Q : Nat → Prop} {G M n cp T B k1 c1 : Nat} {c : Nat → Int} {A A1 : Option Addr} {hh : Nat → Hn} {v : Value} {o : Ob} {D : Int → List Int} {b : Int}
def PutA (w : World) (X F : Nat → Prop) (G M n cp T B : Nat) (c : Nat → Int) (A : Option Addr) (hh : Nat → Hn) (v : Value) (o : Ob) (D : Int → List Int) (b lv : Int) (k1 : Nat) (l : List Int) (e : Ending) (w' : World) : Prop :=
  (putR c T o b lv k1 ≠ 0 ∧ e = .returned (.tuple #[.agg #[.int .i64 0, .slice none 0 0], .bool false, .int .i64 (putR c T o b lv k1)]) ∧ Below w.heap.size w w') ∨
  (putR c T o b lv k1 = 0 ∧ (0 ≤ b ∧ b < c 2) ∧ o.tk b ∧ PutQ w X F G M n cp T B c A hh v o D b l e w')
theorem cm_put (h : Cm w X G M F c A n cp hh T v o D B) (hB : B ≤ 10000000) {l : List Int} (hd : By w X (.slice A1 k1 c1) l) (lv : Int) :
    Calls Tryz.prog 92 #[.pointer (some ⟨G, 0, none⟩), .agg #[.int .i64 b, .slice A1 k1 c1], .int .i64 lv] w (PutA w X F G M n cp T B c A hh v o D b lv k1 l) := by
  by_cases hb : 0 ≤ b ∧ b < c 2
  · by_cases hk : (k1 : Int) = c 3
    · cases ht : o.takes (c 5) T b lv with
      | false =>
        have e5 : putR c T o b lv k1 = 5 := by unfold putR; rw [if_neg (fun h => h hb), if_neg (fun h => h hk), if_pos ht]
        exact (cp_no5 h A1 k1 c1 lv hb hk ht).mono fun e w' ⟨h1, h2⟩ => .inl ⟨by rw [e5]; decide, by rw [e5]; exact h1, h2⟩
      | true =>
        have e0 : putR c T o b lv k1 = 0 := by unfold putR; rw [if_neg (fun h => h hb), if_neg (fun h => h hk), if_neg (by rw [ht]; decide)]
        have key : Calls Tryz.prog 92 #[.pointer (some ⟨G, 0, none⟩), .agg #[.int .i64 b, .slice A1 k1 c1], .int .i64 lv] w (PutQ w X F G M n cp T B c A hh v o D b l) := by
          cases o with
          | lru C Ls =>
            cases hg : (Ob.lru C Ls).gn b with
            | true => exact cp_true_oml h hB hd lv hb hk ht hg
            | false => exact cp_false_oml h hB hd lv hb hk ht hg
          | mq C N L H m =>
            cases hg : (Ob.mq C N L H m).gn b with
            | true => exact cp_true_omm h hB hd lv hb hk ht hg
            | false => exact cp_false_omm h hB hd lv hb hk ht hg
          | prt rg pt lp n2 S =>
            cases hg : (Ob.prt rg pt lp n2 S).gn b with
            | true => exact cp_true_omp h hB hd lv hb hk ht hg
            | false => exact cp_false_omp h hB hd lv hb hk ht hg
        exact key.mono fun e w' h1 => .inr ⟨e0, hb, Ob.tk_of h hb ht, h1⟩
    · have e10 : putR c T o b lv k1 = 10 := by unfold putR; rw [if_neg (fun h => h hb), if_pos hk]
      exact (cp_no10 h A1 k1 c1 lv hb hk).mono fun e w' ⟨h1, h2⟩ => .inl ⟨by rw [e10]; decide, by rw [e10]; exact h1, h2⟩
  · have e9 : putR c T o b lv k1 = 9 := by unfold putR; rw [if_pos hb]
    exact (cp_no9 h A1 k1 c1 lv hb).mono fun e w' ⟨h1, h2⟩ => .inl ⟨by rw [e9]; decide, by rw [e9]; exact h1, h2⟩
end
-- a cache that is not there
section
variable (w : World)






end














end Go.Proofs.YtbcejfonkehjgaaGreatDoor
namespace Go.Proofs.YtbcejfonkehjgaaGreatDoor
open Go.RowKit

def exC (i : Nat) : Int := [1, 1, 4, 1, 2, 0, 1, 1, 1, 1, 1, 1, 1, 1, 0, 1].getD i 0
abbrev noH (_ : Nat) : Hn := ⟨0, 0, 0, false⟩
theorem exC_right : RightP exC noH 0 := by
  refine ⟨fun i h => ?_, .inl rfl, .inr rfl, by omega, fun i h => absurd h (Nat.not_lt_zero i), fun i h => absurd h (Nat.not_lt_zero i)⟩
  match i, h with
  | 0, _ | 1, _ | 2, _ | 3, _ | 4, _ | 5, _ | 6, _ | 7, _ | 8, _ | 9, _ | 10, _ | 11, _ | 12, _ | 13, _ | 14, _ | 15, _ => simp [lo, hi, exC]
  | n + 16, h => omega
end Go.Proofs.YtbcejfonkehjgaaGreatDoor
