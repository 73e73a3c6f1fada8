/-
  What is proved: the reference's Do: a block is used, added, taken out. Condition: its cache lies in memory as one; a block's number is one of 64 bits.
-/
import Derived.Test.YtmfdlkkligjcbaaGreatJ01
import Derived.Test.YtmfdlkkligjcbaaGreatJ33
import Derived.Deep.RegionHeld3
import Derived.Deep.RegionLaw
namespace Go.Proofs.YtmfdlkkligjcbaaGreat
open Go.RowKit

/-- while Do is at it: the blocks that must not be taken for rows -/
def Xn (X : Nat → Prop) (p : Nat) (j : Nat) : Prop := X j ∨ (p ≤ j ∧ j < p + 1 + 1 + 1)
/-- while Do is at it: the act's block, the answer's, what is made ready -/
structure Sd (w W : World) (p : Nat) (κ z : Int) (cr : Array Value) : Prop where
  b0 : Bx W p 123 #[.int .i64 κ, .int .i64 z]
  b1 : Bx W (p + 1) 120 wz
  b2 : Bx W (p + 1 + 1) 120 cr
  hp : w.heap.size = p
section
variable {w W W' : World} {p : Nat} {κ z : Int} {cr : Array Value}
theorem Sd.below (h : Sd w W p κ z cr) (hb : Below W.heap.size W W') : Sd w W' p κ z cr := ⟨h.b0.next hb, h.b1.next hb, h.b2.next hb, h.hp⟩
theorem Sd.draws (h : Sd w W p κ z cr) (n : Nat) : Sd w (W.drewN n) p κ z cr := h.below (below_draws (Below.refl _ _) n)
theorem Sd.far {a i : Nat} {v : Value} (h : Sd w W p κ z cr) (ha : a < p) : Sd w (W.setCell ⟨a, i, none⟩ v) p κ z cr :=
  ⟨h.b0.far _ _ (by show a ≠ p; omega), h.b1.far _ _ (by show a ≠ p + 1; omega), h.b2.far _ _ (by show a ≠ p + 1 + 1; omega), h.hp⟩
theorem Sd.set (h : Sd w W p κ z cr) (i : Nat) (u : Value) : Sd w (W.setCell ⟨p + 1 + 1, i, none⟩ u) p κ z (cr.setIfInBounds i u) :=
  ⟨h.b0.far _ _ (by show p + 1 + 1 ≠ p; omega), h.b1.far _ _ (by show p + 1 + 1 ≠ p + 1; omega), h.b2.set i u, h.hp⟩
theorem sd_made (w : World) (κ z : Int) (d : Nat) (cr : Array Value) : Sd w ((((w.alloc (.cells #[.int .i64 κ, .int .i64 z] 123)).alloc (.cells wz 120)).drewN d).alloc (.cells cr 120)) w.heap.size κ z cr ∧
    Below w.heap.size w ((((w.alloc (.cells #[.int .i64 κ, .int .i64 z] 123)).alloc (.cells wz 120)).drewN d).alloc (.cells cr 120)) ∧
    ∀ {X : Nat → Prop} (j : Nat), Xn X w.heap.size j ↔ X j ∨ (w.heap.size ≤ j ∧ j < ((((w.alloc (.cells #[.int .i64 κ, .int .i64 z] 123)).alloc (.cells wz 120)).drewN d).alloc (.cells cr 120)).heap.size) := by
  have h0 := Bx.new w 123 #[.int .i64 κ, .int .i64 z]
  have B0 := below_alloc w (.cells #[.int .i64 κ, .int .i64 z] 123)
  have s0 : (w.alloc (.cells #[.int .i64 κ, .int .i64 z] 123)).heap.size = w.heap.size + 1 := Array.size_push _
  generalize w.alloc (.cells #[.int .i64 κ, .int .i64 z] 123) = w1 at *
  have h1 := (Bx.new w1 120 wz).draws d
  have B1 := below_draws (below_alloc w1 (.cells wz 120)) d
  have s1 : ((w1.alloc (.cells wz 120)).drewN d).heap.size = w1.heap.size + 1 := Array.size_push _
  generalize (w1.alloc (.cells wz 120)).drewN d = w2 at *
  have h2 := Bx.new w2 120 cr
  have B2 := below_alloc w2 (.cells cr 120)
  have s2 : (w2.alloc (.cells cr 120)).heap.size = w2.heap.size + 1 := Array.size_push _
  rw [s0] at h1
  rw [s1, s0] at h2
  refine ⟨⟨(h0.next B1).next B2, h1.next B2, h2, rfl⟩, on (on B0 B1) B2, fun j => ?_⟩
  unfold Xn
  rw [s2, s1, s0]
end
section
variable {w w' : World} {X : Nat → Prop} {r gp c cv T n : Nat} {b : Int} {A B : Option Addr} {hh : Nat → Hn} {pf : Nat → Nat → Nat} {us us' : List Value} {rg : Int → Option Nat} {pt : Nat → Nat} {lp : Nat → Bool} {S S' : List (List Int)}
/-- what comes of an act -/
def RdQ (w : World) (X : Nat → Prop) (r gp : Nat) (b : Int) (A : Option Addr) (c : Nat) (hh : Nat → Hn) (pf : Nat → Nat → Nat) (B : Option Addr) (cv : Nat) (T : Nat) (rg : Int → Option Nat) (pt : Nat → Nat) (lp : Nat → Bool) (n : Nat) (S' : List (List Int)) (vi : Int) (gn was : Bool) (er : Int) (e : Ending) (w' : World) : Prop :=
  e = .returned (.agg #[.slice none 0 0, .int .i64 vi, .bool gn, .bool was, .int .i64 er]) ∧ (∃ us', Rp w' X r gp b A c hh pf B cv us' T rg pt lp n S') ∧ Chg w w' (fun j => bk B = some j) (fun j => bk B = some j)
/-- Do ends -/
theorem sd_fin {W : World} {p : Nat} {κ z vi er : Int} {gn was : Bool} {cr : Array Value} (hS : Sd w W p κ z cr) (h0 : ∀ j, bk B = some j → X j ∧ j < w.heap.size) (hR : Rp W (Xn X p) r gp b A c hh pf B cv us' T rg pt lp n S') (hC : Chg w W (fun j => bk B = some j) (fun j => bk B = some j)) (hc : cr = #[.slice none 0 0, .int .i64 vi, .bool gn, .bool was, .int .i64 er]) :
    RdQ w X r gp b A c hh pf B cv T rg pt lp n S' vi gn was er (.returned (.agg cr)) (W.setRow (p + 1) cr) := by
  subst hc
  have hp := hS.hp
  have hcr := chg_row W (p + 1) #[.slice none 0 0, .int .i64 vi, .bool gn, .bool was, .int .i64 er]
  refine ⟨rfl, ⟨us', (hR.chg hcr (fun j e => .inr (by omega)) fun j e e2 => by have := (h0 j e2).2; omega).less (fun j hj => .inl hj) fun j e => (h0 j e).1⟩, ?_⟩
  exact ⟨hcr.os.trans hC.os, hcr.tape.trans hC.tape, hcr.output.trans hC.output, Nat.le_trans hC.size hcr.size, fun j h1 h2 => (hcr.block j (Nat.lt_of_lt_of_le h1 hC.size) (by omega)).trans (hC.block j h1 h2), fun j e => .inl e⟩
theorem rp_setw {W : World} {p i : Nat} {u : Value} (h : Rp W (Xn X p) r gp b A c hh pf B cv us T rg pt lp n S) (h0 : ∀ j, bk B = some j → j < p) : Rp (W.setCell ⟨p + 1 + 1, i, none⟩ u) (Xn X p) r gp b A c hh pf B cv us T rg pt lp n S :=
  h.chg (chg_set (Chg.refl W (· = p + 1 + 1)) i u) (fun j e => .inr (by omega)) fun j e e2 => by have := h0 j e2; omega
theorem chg_setw {W : World} {p i : Nat} {u : Value} (h : Chg w W (fun j => bk B = some j) (fun j => bk B = some j)) (hp : w.heap.size = p) : Chg w (W.setCell ⟨p + 1 + 1, i, none⟩ u) (fun j => bk B = some j) (fun j => bk B = some j) := by
  have hcr := chg_set (Chg.refl W (· = p + 1 + 1)) i u
  exact ⟨hcr.os.trans h.os, hcr.tape.trans h.tape, hcr.output.trans h.output, Nat.le_trans h.size hcr.size, fun j h1 h2 => (hcr.block j (Nat.lt_of_lt_of_le h1 h.size) (by omega)).trans (h.block j h1 h2), fun j e => .inl e⟩
set_option maxRecDepth 20000 in
set_option maxHeartbeats 4000000 in
theorem rd_none (h : Rp w X r gp b A c hh pf B cv us T rg pt lp n S) (ok : Okp rg pt n S) {z : Int} (hz : zb z) (h0 : ptO pt (rg z) = 0) (hin : ¬ inS S z) :
    Calls Tryz.prog 73 #[.pointer (some ⟨r, 0, none⟩), .agg #[.int .i64 1, .int .i64 z]] w (RdQ w X r gp b A c hh pf B cv T rg pt lp n S 0 false false 5) := by
  have H0 := hid (fun j (e : bk B = some j) => And.intro (h.xB j e) (h.xb j (h.xB j e)))
  have HHAS := hid (fun (y : World) (hb : Below w.heap.size w y) => rp_has (h.below hb) ok hz)
  rw [dec_false hin] at HHAS
  have HRG := hid (fun (y : World) (hy : Rp y (Xn X w.heap.size) r gp b A c hh pf B cv us T rg pt lp n S) => rp_range hy hz)
  have HPT := hid (fun (y : World) (hy : Rp y (Xn X w.heap.size) r gp b A c hh pf B cv us T rg pt lp n S) => rp_part hy hz)
  generalize rrV (rg z) = R0 at *
  rw [h0] at HPT
  rw [show ((0 : Nat) : Int) = 0 from rfl] at HPT
  clear h0
  have HMK := hid (fun d => sd_made w 1 z d #[.slice none 0 0, .int .i64 0, .bool false, .bool false, .int .i64 0])
  have HB2 := hid (on (below_alloc w (.cells #[.int .i64 1, .int .i64 z] 123)) (below_alloc _ (.cells wz 120)))
  have HR0 := hid (fun d => h.more (Y := Xn X w.heap.size) (HMK.out d).2.1 (HMK.out d).2.2)
  obtain ⟨p, hp⟩ : ∃ p, w.heap.size = p := ⟨_, rfl⟩
  have HPP := hid hp
  clear h ok hz hin
  go_enter Tryz.func73, Tryz.ntmps73
  go_upto_region 2 with (go_at_call 86; refine (HHAS.out _ HB2.out).mono ?_; rintro e w1 ⟨rfl, d, rfl⟩)
  have hmk := HMK.out d
  have hr0 := HR0.out d
  generalize ((((w.alloc (.cells #[.int .i64 1, .int .i64 z] 123)).alloc (.cells wz 120)).drewN d).alloc (.cells #[.slice none 0 0, .int .i64 0, .bool false, .bool false, .int .i64 0] 120)) = W at *
  have HSA := hid hmk.1
  have HCA := hid (Chg.of hmk.2.1 (fun j => bk B = some j))
  have HRA := hid hr0
  rw [hp] at HSA HRA HRG HPT
  clear hmk hr0 HMK HR0 HB2 HHAS hp
  have c0 := HRA.out.c0
  have y1 := HSA.out.b0.cell 1
  have HRD := hid (HRA.out.draws 1)
  have HSD := hid (HSA.out.draws 1)
  have HCD := hid (Chg.draws HCA.out 1)
  rw [show W.drewN 1 = W.drew from rfl] at HRD HSD HCD
  go_region_held3 (fun w' => w'.cell? ⟨r, 0, none⟩ = some (.slice A n c) ∧ w'.cell? ⟨p, 1, none⟩ = some (.int .i64 z)) (first | exact kp | exact ⟨c0, y1⟩) (first | (go_at_call 54; refine (HRG.out _ HRD.out).mono ?_; rintro e w2 ⟨rfl, d2, rfl⟩; have HRI := hid (HRD.out.draws d2); have HSI := hid (HSD.out.draws d2); have HCI := hid (Chg.draws HCD.out d2); have kp := And.intro HRI.out.c0 (HSI.out.b0.cell 1)))
  rw [show W.drew.drewN d2 = W.drewN (1 + d2) from drewN_two W 1 d2] at HRI HSI HCI
  generalize W.drewN (1 + d2) = WI at *
  clear c0 y1 kp HRD HSD HCD HRA HSA HCA HRG
  have y0 := HSI.out.b0.cell 0
  have y1 := HSI.out.b0.cell 1
  go_upto_region 4 with (go_at_call 49; refine (HPT.out _ HRI.out).mono ?_; rintro e w2 ⟨rfl, d3, rfl⟩; have HRJ := hid (HRI.out.draws d3); have HSJ := hid (HSI.out.draws d3); have HCJ := hid (Chg.draws HCI.out d3))
  generalize WI.drewN d3 = WJ at *
  clear y0 y1
  have f4 := HSJ.out.b2.free 4
  have z4 := HSJ.out.b2.cell 4
  go_upto_region 5 with fail
  have HSK := hid (show Sd w (WJ.setCell ⟨p + 1 + 1, 4, none⟩ (.int .i64 5)) p 1 z #[.slice none 0 0, .int .i64 0, .bool false, .bool false, .int .i64 5] from HSJ.out.set 4 _)
  have HRK := hid (rp_setw (i := 4) (u := (.int .i64 5)) HRJ.out (fun j e => by have := (H0.out j e).2; have := HPP.out; omega))
  have HCK := hid (chg_setw (i := 4) (u := (.int .i64 5)) HCJ.out HPP.out)
  generalize WJ.setCell ⟨p + 1 + 1, 4, none⟩ (.int .i64 5) = WK at *
  clear f4 z4
  go_wp2_with (first | (refine wpList_load_bx rfl 120 (.tmp 5) rfl (p + 1 + 1) _ _ _ rfl HSK.out.b2 Tryz.underlying120 rfl (by kernel_rfl) ?_) | (refine wpList_store_bx rfl 120 (.tmp 4) (.tmp 31) rfl rfl (p + 1) _ _ #[.slice none 0 0, .int .i64 0, .bool false, .bool false, .int .i64 5] rfl rfl HSK.out.b1 (by kernel_rfl) rfl (by simp [Value.oneCell']) ?_))
  refine bodyPost_ret (results_bx1 rfl _ rfl (HSK.out.b1.row (cs' := #[.slice none 0 0, .int .i64 0, .bool false, .bool false, .int .i64 5])) Tryz.underlying120 rfl (by kernel_rfl)) rfl ?_
  exact sd_fin HSK.out H0.out HRK.out HCK.out rfl
set_option maxRecDepth 20000 in
set_option maxHeartbeats 4000000 in
theorem rd_miss0 (h : Rp w X r gp b A c hh pf B cv us T rg pt lp n S) (ok : Okp rg pt n S) {z : Int} (hz : zb z) (hin : ¬ inS S z) :
    Calls Tryz.prog 73 #[.pointer (some ⟨r, 0, none⟩), .agg #[.int .i64 0, .int .i64 z]] w (RdQ w X r gp b A c hh pf B cv T rg pt lp n S 0 false false 0) := by
  have H0 := hid (fun j (e : bk B = some j) => And.intro (h.xB j e) (h.xb j (h.xB j e)))
  have HHAS := hid (fun (y : World) (hb : Below w.heap.size w y) => rp_has (h.below hb) ok hz)
  rw [dec_false hin] at HHAS
  have HRG := hid (fun (y : World) (hy : Rp y (Xn X w.heap.size) r gp b A c hh pf B cv us T rg pt lp n S) => rp_range hy hz)
  have HPT := hid (fun (y : World) (hy : Rp y (Xn X w.heap.size) r gp b A c hh pf B cv us T rg pt lp n S) => rp_part hy hz)
  generalize rrV (rg z) = R0 at *
  have HMK := hid (fun d => sd_made w 0 z d #[.slice none 0 0, .int .i64 0, .bool false, .bool false, .int .i64 0])
  have HB2 := hid (on (below_alloc w (.cells #[.int .i64 0, .int .i64 z] 123)) (below_alloc _ (.cells wz 120)))
  have HR0 := hid (fun d => h.more (Y := Xn X w.heap.size) (HMK.out d).2.1 (HMK.out d).2.2)
  obtain ⟨p, hp⟩ : ∃ p, w.heap.size = p := ⟨_, rfl⟩
  have HPP := hid hp
  clear h ok hz hin
  go_enter Tryz.func73, Tryz.ntmps73
  go_upto_region 2 with (go_at_call 86; refine (HHAS.out _ HB2.out).mono ?_; rintro e w1 ⟨rfl, d, rfl⟩)
  have hmk := HMK.out d
  have hr0 := HR0.out d
  generalize ((((w.alloc (.cells #[.int .i64 0, .int .i64 z] 123)).alloc (.cells wz 120)).drewN d).alloc (.cells #[.slice none 0 0, .int .i64 0, .bool false, .bool false, .int .i64 0] 120)) = W at *
  have HSA := hid hmk.1
  have HCA := hid (Chg.of hmk.2.1 (fun j => bk B = some j))
  have HRA := hid hr0
  rw [hp] at HSA HRA HRG HPT
  clear hmk hr0 HMK HR0 HB2 HHAS hp
  have c0 := HRA.out.c0
  have y1 := HSA.out.b0.cell 1
  have HRD := hid (HRA.out.draws 1)
  have HSD := hid (HSA.out.draws 1)
  have HCD := hid (Chg.draws HCA.out 1)
  rw [show W.drewN 1 = W.drew from rfl] at HRD HSD HCD
  go_region_held3 (fun w' => w'.cell? ⟨r, 0, none⟩ = some (.slice A n c) ∧ w'.cell? ⟨p, 1, none⟩ = some (.int .i64 z)) (first | exact kp | exact ⟨c0, y1⟩) (first | (go_at_call 54; refine (HRG.out _ HRD.out).mono ?_; rintro e w2 ⟨rfl, d2, rfl⟩; have HRI := hid (HRD.out.draws d2); have HSI := hid (HSD.out.draws d2); have HCI := hid (Chg.draws HCD.out d2); have kp := And.intro HRI.out.c0 (HSI.out.b0.cell 1)))
  rw [show W.drew.drewN d2 = W.drewN (1 + d2) from drewN_two W 1 d2] at HRI HSI HCI
  generalize W.drewN (1 + d2) = WI at *
  clear c0 y1 kp HRD HSD HCD HRA HSA HCA HRG
  have y0 := HSI.out.b0.cell 0
  have y1 := HSI.out.b0.cell 1
  have z3 := HSI.out.b2.cell 3
  go_upto_region 12 with fail
  clear y0 y1 z3
  go_wp2_with (first | (refine wpList_load_bx rfl 120 (.tmp 5) rfl (p + 1 + 1) _ _ _ rfl HSI.out.b2 Tryz.underlying120 rfl (by kernel_rfl) ?_) | (refine wpList_store_bx rfl 120 (.tmp 4) (.tmp 73) rfl rfl (p + 1) _ _ #[.slice none 0 0, .int .i64 0, .bool false, .bool false, .int .i64 0] rfl rfl HSI.out.b1 (by kernel_rfl) rfl (by simp [Value.oneCell']) ?_))
  refine bodyPost_ret (results_bx1 rfl _ rfl (HSI.out.b1.row (cs' := #[.slice none 0 0, .int .i64 0, .bool false, .bool false, .int .i64 0])) Tryz.underlying120 rfl (by kernel_rfl)) rfl ?_
  exact sd_fin HSI.out H0.out HRI.out HCI.out rfl
set_option maxRecDepth 20000 in
set_option maxHeartbeats 4000000 in
theorem rd_miss2 (h : Rp w X r gp b A c hh pf B cv us T rg pt lp n S) (ok : Okp rg pt n S) {z : Int} (hz : zb z) (hin : ¬ inS S z) :
    Calls Tryz.prog 73 #[.pointer (some ⟨r, 0, none⟩), .agg #[.int .i64 2, .int .i64 z]] w (RdQ w X r gp b A c hh pf B cv T rg pt lp n S 0 false false 0) := by
  have H0 := hid (fun j (e : bk B = some j) => And.intro (h.xB j e) (h.xb j (h.xB j e)))
  have HHAS := hid (fun (y : World) (hb : Below w.heap.size w y) => rp_has (h.below hb) ok hz)
  rw [dec_false hin] at HHAS
  have HRG := hid (fun (y : World) (hy : Rp y (Xn X w.heap.size) r gp b A c hh pf B cv us T rg pt lp n S) => rp_range hy hz)
  have HPT := hid (fun (y : World) (hy : Rp y (Xn X w.heap.size) r gp b A c hh pf B cv us T rg pt lp n S) => rp_part hy hz)
  generalize rrV (rg z) = R0 at *
  have HMK := hid (fun d => sd_made w 2 z d #[.slice none 0 0, .int .i64 0, .bool false, .bool false, .int .i64 0])
  have HB2 := hid (on (below_alloc w (.cells #[.int .i64 2, .int .i64 z] 123)) (below_alloc _ (.cells wz 120)))
  have HR0 := hid (fun d => h.more (Y := Xn X w.heap.size) (HMK.out d).2.1 (HMK.out d).2.2)
  obtain ⟨p, hp⟩ : ∃ p, w.heap.size = p := ⟨_, rfl⟩
  have HPP := hid hp
  clear h ok hz hin
  go_enter Tryz.func73, Tryz.ntmps73
  go_upto_region 2 with (go_at_call 86; refine (HHAS.out _ HB2.out).mono ?_; rintro e w1 ⟨rfl, d, rfl⟩)
  have hmk := HMK.out d
  have hr0 := HR0.out d
  generalize ((((w.alloc (.cells #[.int .i64 2, .int .i64 z] 123)).alloc (.cells wz 120)).drewN d).alloc (.cells #[.slice none 0 0, .int .i64 0, .bool false, .bool false, .int .i64 0] 120)) = W at *
  have HSA := hid hmk.1
  have HCA := hid (Chg.of hmk.2.1 (fun j => bk B = some j))
  have HRA := hid hr0
  rw [hp] at HSA HRA HRG HPT
  clear hmk hr0 HMK HR0 HB2 HHAS hp
  have c0 := HRA.out.c0
  have y1 := HSA.out.b0.cell 1
  have HRD := hid (HRA.out.draws 1)
  have HSD := hid (HSA.out.draws 1)
  have HCD := hid (Chg.draws HCA.out 1)
  rw [show W.drewN 1 = W.drew from rfl] at HRD HSD HCD
  go_region_held3 (fun w' => w'.cell? ⟨r, 0, none⟩ = some (.slice A n c) ∧ w'.cell? ⟨p, 1, none⟩ = some (.int .i64 z)) (first | exact kp | exact ⟨c0, y1⟩) (first | (go_at_call 54; refine (HRG.out _ HRD.out).mono ?_; rintro e w2 ⟨rfl, d2, rfl⟩; have HRI := hid (HRD.out.draws d2); have HSI := hid (HSD.out.draws d2); have HCI := hid (Chg.draws HCD.out d2); have kp := And.intro HRI.out.c0 (HSI.out.b0.cell 1)))
  rw [show W.drew.drewN d2 = W.drewN (1 + d2) from drewN_two W 1 d2] at HRI HSI HCI
  generalize W.drewN (1 + d2) = WI at *
  clear c0 y1 kp HRD HSD HCD HRA HSA HCA HRG
  have y0 := HSI.out.b0.cell 0
  have y1 := HSI.out.b0.cell 1
  have z3 := HSI.out.b2.cell 3
  go_upto_region 12 with fail
  clear y0 y1 z3
  go_wp2_with (first | (refine wpList_load_bx rfl 120 (.tmp 5) rfl (p + 1 + 1) _ _ _ rfl HSI.out.b2 Tryz.underlying120 rfl (by kernel_rfl) ?_) | (refine wpList_store_bx rfl 120 (.tmp 4) (.tmp 73) rfl rfl (p + 1) _ _ #[.slice none 0 0, .int .i64 0, .bool false, .bool false, .int .i64 0] rfl rfl HSI.out.b1 (by kernel_rfl) rfl (by simp [Value.oneCell']) ?_))
  refine bodyPost_ret (results_bx1 rfl _ rfl (HSI.out.b1.row (cs' := #[.slice none 0 0, .int .i64 0, .bool false, .bool false, .int .i64 0])) Tryz.underlying120 rfl (by kernel_rfl)) rfl ?_
  exact sd_fin HSI.out H0.out HRI.out HCI.out rfl
set_option maxRecDepth 20000 in
set_option maxHeartbeats 4000000 in
theorem rd_was0 (h : Rp w X r gp b A c hh pf B cv us T rg pt lp n S) (ok : Okp rg pt n S) {z : Int} (hz : zb z) {i : Nat} (hr : rg z = some i) (hin : inS S z) :
    Calls Tryz.prog 73 #[.pointer (some ⟨r, 0, none⟩), .agg #[.int .i64 0, .int .i64 z]] w (RdQ w X r gp b A c hh pf B cv T rg pt lp n (S.set i (usel z (S.getD i []))) 0 false true 0) := by
  have hi := h.rl hr
  have hiS : i < S.length := Nat.lt_of_lt_of_le hi h.nS
  obtain ⟨a, _, _, rfl, -⟩ := h.at_ hi
  have HI := hid hi
  have HIS := hid hiS
  obtain ⟨l0, hl0⟩ : ∃ x, S.getD i [] = x := ⟨_, rfl⟩
  have HL0 := hid hl0
  have H64 := hid (show l0.length ≤ 64 from by rw [← hl0]; exact ok.wf.len (gd_some hiS))
  rw [hl0]
  have H0 := hid (fun j (e : bk (some ⟨a, 0, none⟩) = some j) => And.intro (h.xB j e) (h.xb j (h.xB j e)))
  have HHAS := hid (fun (y : World) (hb : Below w.heap.size w y) => rp_has (h.below hb) ok hz)
  rw [dec_true hin] at HHAS
  have HRG := hid (fun (y : World) (hy : Rp y (Xn X w.heap.size) r gp b A c hh pf (some ⟨a, 0, none⟩) cv us T rg pt lp n S) => rp_range hy hz)
  have HPT := hid (fun (y : World) (hy : Rp y (Xn X w.heap.size) r gp b A c hh pf (some ⟨a, 0, none⟩) cv us T rg pt lp n S) => rp_part hy hz)
  rw [hr] at HRG HPT
  rw [show rrV (some i) = (i : Nat) from rfl] at HRG
  rw [show ptO pt (some i) = pt i from rfl] at HPT
  have HMK := hid (fun d => sd_made w 0 z d #[.slice none 0 0, .int .i64 0, .bool false, .bool true, .int .i64 0])
  have HB2 := hid (on (below_alloc w (.cells #[.int .i64 0, .int .i64 z] 123)) (below_alloc _ (.cells wz 120)))
  have HR0 := hid (fun d => h.more (Y := Xn X w.heap.size) (HMK.out d).2.1 (HMK.out d).2.2)
  have HAP := hid (show a < w.heap.size from h.xb a (h.xB a rfl))
  obtain ⟨p, hp⟩ : ∃ p, w.heap.size = p := ⟨_, rfl⟩
  have HPP := hid hp
  clear h ok hz hin hr hi hiS hl0
  go_enter Tryz.func73, Tryz.ntmps73
  go_upto_region 2 with (go_at_call 86; refine (HHAS.out _ HB2.out).mono ?_; rintro e w1 ⟨rfl, d, rfl⟩)
  have hmk := HMK.out d
  have hr0 := HR0.out d
  generalize ((((w.alloc (.cells #[.int .i64 0, .int .i64 z] 123)).alloc (.cells wz 120)).drewN d).alloc (.cells #[.slice none 0 0, .int .i64 0, .bool false, .bool true, .int .i64 0] 120)) = W at *
  have HSA := hid hmk.1
  have HCA := hid (Chg.of hmk.2.1 (fun j => bk (some ⟨a, 0, none⟩) = some j))
  have HRA := hid hr0
  rw [hp] at HSA HRA HRG HPT HAP
  clear hmk hr0 HMK HR0 HB2 HHAS hp
  have c0 := HRA.out.c0
  have y1 := HSA.out.b0.cell 1
  have HRD := hid (HRA.out.draws 1)
  have HSD := hid (HSA.out.draws 1)
  have HCD := hid (Chg.draws HCA.out 1)
  rw [show W.drewN 1 = W.drew from rfl] at HRD HSD HCD
  go_region_held3 (fun w' => w'.cell? ⟨r, 0, none⟩ = some (.slice A n c) ∧ w'.cell? ⟨p, 1, none⟩ = some (.int .i64 z)) (first | exact kp | exact ⟨c0, y1⟩) (first | (go_at_call 54; refine (HRG.out _ HRD.out).mono ?_; rintro e w2 ⟨rfl, d2, rfl⟩; have HRI := hid (HRD.out.draws d2); have HSI := hid (HSD.out.draws d2); have HCI := hid (Chg.draws HCD.out d2); have kp := And.intro HRI.out.c0 (HSI.out.b0.cell 1)))
  rw [show W.drew.drewN d2 = W.drewN (1 + d2) from drewN_two W 1 d2] at HRI HSI HCI
  generalize W.drewN (1 + d2) = WI at *
  clear c0 y1 kp HRD HSD HCD HRA HSA HCA HRG
  have y0 := HSI.out.b0.cell 0
  have y1 := HSI.out.b0.cell 1
  have z3 := HSI.out.b2.cell 3
  go_upto_region 7 with fail
  clear y0 y1 z3
  have H64L := hid H64.out
  obtain ⟨a_, AL, cL, hB, hu, q0, -, hrw, hcc, hcm⟩ := HRI.out.at_ HI.out
  obtain rfl : a = a_ := by simpa using hB
  rw [HL0.out] at hu q0 hrw hcc
  obtain ⟨nL, hnL⟩ : ∃ x, (l0).length = x := ⟨_, rfl⟩
  rw [hnL] at hu q0 hcc
  have HNL := hid hnL
  have hn64 : nL ≤ 64 := by rw [← hnL]; exact H64L.out
  have HUL := hid hu
  have HJLL := hid (show i < _ from HRI.out.ul ▸ HI.out)
  have HRD := hid (HRI.out.draws 1)
  have HWD := hid (hrw.draws 1)
  have HSD := hid (HSI.out.draws 1)
  have HCD := hid (Chg.draws HCI.out 1)
  have c3 := HRI.out.c3
  have y1 := HSI.out.b0.cell 1
  have i1 : (i : Int) < (n : Int) := by have := HI.out; omega
  have i0 : (0 : Int) ≤ (i : Int) := by omega
  clear hu hrw hnL hcm hB
  refine wp_region_noPanic ?_
  refine wp_region_held_drew (S := fun w' => w'.cell? ⟨r, 3, none⟩ = some (.slice (some ⟨a, 0, none⟩) n cv) ∧ w'.cell? ⟨p, 1, none⟩ = some (.int .i64 z)) (by kernel_rfl) ?_ (fun hHeld => ?_)
  · exact ⟨c3, y1⟩
  refine tkv 0 (some 34) rfl ?_
  refine tkv 1 (some 35) rfl ?_
  refine tkv 2 (some 36) rfl ?_
  refine tkv 3 (some 37) rfl ?_
  refine tkv 4 (some 38) rfl ?_
  refine tkv 5 (some 39) rfl ?_
  refine tkv 6 (some 40) rfl ?_
  refine tkv 7 (some 41) rfl ?_
  refine tkv 8 (some 42) rfl ?_
  refine tkv 9 (some 43) rfl ?_
  refine tkv 10 (some 44) rfl ?_
  refine tkv 12 (some 46) rfl ?_
  refine tkv 13 (some 47) rfl ?_
  refine tkc 11 (some 45) rfl fun K hK => ?_
  go_simp
  refine hK.out _ _ hHeld (fun hHeld => ?_)
  clear hK K
  (try simp only [Act.put, tkA, tk0, tk1])
  refine tkc 14 (some 48) rfl fun K hK => ?_
  go_simp
  refine (without_any _ AL nL cL (l0) z HNL.out hn64 HWD.out.rd).mono ?_
  rintro e2 w2 ⟨A3, c4, rfl, ho, hg⟩
  have HR2 := hid (HRD.out.below hg.nilBelow)
  have HS2 := hid (HSD.out.below hg.nilBelow)
  have HU2 := hid (Rt.told HRD.out.xb ho hg)
  have HC2 := hid (HCD.out.trans (Chg.of hg.nilBelow _))
  generalize (wo z l0).length = m3 at HU2 ⊢
  have kp := And.intro HR2.out.c3 (HS2.out.b0.cell 1)
  have f2 := (HR2.out.row.cellAt HJLL.out).2
  have xc := (HR2.out.row.cellAt HJLL.out).1.trans HUL.out
  have HRL := hid (HR2.out.setR HI.out HU2.out)
  have HCL := hid (chg_in HC2.out (show bk (some ⟨a, 0, none⟩) = some a from rfl) i (.slice A3 m3 c4))
  have HSL := hid (HS2.out.far (i := i) (v := .slice A3 m3 c4) HAP.out)
  have kq := And.intro HRL.out.c3 (HSL.out.b0.cell 1)
  clear ho hg
  go_simp
  refine hK.out _ _ kp (fun hHeld => ?_)
  clear hK K
  (try simp only [Act.put, tkA, tk0, tk1])
  refine tkv 15 (some 49) rfl ?_
  refine tkc 16 (none) rfl fun K hK => ?_
  go_simp
  refine hK.out _ _ kq (fun hHeld => ?_)
  clear hK K
  (try simp only [Act.put, tkA, tk0, tk1])
  refine wpAnyH_done (by kernel_rfl) ?_ _
  refine NoPanic.normal ?_
  generalize w2.setCell ⟨a, i, none⟩ (.slice A3 m3 c4) = WL at *
  clear kp kq f2 xc c3 y1 q0 hcc HR2 HS2 HU2 HC2 HRD HWD HSD HCD hn64 i1 i0
  have y0 := HSL.out.b0.cell 0
  go_upto_region 9 with fail
  clear y0
  have H64M := hid (show (wo z l0).length ≤ 64 from Nat.le_trans (wo_le _ _) H64.out)
  obtain ⟨a_, AM, cM, hB, hu, q0, -, hrw, hcc, hcm⟩ := HRL.out.at_ HI.out
  obtain rfl : a = a_ := by simpa using hB
  rw [gd_set _ HIS.out, if_pos rfl] at hu q0 hrw hcc
  obtain ⟨nM, hnM⟩ : ∃ x, (wo z l0).length = x := ⟨_, rfl⟩
  rw [hnM] at hu q0 hcc
  have HNM := hid hnM
  have hn64 : nM ≤ 64 := by rw [← hnM]; exact H64M.out
  have HUM := hid hu
  have HJLM := hid (show i < _ from HRL.out.ul ▸ HI.out)
  have HRD := hid (HRL.out.draws 1)
  have HWD := hid (hrw.draws 1)
  have HSD := hid (HSL.out.draws 1)
  have HCD := hid (Chg.draws HCL.out 1)
  have c3 := HRL.out.c3
  have y1 := HSL.out.b0.cell 1
  have i1 : (i : Int) < (n : Int) := by have := HI.out; omega
  have i0 : (0 : Int) ≤ (i : Int) := by omega
  clear hu hrw hnM hcm hB
  refine wp_region_noPanic ?_
  refine wp_region_held_drew (S := fun w' => w'.cell? ⟨r, 3, none⟩ = some (.slice (some ⟨a, 0, none⟩) n cv) ∧ w'.cell? ⟨p, 1, none⟩ = some (.int .i64 z)) (by kernel_rfl) ?_ (fun hHeld => ?_)
  · exact ⟨c3, y1⟩
  refine tkv 0 (some 53) rfl ?_
  refine tkv 1 (some 54) rfl ?_
  refine tkv 2 (some 55) rfl ?_
  refine tkv 3 (some 56) rfl ?_
  refine tkv 4 (some 57) rfl ?_
  refine tkv 5 (some 58) rfl ?_
  refine tkv 6 (some 59) rfl ?_
  refine tkv 7 (some 60) rfl ?_
  refine tkv 8 (some 61) rfl ?_
  refine tkv 9 (some 62) rfl ?_
  refine tkv 10 (some 63) rfl ?_
  refine tkv 12 (some 65) rfl ?_
  refine tkv 13 (some 66) rfl ?_
  refine tkc 11 (some 64) rfl fun K hK => ?_
  go_simp
  refine hK.out _ _ hHeld (fun hHeld => ?_)
  clear hK K
  (try simp only [Act.put, tkA, tk0, tk1])
  refine tkc 14 (some 67) rfl fun K hK => ?_
  go_simp
  refine (ahead_any _ AM nM cM (wo z l0) z HNM.out hn64 HWD.out.rd).mono ?_
  rintro e2 w2 ⟨A3, c4, rfl, ho, hg⟩
  have HR2 := hid (HRD.out.below hg.nilBelow)
  have HS2 := hid (HSD.out.below hg.nilBelow)
  have HU2 := hid (Rt.told HRD.out.xb ho hg)
  have HC2 := hid (HCD.out.trans (Chg.of hg.nilBelow _))
  generalize (z :: wo z l0).length = m3 at HU2 ⊢
  have kp := And.intro HR2.out.c3 (HS2.out.b0.cell 1)
  have f2 := (HR2.out.row.cellAt HJLM.out).2
  have xc := (HR2.out.row.cellAt HJLM.out).1.trans HUM.out
  have HRM := hid (HR2.out.setR HI.out HU2.out)
  have HCM := hid (chg_in HC2.out (show bk (some ⟨a, 0, none⟩) = some a from rfl) i (.slice A3 m3 c4))
  have HSM := hid (HS2.out.far (i := i) (v := .slice A3 m3 c4) HAP.out)
  have kq := And.intro HRM.out.c3 (HSM.out.b0.cell 1)
  clear ho hg
  go_simp
  refine hK.out _ _ kp (fun hHeld => ?_)
  clear hK K
  (try simp only [Act.put, tkA, tk0, tk1])
  refine tkv 15 (some 68) rfl ?_
  refine tkc 16 (none) rfl fun K hK => ?_
  go_simp
  refine hK.out _ _ kq (fun hHeld => ?_)
  clear hK K
  (try simp only [Act.put, tkA, tk0, tk1])
  refine wpAnyH_done (by kernel_rfl) ?_ _
  refine NoPanic.normal ?_
  generalize w2.setCell ⟨a, i, none⟩ (.slice A3 m3 c4) = WM at *
  clear kp kq f2 xc c3 y1 q0 hcc HR2 HS2 HU2 HC2 HRD HWD HSD HCD hn64 i1 i0
  go_wp2_with (first | (refine wpList_load_bx rfl 120 (.tmp 5) rfl (p + 1 + 1) _ _ _ rfl HSM.out.b2 Tryz.underlying120 rfl (by kernel_rfl) ?_) | (refine wpList_store_bx rfl 120 (.tmp 4) (.tmp 69) rfl rfl (p + 1) _ _ #[.slice none 0 0, .int .i64 0, .bool false, .bool true, .int .i64 0] rfl rfl HSM.out.b1 (by kernel_rfl) rfl (by simp [Value.oneCell']) ?_))
  refine bodyPost_ret (results_bx1 rfl _ rfl (HSM.out.b1.row (cs' := #[.slice none 0 0, .int .i64 0, .bool false, .bool true, .int .i64 0])) Tryz.underlying120 rfl (by kernel_rfl)) rfl ?_
  have hq := sd_fin (vi := 0) (er := 0) (gn := false) (was := true) HSM.out H0.out HRM.out HCM.out rfl
  rw [List.set_set] at hq
  exact hq
set_option maxRecDepth 20000 in
set_option maxHeartbeats 4000000 in
theorem rd_was1 (h : Rp w X r gp b A c hh pf B cv us T rg pt lp n S) (ok : Okp rg pt n S) {z : Int} (hz : zb z) {i : Nat} (hr : rg z = some i) (hin : inS S z) (hp0 : 0 < pt i) :
    Calls Tryz.prog 73 #[.pointer (some ⟨r, 0, none⟩), .agg #[.int .i64 1, .int .i64 z]] w (RdQ w X r gp b A c hh pf B cv T rg pt lp n (S.set i (usel z (S.getD i []))) 0 false true 0) := by
  have hi := h.rl hr
  have hiS : i < S.length := Nat.lt_of_lt_of_le hi h.nS
  obtain ⟨a, _, _, rfl, -⟩ := h.at_ hi
  have HI := hid hi
  have HIS := hid hiS
  obtain ⟨l0, hl0⟩ : ∃ x, S.getD i [] = x := ⟨_, rfl⟩
  have HL0 := hid hl0
  have H64 := hid (show l0.length ≤ 64 from by rw [← hl0]; exact ok.wf.len (gd_some hiS))
  rw [hl0]
  have H0 := hid (fun j (e : bk (some ⟨a, 0, none⟩) = some j) => And.intro (h.xB j e) (h.xb j (h.xB j e)))
  have HHAS := hid (fun (y : World) (hb : Below w.heap.size w y) => rp_has (h.below hb) ok hz)
  rw [dec_true hin] at HHAS
  have HRG := hid (fun (y : World) (hy : Rp y (Xn X w.heap.size) r gp b A c hh pf (some ⟨a, 0, none⟩) cv us T rg pt lp n S) => rp_range hy hz)
  have HPT := hid (fun (y : World) (hy : Rp y (Xn X w.heap.size) r gp b A c hh pf (some ⟨a, 0, none⟩) cv us T rg pt lp n S) => rp_part hy hz)
  rw [hr] at HRG HPT
  rw [show rrV (some i) = (i : Nat) from rfl] at HRG
  rw [show ptO pt (some i) = pt i from rfl] at HPT
  have hq0 : ((pt i : Nat) : Int) ≠ 0 := by omega
  generalize pt i = P0 at HPT hq0
  have hq1 : ((P0 : Int) == 0) = false := by simpa using hq0
  clear hq0 hp0
  have HMK := hid (fun d => sd_made w 1 z d #[.slice none 0 0, .int .i64 0, .bool false, .bool true, .int .i64 0])
  have HB2 := hid (on (below_alloc w (.cells #[.int .i64 1, .int .i64 z] 123)) (below_alloc _ (.cells wz 120)))
  have HR0 := hid (fun d => h.more (Y := Xn X w.heap.size) (HMK.out d).2.1 (HMK.out d).2.2)
  have HAP := hid (show a < w.heap.size from h.xb a (h.xB a rfl))
  obtain ⟨p, hp⟩ : ∃ p, w.heap.size = p := ⟨_, rfl⟩
  have HPP := hid hp
  clear h ok hz hin hr hi hiS hl0
  go_enter Tryz.func73, Tryz.ntmps73
  go_upto_region 2 with (go_at_call 86; refine (HHAS.out _ HB2.out).mono ?_; rintro e w1 ⟨rfl, d, rfl⟩)
  have hmk := HMK.out d
  have hr0 := HR0.out d
  generalize ((((w.alloc (.cells #[.int .i64 1, .int .i64 z] 123)).alloc (.cells wz 120)).drewN d).alloc (.cells #[.slice none 0 0, .int .i64 0, .bool false, .bool true, .int .i64 0] 120)) = W at *
  have HSA := hid hmk.1
  have HCA := hid (Chg.of hmk.2.1 (fun j => bk (some ⟨a, 0, none⟩) = some j))
  have HRA := hid hr0
  rw [hp] at HSA HRA HRG HPT HAP
  clear hmk hr0 HMK HR0 HB2 HHAS hp
  have c0 := HRA.out.c0
  have y1 := HSA.out.b0.cell 1
  have HRD := hid (HRA.out.draws 1)
  have HSD := hid (HSA.out.draws 1)
  have HCD := hid (Chg.draws HCA.out 1)
  rw [show W.drewN 1 = W.drew from rfl] at HRD HSD HCD
  go_region_held3 (fun w' => w'.cell? ⟨r, 0, none⟩ = some (.slice A n c) ∧ w'.cell? ⟨p, 1, none⟩ = some (.int .i64 z)) (first | exact kp | exact ⟨c0, y1⟩) (first | (go_at_call 54; refine (HRG.out _ HRD.out).mono ?_; rintro e w2 ⟨rfl, d2, rfl⟩; have HRI := hid (HRD.out.draws d2); have HSI := hid (HSD.out.draws d2); have HCI := hid (Chg.draws HCD.out d2); have kp := And.intro HRI.out.c0 (HSI.out.b0.cell 1)))
  rw [show W.drew.drewN d2 = W.drewN (1 + d2) from drewN_two W 1 d2] at HRI HSI HCI
  generalize W.drewN (1 + d2) = WI at *
  clear c0 y1 kp HRD HSD HCD HRA HSA HCA HRG
  have y0 := HSI.out.b0.cell 0
  have y1 := HSI.out.b0.cell 1
  have z3 := HSI.out.b2.cell 3
  go_upto_region 7 with (go_at_call 49; refine (HPT.out _ HRI.out).mono ?_; rintro e w2 ⟨rfl, d3, rfl⟩; have HRJ := hid (HRI.out.draws d3); have HSJ := hid (HSI.out.draws d3); have HCJ := hid (Chg.draws HCI.out d3))
  generalize WI.drewN d3 = WJ at *
  clear y0 y1 z3
  have H64L := hid H64.out
  obtain ⟨a_, AL, cL, hB, hu, q0, -, hrw, hcc, hcm⟩ := HRJ.out.at_ HI.out
  obtain rfl : a = a_ := by simpa using hB
  rw [HL0.out] at hu q0 hrw hcc
  obtain ⟨nL, hnL⟩ : ∃ x, (l0).length = x := ⟨_, rfl⟩
  rw [hnL] at hu q0 hcc
  have HNL := hid hnL
  have hn64 : nL ≤ 64 := by rw [← hnL]; exact H64L.out
  have HUL := hid hu
  have HJLL := hid (show i < _ from HRJ.out.ul ▸ HI.out)
  have HRD := hid (HRJ.out.draws 1)
  have HWD := hid (hrw.draws 1)
  have HSD := hid (HSJ.out.draws 1)
  have HCD := hid (Chg.draws HCJ.out 1)
  have c3 := HRJ.out.c3
  have y1 := HSJ.out.b0.cell 1
  have i1 : (i : Int) < (n : Int) := by have := HI.out; omega
  have i0 : (0 : Int) ≤ (i : Int) := by omega
  clear hu hrw hnL hcm hB
  refine wp_region_noPanic ?_
  refine wp_region_held_drew (S := fun w' => w'.cell? ⟨r, 3, none⟩ = some (.slice (some ⟨a, 0, none⟩) n cv) ∧ w'.cell? ⟨p, 1, none⟩ = some (.int .i64 z)) (by kernel_rfl) ?_ (fun hHeld => ?_)
  · exact ⟨c3, y1⟩
  refine tkv 0 (some 34) rfl ?_
  refine tkv 1 (some 35) rfl ?_
  refine tkv 2 (some 36) rfl ?_
  refine tkv 3 (some 37) rfl ?_
  refine tkv 4 (some 38) rfl ?_
  refine tkv 5 (some 39) rfl ?_
  refine tkv 6 (some 40) rfl ?_
  refine tkv 7 (some 41) rfl ?_
  refine tkv 8 (some 42) rfl ?_
  refine tkv 9 (some 43) rfl ?_
  refine tkv 10 (some 44) rfl ?_
  refine tkv 12 (some 46) rfl ?_
  refine tkv 13 (some 47) rfl ?_
  refine tkc 11 (some 45) rfl fun K hK => ?_
  go_simp
  refine hK.out _ _ hHeld (fun hHeld => ?_)
  clear hK K
  (try simp only [Act.put, tkA, tk0, tk1])
  refine tkc 14 (some 48) rfl fun K hK => ?_
  go_simp
  refine (without_any _ AL nL cL (l0) z HNL.out hn64 HWD.out.rd).mono ?_
  rintro e2 w2 ⟨A3, c4, rfl, ho, hg⟩
  have HR2 := hid (HRD.out.below hg.nilBelow)
  have HS2 := hid (HSD.out.below hg.nilBelow)
  have HU2 := hid (Rt.told HRD.out.xb ho hg)
  have HC2 := hid (HCD.out.trans (Chg.of hg.nilBelow _))
  generalize (wo z l0).length = m3 at HU2 ⊢
  have kp := And.intro HR2.out.c3 (HS2.out.b0.cell 1)
  have f2 := (HR2.out.row.cellAt HJLL.out).2
  have xc := (HR2.out.row.cellAt HJLL.out).1.trans HUL.out
  have HRL := hid (HR2.out.setR HI.out HU2.out)
  have HCL := hid (chg_in HC2.out (show bk (some ⟨a, 0, none⟩) = some a from rfl) i (.slice A3 m3 c4))
  have HSL := hid (HS2.out.far (i := i) (v := .slice A3 m3 c4) HAP.out)
  have kq := And.intro HRL.out.c3 (HSL.out.b0.cell 1)
  clear ho hg
  go_simp
  refine hK.out _ _ kp (fun hHeld => ?_)
  clear hK K
  (try simp only [Act.put, tkA, tk0, tk1])
  refine tkv 15 (some 49) rfl ?_
  refine tkc 16 (none) rfl fun K hK => ?_
  go_simp
  refine hK.out _ _ kq (fun hHeld => ?_)
  clear hK K
  (try simp only [Act.put, tkA, tk0, tk1])
  refine wpAnyH_done (by kernel_rfl) ?_ _
  refine NoPanic.normal ?_
  generalize w2.setCell ⟨a, i, none⟩ (.slice A3 m3 c4) = WL at *
  clear kp kq f2 xc c3 y1 q0 hcc HR2 HS2 HU2 HC2 HRD HWD HSD HCD hn64 i1 i0
  have y0 := HSL.out.b0.cell 0
  go_upto_region 9 with fail
  clear y0
  have H64M := hid (show (wo z l0).length ≤ 64 from Nat.le_trans (wo_le _ _) H64.out)
  obtain ⟨a_, AM, cM, hB, hu, q0, -, hrw, hcc, hcm⟩ := HRL.out.at_ HI.out
  obtain rfl : a = a_ := by simpa using hB
  rw [gd_set _ HIS.out, if_pos rfl] at hu q0 hrw hcc
  obtain ⟨nM, hnM⟩ : ∃ x, (wo z l0).length = x := ⟨_, rfl⟩
  rw [hnM] at hu q0 hcc
  have HNM := hid hnM
  have hn64 : nM ≤ 64 := by rw [← hnM]; exact H64M.out
  have HUM := hid hu
  have HJLM := hid (show i < _ from HRL.out.ul ▸ HI.out)
  have HRD := hid (HRL.out.draws 1)
  have HWD := hid (hrw.draws 1)
  have HSD := hid (HSL.out.draws 1)
  have HCD := hid (Chg.draws HCL.out 1)
  have c3 := HRL.out.c3
  have y1 := HSL.out.b0.cell 1
  have i1 : (i : Int) < (n : Int) := by have := HI.out; omega
  have i0 : (0 : Int) ≤ (i : Int) := by omega
  clear hu hrw hnM hcm hB
  refine wp_region_noPanic ?_
  refine wp_region_held_drew (S := fun w' => w'.cell? ⟨r, 3, none⟩ = some (.slice (some ⟨a, 0, none⟩) n cv) ∧ w'.cell? ⟨p, 1, none⟩ = some (.int .i64 z)) (by kernel_rfl) ?_ (fun hHeld => ?_)
  · exact ⟨c3, y1⟩
  refine tkv 0 (some 53) rfl ?_
  refine tkv 1 (some 54) rfl ?_
  refine tkv 2 (some 55) rfl ?_
  refine tkv 3 (some 56) rfl ?_
  refine tkv 4 (some 57) rfl ?_
  refine tkv 5 (some 58) rfl ?_
  refine tkv 6 (some 59) rfl ?_
  refine tkv 7 (some 60) rfl ?_
  refine tkv 8 (some 61) rfl ?_
  refine tkv 9 (some 62) rfl ?_
  refine tkv 10 (some 63) rfl ?_
  refine tkv 12 (some 65) rfl ?_
  refine tkv 13 (some 66) rfl ?_
  refine tkc 11 (some 64) rfl fun K hK => ?_
  go_simp
  refine hK.out _ _ hHeld (fun hHeld => ?_)
  clear hK K
  (try simp only [Act.put, tkA, tk0, tk1])
  refine tkc 14 (some 67) rfl fun K hK => ?_
  go_simp
  refine (ahead_any _ AM nM cM (wo z l0) z HNM.out hn64 HWD.out.rd).mono ?_
  rintro e2 w2 ⟨A3, c4, rfl, ho, hg⟩
  have HR2 := hid (HRD.out.below hg.nilBelow)
  have HS2 := hid (HSD.out.below hg.nilBelow)
  have HU2 := hid (Rt.told HRD.out.xb ho hg)
  have HC2 := hid (HCD.out.trans (Chg.of hg.nilBelow _))
  generalize (z :: wo z l0).length = m3 at HU2 ⊢
  have kp := And.intro HR2.out.c3 (HS2.out.b0.cell 1)
  have f2 := (HR2.out.row.cellAt HJLM.out).2
  have xc := (HR2.out.row.cellAt HJLM.out).1.trans HUM.out
  have HRM := hid (HR2.out.setR HI.out HU2.out)
  have HCM := hid (chg_in HC2.out (show bk (some ⟨a, 0, none⟩) = some a from rfl) i (.slice A3 m3 c4))
  have HSM := hid (HS2.out.far (i := i) (v := .slice A3 m3 c4) HAP.out)
  have kq := And.intro HRM.out.c3 (HSM.out.b0.cell 1)
  clear ho hg
  go_simp
  refine hK.out _ _ kp (fun hHeld => ?_)
  clear hK K
  (try simp only [Act.put, tkA, tk0, tk1])
  refine tkv 15 (some 68) rfl ?_
  refine tkc 16 (none) rfl fun K hK => ?_
  go_simp
  refine hK.out _ _ kq (fun hHeld => ?_)
  clear hK K
  (try simp only [Act.put, tkA, tk0, tk1])
  refine wpAnyH_done (by kernel_rfl) ?_ _
  refine NoPanic.normal ?_
  generalize w2.setCell ⟨a, i, none⟩ (.slice A3 m3 c4) = WM at *
  clear kp kq f2 xc c3 y1 q0 hcc HR2 HS2 HU2 HC2 HRD HWD HSD HCD hn64 i1 i0
  go_wp2_with (first | (refine wpList_load_bx rfl 120 (.tmp 5) rfl (p + 1 + 1) _ _ _ rfl HSM.out.b2 Tryz.underlying120 rfl (by kernel_rfl) ?_) | (refine wpList_store_bx rfl 120 (.tmp 4) (.tmp 69) rfl rfl (p + 1) _ _ #[.slice none 0 0, .int .i64 0, .bool false, .bool true, .int .i64 0] rfl rfl HSM.out.b1 (by kernel_rfl) rfl (by simp [Value.oneCell']) ?_))
  refine bodyPost_ret (results_bx1 rfl _ rfl (HSM.out.b1.row (cs' := #[.slice none 0 0, .int .i64 0, .bool false, .bool true, .int .i64 0])) Tryz.underlying120 rfl (by kernel_rfl)) rfl ?_
  have hq := sd_fin (vi := 0) (er := 0) (gn := false) (was := true) HSM.out H0.out HRM.out HCM.out rfl
  rw [List.set_set] at hq
  exact hq
set_option maxRecDepth 20000 in
set_option maxHeartbeats 4000000 in
theorem rd_was2 (h : Rp w X r gp b A c hh pf B cv us T rg pt lp n S) (ok : Okp rg pt n S) {z : Int} (hz : zb z) {i : Nat} (hr : rg z = some i) (hin : inS S z) :
    Calls Tryz.prog 73 #[.pointer (some ⟨r, 0, none⟩), .agg #[.int .i64 2, .int .i64 z]] w (RdQ w X r gp b A c hh pf B cv T rg pt lp n (S.set i (wo z (S.getD i []))) 0 false true 0) := by
  have hi := h.rl hr
  have hiS : i < S.length := Nat.lt_of_lt_of_le hi h.nS
  obtain ⟨a, _, _, rfl, -⟩ := h.at_ hi
  have HI := hid hi
  have HIS := hid hiS
  obtain ⟨l0, hl0⟩ : ∃ x, S.getD i [] = x := ⟨_, rfl⟩
  have HL0 := hid hl0
  have H64 := hid (show l0.length ≤ 64 from by rw [← hl0]; exact ok.wf.len (gd_some hiS))
  rw [hl0]
  have H0 := hid (fun j (e : bk (some ⟨a, 0, none⟩) = some j) => And.intro (h.xB j e) (h.xb j (h.xB j e)))
  have HHAS := hid (fun (y : World) (hb : Below w.heap.size w y) => rp_has (h.below hb) ok hz)
  rw [dec_true hin] at HHAS
  have HRG := hid (fun (y : World) (hy : Rp y (Xn X w.heap.size) r gp b A c hh pf (some ⟨a, 0, none⟩) cv us T rg pt lp n S) => rp_range hy hz)
  have HPT := hid (fun (y : World) (hy : Rp y (Xn X w.heap.size) r gp b A c hh pf (some ⟨a, 0, none⟩) cv us T rg pt lp n S) => rp_part hy hz)
  rw [hr] at HRG HPT
  rw [show rrV (some i) = (i : Nat) from rfl] at HRG
  rw [show ptO pt (some i) = pt i from rfl] at HPT
  have HMK := hid (fun d => sd_made w 2 z d #[.slice none 0 0, .int .i64 0, .bool false, .bool true, .int .i64 0])
  have HB2 := hid (on (below_alloc w (.cells #[.int .i64 2, .int .i64 z] 123)) (below_alloc _ (.cells wz 120)))
  have HR0 := hid (fun d => h.more (Y := Xn X w.heap.size) (HMK.out d).2.1 (HMK.out d).2.2)
  have HAP := hid (show a < w.heap.size from h.xb a (h.xB a rfl))
  obtain ⟨p, hp⟩ : ∃ p, w.heap.size = p := ⟨_, rfl⟩
  have HPP := hid hp
  clear h ok hz hin hr hi hiS hl0
  go_enter Tryz.func73, Tryz.ntmps73
  go_upto_region 2 with (go_at_call 86; refine (HHAS.out _ HB2.out).mono ?_; rintro e w1 ⟨rfl, d, rfl⟩)
  have hmk := HMK.out d
  have hr0 := HR0.out d
  generalize ((((w.alloc (.cells #[.int .i64 2, .int .i64 z] 123)).alloc (.cells wz 120)).drewN d).alloc (.cells #[.slice none 0 0, .int .i64 0, .bool false, .bool true, .int .i64 0] 120)) = W at *
  have HSA := hid hmk.1
  have HCA := hid (Chg.of hmk.2.1 (fun j => bk (some ⟨a, 0, none⟩) = some j))
  have HRA := hid hr0
  rw [hp] at HSA HRA HRG HPT HAP
  clear hmk hr0 HMK HR0 HB2 HHAS hp
  have c0 := HRA.out.c0
  have y1 := HSA.out.b0.cell 1
  have HRD := hid (HRA.out.draws 1)
  have HSD := hid (HSA.out.draws 1)
  have HCD := hid (Chg.draws HCA.out 1)
  rw [show W.drewN 1 = W.drew from rfl] at HRD HSD HCD
  go_region_held3 (fun w' => w'.cell? ⟨r, 0, none⟩ = some (.slice A n c) ∧ w'.cell? ⟨p, 1, none⟩ = some (.int .i64 z)) (first | exact kp | exact ⟨c0, y1⟩) (first | (go_at_call 54; refine (HRG.out _ HRD.out).mono ?_; rintro e w2 ⟨rfl, d2, rfl⟩; have HRI := hid (HRD.out.draws d2); have HSI := hid (HSD.out.draws d2); have HCI := hid (Chg.draws HCD.out d2); have kp := And.intro HRI.out.c0 (HSI.out.b0.cell 1)))
  rw [show W.drew.drewN d2 = W.drewN (1 + d2) from drewN_two W 1 d2] at HRI HSI HCI
  generalize W.drewN (1 + d2) = WI at *
  clear c0 y1 kp HRD HSD HCD HRA HSA HCA HRG
  have y0 := HSI.out.b0.cell 0
  have y1 := HSI.out.b0.cell 1
  have z3 := HSI.out.b2.cell 3
  go_upto_region 7 with fail
  clear y0 y1 z3
  have H64L := hid H64.out
  obtain ⟨a_, AL, cL, hB, hu, q0, -, hrw, hcc, hcm⟩ := HRI.out.at_ HI.out
  obtain rfl : a = a_ := by simpa using hB
  rw [HL0.out] at hu q0 hrw hcc
  obtain ⟨nL, hnL⟩ : ∃ x, (l0).length = x := ⟨_, rfl⟩
  rw [hnL] at hu q0 hcc
  have HNL := hid hnL
  have hn64 : nL ≤ 64 := by rw [← hnL]; exact H64L.out
  have HUL := hid hu
  have HJLL := hid (show i < _ from HRI.out.ul ▸ HI.out)
  have HRD := hid (HRI.out.draws 1)
  have HWD := hid (hrw.draws 1)
  have HSD := hid (HSI.out.draws 1)
  have HCD := hid (Chg.draws HCI.out 1)
  have c3 := HRI.out.c3
  have y1 := HSI.out.b0.cell 1
  have i1 : (i : Int) < (n : Int) := by have := HI.out; omega
  have i0 : (0 : Int) ≤ (i : Int) := by omega
  clear hu hrw hnL hcm hB
  refine wp_region_noPanic ?_
  refine wp_region_held_drew (S := fun w' => w'.cell? ⟨r, 3, none⟩ = some (.slice (some ⟨a, 0, none⟩) n cv) ∧ w'.cell? ⟨p, 1, none⟩ = some (.int .i64 z)) (by kernel_rfl) ?_ (fun hHeld => ?_)
  · exact ⟨c3, y1⟩
  refine tkv 0 (some 34) rfl ?_
  refine tkv 1 (some 35) rfl ?_
  refine tkv 2 (some 36) rfl ?_
  refine tkv 3 (some 37) rfl ?_
  refine tkv 4 (some 38) rfl ?_
  refine tkv 5 (some 39) rfl ?_
  refine tkv 6 (some 40) rfl ?_
  refine tkv 7 (some 41) rfl ?_
  refine tkv 8 (some 42) rfl ?_
  refine tkv 9 (some 43) rfl ?_
  refine tkv 10 (some 44) rfl ?_
  refine tkv 12 (some 46) rfl ?_
  refine tkv 13 (some 47) rfl ?_
  refine tkc 11 (some 45) rfl fun K hK => ?_
  go_simp
  refine hK.out _ _ hHeld (fun hHeld => ?_)
  clear hK K
  (try simp only [Act.put, tkA, tk0, tk1])
  refine tkc 14 (some 48) rfl fun K hK => ?_
  go_simp
  refine (without_any _ AL nL cL (l0) z HNL.out hn64 HWD.out.rd).mono ?_
  rintro e2 w2 ⟨A3, c4, rfl, ho, hg⟩
  have HR2 := hid (HRD.out.below hg.nilBelow)
  have HS2 := hid (HSD.out.below hg.nilBelow)
  have HU2 := hid (Rt.told HRD.out.xb ho hg)
  have HC2 := hid (HCD.out.trans (Chg.of hg.nilBelow _))
  generalize (wo z l0).length = m3 at HU2 ⊢
  have kp := And.intro HR2.out.c3 (HS2.out.b0.cell 1)
  have f2 := (HR2.out.row.cellAt HJLL.out).2
  have xc := (HR2.out.row.cellAt HJLL.out).1.trans HUL.out
  have HRL := hid (HR2.out.setR HI.out HU2.out)
  have HCL := hid (chg_in HC2.out (show bk (some ⟨a, 0, none⟩) = some a from rfl) i (.slice A3 m3 c4))
  have HSL := hid (HS2.out.far (i := i) (v := .slice A3 m3 c4) HAP.out)
  have kq := And.intro HRL.out.c3 (HSL.out.b0.cell 1)
  clear ho hg
  go_simp
  refine hK.out _ _ kp (fun hHeld => ?_)
  clear hK K
  (try simp only [Act.put, tkA, tk0, tk1])
  refine tkv 15 (some 49) rfl ?_
  refine tkc 16 (none) rfl fun K hK => ?_
  go_simp
  refine hK.out _ _ kq (fun hHeld => ?_)
  clear hK K
  (try simp only [Act.put, tkA, tk0, tk1])
  refine wpAnyH_done (by kernel_rfl) ?_ _
  refine NoPanic.normal ?_
  generalize w2.setCell ⟨a, i, none⟩ (.slice A3 m3 c4) = WL at *
  clear kp kq f2 xc c3 y1 q0 hcc HR2 HS2 HU2 HC2 HRD HWD HSD HCD hn64 i1 i0
  have y0 := HSL.out.b0.cell 0
  go_upto_region 10 with fail
  clear y0
  go_wp2_with (first | (refine wpList_load_bx rfl 120 (.tmp 5) rfl (p + 1 + 1) _ _ _ rfl HSL.out.b2 Tryz.underlying120 rfl (by kernel_rfl) ?_) | (refine wpList_store_bx rfl 120 (.tmp 4) (.tmp 69) rfl rfl (p + 1) _ _ #[.slice none 0 0, .int .i64 0, .bool false, .bool true, .int .i64 0] rfl rfl HSL.out.b1 (by kernel_rfl) rfl (by simp [Value.oneCell']) ?_))
  refine bodyPost_ret (results_bx1 rfl _ rfl (HSL.out.b1.row (cs' := #[.slice none 0 0, .int .i64 0, .bool false, .bool true, .int .i64 0])) Tryz.underlying120 rfl (by kernel_rfl)) rfl ?_
  exact sd_fin HSL.out H0.out HRL.out HCL.out rfl
set_option maxRecDepth 20000 in
set_option maxHeartbeats 4000000 in
theorem rd_room (h : Rp w X r gp b A c hh pf B cv us T rg pt lp n S) (ok : Okp rg pt n S) {z : Int} (hz : zb z) {i : Nat} (hr : rg z = some i) (hin : ¬ inS S z) (hl : (S.getD i []).length < pt i) :
    Calls Tryz.prog 73 #[.pointer (some ⟨r, 0, none⟩), .agg #[.int .i64 1, .int .i64 z]] w (RdQ w X r gp b A c hh pf B cv T rg pt lp n (S.set i (z :: S.getD i [])) 0 false false 0) := by
  have hi := h.rl hr
  have hiS : i < S.length := Nat.lt_of_lt_of_le hi h.nS
  obtain ⟨a, _, _, rfl, -⟩ := h.at_ hi
  have HI := hid hi
  have HIS := hid hiS
  obtain ⟨l0, hl0⟩ : ∃ x, S.getD i [] = x := ⟨_, rfl⟩
  have HL0 := hid hl0
  have H64 := hid (show l0.length ≤ 64 from by rw [← hl0]; exact ok.wf.len (gd_some hiS))
  rw [hl0]
  have H0 := hid (fun j (e : bk (some ⟨a, 0, none⟩) = some j) => And.intro (h.xB j e) (h.xb j (h.xB j e)))
  have HHAS := hid (fun (y : World) (hb : Below w.heap.size w y) => rp_has (h.below hb) ok hz)
  rw [dec_false hin] at HHAS
  have HRG := hid (fun (y : World) (hy : Rp y (Xn X w.heap.size) r gp b A c hh pf (some ⟨a, 0, none⟩) cv us T rg pt lp n S) => rp_range hy hz)
  have HPT := hid (fun (y : World) (hy : Rp y (Xn X w.heap.size) r gp b A c hh pf (some ⟨a, 0, none⟩) cv us T rg pt lp n S) => rp_part hy hz)
  rw [hr] at HRG HPT
  rw [show rrV (some i) = (i : Nat) from rfl] at HRG
  rw [show ptO pt (some i) = pt i from rfl] at HPT
  have hq0 : ((pt i : Nat) : Int) ≠ 0 := by omega
  rw [hl0] at hl
  have HLP := hid hl
  generalize pt i = P0 at HPT hq0 HLP
  have hq1 : ((P0 : Int) == 0) = false := by simpa using hq0
  clear hq0 hl
  have HMK := hid (fun d => sd_made w 1 z d #[.slice none 0 0, .int .i64 0, .bool false, .bool false, .int .i64 0])
  have HB2 := hid (on (below_alloc w (.cells #[.int .i64 1, .int .i64 z] 123)) (below_alloc _ (.cells wz 120)))
  have HR0 := hid (fun d => h.more (Y := Xn X w.heap.size) (HMK.out d).2.1 (HMK.out d).2.2)
  have HAP := hid (show a < w.heap.size from h.xb a (h.xB a rfl))
  obtain ⟨p, hp⟩ : ∃ p, w.heap.size = p := ⟨_, rfl⟩
  have HPP := hid hp
  clear h ok hz hin hr hi hiS hl0
  go_enter Tryz.func73, Tryz.ntmps73
  go_upto_region 2 with (go_at_call 86; refine (HHAS.out _ HB2.out).mono ?_; rintro e w1 ⟨rfl, d, rfl⟩)
  have hmk := HMK.out d
  have hr0 := HR0.out d
  generalize ((((w.alloc (.cells #[.int .i64 1, .int .i64 z] 123)).alloc (.cells wz 120)).drewN d).alloc (.cells #[.slice none 0 0, .int .i64 0, .bool false, .bool false, .int .i64 0] 120)) = W at *
  have HSA := hid hmk.1
  have HCA := hid (Chg.of hmk.2.1 (fun j => bk (some ⟨a, 0, none⟩) = some j))
  have HRA := hid hr0
  rw [hp] at HSA HRA HRG HPT HAP
  clear hmk hr0 HMK HR0 HB2 HHAS hp
  have c0 := HRA.out.c0
  have y1 := HSA.out.b0.cell 1
  have HRD := hid (HRA.out.draws 1)
  have HSD := hid (HSA.out.draws 1)
  have HCD := hid (Chg.draws HCA.out 1)
  rw [show W.drewN 1 = W.drew from rfl] at HRD HSD HCD
  go_region_held3 (fun w' => w'.cell? ⟨r, 0, none⟩ = some (.slice A n c) ∧ w'.cell? ⟨p, 1, none⟩ = some (.int .i64 z)) (first | exact kp | exact ⟨c0, y1⟩) (first | (go_at_call 54; refine (HRG.out _ HRD.out).mono ?_; rintro e w2 ⟨rfl, d2, rfl⟩; have HRI := hid (HRD.out.draws d2); have HSI := hid (HSD.out.draws d2); have HCI := hid (Chg.draws HCD.out d2); have kp := And.intro HRI.out.c0 (HSI.out.b0.cell 1)))
  rw [show W.drew.drewN d2 = W.drewN (1 + d2) from drewN_two W 1 d2] at HRI HSI HCI
  generalize W.drewN (1 + d2) = WI at *
  clear c0 y1 kp HRD HSD HCD HRA HSA HCA HRG
  obtain ⟨nX, hnX⟩ : ∃ x, l0.length = x := ⟨_, rfl⟩
  have i1 : (i : Int) < (n : Int) := by have := HI.out; omega
  have i0 : (0 : Int) ≤ (i : Int) := by omega
  have hnX64 : nX ≤ 64 := by rw [← hnX]; exact H64.out
  have y0 := HSI.out.b0.cell 0
  have y1 := HSI.out.b0.cell 1
  have z3 := HSI.out.b2.cell 3
  go_upto_region 11 with (go_at_call 49; refine (HPT.out _ HRI.out).mono ?_; rintro e w2 ⟨rfl, d3, rfl⟩; have HRJ := hid (HRI.out.draws d3); have HSJ := hid (HSI.out.draws d3); have HCJ := hid (Chg.draws HCI.out d3))
  generalize WI.drewN d3 = WJ at *
  clear y0 y1 z3
  have y0 := HSJ.out.b0.cell 0
  have y1 := HSJ.out.b0.cell 1
  obtain ⟨a_, AX, cX, hB, -, q0, -, hrw, hcc, hcm⟩ := HRJ.out.at_ HI.out
  obtain rfl : a = a_ := by simpa using hB
  rw [HL0.out] at q0 hrw hcc
  rw [hnX] at q0 hcc
  have c3 := HRJ.out.c3
  have hlt : ¬ ((nX : Int) ≥ (P0 : Int)) := by have := HLP.out; omega
  go_upto_region 20 with (go_at_call 49; refine (HPT.out _ HRJ.out).mono ?_; rintro e w2 ⟨rfl, d3, rfl⟩; have HRK := hid (HRJ.out.draws d3); have HSK := hid (HSJ.out.draws d3); have HCK := hid (Chg.draws HCJ.out d3))
  generalize WJ.drewN d3 = WK at *
  clear y0 y1 c3 q0 hcc hcm hrw hB hlt i0 i1 hnX64 hnX
  have H64L := hid H64.out
  obtain ⟨a_, AL, cL, hB, hu, q0, -, hrw, hcc, hcm⟩ := HRK.out.at_ HI.out
  obtain rfl : a = a_ := by simpa using hB
  rw [HL0.out] at hu q0 hrw hcc
  obtain ⟨nL, hnL⟩ : ∃ x, (l0).length = x := ⟨_, rfl⟩
  rw [hnL] at hu q0 hcc
  have HNL := hid hnL
  have hn64 : nL ≤ 64 := by rw [← hnL]; exact H64L.out
  have HUL := hid hu
  have HJLL := hid (show i < _ from HRK.out.ul ▸ HI.out)
  have HRD := hid (HRK.out.draws 1)
  have HWD := hid (hrw.draws 1)
  have HSD := hid (HSK.out.draws 1)
  have HCD := hid (Chg.draws HCK.out 1)
  have c3 := HRK.out.c3
  have y1 := HSK.out.b0.cell 1
  have i1 : (i : Int) < (n : Int) := by have := HI.out; omega
  have i0 : (0 : Int) ≤ (i : Int) := by omega
  clear hu hrw hnL hcm hB
  refine wp_region_noPanic ?_
  refine wp_region_held_drew (S := fun w' => w'.cell? ⟨r, 3, none⟩ = some (.slice (some ⟨a, 0, none⟩) n cv) ∧ w'.cell? ⟨p, 1, none⟩ = some (.int .i64 z)) (by kernel_rfl) ?_ (fun hHeld => ?_)
  · exact ⟨c3, y1⟩
  refine tkv 0 (some 135) rfl ?_
  refine tkv 1 (some 136) rfl ?_
  refine tkv 2 (some 137) rfl ?_
  refine tkv 3 (some 138) rfl ?_
  refine tkv 4 (some 139) rfl ?_
  refine tkv 5 (some 140) rfl ?_
  refine tkv 6 (some 141) rfl ?_
  refine tkv 7 (some 142) rfl ?_
  refine tkv 8 (some 143) rfl ?_
  refine tkv 9 (some 144) rfl ?_
  refine tkv 10 (some 145) rfl ?_
  refine tkv 12 (some 147) rfl ?_
  refine tkv 13 (some 148) rfl ?_
  refine tkc 11 (some 146) rfl fun K hK => ?_
  go_simp
  refine hK.out _ _ hHeld (fun hHeld => ?_)
  clear hK K
  (try simp only [Act.put, tkA, tk0, tk1])
  refine tkc 14 (some 149) rfl fun K hK => ?_
  go_simp
  refine (ahead_any _ AL nL cL (l0) z HNL.out hn64 HWD.out.rd).mono ?_
  rintro e2 w2 ⟨A3, c4, rfl, ho, hg⟩
  have HR2 := hid (HRD.out.below hg.nilBelow)
  have HS2 := hid (HSD.out.below hg.nilBelow)
  have HU2 := hid (Rt.told HRD.out.xb ho hg)
  have HC2 := hid (HCD.out.trans (Chg.of hg.nilBelow _))
  generalize (z :: l0).length = m3 at HU2 ⊢
  have kp := And.intro HR2.out.c3 (HS2.out.b0.cell 1)
  have f2 := (HR2.out.row.cellAt HJLL.out).2
  have xc := (HR2.out.row.cellAt HJLL.out).1.trans HUL.out
  have HRL := hid (HR2.out.setR HI.out HU2.out)
  have HCL := hid (chg_in HC2.out (show bk (some ⟨a, 0, none⟩) = some a from rfl) i (.slice A3 m3 c4))
  have HSL := hid (HS2.out.far (i := i) (v := .slice A3 m3 c4) HAP.out)
  have kq := And.intro HRL.out.c3 (HSL.out.b0.cell 1)
  clear ho hg
  go_simp
  refine hK.out _ _ kp (fun hHeld => ?_)
  clear hK K
  (try simp only [Act.put, tkA, tk0, tk1])
  refine tkv 15 (some 150) rfl ?_
  refine tkc 16 (none) rfl fun K hK => ?_
  go_simp
  refine hK.out _ _ kq (fun hHeld => ?_)
  clear hK K
  (try simp only [Act.put, tkA, tk0, tk1])
  refine wpAnyH_done (by kernel_rfl) ?_ _
  refine NoPanic.normal ?_
  generalize w2.setCell ⟨a, i, none⟩ (.slice A3 m3 c4) = WL at *
  clear kp kq f2 xc c3 y1 q0 hcc HR2 HS2 HU2 HC2 HRD HWD HSD HCD hn64 i1 i0
  go_wp2_with (first | (refine wpList_load_bx rfl 120 (.tmp 5) rfl (p + 1 + 1) _ _ _ rfl HSL.out.b2 Tryz.underlying120 rfl (by kernel_rfl) ?_) | (refine wpList_store_bx rfl 120 (.tmp 4) (.tmp 151) rfl rfl (p + 1) _ _ #[.slice none 0 0, .int .i64 0, .bool false, .bool false, .int .i64 0] rfl rfl HSL.out.b1 (by kernel_rfl) rfl (by simp [Value.oneCell']) ?_))
  refine bodyPost_ret (results_bx1 rfl _ rfl (HSL.out.b1.row (cs' := #[.slice none 0 0, .int .i64 0, .bool false, .bool false, .int .i64 0])) Tryz.underlying120 rfl (by kernel_rfl)) rfl ?_
  exact sd_fin HSL.out H0.out HRL.out HCL.out rfl
set_option maxRecDepth 20000 in
set_option maxHeartbeats 4000000 in
theorem rd_full0 (h : Rp w X r gp b A c hh pf B cv us T rg pt lp n S) (ok : Okp rg pt n S) {z : Int} (hz : zb z) {i : Nat} (hr : rg z = some i) (hin : ¬ inS S z) (hp0 : 0 < pt i) (hl : pt i ≤ (S.getD i []).length) (hlo : lp i = false) :
    Calls Tryz.prog 73 #[.pointer (some ⟨r, 0, none⟩), .agg #[.int .i64 1, .int .i64 z]] w (RdQ w X r gp b A c hh pf B cv T rg pt lp n (S.set i (z :: wo (gone false (S.getD i [])) (S.getD i []))) (gone false (S.getD i [])) true false 0) := by
  have hi := h.rl hr
  have hiS : i < S.length := Nat.lt_of_lt_of_le hi h.nS
  obtain ⟨a, _, _, rfl, -⟩ := h.at_ hi
  have HI := hid hi
  have HIS := hid hiS
  obtain ⟨l0, hl0⟩ : ∃ x, S.getD i [] = x := ⟨_, rfl⟩
  have HL0 := hid hl0
  have H64 := hid (show l0.length ≤ 64 from by rw [← hl0]; exact ok.wf.len (gd_some hiS))
  rw [hl0]
  have H0 := hid (fun j (e : bk (some ⟨a, 0, none⟩) = some j) => And.intro (h.xB j e) (h.xb j (h.xB j e)))
  have HHAS := hid (fun (y : World) (hb : Below w.heap.size w y) => rp_has (h.below hb) ok hz)
  rw [dec_false hin] at HHAS
  have HRG := hid (fun (y : World) (hy : Rp y (Xn X w.heap.size) r gp b A c hh pf (some ⟨a, 0, none⟩) cv us T rg pt lp n S) => rp_range hy hz)
  have HPT := hid (fun (y : World) (hy : Rp y (Xn X w.heap.size) r gp b A c hh pf (some ⟨a, 0, none⟩) cv us T rg pt lp n S) => rp_part hy hz)
  rw [hr] at HRG HPT
  rw [show rrV (some i) = (i : Nat) from rfl] at HRG
  rw [show ptO pt (some i) = pt i from rfl] at HPT
  have hq0 : ((pt i : Nat) : Int) ≠ 0 := by omega
  rw [hl0] at hl
  have HLP := hid (And.intro hl hp0)
  have HLO := hid hlo
  have HND := hid (ok.wf.ndg i)
  generalize pt i = P0 at HPT hq0 HLP
  have hq1 : ((P0 : Int) == 0) = false := by simpa using hq0
  clear hq0 hl hp0 hlo
  have HG0 := hid (show ∀ (j : Nat) (hj : j < l0.length), j + 1 = l0.length → l0[j] = gone false l0 from fun j hj hj2 => by
    unfold gone
    rw [if_neg (by simp), List.getLastD_eq_getLast?, List.getLast?_eq_getElem?, List.getElem?_eq_getElem (by omega)]
    simp only [Option.getD_some]
    congr 1
    omega)
  have HG1 := hid (show ∀ hj : 0 < l0.length, l0[0] = gone true l0 from fun hj => by
    unfold gone
    rw [if_pos rfl]
    cases l0 with
    | nil => exact absurd hj (Nat.lt_irrefl 0)
    | cons x t => rfl)
  obtain ⟨V0, hV0⟩ : ∃ x, gone false l0 = x := ⟨_, rfl⟩
  obtain ⟨V1, hV1⟩ : ∃ x, gone true l0 = x := ⟨_, rfl⟩
  rw [hV0] at HG0
  rw [hV1] at HG1
  rw [hV0]
  clear hV0 hV1
  have HMK := hid (fun d => sd_made w 1 z d #[.slice none 0 0, .int .i64 0, .bool false, .bool false, .int .i64 0])
  have HB2 := hid (on (below_alloc w (.cells #[.int .i64 1, .int .i64 z] 123)) (below_alloc _ (.cells wz 120)))
  have HR0 := hid (fun d => h.more (Y := Xn X w.heap.size) (HMK.out d).2.1 (HMK.out d).2.2)
  have HAP := hid (show a < w.heap.size from h.xb a (h.xB a rfl))
  obtain ⟨p, hp⟩ : ∃ p, w.heap.size = p := ⟨_, rfl⟩
  have HPP := hid hp
  clear h ok hz hin hr hi hiS hl0
  go_enter Tryz.func73, Tryz.ntmps73
  go_upto_region 2 with (go_at_call 86; refine (HHAS.out _ HB2.out).mono ?_; rintro e w1 ⟨rfl, d, rfl⟩)
  have hmk := HMK.out d
  have hr0 := HR0.out d
  generalize ((((w.alloc (.cells #[.int .i64 1, .int .i64 z] 123)).alloc (.cells wz 120)).drewN d).alloc (.cells #[.slice none 0 0, .int .i64 0, .bool false, .bool false, .int .i64 0] 120)) = W at *
  have HSA := hid hmk.1
  have HCA := hid (Chg.of hmk.2.1 (fun j => bk (some ⟨a, 0, none⟩) = some j))
  have HRA := hid hr0
  rw [hp] at HSA HRA HRG HPT HAP
  clear hmk hr0 HMK HR0 HB2 HHAS hp
  have c0 := HRA.out.c0
  have y1 := HSA.out.b0.cell 1
  have HRD := hid (HRA.out.draws 1)
  have HSD := hid (HSA.out.draws 1)
  have HCD := hid (Chg.draws HCA.out 1)
  rw [show W.drewN 1 = W.drew from rfl] at HRD HSD HCD
  go_region_held3 (fun w' => w'.cell? ⟨r, 0, none⟩ = some (.slice A n c) ∧ w'.cell? ⟨p, 1, none⟩ = some (.int .i64 z)) (first | exact kp | exact ⟨c0, y1⟩) (first | (go_at_call 54; refine (HRG.out _ HRD.out).mono ?_; rintro e w2 ⟨rfl, d2, rfl⟩; have HRI := hid (HRD.out.draws d2); have HSI := hid (HSD.out.draws d2); have HCI := hid (Chg.draws HCD.out d2); have kp := And.intro HRI.out.c0 (HSI.out.b0.cell 1)))
  rw [show W.drew.drewN d2 = W.drewN (1 + d2) from drewN_two W 1 d2] at HRI HSI HCI
  generalize W.drewN (1 + d2) = WI at *
  clear c0 y1 kp HRD HSD HCD HRA HSA HCA HRG
  obtain ⟨nX, hnX⟩ : ∃ x, l0.length = x := ⟨_, rfl⟩
  have i1 : (i : Int) < (n : Int) := by have := HI.out; omega
  have i0 : (0 : Int) ≤ (i : Int) := by omega
  have hnX64 : nX ≤ 64 := by rw [← hnX]; exact H64.out
  have hne : 0 < nX := by have := HLP.out; omega
  obtain ⟨jX, hjX⟩ : ∃ j, nX = j + 1 := ⟨nX - 1, by omega⟩
  have hjm : (nX : Int) - 1 = (jX : Int) := by omega
  have hj1 : (jX : Int) < (nX : Int) := by omega
  have hj0 : (0 : Int) ≤ (jX : Int) := by omega
  have hn0 : (0 : Int) < (nX : Int) := by omega
  have y0 := HSI.out.b0.cell 0
  have y1 := HSI.out.b0.cell 1
  have z3 := HSI.out.b2.cell 3
  go_upto_region 11 with (go_at_call 49; refine (HPT.out _ HRI.out).mono ?_; rintro e w2 ⟨rfl, d3, rfl⟩; have HRJ := hid (HRI.out.draws d3); have HSJ := hid (HSI.out.draws d3); have HCJ := hid (Chg.draws HCI.out d3))
  generalize WI.drewN d3 = WJ at *
  clear y0 y1 z3
  have y0 := HSJ.out.b0.cell 0
  have y1 := HSJ.out.b0.cell 1
  obtain ⟨a_, AX, cX, hB, -, q0, -, hrw, hcc, hcm⟩ := HRJ.out.at_ HI.out
  obtain rfl : a = a_ := by simpa using hB
  rw [HL0.out] at q0 hrw hcc
  rw [hnX] at q0 hcc
  have c3 := HRJ.out.c3
  have hlt : (nX : Int) ≥ (P0 : Int) := by have := HLP.out; omega
  go_upto_region 15 with (go_at_call 49; refine (HPT.out _ HRJ.out).mono ?_; rintro e w2 ⟨rfl, d3, rfl⟩; have HRK := hid (HRJ.out.draws d3); have HSK := hid (HSJ.out.draws d3); have HCK := hid (Chg.draws HCJ.out d3))
  generalize WJ.drewN d3 = WK at *
  clear y0 y1 c3 q0 hcc hcm hrw hB hlt
  obtain ⟨a_, AX, cX, hB, -, q0, -, hrw, hcc, hcm⟩ := HRK.out.at_ HI.out
  obtain rfl : a = a_ := by simpa using hB
  rw [HL0.out] at q0 hrw hcc
  rw [hnX] at q0 hcc
  have c3 := HRK.out.c3
  have f1 := HSK.out.b2.free 1
  have z1 := HSK.out.b2.cell 1
  obtain ⟨aX, rfl, -, v0⟩ := rv_at hrw.rd (j := jX) (by omega)
  rw [HG0.out _ _ (by omega)] at v0
  go_upto_region 16 with fail
  clear c3 q0 hcc hcm hrw hB v0 f1 z1
  have HSL := hid (show Sd w (WK.setCell ⟨p + 1 + 1, 1, none⟩ (.int .i64 V0)) p 1 z #[.slice none 0 0, .int .i64 V0, .bool false, .bool false, .int .i64 0] from HSK.out.set 1 _)
  have HRL := hid (rp_setw (i := 1) (u := (.int .i64 V0)) HRK.out (fun j e => by have := (H0.out j e).2; have := HPP.out; omega))
  have HCL := hid (chg_setw (i := 1) (u := (.int .i64 V0)) HCK.out HPP.out)
  generalize WK.setCell ⟨p + 1 + 1, 1, none⟩ (.int .i64 V0) = WL at *
  obtain ⟨ad, eA, hat⟩ := HRL.out.hr.hint HI.out
  have hll := hat.l
  rw [HRL.out.lpE, HLO.out] at hll
  have c0 := HRL.out.c0
  rw [eA] at c0
  go_upto_region 18 with fail
  clear c0 hll hat
  have f2 := HSL.out.b2.free 2
  have z2 := HSL.out.b2.cell 2
  go_upto_region 19 with fail
  clear f2 z2
  have HSN := hid (show Sd w (WL.setCell ⟨p + 1 + 1, 2, none⟩ (.bool true)) p 1 z #[.slice none 0 0, .int .i64 V0, .bool true, .bool false, .int .i64 0] from HSL.out.set 2 _)
  have HRN := hid (rp_setw (i := 2) (u := (.bool true)) HRL.out (fun j e => by have := (H0.out j e).2; have := HPP.out; omega))
  have HCN := hid (chg_setw (i := 2) (u := (.bool true)) HCL.out HPP.out)
  generalize WL.setCell ⟨p + 1 + 1, 2, none⟩ (.bool true) = WN at *
  clear i0 i1 hnX64 hnX hjm hj1 hj0 hn0 hne hjX
  have H64P := hid H64.out
  have H64Q := hid (show (wo V0 l0).length ≤ 64 from Nat.le_trans (wo_le _ _) H64.out)
  obtain ⟨a_, AP, cP, hB, hu, q0, -, hrw, hcc, hcm⟩ := HRN.out.at_ HI.out
  obtain rfl : a = a_ := by simpa using hB
  rw [HL0.out] at hu q0 hrw hcc
  obtain ⟨nP, hnP⟩ : ∃ x, (l0).length = x := ⟨_, rfl⟩
  rw [hnP] at hu q0 hcc
  have HNP := hid hnP
  have hn64 : nP ≤ 64 := by rw [← hnP]; exact H64P.out
  have HUP := hid hu
  have HJLP := hid (show i < _ from HRN.out.ul ▸ HI.out)
  have HRD := hid (HRN.out.draws 1)
  have HWD := hid (hrw.draws 1)
  have HSD := hid (HSN.out.draws 1)
  have HCD := hid (Chg.draws HCN.out 1)
  have c3 := HRN.out.c3
  have y1 := HSN.out.b2.cell 1
  have i1 : (i : Int) < (n : Int) := by have := HI.out; omega
  have i0 : (0 : Int) ≤ (i : Int) := by omega
  clear hu hrw hnP hcm hB
  refine wp_region_noPanic ?_
  refine wp_region_held_drew (S := fun w' => w'.cell? ⟨r, 3, none⟩ = some (.slice (some ⟨a, 0, none⟩) n cv) ∧ w'.cell? ⟨p + 1 + 1, 1, none⟩ = some (.int .i64 V0)) (by kernel_rfl) ?_ (fun hHeld => ?_)
  · exact ⟨c3, y1⟩
  refine tkv 0 (some 119) rfl ?_
  refine tkv 1 (some 120) rfl ?_
  refine tkv 2 (some 121) rfl ?_
  refine tkv 3 (some 122) rfl ?_
  refine tkv 4 (some 123) rfl ?_
  refine tkv 5 (some 124) rfl ?_
  refine tkv 6 (some 125) rfl ?_
  refine tkv 7 (some 126) rfl ?_
  refine tkv 8 (some 127) rfl ?_
  refine tkv 9 (some 128) rfl ?_
  refine tkv 10 (some 129) rfl ?_
  refine tkv 12 (some 131) rfl ?_
  refine tkv 13 (some 132) rfl ?_
  refine tkc 11 (some 130) rfl fun K hK => ?_
  go_simp
  refine hK.out _ _ hHeld (fun hHeld => ?_)
  clear hK K
  (try simp only [Act.put, tkA, tk0, tk1])
  refine tkc 14 (some 133) rfl fun K hK => ?_
  go_simp
  refine (without_any _ AP nP cP (l0) V0 HNP.out hn64 HWD.out.rd).mono ?_
  rintro e2 w2 ⟨A3, c4, rfl, ho, hg⟩
  have HR2 := hid (HRD.out.below hg.nilBelow)
  have HS2 := hid (HSD.out.below hg.nilBelow)
  have HU2 := hid (Rt.told HRD.out.xb ho hg)
  have HC2 := hid (HCD.out.trans (Chg.of hg.nilBelow _))
  generalize (wo V0 l0).length = m3 at HU2 ⊢
  have kp := And.intro HR2.out.c3 (HS2.out.b2.cell 1)
  have f2 := (HR2.out.row.cellAt HJLP.out).2
  have xc := (HR2.out.row.cellAt HJLP.out).1.trans HUP.out
  have HRP := hid (HR2.out.setR HI.out HU2.out)
  have HCP := hid (chg_in HC2.out (show bk (some ⟨a, 0, none⟩) = some a from rfl) i (.slice A3 m3 c4))
  have HSP := hid (HS2.out.far (i := i) (v := .slice A3 m3 c4) HAP.out)
  have kq := And.intro HRP.out.c3 (HSP.out.b2.cell 1)
  clear ho hg
  go_simp
  refine hK.out _ _ kp (fun hHeld => ?_)
  clear hK K
  (try simp only [Act.put, tkA, tk0, tk1])
  refine tkv 15 (some 134) rfl ?_
  refine tkc 16 (none) rfl fun K hK => ?_
  go_simp
  refine hK.out _ _ kq (fun hHeld => ?_)
  clear hK K
  (try simp only [Act.put, tkA, tk0, tk1])
  refine wpAnyH_done (by kernel_rfl) ?_ _
  refine NoPanic.normal ?_
  generalize w2.setCell ⟨a, i, none⟩ (.slice A3 m3 c4) = WP at *
  clear kp kq f2 xc c3 y1 q0 hcc HR2 HS2 HU2 HC2 HRD HWD HSD HCD hn64 i1 i0
  go_upto_region 20 with fail
  obtain ⟨a_, AQ, cQ, hB, hu, q0, -, hrw, hcc, hcm⟩ := HRP.out.at_ HI.out
  obtain rfl : a = a_ := by simpa using hB
  rw [gd_set _ HIS.out, if_pos rfl] at hu q0 hrw hcc
  obtain ⟨nQ, hnQ⟩ : ∃ x, (wo V0 l0).length = x := ⟨_, rfl⟩
  rw [hnQ] at hu q0 hcc
  have HNQ := hid hnQ
  have hn64 : nQ ≤ 64 := by rw [← hnQ]; exact H64Q.out
  have HUQ := hid hu
  have HJLQ := hid (show i < _ from HRP.out.ul ▸ HI.out)
  have HRD := hid (HRP.out.draws 1)
  have HWD := hid (hrw.draws 1)
  have HSD := hid (HSP.out.draws 1)
  have HCD := hid (Chg.draws HCP.out 1)
  have c3 := HRP.out.c3
  have y1 := HSP.out.b0.cell 1
  have i1 : (i : Int) < (n : Int) := by have := HI.out; omega
  have i0 : (0 : Int) ≤ (i : Int) := by omega
  clear hu hrw hnQ hcm hB
  refine wp_region_noPanic ?_
  refine wp_region_held_drew (S := fun w' => w'.cell? ⟨r, 3, none⟩ = some (.slice (some ⟨a, 0, none⟩) n cv) ∧ w'.cell? ⟨p, 1, none⟩ = some (.int .i64 z)) (by kernel_rfl) ?_ (fun hHeld => ?_)
  · exact ⟨c3, y1⟩
  refine tkv 0 (some 135) rfl ?_
  refine tkv 1 (some 136) rfl ?_
  refine tkv 2 (some 137) rfl ?_
  refine tkv 3 (some 138) rfl ?_
  refine tkv 4 (some 139) rfl ?_
  refine tkv 5 (some 140) rfl ?_
  refine tkv 6 (some 141) rfl ?_
  refine tkv 7 (some 142) rfl ?_
  refine tkv 8 (some 143) rfl ?_
  refine tkv 9 (some 144) rfl ?_
  refine tkv 10 (some 145) rfl ?_
  refine tkv 12 (some 147) rfl ?_
  refine tkv 13 (some 148) rfl ?_
  refine tkc 11 (some 146) rfl fun K hK => ?_
  go_simp
  refine hK.out _ _ hHeld (fun hHeld => ?_)
  clear hK K
  (try simp only [Act.put, tkA, tk0, tk1])
  refine tkc 14 (some 149) rfl fun K hK => ?_
  go_simp
  refine (ahead_any _ AQ nQ cQ (wo V0 l0) z HNQ.out hn64 HWD.out.rd).mono ?_
  rintro e2 w2 ⟨A3, c4, rfl, ho, hg⟩
  have HR2 := hid (HRD.out.below hg.nilBelow)
  have HS2 := hid (HSD.out.below hg.nilBelow)
  have HU2 := hid (Rt.told HRD.out.xb ho hg)
  have HC2 := hid (HCD.out.trans (Chg.of hg.nilBelow _))
  generalize (z :: wo V0 l0).length = m3 at HU2 ⊢
  have kp := And.intro HR2.out.c3 (HS2.out.b0.cell 1)
  have f2 := (HR2.out.row.cellAt HJLQ.out).2
  have xc := (HR2.out.row.cellAt HJLQ.out).1.trans HUQ.out
  have HRQ := hid (HR2.out.setR HI.out HU2.out)
  have HCQ := hid (chg_in HC2.out (show bk (some ⟨a, 0, none⟩) = some a from rfl) i (.slice A3 m3 c4))
  have HSQ := hid (HS2.out.far (i := i) (v := .slice A3 m3 c4) HAP.out)
  have kq := And.intro HRQ.out.c3 (HSQ.out.b0.cell 1)
  clear ho hg
  go_simp
  refine hK.out _ _ kp (fun hHeld => ?_)
  clear hK K
  (try simp only [Act.put, tkA, tk0, tk1])
  refine tkv 15 (some 150) rfl ?_
  refine tkc 16 (none) rfl fun K hK => ?_
  go_simp
  refine hK.out _ _ kq (fun hHeld => ?_)
  clear hK K
  (try simp only [Act.put, tkA, tk0, tk1])
  refine wpAnyH_done (by kernel_rfl) ?_ _
  refine NoPanic.normal ?_
  generalize w2.setCell ⟨a, i, none⟩ (.slice A3 m3 c4) = WQ at *
  clear kp kq f2 xc c3 y1 q0 hcc HR2 HS2 HU2 HC2 HRD HWD HSD HCD hn64 i1 i0
  go_wp2_with (first | (refine wpList_load_bx rfl 120 (.tmp 5) rfl (p + 1 + 1) _ _ _ rfl HSQ.out.b2 Tryz.underlying120 rfl (by kernel_rfl) ?_) | (refine wpList_store_bx rfl 120 (.tmp 4) (.tmp 151) rfl rfl (p + 1) _ _ #[.slice none 0 0, .int .i64 V0, .bool true, .bool false, .int .i64 0] rfl rfl HSQ.out.b1 (by kernel_rfl) rfl (by simp [Value.oneCell']) ?_))
  refine bodyPost_ret (results_bx1 rfl _ rfl (HSQ.out.b1.row (cs' := #[.slice none 0 0, .int .i64 V0, .bool true, .bool false, .int .i64 0])) Tryz.underlying120 rfl (by kernel_rfl)) rfl ?_
  have hq := sd_fin (vi := V0) (er := 0) (gn := true) (was := false) HSQ.out H0.out HRQ.out HCQ.out rfl
  rw [List.set_set] at hq
  exact hq
set_option maxRecDepth 20000 in
set_option maxHeartbeats 4000000 in
theorem rd_full1 (h : Rp w X r gp b A c hh pf B cv us T rg pt lp n S) (ok : Okp rg pt n S) {z : Int} (hz : zb z) {i : Nat} (hr : rg z = some i) (hin : ¬ inS S z) (hp0 : 0 < pt i) (hl : pt i ≤ (S.getD i []).length) (hlo : lp i = true) :
    Calls Tryz.prog 73 #[.pointer (some ⟨r, 0, none⟩), .agg #[.int .i64 1, .int .i64 z]] w (RdQ w X r gp b A c hh pf B cv T rg pt lp n (S.set i (z :: wo (gone true (S.getD i [])) (S.getD i []))) (gone true (S.getD i [])) true false 0) := by
  have hi := h.rl hr
  have hiS : i < S.length := Nat.lt_of_lt_of_le hi h.nS
  obtain ⟨a, _, _, rfl, -⟩ := h.at_ hi
  have HI := hid hi
  have HIS := hid hiS
  obtain ⟨l0, hl0⟩ : ∃ x, S.getD i [] = x := ⟨_, rfl⟩
  have HL0 := hid hl0
  have H64 := hid (show l0.length ≤ 64 from by rw [← hl0]; exact ok.wf.len (gd_some hiS))
  rw [hl0]
  have H0 := hid (fun j (e : bk (some ⟨a, 0, none⟩) = some j) => And.intro (h.xB j e) (h.xb j (h.xB j e)))
  have HHAS := hid (fun (y : World) (hb : Below w.heap.size w y) => rp_has (h.below hb) ok hz)
  rw [dec_false hin] at HHAS
  have HRG := hid (fun (y : World) (hy : Rp y (Xn X w.heap.size) r gp b A c hh pf (some ⟨a, 0, none⟩) cv us T rg pt lp n S) => rp_range hy hz)
  have HPT := hid (fun (y : World) (hy : Rp y (Xn X w.heap.size) r gp b A c hh pf (some ⟨a, 0, none⟩) cv us T rg pt lp n S) => rp_part hy hz)
  rw [hr] at HRG HPT
  rw [show rrV (some i) = (i : Nat) from rfl] at HRG
  rw [show ptO pt (some i) = pt i from rfl] at HPT
  have hq0 : ((pt i : Nat) : Int) ≠ 0 := by omega
  rw [hl0] at hl
  have HLP := hid (And.intro hl hp0)
  have HLO := hid hlo
  have HND := hid (ok.wf.ndg i)
  generalize pt i = P0 at HPT hq0 HLP
  have hq1 : ((P0 : Int) == 0) = false := by simpa using hq0
  clear hq0 hl hp0 hlo
  have HG0 := hid (show ∀ (j : Nat) (hj : j < l0.length), j + 1 = l0.length → l0[j] = gone false l0 from fun j hj hj2 => by
    unfold gone
    rw [if_neg (by simp), List.getLastD_eq_getLast?, List.getLast?_eq_getElem?, List.getElem?_eq_getElem (by omega)]
    simp only [Option.getD_some]
    congr 1
    omega)
  have HG1 := hid (show ∀ hj : 0 < l0.length, l0[0] = gone true l0 from fun hj => by
    unfold gone
    rw [if_pos rfl]
    cases l0 with
    | nil => exact absurd hj (Nat.lt_irrefl 0)
    | cons x t => rfl)
  obtain ⟨V0, hV0⟩ : ∃ x, gone false l0 = x := ⟨_, rfl⟩
  obtain ⟨V1, hV1⟩ : ∃ x, gone true l0 = x := ⟨_, rfl⟩
  rw [hV0] at HG0
  rw [hV1] at HG1
  rw [hV1]
  clear hV0 hV1
  have HMK := hid (fun d => sd_made w 1 z d #[.slice none 0 0, .int .i64 0, .bool false, .bool false, .int .i64 0])
  have HB2 := hid (on (below_alloc w (.cells #[.int .i64 1, .int .i64 z] 123)) (below_alloc _ (.cells wz 120)))
  have HR0 := hid (fun d => h.more (Y := Xn X w.heap.size) (HMK.out d).2.1 (HMK.out d).2.2)
  have HAP := hid (show a < w.heap.size from h.xb a (h.xB a rfl))
  obtain ⟨p, hp⟩ : ∃ p, w.heap.size = p := ⟨_, rfl⟩
  have HPP := hid hp
  clear h ok hz hin hr hi hiS hl0
  go_enter Tryz.func73, Tryz.ntmps73
  go_upto_region 2 with (go_at_call 86; refine (HHAS.out _ HB2.out).mono ?_; rintro e w1 ⟨rfl, d, rfl⟩)
  have hmk := HMK.out d
  have hr0 := HR0.out d
  generalize ((((w.alloc (.cells #[.int .i64 1, .int .i64 z] 123)).alloc (.cells wz 120)).drewN d).alloc (.cells #[.slice none 0 0, .int .i64 0, .bool false, .bool false, .int .i64 0] 120)) = W at *
  have HSA := hid hmk.1
  have HCA := hid (Chg.of hmk.2.1 (fun j => bk (some ⟨a, 0, none⟩) = some j))
  have HRA := hid hr0
  rw [hp] at HSA HRA HRG HPT HAP
  clear hmk hr0 HMK HR0 HB2 HHAS hp
  have c0 := HRA.out.c0
  have y1 := HSA.out.b0.cell 1
  have HRD := hid (HRA.out.draws 1)
  have HSD := hid (HSA.out.draws 1)
  have HCD := hid (Chg.draws HCA.out 1)
  rw [show W.drewN 1 = W.drew from rfl] at HRD HSD HCD
  go_region_held3 (fun w' => w'.cell? ⟨r, 0, none⟩ = some (.slice A n c) ∧ w'.cell? ⟨p, 1, none⟩ = some (.int .i64 z)) (first | exact kp | exact ⟨c0, y1⟩) (first | (go_at_call 54; refine (HRG.out _ HRD.out).mono ?_; rintro e w2 ⟨rfl, d2, rfl⟩; have HRI := hid (HRD.out.draws d2); have HSI := hid (HSD.out.draws d2); have HCI := hid (Chg.draws HCD.out d2); have kp := And.intro HRI.out.c0 (HSI.out.b0.cell 1)))
  rw [show W.drew.drewN d2 = W.drewN (1 + d2) from drewN_two W 1 d2] at HRI HSI HCI
  generalize W.drewN (1 + d2) = WI at *
  clear c0 y1 kp HRD HSD HCD HRA HSA HCA HRG
  obtain ⟨nX, hnX⟩ : ∃ x, l0.length = x := ⟨_, rfl⟩
  have i1 : (i : Int) < (n : Int) := by have := HI.out; omega
  have i0 : (0 : Int) ≤ (i : Int) := by omega
  have hnX64 : nX ≤ 64 := by rw [← hnX]; exact H64.out
  have hne : 0 < nX := by have := HLP.out; omega
  obtain ⟨jX, hjX⟩ : ∃ j, nX = j + 1 := ⟨nX - 1, by omega⟩
  have hjm : (nX : Int) - 1 = (jX : Int) := by omega
  have hj1 : (jX : Int) < (nX : Int) := by omega
  have hj0 : (0 : Int) ≤ (jX : Int) := by omega
  have hn0 : (0 : Int) < (nX : Int) := by omega
  have y0 := HSI.out.b0.cell 0
  have y1 := HSI.out.b0.cell 1
  have z3 := HSI.out.b2.cell 3
  go_upto_region 11 with (go_at_call 49; refine (HPT.out _ HRI.out).mono ?_; rintro e w2 ⟨rfl, d3, rfl⟩; have HRJ := hid (HRI.out.draws d3); have HSJ := hid (HSI.out.draws d3); have HCJ := hid (Chg.draws HCI.out d3))
  generalize WI.drewN d3 = WJ at *
  clear y0 y1 z3
  have y0 := HSJ.out.b0.cell 0
  have y1 := HSJ.out.b0.cell 1
  obtain ⟨a_, AX, cX, hB, -, q0, -, hrw, hcc, hcm⟩ := HRJ.out.at_ HI.out
  obtain rfl : a = a_ := by simpa using hB
  rw [HL0.out] at q0 hrw hcc
  rw [hnX] at q0 hcc
  have c3 := HRJ.out.c3
  have hlt : (nX : Int) ≥ (P0 : Int) := by have := HLP.out; omega
  go_upto_region 15 with (go_at_call 49; refine (HPT.out _ HRJ.out).mono ?_; rintro e w2 ⟨rfl, d3, rfl⟩; have HRK := hid (HRJ.out.draws d3); have HSK := hid (HSJ.out.draws d3); have HCK := hid (Chg.draws HCJ.out d3))
  generalize WJ.drewN d3 = WK at *
  clear y0 y1 c3 q0 hcc hcm hrw hB hlt
  obtain ⟨a_, AX, cX, hB, -, q0, -, hrw, hcc, hcm⟩ := HRK.out.at_ HI.out
  obtain rfl : a = a_ := by simpa using hB
  rw [HL0.out] at q0 hrw hcc
  rw [hnX] at q0 hcc
  have c3 := HRK.out.c3
  have f1 := HSK.out.b2.free 1
  have z1 := HSK.out.b2.cell 1
  obtain ⟨aX, rfl, -, v0⟩ := rv_at hrw.rd (j := jX) (by omega)
  rw [HG0.out _ _ (by omega)] at v0
  go_upto_region 16 with fail
  clear c3 q0 hcc hcm hrw hB v0 f1 z1
  have HSL := hid (show Sd w (WK.setCell ⟨p + 1 + 1, 1, none⟩ (.int .i64 V0)) p 1 z #[.slice none 0 0, .int .i64 V0, .bool false, .bool false, .int .i64 0] from HSK.out.set 1 _)
  have HRL := hid (rp_setw (i := 1) (u := (.int .i64 V0)) HRK.out (fun j e => by have := (H0.out j e).2; have := HPP.out; omega))
  have HCL := hid (chg_setw (i := 1) (u := (.int .i64 V0)) HCK.out HPP.out)
  generalize WK.setCell ⟨p + 1 + 1, 1, none⟩ (.int .i64 V0) = WL at *
  obtain ⟨ad, eA, hat⟩ := HRL.out.hr.hint HI.out
  have hll := hat.l
  rw [HRL.out.lpE, HLO.out] at hll
  have c0 := HRL.out.c0
  rw [eA] at c0
  go_upto_region 17 with fail
  clear c0 hll hat
  obtain ⟨a_, AX, cX, hB, -, q0, -, hrw, hcc, hcm⟩ := HRL.out.at_ HI.out
  obtain rfl : a = a_ := by simpa using hB
  rw [HL0.out] at q0 hrw hcc
  rw [hnX] at q0 hcc
  have c3 := HRL.out.c3
  have f1 := HSL.out.b2.free 1
  have z1 := HSL.out.b2.cell 1
  obtain ⟨aY, rfl, -, v0⟩ := rv_at hrw.rd (j := 0) (by omega)
  rw [HG1.out] at v0
  rw [show aY.add 0 = aY from by simp [Addr.add]] at v0
  go_upto_region 18 with fail
  clear c3 q0 hcc hcm hrw hB v0 f1 z1
  have HSM := hid (show Sd w (WL.setCell ⟨p + 1 + 1, 1, none⟩ (.int .i64 V1)) p 1 z #[.slice none 0 0, .int .i64 V1, .bool false, .bool false, .int .i64 0] from HSL.out.set 1 _)
  have HRM := hid (rp_setw (i := 1) (u := (.int .i64 V1)) HRL.out (fun j e => by have := (H0.out j e).2; have := HPP.out; omega))
  have HCM := hid (chg_setw (i := 1) (u := (.int .i64 V1)) HCL.out HPP.out)
  generalize WL.setCell ⟨p + 1 + 1, 1, none⟩ (.int .i64 V1) = WM at *
  have f2 := HSM.out.b2.free 2
  have z2 := HSM.out.b2.cell 2
  go_upto_region 19 with fail
  clear f2 z2
  have HSN := hid (show Sd w (WM.setCell ⟨p + 1 + 1, 2, none⟩ (.bool true)) p 1 z #[.slice none 0 0, .int .i64 V1, .bool true, .bool false, .int .i64 0] from HSM.out.set 2 _)
  have HRN := hid (rp_setw (i := 2) (u := (.bool true)) HRM.out (fun j e => by have := (H0.out j e).2; have := HPP.out; omega))
  have HCN := hid (chg_setw (i := 2) (u := (.bool true)) HCM.out HPP.out)
  generalize WM.setCell ⟨p + 1 + 1, 2, none⟩ (.bool true) = WN at *
  clear i0 i1 hnX64 hnX hjm hj1 hj0 hn0 hne hjX
  have H64P := hid H64.out
  have H64Q := hid (show (wo V1 l0).length ≤ 64 from Nat.le_trans (wo_le _ _) H64.out)
  obtain ⟨a_, AP, cP, hB, hu, q0, -, hrw, hcc, hcm⟩ := HRN.out.at_ HI.out
  obtain rfl : a = a_ := by simpa using hB
  rw [HL0.out] at hu q0 hrw hcc
  obtain ⟨nP, hnP⟩ : ∃ x, (l0).length = x := ⟨_, rfl⟩
  rw [hnP] at hu q0 hcc
  have HNP := hid hnP
  have hn64 : nP ≤ 64 := by rw [← hnP]; exact H64P.out
  have HUP := hid hu
  have HJLP := hid (show i < _ from HRN.out.ul ▸ HI.out)
  have HRD := hid (HRN.out.draws 1)
  have HWD := hid (hrw.draws 1)
  have HSD := hid (HSN.out.draws 1)
  have HCD := hid (Chg.draws HCN.out 1)
  have c3 := HRN.out.c3
  have y1 := HSN.out.b2.cell 1
  have i1 : (i : Int) < (n : Int) := by have := HI.out; omega
  have i0 : (0 : Int) ≤ (i : Int) := by omega
  clear hu hrw hnP hcm hB
  refine wp_region_noPanic ?_
  refine wp_region_held_drew (S := fun w' => w'.cell? ⟨r, 3, none⟩ = some (.slice (some ⟨a, 0, none⟩) n cv) ∧ w'.cell? ⟨p + 1 + 1, 1, none⟩ = some (.int .i64 V1)) (by kernel_rfl) ?_ (fun hHeld => ?_)
  · exact ⟨c3, y1⟩
  refine tkv 0 (some 119) rfl ?_
  refine tkv 1 (some 120) rfl ?_
  refine tkv 2 (some 121) rfl ?_
  refine tkv 3 (some 122) rfl ?_
  refine tkv 4 (some 123) rfl ?_
  refine tkv 5 (some 124) rfl ?_
  refine tkv 6 (some 125) rfl ?_
  refine tkv 7 (some 126) rfl ?_
  refine tkv 8 (some 127) rfl ?_
  refine tkv 9 (some 128) rfl ?_
  refine tkv 10 (some 129) rfl ?_
  refine tkv 12 (some 131) rfl ?_
  refine tkv 13 (some 132) rfl ?_
  refine tkc 11 (some 130) rfl fun K hK => ?_
  go_simp
  refine hK.out _ _ hHeld (fun hHeld => ?_)
  clear hK K
  (try simp only [Act.put, tkA, tk0, tk1])
  refine tkc 14 (some 133) rfl fun K hK => ?_
  go_simp
  refine (without_any _ AP nP cP (l0) V1 HNP.out hn64 HWD.out.rd).mono ?_
  rintro e2 w2 ⟨A3, c4, rfl, ho, hg⟩
  have HR2 := hid (HRD.out.below hg.nilBelow)
  have HS2 := hid (HSD.out.below hg.nilBelow)
  have HU2 := hid (Rt.told HRD.out.xb ho hg)
  have HC2 := hid (HCD.out.trans (Chg.of hg.nilBelow _))
  generalize (wo V1 l0).length = m3 at HU2 ⊢
  have kp := And.intro HR2.out.c3 (HS2.out.b2.cell 1)
  have f2 := (HR2.out.row.cellAt HJLP.out).2
  have xc := (HR2.out.row.cellAt HJLP.out).1.trans HUP.out
  have HRP := hid (HR2.out.setR HI.out HU2.out)
  have HCP := hid (chg_in HC2.out (show bk (some ⟨a, 0, none⟩) = some a from rfl) i (.slice A3 m3 c4))
  have HSP := hid (HS2.out.far (i := i) (v := .slice A3 m3 c4) HAP.out)
  have kq := And.intro HRP.out.c3 (HSP.out.b2.cell 1)
  clear ho hg
  go_simp
  refine hK.out _ _ kp (fun hHeld => ?_)
  clear hK K
  (try simp only [Act.put, tkA, tk0, tk1])
  refine tkv 15 (some 134) rfl ?_
  refine tkc 16 (none) rfl fun K hK => ?_
  go_simp
  refine hK.out _ _ kq (fun hHeld => ?_)
  clear hK K
  (try simp only [Act.put, tkA, tk0, tk1])
  refine wpAnyH_done (by kernel_rfl) ?_ _
  refine NoPanic.normal ?_
  generalize w2.setCell ⟨a, i, none⟩ (.slice A3 m3 c4) = WP at *
  clear kp kq f2 xc c3 y1 q0 hcc HR2 HS2 HU2 HC2 HRD HWD HSD HCD hn64 i1 i0
  go_upto_region 20 with fail
  obtain ⟨a_, AQ, cQ, hB, hu, q0, -, hrw, hcc, hcm⟩ := HRP.out.at_ HI.out
  obtain rfl : a = a_ := by simpa using hB
  rw [gd_set _ HIS.out, if_pos rfl] at hu q0 hrw hcc
  obtain ⟨nQ, hnQ⟩ : ∃ x, (wo V1 l0).length = x := ⟨_, rfl⟩
  rw [hnQ] at hu q0 hcc
  have HNQ := hid hnQ
  have hn64 : nQ ≤ 64 := by rw [← hnQ]; exact H64Q.out
  have HUQ := hid hu
  have HJLQ := hid (show i < _ from HRP.out.ul ▸ HI.out)
  have HRD := hid (HRP.out.draws 1)
  have HWD := hid (hrw.draws 1)
  have HSD := hid (HSP.out.draws 1)
  have HCD := hid (Chg.draws HCP.out 1)
  have c3 := HRP.out.c3
  have y1 := HSP.out.b0.cell 1
  have i1 : (i : Int) < (n : Int) := by have := HI.out; omega
  have i0 : (0 : Int) ≤ (i : Int) := by omega
  clear hu hrw hnQ hcm hB
  refine wp_region_noPanic ?_
  refine wp_region_held_drew (S := fun w' => w'.cell? ⟨r, 3, none⟩ = some (.slice (some ⟨a, 0, none⟩) n cv) ∧ w'.cell? ⟨p, 1, none⟩ = some (.int .i64 z)) (by kernel_rfl) ?_ (fun hHeld => ?_)
  · exact ⟨c3, y1⟩
  refine tkv 0 (some 135) rfl ?_
  refine tkv 1 (some 136) rfl ?_
  refine tkv 2 (some 137) rfl ?_
  refine tkv 3 (some 138) rfl ?_
  refine tkv 4 (some 139) rfl ?_
  refine tkv 5 (some 140) rfl ?_
  refine tkv 6 (some 141) rfl ?_
  refine tkv 7 (some 142) rfl ?_
  refine tkv 8 (some 143) rfl ?_
  refine tkv 9 (some 144) rfl ?_
  refine tkv 10 (some 145) rfl ?_
  refine tkv 12 (some 147) rfl ?_
  refine tkv 13 (some 148) rfl ?_
  refine tkc 11 (some 146) rfl fun K hK => ?_
  go_simp
  refine hK.out _ _ hHeld (fun hHeld => ?_)
  clear hK K
  (try simp only [Act.put, tkA, tk0, tk1])
  refine tkc 14 (some 149) rfl fun K hK => ?_
  go_simp
  refine (ahead_any _ AQ nQ cQ (wo V1 l0) z HNQ.out hn64 HWD.out.rd).mono ?_
  rintro e2 w2 ⟨A3, c4, rfl, ho, hg⟩
  have HR2 := hid (HRD.out.below hg.nilBelow)
  have HS2 := hid (HSD.out.below hg.nilBelow)
  have HU2 := hid (Rt.told HRD.out.xb ho hg)
  have HC2 := hid (HCD.out.trans (Chg.of hg.nilBelow _))
  generalize (z :: wo V1 l0).length = m3 at HU2 ⊢
  have kp := And.intro HR2.out.c3 (HS2.out.b0.cell 1)
  have f2 := (HR2.out.row.cellAt HJLQ.out).2
  have xc := (HR2.out.row.cellAt HJLQ.out).1.trans HUQ.out
  have HRQ := hid (HR2.out.setR HI.out HU2.out)
  have HCQ := hid (chg_in HC2.out (show bk (some ⟨a, 0, none⟩) = some a from rfl) i (.slice A3 m3 c4))
  have HSQ := hid (HS2.out.far (i := i) (v := .slice A3 m3 c4) HAP.out)
  have kq := And.intro HRQ.out.c3 (HSQ.out.b0.cell 1)
  clear ho hg
  go_simp
  refine hK.out _ _ kp (fun hHeld => ?_)
  clear hK K
  (try simp only [Act.put, tkA, tk0, tk1])
  refine tkv 15 (some 150) rfl ?_
  refine tkc 16 (none) rfl fun K hK => ?_
  go_simp
  refine hK.out _ _ kq (fun hHeld => ?_)
  clear hK K
  (try simp only [Act.put, tkA, tk0, tk1])
  refine wpAnyH_done (by kernel_rfl) ?_ _
  refine NoPanic.normal ?_
  generalize w2.setCell ⟨a, i, none⟩ (.slice A3 m3 c4) = WQ at *
  clear kp kq f2 xc c3 y1 q0 hcc HR2 HS2 HU2 HC2 HRD HWD HSD HCD hn64 i1 i0
  go_wp2_with (first | (refine wpList_load_bx rfl 120 (.tmp 5) rfl (p + 1 + 1) _ _ _ rfl HSQ.out.b2 Tryz.underlying120 rfl (by kernel_rfl) ?_) | (refine wpList_store_bx rfl 120 (.tmp 4) (.tmp 151) rfl rfl (p + 1) _ _ #[.slice none 0 0, .int .i64 V1, .bool true, .bool false, .int .i64 0] rfl rfl HSQ.out.b1 (by kernel_rfl) rfl (by simp [Value.oneCell']) ?_))
  refine bodyPost_ret (results_bx1 rfl _ rfl (HSQ.out.b1.row (cs' := #[.slice none 0 0, .int .i64 V1, .bool true, .bool false, .int .i64 0])) Tryz.underlying120 rfl (by kernel_rfl)) rfl ?_
  have hq := sd_fin (vi := V1) (er := 0) (gn := true) (was := false) HSQ.out H0.out HRQ.out HCQ.out rfl
  rw [List.set_set] at hq
  exact hq
/-- an act, whichever: what comes of it -/
noncomputable def dwV (pt : Nat → Nat) (lp : Nat → Bool) (o : Option Nat) (κ z : Int) (S : List (List Int)) : Int := if κ = 1 then adV pt lp o z S else 0
noncomputable def dwG (pt : Nat → Nat) (o : Option Nat) (κ z : Int) (S : List (List Int)) : Bool := if κ = 1 then adG pt o z S else false
def dwE (pt : Nat → Nat) (o : Option Nat) (κ : Int) : Int := if κ = 1 then adE pt o else 0
noncomputable def dwS (rg : Int → Option Nat) (pt : Nat → Nat) (lp : Nat → Bool) (κ z : Int) (S : List (List Int)) : List (List Int) := if κ = 0 then usS rg z S else if κ = 1 then adS pt lp (rg z) z S else woS z S
theorem rp_do (h : Rp w X r gp b A c hh pf B cv us T rg pt lp n S) (ok : Okp rg pt n S) {z : Int} (hz : zb z) {κ : Int} (hk : 0 ≤ κ ∧ κ ≤ 2) :
    Calls Tryz.prog 73 #[.pointer (some ⟨r, 0, none⟩), .agg #[.int .i64 κ, .int .i64 z]] w (RdQ w X r gp b A c hh pf B cv T rg pt lp n (dwS rg pt lp κ z S) (dwV pt lp (rg z) κ z S) (dwG pt (rg z) κ z S) (dec (inS S z)) (dwE pt (rg z) κ)) := by
  have h3 : κ = 0 ∨ κ = 1 ∨ κ = 2 := by omega
  rcases h3 with rfl | rfl | rfl
  · rw [show dwS rg pt lp 0 z S = usS rg z S from if_pos rfl, show dwV pt lp (rg z) 0 z S = 0 from if_neg (by omega), show dwG pt (rg z) 0 z S = false from if_neg (by omega), show dwE pt (rg z) 0 = 0 from if_neg (by omega)]
    by_cases hx : inS S z
    · obtain ⟨i, hr, hb⟩ := ok.in_.1 hx
      have e : usS rg z S = S.set i (usel z (S.getD i [])) := by
        unfold usS
        rw [dec_true hx, hr]
        rfl
      rw [dec_true hx, e]
      exact rd_was0 h ok hz hr hx
    · have e : usS rg z S = S := by
        unfold usS
        rw [dec_false hx]
        rfl
      rw [dec_false hx, e]
      exact rd_miss0 h ok hz hx
  · rw [show dwS rg pt lp 1 z S = adS pt lp (rg z) z S from (if_neg (by omega)).trans (if_pos rfl), show dwV pt lp (rg z) 1 z S = adV pt lp (rg z) z S from if_pos rfl, show dwG pt (rg z) 1 z S = adG pt (rg z) z S from if_pos rfl, show dwE pt (rg z) 1 = adE pt (rg z) from if_pos rfl]
    cases hr : rg z with
    | none =>
      rw [dec_false (okp_none ok hr)]
      exact rd_none h ok hz (by rw [hr]; rfl) (okp_none ok hr)
    | some i =>
      have hi := h.rl hr
      by_cases hp : pt i = 0
      · have hno : ¬ inS S z := fun hx => by
          obtain ⟨j, h1, h2⟩ := ok.in_.1 hx
          rw [hr] at h1
          injection h1 with h1
          subst h1
          have := ok.le i hi
          have := List.length_pos_of_mem h2
          omega
        have e1 : adG pt (some i) z S = false := by unfold adG; simp [hp]
        have e2 : adV pt lp (some i) z S = 0 := by unfold adV; simp [e1]
        rw [e1, e2, show adE pt (some i) = 5 from if_pos hp, show adS pt lp (some i) z S = S from if_pos hp, dec_false hno]
        exact rd_none h ok hz (by rw [hr]; exact hp) hno
      · rw [show adE pt (some i) = 0 from if_neg hp, show adS pt lp (some i) z S = S.set i (addl (lp i) (pt i) z (S.getD i [])) from if_neg hp]
        by_cases hb : z ∈ S.getD i []
        · have hc : (S.getD i []).contains z = true := by simpa using hb
          have e1 : adG pt (some i) z S = false := by unfold adG; dsimp only; rw [hc]; rfl
          have e2 : adV pt lp (some i) z S = 0 := by unfold adV; dsimp only; rw [e1]; rfl
          have hx : inS S z := ok.in_.2 ⟨i, hr, hb⟩
          rw [e1, e2, show addl (lp i) (pt i) z (S.getD i []) = usel z (S.getD i []) from if_pos hc, dec_true hx]
          exact rd_was1 h ok hz hr hx (by omega)
        · have hc : (S.getD i []).contains z = false := by simpa using hb
          rw [dec_false (okp_out ok hr hb)]
          by_cases hl : pt i ≤ (S.getD i []).length
          · have e1 : adG pt (some i) z S = true := by unfold adG; dsimp only; rw [hc, decide_eq_true hl, decide_eq_true (by omega)]; rfl
            have e2 : adV pt lp (some i) z S = gone (lp i) (S.getD i []) := by unfold adV; dsimp only; rw [e1]; rfl
            rw [e1, e2, show addl (lp i) (pt i) z (S.getD i []) = z :: wo (gone (lp i) (S.getD i [])) (S.getD i []) from by unfold addl; rw [if_neg (by simpa using hb), if_pos hl]]
            cases hlo : lp i with
            | false => exact rd_full0 h ok hz hr (okp_out ok hr hb) (by omega) hl hlo
            | true => exact rd_full1 h ok hz hr (okp_out ok hr hb) (by omega) hl hlo
          · have e1 : adG pt (some i) z S = false := by unfold adG; dsimp only; rw [decide_eq_false hl, Bool.and_false]
            have e2 : adV pt lp (some i) z S = 0 := by unfold adV; dsimp only; rw [e1]; rfl
            rw [e1, e2, show addl (lp i) (pt i) z (S.getD i []) = z :: S.getD i [] from by unfold addl; rw [if_neg (by simpa using hb), if_neg hl]]
            exact rd_room h ok hz hr (okp_out ok hr hb) (by omega)
  · rw [show dwS rg pt lp 2 z S = woS z S from (if_neg (by omega)).trans (if_neg (by omega)), show dwV pt lp (rg z) 2 z S = 0 from if_neg (by omega), show dwG pt (rg z) 2 z S = false from if_neg (by omega), show dwE pt (rg z) 2 = 0 from if_neg (by omega)]
    by_cases hx : inS S z
    · obtain ⟨i, hr, hb⟩ := ok.in_.1 hx
      rw [dec_true hx, okp_woset ok hr (h.rl hr)]
      exact rd_was2 h ok hz hr hx
    · rw [dec_false hx, woS_out hx]
      exact rd_miss2 h ok hz hx
end
end Go.Proofs.YtmfdlkkligjcbaaGreat
