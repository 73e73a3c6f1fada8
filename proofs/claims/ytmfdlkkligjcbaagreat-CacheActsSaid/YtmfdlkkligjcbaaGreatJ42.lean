/-
  What is proved: the reference's New makes the reference's cache with nothing in it. Condition: the configuration is right.
-/
import Derived.Test.YtmfdlkkligjcbaaGreatJ01
import Derived.Test.YtmfdlkkligjcbaaGreatJ41
import Derived.Test.YtmfdlkkligjcbaaGreatJ33
import Derived.Test.YtmfdlkkligjcbaaGreatJ29
namespace Go.Proofs.YtmfdlkkligjcbaaGreat
open Go.RowKit

section
variable {c : Nat → Int} {A : Option Addr} {n cp : Nat} {hh : Nat → Hn} {w : World}
/-- a configuration with hints of its own -/
def OwnQ (w : World) (c : Nat → Int) (n : Nat) (hh : Nat → Hn) (e : Ending) (w' : World) : Prop :=
  ∃ A2 c2, e = .returned (.agg (cfgC c A2 n c2)) ∧ Rv w' w'.heap.size A2 (hvs hh n) ∧ Below w.heap.size w w' ∧ (A2 = none → c2 = 0) ∧ ∀ ad, A2 = some ad → w.heap.size ≤ ad.block ∧ ad.block < w'.heap.size
set_option maxRecDepth 20000 in
set_option maxHeartbeats 1000000 in
theorem own16 (hr : Rv w w.heap.size A (hvs hh n)) (hn : n ≤ 1000) : Calls Tryz.prog 37 #[.agg (cfgC c A n cp)] w (OwnQ w c n hh) := by
  have hb0 := below_alloc w (.cells (cfgC c A n cp) 25)
  have hs : (w.alloc (.cells (cfgC c A n cp) 25)).heap.size = w.heap.size + 1 := World.size_alloc w _
  have hx1 := Bx.new (w.alloc (.cells (cfgC c A n cp) 25)) 25 #[.int .i64 0, .int .i64 0, .int .i64 0, .int .i64 0, .int .i64 0, .int .i64 0, .int .i64 0, .int .i64 0, .int .i64 0, .int .i64 0, .int .i64 0, .int .i64 0, .int .i64 0, .int .i64 0, .int .i64 0, .int .i64 0, .slice none 0 0]
  rw [hs] at hx1
  have HX0 := hid ((Bx.new w 25 (cfgC c A n cp)).next (below_alloc _ (.cells #[.int .i64 0, .int .i64 0, .int .i64 0, .int .i64 0, .int .i64 0, .int .i64 0, .int .i64 0, .int .i64 0, .int .i64 0, .int .i64 0, .int .i64 0, .int .i64 0, .int .i64 0, .int .i64 0, .int .i64 0, .int .i64 0, .slice none 0 0] 25)))
  have HQ0 := hid hx1
  have HW0 := hid (on hb0 (below_alloc _ (.cells #[.int .i64 0, .int .i64 0, .int .i64 0, .int .i64 0, .int .i64 0, .int .i64 0, .int .i64 0, .int .i64 0, .int .i64 0, .int .i64 0, .int .i64 0, .int .i64 0, .int .i64 0, .int .i64 0, .int .i64 0, .int .i64 0, .slice none 0 0] 25)))
  have HR0 := hid ((hr.below HW0.out (Nat.le_refl _)).more HW0.out.size)
  clear hb0 hs hx1 hr
  go_enter Tryz.func37, Tryz.ntmps37
  go_upto_region 1 with fail
  obtain ⟨W0, hW0⟩ : ∃ x, (w.alloc (.cells (cfgC c A n cp) 25)).alloc (.cells #[.int .i64 0, .int .i64 0, .int .i64 0, .int .i64 0, .int .i64 0, .int .i64 0, .int .i64 0, .int .i64 0, .int .i64 0, .int .i64 0, .int .i64 0, .int .i64 0, .int .i64 0, .int .i64 0, .int .i64 0, .int .i64 0, .slice none 0 0] 25) = x := ⟨_, rfl⟩
  obtain ⟨q, hq⟩ : ∃ x, w.heap.size + 1 = x := ⟨_, rfl⟩
  obtain ⟨p, hp⟩ : ∃ x, w.heap.size = x := ⟨_, rfl⟩
  rw [hW0] at HX0 HQ0 HW0 HR0 ⊢
  rw [hq] at HQ0 ⊢
  rw [hp] at HX0 ⊢
  have HPQ := hid (show p ≠ q ∧ w.heap.size ≤ p ∧ w.heap.size ≤ q from ⟨by omega, by omega, by omega⟩)
  clear hW0 hq hp
  have y16 : W0.cell? ⟨p, 16, none⟩ = some (.slice A n cp) := HX0.out.cell 16
  go_upto_region 3 with (at_builtin; refine wpList_appV elt_hint rfl _ _ rfl W0.heap.size _ 0 [] (ownV_nil _ _ _ _) rfl _ _ n cp (hvs hh n) rfl (hvs_length hh n) HR0.out (hvs_one hh n) (by unfold maxLen; omega) (by omega) (Nat.le_refl _) ?_; intro v' w2 hown2 hg2)
  have hb2 : Below W0.heap.size W0 w2 := hg2.below (ownV_nil _ _ 65 4) (Nat.le_refl _)
  rw [List.nil_append, Nat.zero_add] at hown2
  obtain ⟨A', c', rfl, hr', hca, hge⟩ := own_row3 (w := W0) hown2 (Nat.le_refl _)
  have HR2 := hid hr'
  have HC2 := hid hca
  have HG2 := hid hge
  have HX2 := hid (HX0.out.next hb2)
  have HQ2 := hid (HQ0.out.next hb2)
  have HW2 := hid (on HW0.out hb2)
  have HLQ := hid (And.intro HX0.out.lt HQ0.out.lt)
  have HS0 := hid HW0.out.size
  clear y16 hown2 hg2 hb2 hr' hca hge HX0 HQ0 HR0
  have y16 : w2.cell? ⟨p, 16, none⟩ = some (.slice A n cp) := HX2.out.cell 16
  have z16 := HX2.out.free 16
  go_upto_region 4 with fail
  have HX3 := hid (show Bx _ p 25 (cfgC c A' n c') from HX2.out.set 16 (.slice A' n c'))
  have hc3 := chg_one w2 p 16 (.slice A' n c')
  have HQ3 := hid (hc3.bx HQ2.out (fun e => HPQ.out.1 e.symm))
  have HW3 := hid (HW2.out.trans (hc3.bel HW2.out.size fun j e => by rw [e]; exact HPQ.out.2.1))
  have HR3 := hid (hc3.rv HR2.out fun ad e e2 => by have h1 := (HG2.out ad e).1; have h2 := HLQ.out.1; omega)
  have HS3 := hid (setSize w2 ⟨p, 16, none⟩ (.slice A' n c'))
  clear y16 z16 hc3
  generalize w2.setCell ⟨p, 16, none⟩ (.slice A' n c') = w3 at *
  go_wp2_with (first
    | (refine wpList_load_bx rfl 25 (.tmp 1) rfl p _ _ _ rfl HX3.out Tryz.underlying25 rfl (by kernel_rfl) ?_)
    | (refine wpList_store_bx rfl 25 (.tmp 2) (.tmp 10) rfl rfl q _ _ (cfgC c A' n c') rfl rfl HQ3.out (by kernel_rfl) rfl (by simp [cfgC, Value.oneCell']) ?_))
  refine bodyPost_ret (results_bx1 rfl _ rfl (HQ3.out.row (cs' := cfgC c A' n c')) Tryz.underlying25 rfl (by kernel_rfl)) rfl ?_
  have hrow : Chg w3 (w3.setRow q (cfgC c A' n c')) (· = q) (· = q) := chg_row _ _ _
  refine ⟨A', c', rfl, hrow.rv HR3.out fun ad e e2 => by have h1 := (HG2.out ad e).1; have h2 := HLQ.out.2; omega, HW3.out.trans (hrow.bel HW3.out.size fun j e => by rw [e]; exact HPQ.out.2.2), HC2.out, fun ad e => ⟨Nat.le_trans HS0.out (HG2.out ad e).1, ?_⟩⟩
  have h1 := (HG2.out ad e).2
  have h2 := hrow.size
  have h3 := HS3.out
  omega
end
/-- the cache behind p rounds of New: the struct's block r, the world ahead of it w -/
structure Mk16 (w wr : World) (r : Nat) (c : Nat → Int) (A : Option Addr) (n cp T p : Nat) (v : Value) : Prop where
  box : Bx wr r 78 (rcc c A n cp T nl (.pointer none) (.pointer none) v)
  row : OwnW wr 36 v (List.replicate p nl)
  bel : Below w.heap.size w wr
  ne : v.ownBlock ≠ some r
  low : ∀ g, v.ownBlock = some g → w.heap.size ≤ g
  hr : w.heap.size ≤ r
section
variable {w wr w2 : World} {r p n cp T : Nat} {c : Nat → Int} {A : Option Addr} {v v2 : Value}
theorem Mk16.alloc (h : Mk16 w wr r c A n cp T p v) (o : Obj) : Mk16 w (wr.alloc o) r c A n cp T p v :=
  ⟨h.box.alloc o, h.row.below (below_alloc wr o), h.bel.trans ((below_alloc wr o).mono h.bel.size), h.ne, h.low, h.hr⟩
theorem Mk16.more (h : Mk16 w wr r c A n cp T p v) (ho : OwnW w2 36 v2 (List.replicate p nl ++ [nl])) (hg : GrW wr w2 v v2) :
    Bx w2 r 78 (rcc c A n cp T nl (.pointer none) (.pointer none) v) ∧ Mk16 w (w2.setCell ⟨r, 21, none⟩ v2) r c A n cp T (p + 1) v2 := by
  have hx : Bx w2 r 78 (rcc c A n cp T nl (.pointer none) (.pointer none) v) := (hg.other h.box.lt h.ne).trans h.box
  have hlow : ∀ g, v2.ownBlock = some g → w.heap.size ≤ g ∧ g ≠ r := fun g e => by
    rcases hg.at_ with e1 | e1
    · rw [e1] at e
      exact ⟨h.low g e, fun e2 => h.ne (by rw [e, e2])⟩
    · have := e1 g e
      have := h.box.lt
      have := h.hr
      omega
  have hb : Below w.heap.size w w2 := ⟨hg.gr.os.trans h.bel.os, hg.gr.tape.trans h.bel.tape, hg.gr.output.trans h.bel.output, Nat.le_trans h.bel.size hg.gr.size, fun j hj => (hg.gr.block j (Nat.lt_of_lt_of_le hj h.bel.size) (fun e => by have := h.low j e.symm; omega)).trans (h.bel.block j hj)⟩
  refine ⟨hx, hx.set 21 v2, ?_, hb.setCell h.hr _, fun e => (hlow _ e).2 rfl, fun g e => (hlow g e).1, h.hr⟩
  rw [List.replicate_succ']
  exact ho.kept fun j hj => Below.heap_setCell w2 _ _ j (fun e2 => (hlow j hj).2 e2)
end
theorem built_rc (c : Nat → Int) (A : Option Addr) (n cp : Nat) (T : Int) : Tryz.prog.built 78 [(0, .agg (cfgC c A n cp)), (1, .int .i64 T)] = some (rcc c A n cp T nl (.pointer none) (.pointer none) nl) := by kernel_rfl
theorem wpList_bld2 {P : Program} {w : World} {ops : Array Oper} {rest : List Oper} {o : Oper} {a : Act} {Q : Exit → Act → World → Prop} (hgd : o.guard = none) (t : TypeId) (x0 x1 : Operand) (ho : o.op = .build t #[(0, x0), (1, x1)]) (u0 u1 : Value) (h0 : a.eval x0 = u0) (h1 : a.eval x1 = u1) (cs : Array Value)
    (hf : P.built t [(0, u0), (1, u1)] = some cs) (h : wpList P ops Q rest (a.put o.dst (.agg cs)) w) : wpList P ops Q (o :: rest) a w :=
  wpList_plain hgd fun _ hK => wp_build2 t x0 x1 ho u0 u1 h0 h1 cs hf (hK _ _ h)
theorem infoBRow : (Tryz.prog.info? 36).map (fun i => (i.zero, i.size, i.bytes)) = some (some (.slice none 0 0), 1, 24) := by kernel_rfl
theorem elt_brow : Elt Tryz.prog 76 36 (.slice none 0 0) 1 24 := ⟨Tryz.underlying76, infoBRow, rfl, by decide⟩
theorem rs_new16 {w : World} {X : Nat → Prop} {h a p e C N L H : Nat} (hN : N ≤ 8) (hq : Rq w X h a p e C N L H (List.replicate N []) [] (fun _ => 0) (fun _ => 0) 0) : Rs w X h a p e C N L H ⟨List.replicate 9 [], fun _ => 0, fun _ => 0, 0⟩ := by
  refine ⟨fun _ => 0, ?_, fun _ _ => rfl⟩
  show Rq w X h a p e C N L H ((List.replicate 9 ([] : List Int)).take N) [] _ _ _
  rw [List.take_replicate, Nat.min_eq_left (by omega)]
  exact hq
/-- a cache with nothing in it -/
theorem rc_first {w W : World} {X0 Y : Nat → Prop} {r d n cp T cv : Nat} {c : Nat → Int} {A : Option Addr} {lv mv pv : Value} {o : Ob} (hX : ∀ j, X0 j → j < w.heap.size) (hb : Below w.heap.size w W) (box : Bx W r 78 (rcc c A n cp T lv mv pv (.slice (some ⟨d, 0, none⟩) 32 cv)))
    (row : OwnW W 36 (.slice (some ⟨d, 0, none⟩) 32 cv) (List.replicate 32 nl)) (ord : Ro16 W (fun j => X0 j ∨ Y j ∨ j = r ∨ j = d) Y lv mv pv o) (hr : w.heap.size ≤ r) (hd : w.heap.size ≤ d) (hrd : r ≠ d) (hY : ∀ j, Y j → w.heap.size ≤ j ∧ j < W.heap.size ∧ j ≠ r ∧ j ≠ d) :
    Rc W (fun j => X0 j ∨ Y j ∨ j = r ∨ j = d) Y r d c A n cp T lv mv pv cv (List.replicate 32 nl) o (fun _ => []) :=
  { box := box
    ord := ord
    row := row
    dat := fun i u hu => by
      rw [List.eq_of_mem_replicate (List.mem_of_getElem? hu)]
      exact ⟨none, 0, rfl, Rv.nil _ _ _, Nat.le_refl _, by unfold maxLen; omega, fun ad e => by cases e⟩
    yz := fun j hj => .inr (.inl hj)
    zg := .inr (.inr (.inl rfl))
    zd := .inr (.inr (.inr rfl))
    yg := fun hy => (hY r hy).2.2.1 rfl
    yd := fun hy => (hY d hy).2.2.2 rfl
    gd := hrd
    lt := fun j hj => by
      rcases hj with hj | hj | rfl | rfl
      · exact Nat.lt_of_lt_of_le (hX j hj) hb.size
      · exact (hY j hj).2.1
      · exact box.lt
      · exact row.lt rfl }
/-- what New makes; X0: blocks that were there -/
def RNewC (w : World) (X0 : Nat → Prop) (c : Nat → Int) (n : Nat) (hh : Nat → Hn) (T : Nat) (e : Ending) (w' : World) : Prop :=
  ∃ g d A2 cp2 lv mv pv cv us Y, e = .returned (.pointer (some ⟨g, 0, none⟩)) ∧ Below w.heap.size w w' ∧ (∀ j, (Y j ∨ j = g ∨ j = d) → w.heap.size ≤ j ∧ j < w'.heap.size) ∧
    Rc w' (fun j => X0 j ∨ Y j ∨ j = g ∨ j = d) Y g d c A2 n cp2 T lv mv pv cv us (Ob.new c hh n T) (fun _ => [])
theorem rnew_of {w W : World} {X0 Y : Nat → Prop} {r d n cp T cv : Nat} {c : Nat → Int} {hh : Nat → Hn} {A : Option Addr} {lv mv pv : Value} (hX : ∀ j, X0 j → j < w.heap.size) (hb : Below w.heap.size w W) (box : Bx W r 78 (rcc c A n cp T lv mv pv (.slice (some ⟨d, 0, none⟩) 32 cv)))
    (row : OwnW W 36 (.slice (some ⟨d, 0, none⟩) 32 cv) (List.replicate 32 nl)) (ord : Ro16 W (fun j => X0 j ∨ Y j ∨ j = r ∨ j = d) Y lv mv pv (Ob.new c hh n T)) (hr : w.heap.size ≤ r) (hd : w.heap.size ≤ d) (hrd : r ≠ d) (hY : ∀ j, Y j → w.heap.size ≤ j ∧ j < W.heap.size ∧ j ≠ r ∧ j ≠ d) :
    RNewC w X0 c n hh T (.returned (.pointer (some ⟨r, 0, none⟩))) W :=
  ⟨r, d, A, cp, lv, mv, pv, cv, _, Y, rfl, hb, fun j hj => by
    rcases hj with hj | rfl | rfl
    · exact ⟨(hY j hj).1, (hY j hj).2.1⟩
    · exact ⟨hr, box.lt⟩
    · exact ⟨hd, row.lt rfl⟩, rc_first hX hb box row ord hr hd hrd hY⟩
set_option maxRecDepth 20000 in
set_option maxHeartbeats 6000000 in
theorem rc_new {c : Nat → Int} {A : Option Addr} {n cp T : Nat} {hh : Nat → Hn} {w : World} {X0 : Nat → Prop} (rt : RightP c hh n) (hr : Rv w w.heap.size A (hvs hh n)) (t1 : 1 ≤ T) (t3 : T ≤ 3) (hX : ∀ j, X0 j → j < w.heap.size) :
    Calls Tryz.prog 12 #[.agg (cfgC c A n cp), .int .i64 T] w (RNewC w X0 c n hh T) := by
  have hb0 := below_alloc w (.cells (cfgC c A n cp) 25)
  have HX0 := hid (Bx.new w 25 (cfgC c A n cp))
  have hn8 : n ≤ 8 := rt.2.2.2.1
  have HRT := hid rt
  have HB0 := hid hb0
  have HOW := hid (own16 (c := c) (cp := cp) ((hr.below hb0 (Nat.le_refl _)).more hb0.size) (by omega))
  have HXX := hid hX
  clear hr hb0 hX
  go_enter Tryz.func12, Tryz.ntmps12
  go_upto_region 1 with fail
  obtain ⟨W0, hW0⟩ : ∃ x, w.alloc (.cells (cfgC c A n cp) 25) = x := ⟨_, rfl⟩
  obtain ⟨p0, hp0⟩ : ∃ x, w.heap.size = x := ⟨_, rfl⟩
  rw [hW0] at HX0 HB0 HOW ⊢
  rw [hp0] at HX0 ⊢
  clear hW0 hp0
  go_upto_region 2 with (first
    | (refine wpList_load_bx rfl 25 (.tmp 2) rfl p0 _ _ _ rfl HX0.out Tryz.underlying25 rfl (by kernel_rfl) ?_)
    | (go_at_call 37; refine HOW.out.mono ?_; rintro e W1 ⟨A2, c2, rfl, h1, h2, h3, h4⟩; have HR1 := hid h1; have HB1 := hid (on HB0.out h2); have HA1 := hid (fun ad e => And.intro (Nat.le_trans HB0.out.size (h4 ad e).1) (h4 ad e).2); clear h1 h2 h3 h4)
    | (refine wpList_store_new rfl 25 (.tmp 5) (.tmp 9) rfl rfl _ (cfgC c A2 n c2) rfl rfl (by kernel_rfl) rfl (by simp [cfgC, Value.oneCell']) ?_))
  have hb12 := below_alloc W1 (.cells (cfgC c A2 n c2) 25)
  have hq2 := Bx.new W1 25 (cfgC c A2 n c2)
  have HR2 := hid ((HR1.out.below hb12 (Nat.le_refl _)).more hb12.size)
  have HB2 := hid (on HB1.out hb12)
  have HA2 := hid (fun ad e => And.intro (HA1.out ad e).1 (Nat.lt_of_lt_of_le (HA1.out ad e).2 hb12.size))
  obtain ⟨q, hq⟩ : ∃ x, W1.heap.size = x := ⟨_, rfl⟩
  obtain ⟨W2, hW2⟩ : ∃ x, W1.alloc (.cells (cfgC c A2 n c2) 25) = x := ⟨_, rfl⟩
  rw [hW2] at HR2 HB2 HA2 hq2 ⊢
  rw [hq] at hq2 ⊢
  have HQ2 := hid hq2
  clear hW2 hq hq2 hb12 HR1 HB1 HA1 HX0 HOW
  go_upto_region 3 with (first
    | (refine wpList_load_bx rfl 25 (.tmp 5) rfl q _ _ _ rfl HQ2.out Tryz.underlying25 rfl (by kernel_rfl) ?_)
    | (refine wpList_bld2 rfl 78 (.tmp 10) (.tmp 11) rfl (.agg (cfgC c A2 n c2)) (.int .i64 T) rfl rfl _ (built_rc c A2 n c2 T) ?_))
  have HM0 := hid (show Mk16 W2 (W2.alloc (.cells (rcc c A2 n c2 T nl (.pointer none) (.pointer none) nl) 78)) W2.heap.size c A2 n c2 T 0 nl from ⟨Bx.new W2 _ _, ownW_nil _ _, below_alloc W2 _, by simp [Value.ownBlock], fun g e => by simp [Value.ownBlock] at e, Nat.le_refl _⟩)
  obtain ⟨W3, hW3⟩ : ∃ x, W2.alloc (.cells (rcc c A2 n c2 T nl (.pointer none) (.pointer none) nl) 78) = x := ⟨_, rfl⟩
  obtain ⟨r, hr⟩ : ∃ x, W2.heap.size = x := ⟨_, rfl⟩
  have HRR := hid hr
  rw [hW3] at HM0
  rw [hr] at HM0
  first | rw [hW3] | skip
  rw [hr]
  clear hW3 hr
  go_wp2
  go_loopg [7] 32 (fun gk t wr => ∃ (p : Nat) (v : Value), p + gk = 32 ∧ t = .int .i64 p ∧ Mk16 W2 wr r c A2 n c2 T p v)
  case atStart => exact ⟨0, _, by omega, rfl, HM0.out⟩
  case round =>
    obtain ⟨p, v, hp, rfl, hm⟩ := hrel
    obtain ⟨D, cd, e, rd, hc, hcm⟩ := hm.row.read
    rw [List.length_replicate] at e
    subst e
    by_cases hlt : p < 32
    · have h1 : (p : Int) < 32 := by omega
      have c21 : wr.cell? ⟨r, 21, none⟩ = some (.slice D p cd) := hm.box.cell 21
      have HM1 := hid (hm.alloc (.cells #[.slice none 0 0] 36))
      have HR1 := hid (rv_new wr 36 #[.slice none 0 0])
      have HL := hid (show (List.replicate p nl).length = p from List.length_replicate)
      have hlt1 : r < wr.heap.size := hm.box.lt
      clear hm rd hc hcm
      go_upto_region 6 with fail
      go_wp2_with (at_builtin; (refine wpList_appW elt_brow rfl (.tmp 22) (.tmp 23) rfl _ _ HM1.out.row rfl _ _ 1 1 [.slice none 0 0] rfl rfl HR1.out (fun u hu => by simp at hu; subst hu; rfl) (by rw [HL.out]; unfold maxLen; omega) (by rw [HL.out]; omega) ?_); intro v2 w4 hown2 hg2; obtain ⟨X2, M2⟩ := HM1.out.more hown2 hg2; obtain ⟨AA, nn, ac, rfl⟩ : ∃ A n c, v2 = .slice A n c := (by obtain ⟨A, c, e, -⟩ := hown2.read; exact ⟨A, _, c, e⟩); have y0 : w4.cell? ⟨r, 21, none⟩ = some (.slice D p cd) := X2.cell 21; have y1 := X2.free 21; have HM2 := hid M2; clear X2 M2 hown2 hg2)
      go_roundg (gk - 1)
      case measure => omega
      case rel => exact ⟨p + 1, _, by omega, by go_num, HM2.out⟩
    · obtain rfl : p = 32 := by omega
      obtain ⟨d, cv, e9⟩ := hm.row.place (by simp)
      rw [List.length_replicate] at e9
      injection e9 with e7 _ e8
      subst e7
      subst e8
      have HBX := hid hm.box
      have HROW := hid hm.row
      have HBL := hid hm.bel
      have HRD := hid (show r ≠ d from fun e => hm.ne (by rw [e]; rfl))
      have HLD := hid (hm.low d rfl)
      have HQ := hid (HQ2.out.next hm.bel)
      have HRV := hid ((HR2.out.below hm.bel (Nat.le_refl _)).more hm.bel.size)
      have HBW := hid (on HB2.out hm.bel)
      have HR0 := hid (show w.heap.size ≤ r ∧ w.heap.size ≤ d from ⟨by have := HB2.out.size; have := HRR.out; omega, by have := HB2.out.size; have := hm.low d rfl; omega⟩)
      have HLT := hid (show r < wr.heap.size ∧ d < wr.heap.size from ⟨hm.box.lt, hm.row.lt rfl⟩)
      have HAD := hid (show ∀ ad, A2 = some ad → w.heap.size ≤ ad.block ∧ ad.block < wr.heap.size ∧ ad.block ≠ r ∧ ad.block ≠ d from fun ad e => ⟨(HA2.out ad e).1, Nat.lt_of_lt_of_le (HA2.out ad e).2 hm.bel.size, by have := (HA2.out ad e).2; have := HRR.out; omega, by have := (HA2.out ad e).2; have := hm.low d rfl; omega⟩)
      have HT := hid (And.intro t1 t3)
      have HQL := hid (show q < W2.heap.size from HQ2.out.lt)
      clear hm rd hc hcm HM0 HQ2 HR2 HB2 HA2 HB0 hlt hp hn8
      have y5 : wr.cell? ⟨q, 5, none⟩ = some (.int .i64 (c 5)) := HQ.out.cell 5
      have y6 : wr.cell? ⟨q, 6, none⟩ = some (.int .i64 (c 6)) := HQ.out.cell 6
      have y7 : wr.cell? ⟨q, 7, none⟩ = some (.int .i64 (c 7)) := HQ.out.cell 7
      have y8 : wr.cell? ⟨q, 8, none⟩ = some (.int .i64 (c 8)) := HQ.out.cell 8
      by_cases h5 : c 5 = 2
      · have d5 : (c 5 == 2) = true := by rw [h5]; rfl
        have HE := hid (Ob.new_prt (c := c) (hh := hh) (n := n) (T := T) h5)
        obtain ⟨k0, k1, k2, kc, -⟩ := HRT.out.caps
        have HRP := hid (rp_new (A := A2) (n := n) (c := c2) (T := T) (hh := hh) (b := c 2) (u := cps c) (w := wr) (K := fun j => X0 j ∨ j = r ∨ j = d) HRT.out.2.2.2 HRV.out (fun t ht => by have := kc t ht; omega) t1 t3
          (fun ad e => ⟨(HAD.out ad e).2.1, fun hk => by
            have h1 := HAD.out ad e
            rcases hk with hk | hk | hk
            · have := HXX.out _ hk; omega
            · exact h1.2.2.1 hk
            · exact h1.2.2.2 hk⟩)
          (fun j hj => by
            rcases hj with hj | rfl | rfl
            · exact Nat.lt_of_lt_of_le (HXX.out _ hj) HBW.out.size
            · exact HLT.out.1
            · exact HLT.out.2) (fun _ => rfl) (fun _ => rfl) (fun _ => rfl))
        rw [← k0, ← k1, ← k2] at HRP
        have y9 : wr.cell? ⟨q, 9, none⟩ = some (.int .i64 (c 9)) := HQ.out.cell 9
        have y10 : wr.cell? ⟨q, 10, none⟩ = some (.int .i64 (c 10)) := HQ.out.cell 10
        have y11 : wr.cell? ⟨q, 11, none⟩ = some (.int .i64 (c 11)) := HQ.out.cell 11
        have y16 : wr.cell? ⟨q, 16, none⟩ = some (.slice A2 n c2) := HQ.out.cell 16
        clear h5 k0 k1 k2 kc t1 t3 y6 y7 y8
        go_upto_region 11 with (go_at_call 38; refine HRP.out.mono ?_; rintro e W5 ⟨r5, gp, pf, B5, cv5, us5, rfl, h1, h2, h3⟩; have HP5 := hid h1; have HB5 := hid h2; have HK5 := hid h3; have HX5 := hid (HBX.out.next h2); have z20 : W5.cell? ⟨r, 20, none⟩ = some (.pointer none) := HX5.out.cell 20; have f20 := HX5.out.free 20; clear h1 h2 h3)
        have hc := chg_one W5 r 20 (.pointer (some ⟨r5, 0, none⟩))
        have e : (fun j => (X0 j ∨ j = r ∨ j = d) ∨ bk B5 = some j) = (fun j => X0 j ∨ bk B5 = some j ∨ j = r ∨ j = d) := funext fun j => propext ⟨fun h => h.elim (fun h => h.elim .inl fun h => .inr (.inr h)) fun h => .inr (.inl h), fun h => h.elim (fun h => .inl (.inl h)) fun h => h.elim .inr fun h => .inl (.inr h)⟩
        have h1 := HP5.out
        rw [e] at h1
        have HP6 := hid (h1.chg hc (fun j hj => .inr (.inr (.inl hj))) fun j hj hb => by have := HK5.out j hb; have := HLT.out.1; omega)
        have HX6 := hid (show Bx (W5.setCell ⟨r, 20, none⟩ (.pointer (some ⟨r5, 0, none⟩))) r 78 (rcc c A2 n c2 T nl (.pointer none) (.pointer (some ⟨r5, 0, none⟩)) (.slice (some ⟨d, 0, none⟩) 32 cd)) from HX5.out.set 20 (.pointer (some ⟨r5, 0, none⟩)))
        have HO6 := hid ((HROW.out.below HB5.out).kept fun j hj => hc.block j (HROW.out.below HB5.out |>.lt hj) fun e => HRD.out (e.symm.trans (by injection hj with hj; exact hj.symm)))
        have HB6 := hid (show Below w.heap.size w (W5.setCell ⟨r, 20, none⟩ (.pointer (some ⟨r5, 0, none⟩))) from (on HBW.out HB5.out).trans (hc.bel (on HBW.out HB5.out).size fun j e => e ▸ HR0.out.1))
        have HS6 := hid (setSize W5 ⟨r, 20, none⟩ (.pointer (some ⟨r5, 0, none⟩)))
        have HLB := hid (fun j (hj : bk B5 = some j) => h1.xb j (h1.xB j hj))
        clear hc h1 e z20 f20
        generalize W5.setCell ⟨r, 20, none⟩ (.pointer (some ⟨r5, 0, none⟩)) = W6 at *
        go_wp2
        go_ret
        refine rnew_of (Y := fun j => bk B5 = some j) HXX.out HB6.out HX6.out HO6.out ?_ HR0.out.1 HR0.out.2 HRD.out fun j hj => ⟨by have := HK5.out j hj; have := HBW.out.size; omega, by have := HLB.out j hj; have := HS6.out; omega, by have := HK5.out j hj; have := HLT.out.1; omega, by have := HK5.out j hj; have := HLT.out.2; omega⟩
        rw [HE.out]
        exact ⟨r5, gp, c 2, A2, c2, hh, pf, B5, cv5, us5, T, rfl, HP6.out, fun j hj => hj⟩
      · have d5 : (c 5 == 2) = false := by simpa using h5
        obtain ⟨k0, k1, k2, kc, -⟩ := HRT.out.caps
        have l12 : (1 : Int) ≤ c 12 ∧ c 12 ≤ 8 := HRT.out.1 12 (by omega)
        have l13 : (1 : Int) ≤ c 13 ∧ c 13 ≤ 100 := HRT.out.1 13 (by omega)
        have l14 : (0 : Int) ≤ c 14 ∧ c 14 ≤ 16 := HRT.out.1 14 (by omega)
        obtain rfl | rfl | rfl : T = 1 ∨ T = 2 ∨ T = 3 := by omega
        · by_cases h6 : c 6 = 2
          · have d6 : (c 6 == 2) = true := by rw [h6]; rfl
            have HE := hid (Ob.new_mq (c := c) (hh := hh) (n := n) (T := 1) h5 h6)
            have HNQ := hid (show ¬ q = r from fun e => by have := HQL.out; have := HRR.out; omega)
            obtain ⟨W4, hW4⟩ : ∃ x, wr.drew = x := ⟨_, rfl⟩
            have HE4 := hid hW4
            have hb4 : Below wr.heap.size wr W4 := hW4 ▸ below_draws (Below.refl _ _) 1
            have HB4 := hid hb4
            have HQ4 := hid (HQ.out.next hb4)
            have HX4 := hid (HBX.out.next hb4)
            have hrn := rmq_new (cps c 0) (c 12).toNat (c 13).toNat (c 14).toNat ⟨by omega, by omega⟩ W4
            rw [Int.toNat_of_nonneg (show 0 ≤ c 12 by omega), Int.toNat_of_nonneg (show 0 ≤ c 13 by omega), Int.toNat_of_nonneg (show 0 ≤ c 14 by omega), ← k0] at hrn
            have HRN := hid hrn
            have HN8 := hid (show (c 12).toNat ≤ 8 from by omega)
            clear hrn hW4 hb4 h5 h6 k0 k1 k2 kc l12 l13 l14
            go_upto_region 10 with fail
            have htw : IntKind.i64.wrap 0 = 0 := by decide
            clear y5 y6 y7 y8 d5 d6
            refine wp_region_noPanic ?_
            refine wp_region_held_drew (S := fun w' => w'.cell? ⟨q, 9, none⟩ = some (.int .i64 (c 9)) ∧ w'.cell? ⟨q, 12, none⟩ = some (.int .i64 (c 12)) ∧ w'.cell? ⟨q, 13, none⟩ = some (.int .i64 (c 13)) ∧ w'.cell? ⟨q, 14, none⟩ = some (.int .i64 (c 14))) (by kernel_rfl) ?_ (fun hHeld => ?_)
            · rw [HE4.out]; exact ⟨HQ4.out.cell 9, HQ4.out.cell 12, HQ4.out.cell 13, HQ4.out.cell 14⟩
            refine tkv 0 (some 45) rfl ?_
            refine tkv 1 (some 46) rfl ?_
            refine tkv 2 (some 47) rfl ?_
            refine tkv 3 (some 48) rfl ?_
            refine tkv 4 (some 49) rfl ?_
            refine tkv 5 (some 50) rfl ?_
            refine tkv 6 (some 51) rfl ?_
            refine tkv 7 (some 52) rfl ?_
            refine tkv 8 (some 53) rfl ?_
            refine tkv 9 (some 54) rfl ?_
            refine tkv 10 (some 55) rfl ?_
            refine tkv 11 (some 56) rfl ?_
            refine tkc 12 (some 57) rfl fun K hK => ?_
            rw [HE4.out]
            go_simp
            refine HRN.out.mono ?_
            rintro e W5 ⟨h, a, p, e5, rfl, hb5, hlow, hq5⟩
            have HQ5 := hid (HQ4.out.next hb5)
            have HX5 := hid (HX4.out.next hb5)
            have HB5 := hid hb5
            have HLW := hid hlow
            have HRQ := hid hq5
            have kp := And.intro (HQ5.out.cell 9) (And.intro (HQ5.out.cell 12) (And.intro (HQ5.out.cell 13) (HQ5.out.cell 14)))
            have z19 : W5.cell? ⟨r, 19, none⟩ = some (.pointer none) := HX5.out.cell 19
            have f19 := HX5.out.free 19
            clear hb5 hlow hq5
            go_simp
            refine hK.out _ _ kp (fun hHeld => ?_)
            clear hK K
            (try simp only [Act.put, tkA, tk0, tk1])
            refine tkv 13 (some 58) rfl ?_
            refine tkv 14 (some 59) rfl ?_
            refine tkc 15 (none) rfl fun K hK => ?_
            have hc := chg_one W5 r 19 (.pointer (some ⟨h, 0, none⟩))
            have HC6 := hid hc
            have HQ6 := hid (hc.bx HQ5.out (fun e => HNQ.out e))
            have kq := And.intro (HQ6.out.cell 9) (And.intro (HQ6.out.cell 12) (And.intro (HQ6.out.cell 13) (HQ6.out.cell 14)))
            clear hc
            go_simp
            refine hK.out _ _ kq (fun hHeld => ?_)
            clear hK K
            (try simp only [Act.put, tkA, tk0, tk1])
            refine wpAnyH_done (by kernel_rfl) ?_ _
            refine NoPanic.normal ?_
            have hc := HC6.out
            have hrs0 := rs_new16 HN8.out (HRQ.out (fun j => X0 j ∨ j = r ∨ j = d) fun j hj => by
              rcases hj with hj | rfl | rfl
              · exact Nat.lt_of_lt_of_le (HXX.out _ hj) (on HBW.out HB4.out).size
              · exact Nat.lt_of_lt_of_le HLT.out.1 HB4.out.size
              · exact Nat.lt_of_lt_of_le HLT.out.2 HB4.out.size)
            have e : (fun j => (X0 j ∨ j = r ∨ j = d) ∨ Fr h a p e5 j) = (fun j => X0 j ∨ Fr h a p e5 j ∨ j = r ∨ j = d) := funext fun j => propext ⟨fun h => h.elim (fun h => h.elim .inl fun h => .inr (.inr h)) fun h => .inr (.inl h), fun h => h.elim (fun h => .inl (.inl h)) fun h => h.elim .inr fun h => .inl (.inr h)⟩
            rw [e] at hrs0
            have HLB := hid (show ∀ j, Fr h a p e5 j → j < W5.heap.size from fun j hj => hrs0.xf.2 j (.inr (.inl hj)))
            have HS6 := hid (hrs0.chg hc (fun j hj => .inr (.inr (.inl hj))) fun j hj hf => by have := HLW.out j hf; have := HLT.out.1; have := HB4.out.size; omega)
            have HX6 := hid (show Bx (W5.setCell ⟨r, 19, none⟩ (.pointer (some ⟨h, 0, none⟩))) r 78 (rcc c A2 n c2 1 nl (.pointer (some ⟨h, 0, none⟩)) (.pointer none) (.slice (some ⟨d, 0, none⟩) 32 cd)) from HX5.out.set 19 (.pointer (some ⟨h, 0, none⟩)))
            have HO6 := hid (((HROW.out.below HB4.out).below HB5.out).kept fun j hj => hc.block j (((HROW.out.below HB4.out).below HB5.out).lt hj) fun e => HRD.out (e.symm.trans (by injection hj with hj; exact hj.symm)))
            have HB6 := hid (show Below w.heap.size w (W5.setCell ⟨r, 19, none⟩ (.pointer (some ⟨h, 0, none⟩))) from (on (on HBW.out HB4.out) HB5.out).trans (hc.bel (on (on HBW.out HB4.out) HB5.out).size fun j e => e ▸ HR0.out.1))
            have HSZ := hid (setSize W5 ⟨r, 19, none⟩ (.pointer (some ⟨h, 0, none⟩)))
            clear hc hrs0 e z19 f19 HQ6 HC6
            generalize W5.setCell ⟨r, 19, none⟩ (.pointer (some ⟨h, 0, none⟩)) = W6 at *
            go_wp2
            go_ret
            refine rnew_of (Y := Fr h a p e5) HXX.out HB6.out HX6.out HO6.out ?_ HR0.out.1 HR0.out.2 HRD.out fun j hj => ⟨by have := HLW.out j hj; have := (on HBW.out HB4.out).size; omega, by have := HLB.out j hj; have := HSZ.out; omega, by have := HLW.out j hj; have := HLT.out.1; have := HB4.out.size; omega, by have := HLW.out j hj; have := HLT.out.2; have := HB4.out.size; omega⟩
            rw [HE.out]
            exact ⟨rfl, h, a, p, e5, rfl, HS6.out, fun j hj => hj⟩
          · have d6 : (c 6 == 2) = false := by simpa using h6
            have HE := hid (Ob.new_lru (c := c) (hh := hh) (n := n) (T := 1) h5 h6)
            clear h5 h6 k0 k1 k2 kc l12 l13 l14
            go_wp2
            go_ret
            refine rnew_of (Y := fun _ => False) HXX.out HBW.out HBX.out HROW.out ?_ HR0.out.1 HR0.out.2 HRD.out fun j hj => hj.elim
            rw [HE.out]
            exact ⟨rfl, rfl, none, 0, rfl, rw_nil _, Nat.le_refl _, by unfold maxLen; omega, fun ad e => by cases e⟩
        · by_cases h6 : c 7 = 2
          · have d6 : (c 7 == 2) = true := by rw [h6]; rfl
            have HE := hid (Ob.new_mq (c := c) (hh := hh) (n := n) (T := 2) h5 h6)
            have HNQ := hid (show ¬ q = r from fun e => by have := HQL.out; have := HRR.out; omega)
            obtain ⟨W4, hW4⟩ : ∃ x, wr.drew = x := ⟨_, rfl⟩
            have HE4 := hid hW4
            have hb4 : Below wr.heap.size wr W4 := hW4 ▸ below_draws (Below.refl _ _) 1
            have HB4 := hid hb4
            have HQ4 := hid (HQ.out.next hb4)
            have HX4 := hid (HBX.out.next hb4)
            have hrn := rmq_new (cps c 1) (c 12).toNat (c 13).toNat (c 14).toNat ⟨by omega, by omega⟩ W4
            rw [Int.toNat_of_nonneg (show 0 ≤ c 12 by omega), Int.toNat_of_nonneg (show 0 ≤ c 13 by omega), Int.toNat_of_nonneg (show 0 ≤ c 14 by omega), ← k1] at hrn
            have HRN := hid hrn
            have HN8 := hid (show (c 12).toNat ≤ 8 from by omega)
            clear hrn hW4 hb4 h5 h6 k0 k1 k2 kc l12 l13 l14
            go_upto_region 10 with fail
            have htw : IntKind.i64.wrap 1 = 1 := by decide
            clear y5 y6 y7 y8 d5 d6
            refine wp_region_noPanic ?_
            refine wp_region_held_drew (S := fun w' => w'.cell? ⟨q, 10, none⟩ = some (.int .i64 (c 10)) ∧ w'.cell? ⟨q, 12, none⟩ = some (.int .i64 (c 12)) ∧ w'.cell? ⟨q, 13, none⟩ = some (.int .i64 (c 13)) ∧ w'.cell? ⟨q, 14, none⟩ = some (.int .i64 (c 14))) (by kernel_rfl) ?_ (fun hHeld => ?_)
            · rw [HE4.out]; exact ⟨HQ4.out.cell 10, HQ4.out.cell 12, HQ4.out.cell 13, HQ4.out.cell 14⟩
            refine tkv 0 (some 45) rfl ?_
            refine tkv 1 (some 46) rfl ?_
            refine tkv 2 (some 47) rfl ?_
            refine tkv 3 (some 48) rfl ?_
            refine tkv 4 (some 49) rfl ?_
            refine tkv 5 (some 50) rfl ?_
            refine tkv 6 (some 51) rfl ?_
            refine tkv 7 (some 52) rfl ?_
            refine tkv 8 (some 53) rfl ?_
            refine tkv 9 (some 54) rfl ?_
            refine tkv 10 (some 55) rfl ?_
            refine tkv 11 (some 56) rfl ?_
            refine tkc 12 (some 57) rfl fun K hK => ?_
            rw [HE4.out]
            go_simp
            refine HRN.out.mono ?_
            rintro e W5 ⟨h, a, p, e5, rfl, hb5, hlow, hq5⟩
            have HQ5 := hid (HQ4.out.next hb5)
            have HX5 := hid (HX4.out.next hb5)
            have HB5 := hid hb5
            have HLW := hid hlow
            have HRQ := hid hq5
            have kp := And.intro (HQ5.out.cell 10) (And.intro (HQ5.out.cell 12) (And.intro (HQ5.out.cell 13) (HQ5.out.cell 14)))
            have z19 : W5.cell? ⟨r, 19, none⟩ = some (.pointer none) := HX5.out.cell 19
            have f19 := HX5.out.free 19
            clear hb5 hlow hq5
            go_simp
            refine hK.out _ _ kp (fun hHeld => ?_)
            clear hK K
            (try simp only [Act.put, tkA, tk0, tk1])
            refine tkv 13 (some 58) rfl ?_
            refine tkv 14 (some 59) rfl ?_
            refine tkc 15 (none) rfl fun K hK => ?_
            have hc := chg_one W5 r 19 (.pointer (some ⟨h, 0, none⟩))
            have HC6 := hid hc
            have HQ6 := hid (hc.bx HQ5.out (fun e => HNQ.out e))
            have kq := And.intro (HQ6.out.cell 10) (And.intro (HQ6.out.cell 12) (And.intro (HQ6.out.cell 13) (HQ6.out.cell 14)))
            clear hc
            go_simp
            refine hK.out _ _ kq (fun hHeld => ?_)
            clear hK K
            (try simp only [Act.put, tkA, tk0, tk1])
            refine wpAnyH_done (by kernel_rfl) ?_ _
            refine NoPanic.normal ?_
            have hc := HC6.out
            have hrs0 := rs_new16 HN8.out (HRQ.out (fun j => X0 j ∨ j = r ∨ j = d) fun j hj => by
              rcases hj with hj | rfl | rfl
              · exact Nat.lt_of_lt_of_le (HXX.out _ hj) (on HBW.out HB4.out).size
              · exact Nat.lt_of_lt_of_le HLT.out.1 HB4.out.size
              · exact Nat.lt_of_lt_of_le HLT.out.2 HB4.out.size)
            have e : (fun j => (X0 j ∨ j = r ∨ j = d) ∨ Fr h a p e5 j) = (fun j => X0 j ∨ Fr h a p e5 j ∨ j = r ∨ j = d) := funext fun j => propext ⟨fun h => h.elim (fun h => h.elim .inl fun h => .inr (.inr h)) fun h => .inr (.inl h), fun h => h.elim (fun h => .inl (.inl h)) fun h => h.elim .inr fun h => .inl (.inr h)⟩
            rw [e] at hrs0
            have HLB := hid (show ∀ j, Fr h a p e5 j → j < W5.heap.size from fun j hj => hrs0.xf.2 j (.inr (.inl hj)))
            have HS6 := hid (hrs0.chg hc (fun j hj => .inr (.inr (.inl hj))) fun j hj hf => by have := HLW.out j hf; have := HLT.out.1; have := HB4.out.size; omega)
            have HX6 := hid (show Bx (W5.setCell ⟨r, 19, none⟩ (.pointer (some ⟨h, 0, none⟩))) r 78 (rcc c A2 n c2 2 nl (.pointer (some ⟨h, 0, none⟩)) (.pointer none) (.slice (some ⟨d, 0, none⟩) 32 cd)) from HX5.out.set 19 (.pointer (some ⟨h, 0, none⟩)))
            have HO6 := hid (((HROW.out.below HB4.out).below HB5.out).kept fun j hj => hc.block j (((HROW.out.below HB4.out).below HB5.out).lt hj) fun e => HRD.out (e.symm.trans (by injection hj with hj; exact hj.symm)))
            have HB6 := hid (show Below w.heap.size w (W5.setCell ⟨r, 19, none⟩ (.pointer (some ⟨h, 0, none⟩))) from (on (on HBW.out HB4.out) HB5.out).trans (hc.bel (on (on HBW.out HB4.out) HB5.out).size fun j e => e ▸ HR0.out.1))
            have HSZ := hid (setSize W5 ⟨r, 19, none⟩ (.pointer (some ⟨h, 0, none⟩)))
            clear hc hrs0 e z19 f19 HQ6 HC6
            generalize W5.setCell ⟨r, 19, none⟩ (.pointer (some ⟨h, 0, none⟩)) = W6 at *
            go_wp2
            go_ret
            refine rnew_of (Y := Fr h a p e5) HXX.out HB6.out HX6.out HO6.out ?_ HR0.out.1 HR0.out.2 HRD.out fun j hj => ⟨by have := HLW.out j hj; have := (on HBW.out HB4.out).size; omega, by have := HLB.out j hj; have := HSZ.out; omega, by have := HLW.out j hj; have := HLT.out.1; have := HB4.out.size; omega, by have := HLW.out j hj; have := HLT.out.2; have := HB4.out.size; omega⟩
            rw [HE.out]
            exact ⟨rfl, h, a, p, e5, rfl, HS6.out, fun j hj => hj⟩
          · have d6 : (c 7 == 2) = false := by simpa using h6
            have HE := hid (Ob.new_lru (c := c) (hh := hh) (n := n) (T := 2) h5 h6)
            clear h5 h6 k0 k1 k2 kc l12 l13 l14
            go_wp2
            go_ret
            refine rnew_of (Y := fun _ => False) HXX.out HBW.out HBX.out HROW.out ?_ HR0.out.1 HR0.out.2 HRD.out fun j hj => hj.elim
            rw [HE.out]
            exact ⟨rfl, rfl, none, 0, rfl, rw_nil _, Nat.le_refl _, by unfold maxLen; omega, fun ad e => by cases e⟩
        · by_cases h6 : c 8 = 2
          · have d6 : (c 8 == 2) = true := by rw [h6]; rfl
            have HE := hid (Ob.new_mq (c := c) (hh := hh) (n := n) (T := 3) h5 h6)
            have HNQ := hid (show ¬ q = r from fun e => by have := HQL.out; have := HRR.out; omega)
            obtain ⟨W4, hW4⟩ : ∃ x, wr.drew = x := ⟨_, rfl⟩
            have HE4 := hid hW4
            have hb4 : Below wr.heap.size wr W4 := hW4 ▸ below_draws (Below.refl _ _) 1
            have HB4 := hid hb4
            have HQ4 := hid (HQ.out.next hb4)
            have HX4 := hid (HBX.out.next hb4)
            have hrn := rmq_new (cps c 2) (c 12).toNat (c 13).toNat (c 14).toNat ⟨by omega, by omega⟩ W4
            rw [Int.toNat_of_nonneg (show 0 ≤ c 12 by omega), Int.toNat_of_nonneg (show 0 ≤ c 13 by omega), Int.toNat_of_nonneg (show 0 ≤ c 14 by omega), ← k2] at hrn
            have HRN := hid hrn
            have HN8 := hid (show (c 12).toNat ≤ 8 from by omega)
            clear hrn hW4 hb4 h5 h6 k0 k1 k2 kc l12 l13 l14
            go_upto_region 10 with fail
            have htw : IntKind.i64.wrap 2 = 2 := by decide
            clear y5 y6 y7 y8 d5 d6
            refine wp_region_noPanic ?_
            refine wp_region_held_drew (S := fun w' => w'.cell? ⟨q, 11, none⟩ = some (.int .i64 (c 11)) ∧ w'.cell? ⟨q, 12, none⟩ = some (.int .i64 (c 12)) ∧ w'.cell? ⟨q, 13, none⟩ = some (.int .i64 (c 13)) ∧ w'.cell? ⟨q, 14, none⟩ = some (.int .i64 (c 14))) (by kernel_rfl) ?_ (fun hHeld => ?_)
            · rw [HE4.out]; exact ⟨HQ4.out.cell 11, HQ4.out.cell 12, HQ4.out.cell 13, HQ4.out.cell 14⟩
            refine tkv 0 (some 45) rfl ?_
            refine tkv 1 (some 46) rfl ?_
            refine tkv 2 (some 47) rfl ?_
            refine tkv 3 (some 48) rfl ?_
            refine tkv 4 (some 49) rfl ?_
            refine tkv 5 (some 50) rfl ?_
            refine tkv 6 (some 51) rfl ?_
            refine tkv 7 (some 52) rfl ?_
            refine tkv 8 (some 53) rfl ?_
            refine tkv 9 (some 54) rfl ?_
            refine tkv 10 (some 55) rfl ?_
            refine tkv 11 (some 56) rfl ?_
            refine tkc 12 (some 57) rfl fun K hK => ?_
            rw [HE4.out]
            go_simp
            refine HRN.out.mono ?_
            rintro e W5 ⟨h, a, p, e5, rfl, hb5, hlow, hq5⟩
            have HQ5 := hid (HQ4.out.next hb5)
            have HX5 := hid (HX4.out.next hb5)
            have HB5 := hid hb5
            have HLW := hid hlow
            have HRQ := hid hq5
            have kp := And.intro (HQ5.out.cell 11) (And.intro (HQ5.out.cell 12) (And.intro (HQ5.out.cell 13) (HQ5.out.cell 14)))
            have z19 : W5.cell? ⟨r, 19, none⟩ = some (.pointer none) := HX5.out.cell 19
            have f19 := HX5.out.free 19
            clear hb5 hlow hq5
            go_simp
            refine hK.out _ _ kp (fun hHeld => ?_)
            clear hK K
            (try simp only [Act.put, tkA, tk0, tk1])
            refine tkv 13 (some 58) rfl ?_
            refine tkv 14 (some 59) rfl ?_
            refine tkc 15 (none) rfl fun K hK => ?_
            have hc := chg_one W5 r 19 (.pointer (some ⟨h, 0, none⟩))
            have HC6 := hid hc
            have HQ6 := hid (hc.bx HQ5.out (fun e => HNQ.out e))
            have kq := And.intro (HQ6.out.cell 11) (And.intro (HQ6.out.cell 12) (And.intro (HQ6.out.cell 13) (HQ6.out.cell 14)))
            clear hc
            go_simp
            refine hK.out _ _ kq (fun hHeld => ?_)
            clear hK K
            (try simp only [Act.put, tkA, tk0, tk1])
            refine wpAnyH_done (by kernel_rfl) ?_ _
            refine NoPanic.normal ?_
            have hc := HC6.out
            have hrs0 := rs_new16 HN8.out (HRQ.out (fun j => X0 j ∨ j = r ∨ j = d) fun j hj => by
              rcases hj with hj | rfl | rfl
              · exact Nat.lt_of_lt_of_le (HXX.out _ hj) (on HBW.out HB4.out).size
              · exact Nat.lt_of_lt_of_le HLT.out.1 HB4.out.size
              · exact Nat.lt_of_lt_of_le HLT.out.2 HB4.out.size)
            have e : (fun j => (X0 j ∨ j = r ∨ j = d) ∨ Fr h a p e5 j) = (fun j => X0 j ∨ Fr h a p e5 j ∨ j = r ∨ j = d) := funext fun j => propext ⟨fun h => h.elim (fun h => h.elim .inl fun h => .inr (.inr h)) fun h => .inr (.inl h), fun h => h.elim (fun h => .inl (.inl h)) fun h => h.elim .inr fun h => .inl (.inr h)⟩
            rw [e] at hrs0
            have HLB := hid (show ∀ j, Fr h a p e5 j → j < W5.heap.size from fun j hj => hrs0.xf.2 j (.inr (.inl hj)))
            have HS6 := hid (hrs0.chg hc (fun j hj => .inr (.inr (.inl hj))) fun j hj hf => by have := HLW.out j hf; have := HLT.out.1; have := HB4.out.size; omega)
            have HX6 := hid (show Bx (W5.setCell ⟨r, 19, none⟩ (.pointer (some ⟨h, 0, none⟩))) r 78 (rcc c A2 n c2 3 nl (.pointer (some ⟨h, 0, none⟩)) (.pointer none) (.slice (some ⟨d, 0, none⟩) 32 cd)) from HX5.out.set 19 (.pointer (some ⟨h, 0, none⟩)))
            have HO6 := hid (((HROW.out.below HB4.out).below HB5.out).kept fun j hj => hc.block j (((HROW.out.below HB4.out).below HB5.out).lt hj) fun e => HRD.out (e.symm.trans (by injection hj with hj; exact hj.symm)))
            have HB6 := hid (show Below w.heap.size w (W5.setCell ⟨r, 19, none⟩ (.pointer (some ⟨h, 0, none⟩))) from (on (on HBW.out HB4.out) HB5.out).trans (hc.bel (on (on HBW.out HB4.out) HB5.out).size fun j e => e ▸ HR0.out.1))
            have HSZ := hid (setSize W5 ⟨r, 19, none⟩ (.pointer (some ⟨h, 0, none⟩)))
            clear hc hrs0 e z19 f19 HQ6 HC6
            generalize W5.setCell ⟨r, 19, none⟩ (.pointer (some ⟨h, 0, none⟩)) = W6 at *
            go_wp2
            go_ret
            refine rnew_of (Y := Fr h a p e5) HXX.out HB6.out HX6.out HO6.out ?_ HR0.out.1 HR0.out.2 HRD.out fun j hj => ⟨by have := HLW.out j hj; have := (on HBW.out HB4.out).size; omega, by have := HLB.out j hj; have := HSZ.out; omega, by have := HLW.out j hj; have := HLT.out.1; have := HB4.out.size; omega, by have := HLW.out j hj; have := HLT.out.2; have := HB4.out.size; omega⟩
            rw [HE.out]
            exact ⟨rfl, h, a, p, e5, rfl, HS6.out, fun j hj => hj⟩
          · have d6 : (c 8 == 2) = false := by simpa using h6
            have HE := hid (Ob.new_lru (c := c) (hh := hh) (n := n) (T := 3) h5 h6)
            clear h5 h6 k0 k1 k2 kc l12 l13 l14
            go_wp2
            go_ret
            refine rnew_of (Y := fun _ => False) HXX.out HBW.out HBX.out HROW.out ?_ HR0.out.1 HR0.out.2 HRD.out fun j hj => hj.elim
            rw [HE.out]
            exact ⟨rfl, rfl, none, 0, rfl, rw_nil _, Nat.le_refl _, by unfold maxLen; omega, fun ad e => by cases e⟩
end Go.Proofs.YtmfdlkkligjcbaaGreat
