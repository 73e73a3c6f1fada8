/-
  What is proved: what an array's calls of its cache come to; hold: a block is held, or not, what is told of the one that goes. Condition: as many as 10000000 uses at most.
-/
import Derived.Test.YtbcejfonkehjgaaGreatDoorK39
import Derived.Deep.RegionHeld3
namespace Go.Proofs.YtbcejfonkehjgaaGreatDoor
open Go.RowKit

def puO (c : Nat → Int) (o : Ob) (b lv : Int) (k : Nat) : Ob := if putR c 3 o b lv k = 0 then o.add b else o
def puD (c : Nat → Int) (o : Ob) (D : Int → List Int) (b lv : Int) (l : List Int) : Int → List Int := if putR c 3 o b lv l.length = 0 then updB D b l else D
def puG (c : Nat → Int) (o : Ob) (b lv : Int) (k : Nat) : Bool := decide (putR c 3 o b lv k = 0) && o.gn b
section
variable {w w' : World} {K : AC} {st : St} {o o' : Ob} {D D' : Int → List Int} {B B' : Nat} {r : Int} {dn : Bool} {A1 : Option Addr} {k1 c1 : Nat} {l : List Int} {P Q : Nat → Prop}
theorem Am.up (h : Am w K st o D B r dn) (hB : B ≤ B') : Am w K st o D B' r dn := { h with cm := h.cm.up hB }
theorem AC.wide_own (K : AC) : ∀ j, (K.F j ∨ j = K.M) → K.own j := fun _ hj => hj.elim .inl fun e => .inr (.inr e)
theorem by_len {X : Nat → Prop} (h : By w X (.slice A1 k1 c1) l) : k1 = l.length := by
  obtain ⟨A, c, e, _⟩ := h
  injection e
theorem cput_any (h : Am w K st o D B r dn) (hB : B ≤ 10000000) (hd : By w K.X (.slice A1 k1 c1) l) (b lv : Int) :
    Calls Tryz.prog 92 #[.pointer (some ⟨K.G, 0, none⟩), .agg #[.int .i64 b, .slice A1 k1 c1], .int .i64 lv] w fun e w' =>
      ∃ x A5 k5 c5 z, e = .returned (.tuple #[.agg #[.int .i64 x, .slice A5 k5 c5], .bool (puG K.c o b lv l.length), .int .i64 z]) ∧ Am w' K st (puO K.c o b lv l.length) (puD K.c o D b lv l) (B + 1) r dn ∧ Chg w w' K.own K.own ∧ (puG K.c o b lv l.length = true → x = o.vi b) := by
  obtain rfl := by_len hd
  refine (cm_put h.cm hB hd lv).mono fun e w' hp => ?_
  rcases hp with ⟨h1, h2, h3⟩ | ⟨h1, h2, h3, x, u, h4, h5, h6, h7, h8⟩
  · have e0 : puG K.c o b lv l.length = false := by unfold puG; rw [decide_eq_false (by exact h1), Bool.false_and]
    refine ⟨0, none, 0, 0, putR K.c 3 o b lv l.length, ?_, ?_, Chg.of h3 _, fun h9 => by rw [e0] at h9; cases h9⟩
    · rw [e0]; exact h2
    · unfold puO puD
      rw [if_neg (by exact h1), if_neg (by exact h1)]
      exact (h.below h3).up (Nat.le_succ _)
  · have e0 : puG K.c o b lv l.length = o.gn b := by unfold puG; rw [decide_eq_true (by exact h1), Bool.true_and]
    have hsl : ∃ A5 k5 c5, u = .slice A5 k5 c5 := by
      cases hg : o.gn b with
      | true => obtain ⟨_, A, c, e, _⟩ := h7 hg; exact ⟨_, _, _, e⟩
      | false => exact ⟨_, _, _, (h8 hg).2⟩
    obtain ⟨A5, k5, c5, rfl⟩ := hsl
    refine ⟨x, A5, k5, c5, 0, by rw [e0]; exact h4, ?_, h6.wide K.wide_own, fun h9 => (h7 (by rw [← e0]; exact h9)).1⟩
    unfold puO puD
    rw [if_pos (by exact h1), if_pos (by exact h1)]
    exact h.cache h6 K.wide_own h5 fun y hy => (((Ob.add_mem h.cm.ok h3).1 y).1 hy).elim (fun e => e ▸ h2) fun h9 => h.dom y h9.1
theorem cdrop_any (h : Am w K st o D B r dn) (b : Int) : Calls Tryz.prog 93 #[.pointer (some ⟨K.G, 0, none⟩), .int .i64 b] w fun e w' => ∃ y, e = .returned y ∧ Am w' K st (o.rem b) D (B + 1) r dn ∧ Chg w w' K.own K.own := by
  refine (cm_drop h.cm b).mono fun e w' ⟨b', u, h1, h2, h3, _, _⟩ => ⟨_, h1, ?_, h3.wide K.wide_own⟩
  exact h.cache h3 K.wide_own h2 fun y hy => h.dom y ((Ob.rem_mem h.cm.ok b y).1 hy).1
theorem cuse_any (h : Am w K st o D B r dn) (hB : B ≤ 10000000) (b : Int) : Calls Tryz.prog 88 #[.pointer (some ⟨K.G, 0, none⟩), .int .i64 b] w fun e w' =>
    ∃ u, e = .returned (.tuple #[u, .bool (dec (b ∈ o.all))]) ∧ Am w' K st (o.use b) D (B + 1) r dn ∧ Chg w w' K.own K.own ∧ (b ∈ o.all → By w' K.X u (D b)) ∧ (b ∉ o.all → u = .slice none 0 0) := by
  refine (cm_use h.cm hB b).mono fun e w' ⟨u, h1, h2, h3, h4, h5⟩ => ⟨u, h1, ?_, h3.wide fun j hj => .inl hj, h4, h5⟩
  exact h.cache h3 (fun j hj => .inl hj) h2 fun y hy => h.dom y ((Ob.use_mem h.cm.ok b y).1 hy)
def AC.and (K : AC) (u : Value) : AC := { K with X := fun j => K.X j ∨ u.ownBlock = some j }
theorem Am.congr {Y Z : Nat → Prop} (h : Am w { K with X := Y } st o D B r dn) (e : ∀ j, Y j ↔ Z j) : Am w { K with X := Z } st o D B r dn := by
  rw [show Z = Y from funext fun j => propext (e j).symm]
  exact h
theorem Am.nil (h : Am w K st o D B r dn) : Am w (K.and (.slice none 0 0)) st o D B r dn := Am.congr (K := K) (Y := K.X) h fun j => ⟨.inl, fun h1 => h1.elim id fun e => by simp [Value.ownBlock] at e⟩
noncomputable def hdS (c : Nat → Int) (o : Ob) (b lv : Int) : Bool := decide (c 4 = 2) && !forA c o b lv
noncomputable def hdO (c : Nat → Int) (o : Ob) (b lv : Int) (k : Nat) : Ob := if hdS c o b lv = true then o.rem b else puO c o b lv k
noncomputable def hdD (c : Nat → Int) (o : Ob) (D : Int → List Int) (b lv : Int) (l : List Int) : Int → List Int := if hdS c o b lv = true then D else puD c o D b lv l
noncomputable def hdT (c : Nat → Int) (o : Ob) (b lv : Int) (k : Nat) : List Tm := if hdS c o b lv = true then [] else if puG c o b lv k = true ∧ c 4 = 1 then [tmI (o.vi b)] else []
def HoldQ (w : World) (K : AC) (st : St) (_ o2 : Ob) (D2 : Int → List Int) (B : Nat) (r : Int) (dn : Bool) (L : List Tm) (e : Ending) (w' : World) : Prop :=
  ∃ u, e = .returned u ∧ Am w' (K.and u) st o2 D2 (B + 1) r dn ∧ Chg w w' K.own K.own ∧ Tlv w' w.heap.size (K.and u).X u L
set_option maxRecDepth 20000 in
set_option maxHeartbeats 2000000 in
theorem hold_drop (h : Am w K st o D B r dn) (hB : B ≤ 10000000) (hd : By w K.X (.slice A1 k1 c1) l) (b lv : Int) (h4 : K.c 4 = 2) (hf : forA K.c o b lv = false) : Calls Tryz.prog 89 #[K.ptr, .agg #[.int .i64 b, .slice A1 k1 c1], .int .i64 lv] w (HoldQ w K st o (o.rem b) D B r dn []) := by
  have d4 : ((K.c 4 : Int) == 2) = true := by simpa using h4
  unfold AC.ptr
  have hb0 := below_alloc w (.cells #[.int .i64 b, .slice A1 k1 c1] 88)
  have HX0 := hid (Bx.new w 88 #[.int .i64 b, .slice A1 k1 c1])
  have HB0 := hid hb0
  have H0 := hid (h.below hb0)
  have HD0 := hid (hd.below hb0)
  have HNP := hid (show ∀ j, K.X j → j ≠ w.heap.size from fun j hj => by have := h.cm.lt j hj; omega)
  have HBB := hid hB
  clear hb0 h hd hB
  go_enter Tryz.func89, Tryz.ntmps89
  go_upto_region 1 with fail
  obtain ⟨W0, hW0⟩ : ∃ x, w.alloc (.cells #[.int .i64 b, .slice A1 k1 c1] 88) = x := ⟨_, rfl⟩
  obtain ⟨p, hp⟩ : ∃ x, w.heap.size = x := ⟨_, rfl⟩
  rw [hW0] at HX0 HB0 H0 HD0 ⊢
  rw [hp] at HX0 HNP ⊢
  have HW := hid hp
  clear hW0 hp
  have y0 : W0.cell? ⟨p, 0, none⟩ = some (.int .i64 b) := HX0.out.cell 0
  have y4 : W0.cell? ⟨K.g, 0, none⟩ = some (.int .i64 (K.c 4)) := H0.out.bx.cell 0
  have HI := hid (hf ▸ isfor_any H0.out b lv)
  clear h4 hf
  go_upto_region 2 with (go_at_call 91; refine HI.out.mono ?_; rintro e W1 ⟨rfl, hb⟩; have HB1 := hid hb; clear hb)
  have H1 := hid (H0.out.below HB1.out)
  have HX1 := hid (HX0.out.next HB1.out)
  clear y0 y4
  have y0 : W1.cell? ⟨p, 0, none⟩ = some (.int .i64 b) := HX1.out.cell 0
  have y2 : W1.cell? ⟨K.g, 2, none⟩ = some (.pointer (some ⟨K.G, 0, none⟩)) := H1.out.bx.cell 2
  go_region_held3 (fun y => y.cell? ⟨p, 0, none⟩ = some (.int .i64 b) ∧ y.cell? ⟨K.g, 2, none⟩ = some (.pointer (some ⟨K.G, 0, none⟩))) (first | exact kp | exact ⟨y0, y2⟩) ((go_at_call 93; refine (cdrop_any (H1.out.draws 1) b).mono ?_; rintro e W2 ⟨y, rfl, ha, hc⟩; have H2 := hid ha; have HC2 := hid hc; have kp := And.intro ((hc.bx (HX1.out.draws 1) (fun ho => HNP.out p (H1.out.mine_x p (.inl ho)) rfl)).cell 0) (ha.bx.cell 2); clear ha hc))
  go_wp2
  go_ret
  exact ⟨_, rfl, H2.out.nil, (Chg.of HB0.out _).trans ((Chg.of (below_draws HB1.out 1) _).trans HC2.out), tlv_nil _ _ _⟩
theorem Am.with_new (h : Am w K st o D B r dn) (ob : Obj) : Am (w.alloc ob) { K with X := fun j => K.X j ∨ j = w.heap.size } st o D B r dn := by
  have hb := h.below (below_alloc w ob)
  have hd := (h.sx.dk).row
  exact { bx := hb.bx, sx := hb.sx, cm := Cm.with_new h.cm ob, xd := fun j hj => .inl (h.xd j hj), xg := .inl h.xg, nd := h.nd, ng := h.ng, gd := h.gd, ns := h.ns, dom := h.dom
          off := fun g hg i A m c hi hcell hm => by
            have hlt := (h.sx.dk.rowLt hg).2
            have h0 : w.cell? ⟨g, i, none⟩ = some (.slice (some A) m c) := by rw [← hcell]; exact ((below_alloc w ob).cell (p := ⟨g, i, none⟩) hlt).symm
            refine fun hx => hx.elim (h.off g hg i A m c hi h0 hm) fun e => ?_
            obtain ⟨us, hw, hu⟩ := h.sx.dk.row
            have hil : i < st.L.length := hi
            obtain ⟨u, e1, A', c', rfl, hr, _⟩ := hu i _ (List.getElem?_eq_getElem hil)
            obtain ⟨g', c2, hvv, _, _⟩ := World.ownsRow.form hw (by omega)
            rw [hvv] at hw hg
            have eg : g' = g := by simpa [Value.ownBlock] using hg
            subst eg
            have h3 := World.ownsRow.cellAt hw i (by omega)
            rw [h0, e1] at h3
            injection h3 with h3
            injection h3 with e3 e4 e5
            subst e3
            obtain ⟨ad, e6, hlt2, _⟩ := Rd.get hr (k := 0) (by omega)
            injection e6 with e6
            subst e6
            omega }
theorem Am.other (h : Am w K st o D B r dn) (hc : Chg w w' P Q) (hX : ∀ j, P j → K.X j) (hm : ∀ j, P j → ¬ K.mine j ∧ j ≠ K.ks) : Am w' K st o D B r dn := by
  obtain ⟨h1, h2⟩ := h.sx.dk.chgX h.off hc hX (fun hp => (hm _ hp).1 (.inr (.inl (.inl rfl)))) fun g hg hp => (hm _ hp).1 (.inr (.inl (.inr hg)))
  exact { bx := hc.bx h.bx fun hp => (hm _ hp).1 (.inr (.inr rfl)), sx := ⟨h1, hc.bx h.sx.bx fun hp => (hm _ hp).2 rfl, h.sx.ok, h.sx.len, h.sx.by_⟩
          cm := h.cm.chg hc hX fun j hj => ⟨fun hf => (hm j hj).1 (.inl (.inl hf)), fun e => (hm j hj).1 (.inl (.inr (.inl e))), fun e => (hm j hj).1 (.inl (.inr (.inr e)))⟩
          off := h2, xd := h.xd, xg := h.xg, nd := h.nd, ng := h.ng, gd := h.gd, ns := h.ns, dom := h.dom }
theorem Am.less {Y : Nat → Prop} (h : Am w { K with X := Y } st o D B r dn) (hY : ∀ j, K.X j → Y j) (hm : ∀ j, K.mine j → K.X j) : Am w K st o D B r dn :=
  { bx := h.bx, sx := h.sx, cm := Cm.less h.cm hY fun j hj => hm j (.inl hj), off := fun g hg i A m c hi hcell h0 hx => h.off g hg i A m c hi hcell h0 (hY _ hx)
    xd := fun j hj => hm j (.inr (.inl hj)), xg := hm _ (.inr (.inr rfl)), nd := h.nd, ng := h.ng, gd := h.gd, ns := h.ns, dom := h.dom }
def zfr : Array Value := #[.int .i64 0, .slice none 0 0]
theorem cput_new (h : Am w K st o D B r dn) (hB : B ≤ 10000000) (hd : By w K.X (.slice A1 k1 c1) l) (b lv : Int) (zf : Array Value) :
    Calls Tryz.prog 92 #[.pointer (some ⟨K.G, 0, none⟩), .agg #[.int .i64 b, .slice A1 k1 c1], .int .i64 lv] (w.alloc (.cells zf 88)).drew fun e w' =>
      ∃ x A5 k5 c5 z, e = .returned (.tuple #[.agg #[.int .i64 x, .slice A5 k5 c5], .bool (puG K.c o b lv l.length), .int .i64 z]) ∧ Am w' K st (puO K.c o b lv l.length) (puD K.c o D b lv l) (B + 1) r dn ∧ Chg (w.alloc (.cells zf 88)).drew w' K.own K.own ∧ (puG K.c o b lv l.length = true → x = o.vi b) ∧
        (∀ u1 u2, Am ((w'.setCell ⟨w.heap.size, 0, none⟩ u1).setCell ⟨w.heap.size, 1, none⟩ u2) K st (puO K.c o b lv l.length) (puD K.c o D b lv l) (B + 1) r dn ∧ Chg w ((w'.setCell ⟨w.heap.size, 0, none⟩ u1).setCell ⟨w.heap.size, 1, none⟩ u2) K.own K.own) := by
  have hmx := h.mine_x
  have hlt := h.cm.lt
  have hn : ∀ j, K.mine j ∨ j = K.ks → j ≠ w.heap.size := fun j hj e => by
    rcases hj with hj | hj
    · have := hlt _ (hmx _ hj); omega
    · have := h.sx.bx.lt; omega
  have hd2 : By (w.alloc (.cells zf 88)).drew (fun j => K.X j ∨ j = w.heap.size) (.slice A1 k1 c1) l := by
    have h1 : By w (fun j => K.X j ∨ j = w.heap.size) (.slice A1 k1 c1) l := hd.more fun j hj => hj.imp id fun e => by omega
    exact (h1.below (below_alloc _ _)).below (below_draws (Below.refl _ _) 1)
  refine (cput_any ((h.with_new (.cells zf 88)).draws 1) hB hd2 b lv).mono fun e w' ⟨x, A5, k5, c5, z, h1, h2, h3, h4⟩ => ⟨x, A5, k5, c5, z, h1, h2.less (fun j hj => .inl hj) hmx, h3, h4, fun u1 u2 => ?_⟩
  constructor
  · have c1 := set_chg w' ⟨w.heap.size, 0, none⟩ u1
    have c2 := set_chg (w'.setCell ⟨w.heap.size, 0, none⟩ u1) ⟨w.heap.size, 1, none⟩ u2
    have hq : ∀ j, j = w.heap.size → ¬ K.mine j ∧ j ≠ K.ks := fun j e => ⟨fun hj => hn j (.inl hj) e, fun hj => hn j (.inr hj) e⟩
    exact ((h2.other c1 (fun j e => .inr e) hq).other c2 (fun j e => .inr e) hq).less (fun j hj => .inl hj) hmx
  · have c0 : Chg w (w.alloc (.cells zf 88)).drew K.own K.own := Chg.of (below_draws (below_alloc _ _) 1) _
    have c1 : Chg w w' K.own K.own := c0.trans h3
    exact ⟨c1.os, c1.tape, c1.output, by rw [setSize, setSize]; exact c1.size, fun j hj hf => by
      rw [Below.heap_setCell _ _ _ j (show j ≠ w.heap.size by omega), Below.heap_setCell _ _ _ j (show j ≠ w.heap.size by omega)]
      exact c1.block j hj hf, fun _ hj => .inl hj⟩
theorem frm_range {w : World} {p : Nat} {b : Int} {A1 : Option Addr} {k1 c1 : Nat} (h : Bx w p 88 #[.int .i64 b, .slice A1 k1 c1]) : w.rangeAt p 0 (#[.int .i64 b, .slice A1 k1 c1] : Array Value).toList := fun j u hj => by
  rw [Nat.zero_add, h.cell]
  rcases j with _ | _ | j
  · exact hj
  · exact hj
  · simp at hj
set_option maxRecDepth 20000 in
set_option maxHeartbeats 2000000 in
theorem hold_put (h : Am w K st o D B r dn) (hB : B ≤ 10000000) (hd : By w K.X (.slice A1 k1 c1) l) (b lv : Int) (hs : K.c 4 = 2 → forA K.c o b lv = true) : Calls Tryz.prog 89 #[K.ptr, .agg #[.int .i64 b, .slice A1 k1 c1], .int .i64 lv] w (HoldQ w K st o (puO K.c o b lv l.length) (puD K.c o D b lv l) B r dn (if puG K.c o b lv l.length = true ∧ K.c 4 = 1 then [tmI (o.vi b)] else [])) := by
  have h44 : (((K.c 4 : Int) == 2) = true ∧ forA K.c o b lv = true) ∨ ((K.c 4 : Int) == 2) = false := by
    by_cases h4 : K.c 4 = 2
    · exact .inl ⟨by simpa using h4, hs h4⟩
    · exact .inr (by simpa using h4)
  obtain ⟨tl, htl⟩ : ∃ t, (if puG K.c o b lv l.length = true ∧ K.c 4 = 1 then [tmI (o.vi b)] else []) = t := ⟨_, rfl⟩
  have HTL := hid htl
  rw [htl]
  clear htl
  unfold AC.ptr
  have hb0 := below_alloc w (.cells #[.int .i64 b, .slice A1 k1 c1] 88)
  have HX0 := hid (Bx.new w 88 #[.int .i64 b, .slice A1 k1 c1])
  have HB0 := hid hb0
  have H0 := hid (h.below hb0)
  have HD0 := hid (hd.below hb0)
  have HNP := hid (show ∀ j, K.X j → j ≠ w.heap.size from fun j hj => by have := h.cm.lt j hj; omega)
  have HBB := hid hB
  clear hb0 h hd hB
  go_enter Tryz.func89, Tryz.ntmps89
  go_upto_region 1 with fail
  obtain ⟨W0, hW0⟩ : ∃ x, w.alloc (.cells #[.int .i64 b, .slice A1 k1 c1] 88) = x := ⟨_, rfl⟩
  obtain ⟨p, hp⟩ : ∃ x, w.heap.size = x := ⟨_, rfl⟩
  rw [hW0] at HX0 HB0 H0 HD0 ⊢
  rw [hp] at HX0 HNP ⊢
  have HW := hid hp
  clear hW0 hp
  have y0 : W0.cell? ⟨p, 0, none⟩ = some (.int .i64 b) := HX0.out.cell 0
  have y4 : W0.cell? ⟨K.g, 0, none⟩ = some (.int .i64 (K.c 4)) := H0.out.bx.cell 0
  have HI := hid (isfor_any H0.out b lv)
  clear hs
  go_cut [22] from 10 to 22 (fun s wx => s = .bool false ∧ Below W0.heap.size W0 wx)
  case first =>
    rcases h44 with ⟨d4, hf⟩ | d4
    · go_wp2_with (go_at_call 91; refine HI.out.mono ?_; rintro e W1 ⟨rfl, hb⟩; have HB1 := hid hb; clear hb; rw [hf])
      go_meet
      exact ⟨rfl, HB1.out⟩
    · go_wp2_with fail
      go_meet
      exact ⟨rfl, Below.refl _ _⟩
  case rest =>
  obtain ⟨rfl, hb1⟩ := hcut
  obtain ⟨W1, hW1⟩ : ∃ x, wc = x := ⟨_, rfl⟩
  rw [hW1] at hb1 ⊢
  clear hW1
  have HB1 := hid hb1
  have H1 := hid (H0.out.below hb1)
  have HX1 := hid (HX0.out.next hb1)
  have HD1 := hid (HD0.out.below hb1)
  have y2 : W1.cell? ⟨K.g, 2, none⟩ = some (.pointer (some ⟨K.G, 0, none⟩)) := H1.out.bx.cell 2
  clear y0 y4 hb1 HI h44 HX0 H0 HD0
  have HNQ := hid (show ∀ j, K.X j → j ≠ W1.heap.size from fun j hj => by have := H1.out.cm.lt j hj; omega)
  have HQP := hid (show (W1.heap.size : Nat) ≠ p from fun e => by have := HX1.out.lt; omega)
  go_upto_region 4 with fail
  go_cut [7, 8, 9] from 30 to 40 (fun s7 s8 s9 wx => ∃ q x A5 k5 c5, s7 = .pointer (some ⟨q, 0, none⟩) ∧ s8 = .bool (puG K.c o b lv l.length) ∧ Bx wx q 88 #[.int .i64 x, .slice A5 k5 c5] ∧ Am wx K st (puO K.c o b lv l.length) (puD K.c o D b lv l) (B + 1) r dn ∧ Chg W1 wx K.own K.own ∧ (puG K.c o b lv l.length = true → x = o.vi b))
  case first =>
    have kal := hid (And.intro (frm_range ((HX1.out.alloc (.cells zfr 88)).draws 1)) (((H1.out.bx.alloc (.cells zfr 88)).draws 1).cell 2))
    refine wp_region_noPanic ?_
    refine wp_region_held_drew (S := fun y => y.rangeAt p 0 (#[.int .i64 b, .slice A1 k1 c1] : Array Value).toList ∧ y.cell? ⟨K.g, 2, none⟩ = some (.pointer (some ⟨K.G, 0, none⟩))) (by kernel_rfl) ?_ (fun hHeld => ?_)
    · exact ⟨frm_range HX1.out, y2⟩
    refine wpAnyH_take (i := 0) (oi := ⟨some 31, _, _, _, _, _⟩) (v := ?_) rfl (by kernel_rfl) (by kernel_rfl) (by kernel_rfl) (fun _ _ _ h => h) (Or.inl ⟨by rfl, ?_⟩) (by assumption) ?_
    rotate_left 1
    · intro w0 hSw
      obtain ⟨s0, s1⟩ := hSw
      go_simp
      try with_reducible rfl
    (try simp only [Act.put, List.setIfInBounds_toArray, List.set_cons_zero, List.set_cons_succ])
    refine wpAnyH_take (i := 1) (oi := ⟨some 32, _, _, _, _, _⟩) (v := ?_) rfl (by kernel_rfl) (by kernel_rfl) (by kernel_rfl) (fun _ _ _ h => h) (Or.inl ⟨by rfl, ?_⟩) (by assumption) ?_
    rotate_left 1
    · intro w0 hSw
      obtain ⟨s0, s1⟩ := hSw
      go_simp
      try with_reducible rfl
    (try simp only [Act.put, List.setIfInBounds_toArray, List.set_cons_zero, List.set_cons_succ])
    refine wpAnyH_take (i := 2) (oi := ⟨some 33, _, _, _, _, _⟩) (v := ?_) rfl (by kernel_rfl) (by kernel_rfl) (by kernel_rfl) (fun _ _ _ h => h) (Or.inl ⟨by rfl, ?_⟩) (by assumption) ?_
    rotate_left 1
    · intro w0 hSw
      obtain ⟨s0, s1⟩ := hSw
      go_simp
      try with_reducible rfl
    (try simp only [Act.put, List.setIfInBounds_toArray, List.set_cons_zero, List.set_cons_succ])
    refine wpAnyH_take (i := 3) (oi := ⟨some 34, _, _, _, _, _⟩) (v := ?_) rfl (by kernel_rfl) (by kernel_rfl) (by kernel_rfl) (fun _ _ _ h => h) (Or.inl ⟨by rfl, ?_⟩) (by assumption) ?_
    rotate_left 1
    · intro w0 hSw
      obtain ⟨s0, s1⟩ := hSw
      go_simp
      try with_reducible rfl
    (try simp only [Act.put, List.setIfInBounds_toArray, List.set_cons_zero, List.set_cons_succ])
    refine wpAnyH_take (i := 4) (oi := ⟨some 35, _, _, _, _, _⟩) (v := _) rfl (by kernel_rfl) (by kernel_rfl) (by kernel_rfl) (fun _ _ _ h => h) (yieldsIf_load_mid (by rfl) 88 (.tmp 4) rfl p 0 rfl (#[.int .i64 b, .slice A1 k1 c1] : Array Value).toList _ (fun w hw => hw.1) Tryz.underlying88 rfl (by kernel_rfl)) (by assumption) ?_
    (try simp only [Act.put, List.setIfInBounds_toArray, List.set_cons_zero, List.set_cons_succ])
    refine wpAnyH_take (i := 5) (oi := ⟨some 36, _, _, _, _, _⟩) (v := ?_) rfl (by kernel_rfl) (by kernel_rfl) (by kernel_rfl) (fun _ _ _ h => h) (Or.inl ⟨by rfl, ?_⟩) (by assumption) ?_
    rotate_left 1
    · intro w0 hSw
      obtain ⟨s0, s1⟩ := hSw
      go_simp
      try with_reducible rfl
    (try simp only [Act.put, List.setIfInBounds_toArray, List.set_cons_zero, List.set_cons_succ])
    refine wpAnyH_ready (rs := [6, 11]) (by kernel_rfl) (by simp) ?_
    refine (AllReadyH.cons (o := ⟨some 37, _, _, _, _, _⟩) rfl (fun K hK => ?_) (AllReadyH.cons (o := ⟨some 7, _, _, _, _, _⟩) rfl (fun K hK => ?_) AllReadyH.nil))
    · rw [if_pos (by rfl)]
      go_simp
      refine (cput_any (H1.out.draws 1) HBB.out (HD1.out.below (below_draws (Below.refl _ _) 1)) b lv).mono ?_
      rintro e W2 ⟨x, A5, k5, c5, z, rfl, ha, hc, hx⟩
      have H2 := hid ha
      have HC2 := hid hc
      have HV := hid hx
      have HX2 := hid (hc.bx (HX1.out.draws 1) (fun ho => HNP.out p (H1.out.mine_x p (.inl ho)) rfl))
      have k2 := And.intro (frm_range HX2.out) (H2.out.bx.cell 2)
      clear ha hc hx
      go_simp
      refine hK.out _ _ k2 (fun hHeld => ?_)
      clear hK K
      (try simp only [Act.put, List.setIfInBounds_toArray, List.set_cons_zero, List.set_cons_succ])
      refine wpAnyH_take (i := 7) (oi := ⟨some 30, _, _, _, _, _⟩) (v := ?_) rfl (by kernel_rfl) (by kernel_rfl) (by kernel_rfl) (fun _ _ _ h => h) (Or.inl ⟨by rfl, ?_⟩) (by assumption) ?_
      rotate_left 1
      · intro w0 hSw
        obtain ⟨s0, s1⟩ := hSw
        go_simp
        try with_reducible rfl
      (try simp only [Act.put, List.setIfInBounds_toArray, List.set_cons_zero, List.set_cons_succ])
      refine wpAnyH_take (i := 8) (oi := ⟨some 38, _, _, _, _, _⟩) (v := ?_) rfl (by kernel_rfl) (by kernel_rfl) (by kernel_rfl) (fun _ _ _ h => h) (Or.inl ⟨by rfl, ?_⟩) (by assumption) ?_
      rotate_left 1
      · intro w0 hSw
        obtain ⟨s0, s1⟩ := hSw
        go_simp
        try with_reducible rfl
      (try simp only [Act.put, List.setIfInBounds_toArray, List.set_cons_zero, List.set_cons_succ])
      refine wpAnyH_take (i := 9) (oi := ⟨some 39, _, _, _, _, _⟩) (v := ?_) rfl (by kernel_rfl) (by kernel_rfl) (by kernel_rfl) (fun _ _ _ h => h) (Or.inl ⟨by rfl, ?_⟩) (by assumption) ?_
      rotate_left 1
      · intro w0 hSw
        obtain ⟨s0, s1⟩ := hSw
        go_simp
        try with_reducible rfl
      (try simp only [Act.put, List.setIfInBounds_toArray, List.set_cons_zero, List.set_cons_succ])
      refine wpAnyH_take (i := 10) (oi := ⟨some 40, _, _, _, _, _⟩) (v := ?_) rfl (by kernel_rfl) (by kernel_rfl) (by kernel_rfl) (fun _ _ _ h => h) (Or.inl ⟨by rfl, ?_⟩) (by assumption) ?_
      rotate_left 1
      · intro w0 hSw
        obtain ⟨s0, s1⟩ := hSw
        go_simp
        try with_reducible rfl
      (try simp only [Act.put, List.setIfInBounds_toArray, List.set_cons_zero, List.set_cons_succ])
      refine wpAnyH_ready (rs := [11]) (by kernel_rfl) (by simp) ?_
      refine AllReadyH.cons (o := ⟨some 7, _, _, _, _, _⟩) rfl (fun K hK => ?_) AllReadyH.nil
      rw [if_pos (by rfl)]
      have kb := And.intro (frm_range (HX2.out.alloc (.cells zfr 88))) ((H2.out.bx.alloc (.cells zfr 88)).cell 2)
      go_simp
      refine hK.out _ _ kb (fun hHeld => ?_)
      clear hK K
      (try simp only [Act.put, List.setIfInBounds_toArray, List.set_cons_zero, List.set_cons_succ])
      refine wpAnyH_ready (rs := [12]) (by kernel_rfl) (by simp) ?_
      refine AllReadyH.cons (o := ⟨none, _, _, _, _, _⟩) rfl (fun K hK => ?_) AllReadyH.nil
      rw [if_pos (by rfl)]
      have kq := And.intro (frm_range (HX2.out.alloc (.cells #[.int .i64 x, .slice A5 k5 c5] 88))) ((H2.out.bx.alloc (.cells #[.int .i64 x, .slice A5 k5 c5] 88)).cell 2)
      go_simp
      refine hK.out _ _ kq (fun hHeld => ?_)
      clear hK K
      (try simp only [Act.put, List.setIfInBounds_toArray, List.set_cons_zero, List.set_cons_succ])
      refine wpAnyH_take (i := 13) (oi := ⟨some 8, _, _, _, _, _⟩) (v := ?_) rfl (by kernel_rfl) (by kernel_rfl) (by kernel_rfl) (fun _ _ _ h => h) (Or.inl ⟨by rfl, ?_⟩) (by assumption) ?_
      rotate_left 1
      · intro w0 hSw
        obtain ⟨s0, s1⟩ := hSw
        go_simp
        try with_reducible rfl
      (try simp only [Act.put, List.setIfInBounds_toArray, List.set_cons_zero, List.set_cons_succ])
      refine wpAnyH_take (i := 14) (oi := ⟨some 9, _, _, _, _, _⟩) (v := ?_) rfl (by kernel_rfl) (by kernel_rfl) (by kernel_rfl) (fun _ _ _ h => h) (Or.inl ⟨by rfl, ?_⟩) (by assumption) ?_
      rotate_left 1
      · intro w0 hSw
        obtain ⟨s0, s1⟩ := hSw
        go_simp
        try with_reducible rfl
      (try simp only [Act.put, List.setIfInBounds_toArray, List.set_cons_zero, List.set_cons_succ])
      refine wpAnyH_done (by kernel_rfl) ?_ _
      refine NoPanic.normal ?_
      go_wp2_with fail
      go_meet
      exact ⟨W2.heap.size, x, A5, k5, c5, rfl, rfl, Bx.new _ _ _, H2.out.below (below_alloc _ _), (Chg.of (below_draws (Below.refl _ _) 1) _).trans (HC2.out.trans (Chg.of (below_alloc _ _) _)), HV.out⟩
    · rw [if_pos (by rfl)]
      go_simp
      refine hK.out _ _ kal.out (fun hHeld => ?_)
      clear hK K
      (try simp only [Act.put, List.setIfInBounds_toArray, List.set_cons_zero, List.set_cons_succ])
      refine wpAnyH_ready (rs := [6]) (by kernel_rfl) (by simp) ?_
      refine AllReadyH.cons (o := ⟨some 37, _, _, _, _, _⟩) rfl (fun K hK => ?_) AllReadyH.nil
      rw [if_pos (by rfl)]
      go_simp
      refine (cput_new H1.out HBB.out HD1.out b lv zfr).mono ?_
      rintro e W2 ⟨x, A5, k5, c5, z, rfl, ha, hc, hx, hfar⟩
      have H2 := hid ha
      have HC2 := hid hc
      have HV := hid hx
      have HFAR := hid hfar
      have HX2 := hid (hc.bx ((HX1.out.alloc (.cells zfr 88)).draws 1) (fun ho => HNP.out p (H1.out.mine_x p (.inl ho)) rfl))
      have HQ2 := hid (hc.bx ((Bx.new W1 88 zfr).draws 1) (fun ho => HNQ.out _ (H1.out.mine_x _ (.inl ho)) rfl))
      have k2 := And.intro (frm_range HX2.out) (H2.out.bx.cell 2)
      clear ha hc hx hfar
      go_simp
      refine hK.out _ _ k2 (fun hHeld => ?_)
      clear hK K
      (try simp only [Act.put, List.setIfInBounds_toArray, List.set_cons_zero, List.set_cons_succ])
      refine wpAnyH_take (i := 7) (oi := ⟨some 30, _, _, _, _, _⟩) (v := ?_) rfl (by kernel_rfl) (by kernel_rfl) (by kernel_rfl) (fun _ _ _ h => h) (Or.inl ⟨by rfl, ?_⟩) (by assumption) ?_
      rotate_left 1
      · intro w0 hSw
        obtain ⟨s0, s1⟩ := hSw
        go_simp
        try with_reducible rfl
      (try simp only [Act.put, List.setIfInBounds_toArray, List.set_cons_zero, List.set_cons_succ])
      refine wpAnyH_take (i := 8) (oi := ⟨some 38, _, _, _, _, _⟩) (v := ?_) rfl (by kernel_rfl) (by kernel_rfl) (by kernel_rfl) (fun _ _ _ h => h) (Or.inl ⟨by rfl, ?_⟩) (by assumption) ?_
      rotate_left 1
      · intro w0 hSw
        obtain ⟨s0, s1⟩ := hSw
        go_simp
        try with_reducible rfl
      (try simp only [Act.put, List.setIfInBounds_toArray, List.set_cons_zero, List.set_cons_succ])
      refine wpAnyH_take (i := 9) (oi := ⟨some 39, _, _, _, _, _⟩) (v := ?_) rfl (by kernel_rfl) (by kernel_rfl) (by kernel_rfl) (fun _ _ _ h => h) (Or.inl ⟨by rfl, ?_⟩) (by assumption) ?_
      rotate_left 1
      · intro w0 hSw
        obtain ⟨s0, s1⟩ := hSw
        go_simp
        try with_reducible rfl
      (try simp only [Act.put, List.setIfInBounds_toArray, List.set_cons_zero, List.set_cons_succ])
      refine wpAnyH_take (i := 10) (oi := ⟨some 40, _, _, _, _, _⟩) (v := ?_) rfl (by kernel_rfl) (by kernel_rfl) (by kernel_rfl) (fun _ _ _ h => h) (Or.inl ⟨by rfl, ?_⟩) (by assumption) ?_
      rotate_left 1
      · intro w0 hSw
        obtain ⟨s0, s1⟩ := hSw
        go_simp
        try with_reducible rfl
      (try simp only [Act.put, List.setIfInBounds_toArray, List.set_cons_zero, List.set_cons_succ])
      refine wpAnyH_ready (rs := [12]) (by kernel_rfl) (by simp) ?_
      refine AllReadyH.cons (o := ⟨none, _, _, _, _, _⟩) rfl (fun K hK => ?_) AllReadyH.nil
      rw [if_pos (by rfl)]
      have HQ3 := hid ((HQ2.out.set 0 (.int .i64 x)).set 1 (.slice A5 k5 c5))
      have HX3 := hid ((HX2.out.far ⟨W1.heap.size, 0, none⟩ (.int .i64 x) HQP.out).far ⟨W1.heap.size, 1, none⟩ (.slice A5 k5 c5) HQP.out)
      have HA3 := hid (HFAR.out (.int .i64 x) (.slice A5 k5 c5))
      have kq := And.intro (frm_range HX3.out) (HA3.out.1.bx.cell 2)
      have z0 : W2.cell? ⟨W1.heap.size, 0, none⟩ = some (.int .i64 0) := HQ2.out.cell 0
      have z1 : W2.cell? ⟨W1.heap.size, 1, none⟩ = some (.slice none 0 0) := HQ2.out.cell 1
      have zf0 := HQ2.out.free 0
      have zf1 := HQ2.out.free 1
      go_simp
      refine hK.out _ _ kq (fun hHeld => ?_)
      clear hK K
      (try simp only [Act.put, List.setIfInBounds_toArray, List.set_cons_zero, List.set_cons_succ])
      refine wpAnyH_take (i := 13) (oi := ⟨some 8, _, _, _, _, _⟩) (v := ?_) rfl (by kernel_rfl) (by kernel_rfl) (by kernel_rfl) (fun _ _ _ h => h) (Or.inl ⟨by rfl, ?_⟩) (by assumption) ?_
      rotate_left 1
      · intro w0 hSw
        obtain ⟨s0, s1⟩ := hSw
        go_simp
        try with_reducible rfl
      (try simp only [Act.put, List.setIfInBounds_toArray, List.set_cons_zero, List.set_cons_succ])
      refine wpAnyH_take (i := 14) (oi := ⟨some 9, _, _, _, _, _⟩) (v := ?_) rfl (by kernel_rfl) (by kernel_rfl) (by kernel_rfl) (fun _ _ _ h => h) (Or.inl ⟨by rfl, ?_⟩) (by assumption) ?_
      rotate_left 1
      · intro w0 hSw
        obtain ⟨s0, s1⟩ := hSw
        go_simp
        try with_reducible rfl
      (try simp only [Act.put, List.setIfInBounds_toArray, List.set_cons_zero, List.set_cons_succ])
      refine wpAnyH_done (by kernel_rfl) ?_ _
      refine NoPanic.normal ?_
      go_wp2_with fail
      go_meet
      exact ⟨W1.heap.size, x, A5, k5, c5, rfl, rfl, HQ3.out, HA3.out.1, HA3.out.2, HV.out⟩
  case rest =>
  obtain ⟨q, x, A5, k5, c5, rfl, rfl, hbq, ha, hc, hv⟩ := hcut
  obtain ⟨W3, hW3⟩ : ∃ y, wc = y := ⟨_, rfl⟩
  rw [hW3] at hbq ha hc ⊢
  clear hW3
  obtain ⟨gn, hgn⟩ : ∃ y, puG K.c o b lv l.length = y := ⟨_, rfl⟩
  have HGN := hid hgn
  rw [hgn] at hv
  rw [hgn]
  have HV := hid hv
  have HA3 := hid ha
  have HC3 := hid (((Chg.of HB0.out K.own).trans (Chg.of HB1.out K.own)).trans hc)
  have q0 : W3.cell? ⟨q, 0, none⟩ = some (.int .i64 x) := hbq.cell 0
  have g0 : W3.cell? ⟨K.g, 0, none⟩ = some (.int .i64 (K.c 4)) := ha.bx.cell 0
  clear hv ha hc hbq hgn y2 H1 HX1 HD1 HNQ HQP
  cases gn with
  | false =>
    go_wp2
    go_ret
    exact ⟨_, rfl, HA3.out.nil, HC3.out, by rw [← HTL.out, if_neg (by rw [HGN.out]; simp)]; exact tlv_nil _ _ _⟩
  | true =>
    by_cases h1 : K.c 4 = 1
    · have d1 : ((K.c 4 : Int) == 1) = true := by simpa using h1
      have H1 := hid h1
      clear h1
      go_wp2
      go_ret
      rw [← HTL.out, if_pos ⟨HGN.out, H1.out⟩, ← HV.out trivial]
      exact ⟨_, rfl, Am.congr (K := K) (HA3.out.with_new _) (fun j => or_congr Iff.rfl ⟨fun e => congrArg some e.symm, fun e => by simpa [Value.ownBlock] using e.symm⟩), HC3.out.trans (Chg.of (below_alloc _ _) _), tlv_one (t := tmI x) HC3.out.size (by_none _ _)⟩
    · have d1 : ((K.c 4 : Int) == 1) = false := by simpa using h1
      have H1 := hid h1
      clear h1
      go_wp2
      go_ret
      exact ⟨_, rfl, HA3.out.nil, HC3.out, by rw [← HTL.out, if_neg (fun h => H1.out h.2)]; exact tlv_nil _ _ _⟩
theorem hold_any (h : Am w K st o D B r dn) (hB : B ≤ 10000000) (hd : By w K.X (.slice A1 k1 c1) l) (b lv : Int) : Calls Tryz.prog 89 #[K.ptr, .agg #[.int .i64 b, .slice A1 k1 c1], .int .i64 lv] w (HoldQ w K st o (hdO K.c o b lv l.length) (hdD K.c o D b lv l) B r dn (hdT K.c o b lv l.length)) := by
  unfold hdO hdD hdT
  by_cases hs : hdS K.c o b lv = true
  · rw [if_pos hs, if_pos hs, if_pos hs]
    unfold hdS at hs
    simp only [Bool.and_eq_true, decide_eq_true_eq, Bool.not_eq_true'] at hs
    exact hold_drop h hB hd b lv hs.1 hs.2
  · rw [if_neg hs, if_neg hs, if_neg hs]
    refine hold_put h hB hd b lv fun h4 => ?_
    unfold hdS at hs
    simpa [h4] using hs
theorem told_app {W1 W Wr w2 : World} {u v2 y : Value} {L : List Tm} {t : Tm} {us : List Value} (h1 : Am W1 K st o' D' B' r dn) (hA : Am W (K.and u) st o D B r dn) (hc : Chg W1 W K.own K.own) (ht : Tlv W W1.heap.size (K.and u).X u L) (hb : Below W.heap.size W Wr)
    (hl : us.length = L.length) (hu : ∀ (i : Nat) (t : Tm) (u2 : Value), L[i]? = some t → us[i]? = some u2 → By W (K.and u).X u2 t.l) (hy : By W1 K.X y t.l) (ho : OwnV w2 W1.heap.size 40 11 v2 (L.length + 1) (tcs L us ++ tcl t y)) (hg : GrownV Wr w2 u v2) :
    Am w2 K st o D B r dn ∧ Tlv w2 W1.heap.size K.X v2 (L ++ [t]) ∧ Chg W1 w2 K.own K.own := by
  have hlt : ∀ g, u.ownBlock = some g → W1.heap.size ≤ g ∧ g < W.heap.size := fun g hg => by
    obtain ⟨us', _, h3, _⟩ := ht
    exact World.ownsRow.lt h3 g hg
  have hmx := h1.mine_x
  have hX := h1.cm.lt
  have hch : Chg Wr w2 (fun j => u.ownBlock = some j) (fun j => u.ownBlock = some j) :=
    ⟨hg.1.os, hg.1.tape, hg.1.output, hg.1.size, fun j hj hn => hg.1.block j hj fun e => hn e.symm, fun _ hj => .inl hj⟩
  have hm : ∀ j, u.ownBlock = some j → ¬ (K.and u).mine j ∧ j ≠ (K.and u).ks := fun j hj => by
    have h3 := (hlt j hj).1
    exact ⟨fun h4 => by have := hX _ (hmx j h4); omega, fun e => by have h5 : K.ks < W1.heap.size := h1.sx.bx.lt; have h6 : j = K.ks := e; omega⟩
  have hyW : By Wr (K.and u).X y t.l := by
    have h3 : By W1 (K.and u).X y t.l := hy.more fun j hj => hj.imp id fun e => (hlt j e).1
    exact (h3.chg hc fun j hj => .inl (hmx j (.inl hj))).below hb
  refine ⟨Am.less ((hA.below hb).other hch (fun j hj => .inr hj) hm) (fun j hj => .inl hj) hmx, ?_, ?_⟩
  · refine Tlv.snoc hl ho (fun i t2 u2 a1 a2 => ?_) ((hyW.chg hch fun j hj => .inr hj).less fun j hj => .inl hj)
    exact (((hu i t2 u2 a1 a2).below hb).chg hch fun j hj => .inr hj).less fun j hj => .inl hj
  · have c1 : Chg W1 Wr K.own K.own := hc.trans (Chg.of hb _)
    exact ⟨hch.os.trans c1.os, hch.tape.trans c1.tape, hch.output.trans c1.output, Nat.le_trans c1.size hch.size, fun j hj hn => (hch.block j (Nat.lt_of_lt_of_le hj c1.size) fun e => by have := (hlt j e).1; omega).trans (c1.block j hj hn), fun _ hj => .inl hj⟩
end
end Go.Proofs.YtbcejfonkehjgaaGreatDoor
