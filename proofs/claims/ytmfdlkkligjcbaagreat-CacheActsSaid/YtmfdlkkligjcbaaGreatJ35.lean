/-
  What is proved: the reference's Do at every act that is one; the fixed fact that each statement of this layer asks first holds; LruNil's walk. Condition: the list is read.
  (Left out here, as nothing of this law reaches it: wakes_any, nil_walk.) -/
import Derived.Test.YtmfdlkkligjcbaaGreatJ29
import Derived.Test.YtmfdlkkligjcbaaGreatJ28
import Derived.Test.YtmfdlkkligjcbaaGreatJ32
import Derived.Test.YtmfdlkkligjcbaaGreatJ34
namespace Go.Proofs.YtmfdlkkligjcbaaGreat
open Go.RowKit

/-- behind an act: the list, the victim, whether one went, whether the block was there, the error -/
noncomputable def dL (C : Nat) (κ b : Int) (l : List Int) : List Int := if κ = 2 then wo b l else if κ = 0 then useL b l else addL C b l
def dV (C : Nat) (κ b : Int) (l : List Int) : Int := if κ = 1 then vict C b l else 0
def dG (C : Nat) (κ b : Int) (l : List Int) : Bool := decide (κ = 1 ∧ goes C b l)
def dE (κ b : Int) : Int := if κ = 1 then addE b else 0
section
variable {C : Nat} {b : Int} {l : List Int}
theorem wo_len_lt {l : List Int} (hd : l.Nodup) (h : b ∈ l) : (b :: wo b l).length = l.length := by
  obtain ⟨s, t, rfl⟩ := List.append_of_mem h
  rw [wo_split hd]
  simp
  omega
theorem goes_in (hd : l.Nodup) (hl : l.length ≤ C) (h : b ∈ l) : ¬ goes C b l := fun hg => by
  have := hg.2
  rw [wo_len_lt hd h] at this
  omega
/-- the reference's act -/
theorem rdo_any {w : World} {A : Option Addr} {n c : Nat} (hr : Rw w A l) (hn : l.length = n) (hc : n ≤ c ∧ c ≤ maxLen) (hC : C ≤ 16) (hl : l.length ≤ C) (hd : l.Nodup) (hv : ∀ x ∈ l, vb x) (κ : Int) (hκ : 0 ≤ κ ∧ κ ≤ 2) :
    Calls Tryz.prog 74 #[.slice A n c, .int .i64 C, .agg #[.int .i64 κ, .int .i64 b]] w (Wn w A (dL C κ b l) (dV C κ b l) (dG C κ b l) (dec (b ∈ l)) (dE κ b)) := by
  have h64 : n ≤ 64 := by omega
  have h3 : κ = 0 ∨ κ = 1 ∨ κ = 2 := by omega
  rcases h3 with rfl | rfl | rfl
  · have e2 : dV C 0 b l = 0 := if_neg (by omega)
    have e3 : dG C 0 b l = false := decide_eq_false fun h => by have := h.1; omega
    have e4 : dE 0 b = 0 := if_neg (by omega)
    have e1 : dL C 0 b l = useL b l := by unfold dL; rw [if_neg (by omega), if_pos rfl]
    rw [e1, e2, e3, e4]
    unfold useL
    by_cases hx : b ∈ l
    · rw [dec_true hx]
      exact rdo_was hr hn h64 hc C 0 rfl hx
    · rw [dec_false hx]
      exact rdo_miss hr hn h64 hc C hx
  · have e4 : dE 1 b = addE b := if_pos rfl
    have e2 : dV C 1 b l = vict C b l := if_pos rfl
    have e3 : dG C 1 b l = decide (goes C b l) := decide_eq_decide.2 ⟨fun h => h.2, fun h => ⟨rfl, h⟩⟩
    have e1 : dL C 1 b l = addL C b l := by unfold dL; rw [if_neg (by omega), if_neg (by omega)]
    rw [e1, e2, e3, e4]
    by_cases hx : b ∈ l
    · have hb := hv b hx
      have hg := goes_in hd hl hx
      have e5 : vict C b l = 0 := if_neg hg
      have e6 : addL C b l = b :: wo b l := by unfold addL; rw [if_neg hg, if_pos hb]
      have e7 : addE b = 0 := if_pos hb
      rw [e5, e6, e7, decide_eq_false hg, dec_true hx]
      exact rdo_was hr hn h64 hc C 1 rfl hx
    · rw [dec_false hx]
      by_cases hb : vb b
      · have e7 : addE b = 0 := if_pos hb
        rw [e7]
        by_cases hg : goes C b l
        · have e5 : vict C b l = (b :: wo b l).getLast (by simp) := if_pos hg
          have e6 : addL C b l = (b :: wo b l).dropLast := if_pos hg
          have hlt := hg.2
          rw [decide_eq_true hg, e5, e6]
          simp only [wo_out hx] at hlt ⊢
          exact rdo_over hr hn h64 hc C hb (by rw [List.length_cons, hn] at hlt; exact hlt) _ rfl hx
        · have e5 : vict C b l = 0 := if_neg hg
          have e6 : addL C b l = b :: wo b l := by unfold addL; rw [if_neg hg, if_pos hb]
          have hlt : ¬ C < (b :: wo b l).length := fun e => hg ⟨hb, e⟩
          rw [decide_eq_false hg, e5, e6]
          rw [wo_out hx] at hlt ⊢
          exact rdo_add hr hn h64 hc C hb (by rw [List.length_cons, hn] at hlt; exact hlt) hx
      · have hg : ¬ goes C b l := fun e => hb e.1
        have e5 : vict C b l = 0 := if_neg hg
        have e6 : addL C b l = l := by unfold addL; rw [if_neg hg, if_neg hb]
        have e7 : addE b = 3 := if_neg hb
        rw [e5, e6, e7, decide_eq_false hg]
        exact rdo_bad hr hn h64 hc C hb hx
  · have e2 : dV C 2 b l = 0 := if_neg (by omega)
    have e3 : dG C 2 b l = false := decide_eq_false fun h => by have := h.1; omega
    have e4 : dE 2 b = 0 := if_neg (by omega)
    have e1 : dL C 2 b l = wo b l := if_pos rfl
    rw [e1, e2, e3, e4]
    by_cases hx : b ∈ l
    · rw [dec_true hx]
      exact rdo_rem hr hn h64 hc C hx
    · rw [dec_false hx]
      exact rdo_rem0 hr hn h64 hc C hx
end





























end Go.Proofs.YtmfdlkkligjcbaaGreat
namespace Go.Proofs.YtmfdlkkligjcbaaGreat
open Go.RowKit

/-- the cells of the reference's cache -/
def rcc (c : Nat → Int) (A : Option Addr) (n cp : Nat) (T : Int) (lv mv pv dv : Value) : Array Value := #[.int .i64 (c 0), .int .i64 (c 1), .int .i64 (c 2), .int .i64 (c 3), .int .i64 (c 4), .int .i64 (c 5), .int .i64 (c 6), .int .i64 (c 7),
  .int .i64 (c 8), .int .i64 (c 9), .int .i64 (c 10), .int .i64 (c 11), .int .i64 (c 12), .int .i64 (c 13), .int .i64 (c 14), .int .i64 (c 15), .slice A n cp, .int .i64 T, lv, mv, pv, dv]
/-- the model of an order, as the struct has it; Z: blocks that are written to; Y: those of its own -/
def Ro16 (w : World) (Z Y : Nat → Prop) (lv mv pv : Value) : Ob → Prop
  | .lru _ L => mv = .pointer none ∧ pv = .pointer none ∧ Rt w Z lv L
  | .mq C N L H m => pv = .pointer none ∧ ∃ h a p e, mv = .pointer (some ⟨h, 0, none⟩) ∧ Rs w Z h a p e C N L H m ∧ ∀ j, Fr h a p e j → Y j
  | .prt rg pt lp n S => ∃ r gp b A c hh pf B cv us T, pv = .pointer (some ⟨r, 0, none⟩) ∧ Rp w Z r gp b A c hh pf B cv us T rg pt lp n S ∧ ∀ j, bk B = some j → Y j
section
variable {w w' : World} {Z Y X P Q : Nat → Prop} {lv mv pv : Value} {o : Ob}
theorem Ro16.below (h : Ro16 w Z Y lv mv pv o) (hb : Below w.heap.size w w') : Ro16 w' Z Y lv mv pv o := by
  cases o with
  | lru C L => exact ⟨h.1, h.2.1, h.2.2.below hb⟩
  | mq C N L H m =>
    obtain ⟨h1, h', a, p, e, h2, h3, h4⟩ := h
    exact ⟨h1, h', a, p, e, h2, h3.below hb, h4⟩
  | prt rg pt lp n S =>
    obtain ⟨r, gp, b, A, c, hh, pf, B, cv, us, T, h1, h2, h3⟩ := h
    exact ⟨r, gp, b, A, c, hh, pf, B, cv, us, T, h1, h2.below hb, h3⟩
theorem Ro16.chg (h : Ro16 w Z Y lv mv pv o) (hc : Chg w w' P Q) (h1 : ∀ j, P j → Z j) (h2 : ∀ j, P j → ¬ Y j) : Ro16 w' Z Y lv mv pv o := by
  cases o with
  | lru C L => exact ⟨h.1, h.2.1, h.2.2.chg hc h1⟩
  | mq C N L H m =>
    obtain ⟨h3, h', a, p, e, h4, h5, h6⟩ := h
    exact ⟨h3, h', a, p, e, h4, h5.chg hc h1 fun j hp hf => h2 j hp (h6 j hf), h6⟩
  | prt rg pt lp n S =>
    obtain ⟨r, gp, b, A, c, hh, pf, B, cv, us, T, h3, h4, h5⟩ := h
    exact ⟨r, gp, b, A, c, hh, pf, B, cv, us, T, h3, h4.chg hc h1 fun j hp e => h2 j hp (h5 j e), h5⟩
theorem Ro16.less (h : Ro16 w Z Y lv mv pv o) (h1 : ∀ j, X j → Z j) (h2 : ∀ j, Y j → X j) : Ro16 w X Y lv mv pv o := by
  cases o with
  | lru C L => exact ⟨h.1, h.2.1, h.2.2.less h1⟩
  | mq C N L H m =>
    obtain ⟨h3, h', a, p, e, h4, h5, h6⟩ := h
    exact ⟨h3, h', a, p, e, h4, h5.less h1 fun j hf => h2 j (h6 j hf), h6⟩
  | prt rg pt lp n S =>
    obtain ⟨r, gp, b, A, c, hh, pf, B, cv, us, T, h3, h4, h5⟩ := h
    exact ⟨r, gp, b, A, c, hh, pf, B, cv, us, T, h3, h4.less h1 fun j e => h2 j (h5 j e), h5⟩
/-- one new block is put into Z -/
theorem Ro16.alloc (h : Ro16 w Z Y lv mv pv o) (ob : Obj) : Ro16 (w.alloc ob) (fun j => Z j ∨ j = w.heap.size) Y lv mv pv o := by
  have hs : (w.alloc ob).heap.size = w.heap.size + 1 := World.size_alloc w ob
  cases o with
  | lru C L => exact ⟨h.1, h.2.1, (h.2.2.more fun j hj => hj.elim .inl fun e => .inr (by omega)).below (below_alloc _ _)⟩
  | mq C N L H m =>
    obtain ⟨h3, h', a, p, e, h4, h5, h6⟩ := h
    exact ⟨h3, h', a, p, e, h4, h5.alloc ob, h6⟩
  | prt rg pt lp n S =>
    obtain ⟨r, gp, b, A, c, hh, pf, B, cv, us, T, h3, h4, h5⟩ := h
    exact ⟨r, gp, b, A, c, hh, pf, B, cv, us, T, h3, h4.more (below_alloc w ob) fun j => or_congr Iff.rfl (by rw [hs]; omega), h5⟩
end
/-- the reference's cache: the struct at g, its rows of bytes at d; Y: its order's own blocks; Z: blocks that are written to (also other ones); E: the bytes -/
structure Rc (w : World) (Z Y : Nat → Prop) (g d : Nat) (c : Nat → Int) (A : Option Addr) (n cp T : Nat) (lv mv pv : Value) (cv : Nat) (us : List Value) (o : Ob) (E : Int → List Int) : Prop where
  box : Bx w g 78 (rcc c A n cp T lv mv pv (.slice (some ⟨d, 0, none⟩) 32 cv))
  ord : Ro16 w Z Y lv mv pv o
  row : OwnW w 36 (.slice (some ⟨d, 0, none⟩) 32 cv) us
  dat : ∀ (i : Nat) u, us[i]? = some u → By w Z u (E i)
  yz : ∀ j, Y j → Z j
  zg : Z g
  zd : Z d
  yg : ¬ Y g
  yd : ¬ Y d
  gd : g ≠ d
  lt : ∀ j, Z j → j < w.heap.size
section
variable {w w' : World} {Z Y X P Q : Nat → Prop} {g d n cp T cv : Nat} {c : Nat → Int} {A : Option Addr} {lv mv pv : Value} {us : List Value} {o : Ob} {E : Int → List Int}
theorem Rc.below (h : Rc w Z Y g d c A n cp T lv mv pv cv us o E) (hb : Below w.heap.size w w') : Rc w' Z Y g d c A n cp T lv mv pv cv us o E :=
  { h with box := h.box.next hb, ord := h.ord.below hb, row := h.row.below hb, dat := fun i u hu => (h.dat i u hu).below hb, lt := fun j hj => Nat.lt_of_lt_of_le (h.lt j hj) hb.size }
theorem Rc.draws (h : Rc w Z Y g d c A n cp T lv mv pv cv us o E) (k : Nat) : Rc (w.drewN k) Z Y g d c A n cp T lv mv pv cv us o E := h.below (below_draws (Below.refl _ _) k)
theorem Rc.chg (h : Rc w Z Y g d c A n cp T lv mv pv cv us o E) (hc : Chg w w' P Q) (h1 : ∀ j, P j → Z j) (h2 : ∀ j, P j → ¬ Y j ∧ j ≠ g ∧ j ≠ d) : Rc w' Z Y g d c A n cp T lv mv pv cv us o E :=
  { h with
    box := hc.bx h.box fun hp => (h2 g hp).2.1 rfl
    ord := h.ord.chg hc h1 fun j hp => (h2 j hp).1
    row := h.row.kept fun k e => by
      have e2 : some d = some k := e
      injection e2 with e2
      subst e2
      exact hc.block d (h.lt d h.zd) fun hp => (h2 d hp).2.2 rfl
    dat := fun i u hu => (h.dat i u hu).chg hc h1
    lt := fun j hj => Nat.lt_of_lt_of_le (h.lt j hj) hc.size }
theorem Rc.less (h : Rc w Z Y g d c A n cp T lv mv pv cv us o E) (h1 : ∀ j, X j → Z j) (h2 : ∀ j, Y j ∨ j = g ∨ j = d → X j) : Rc w X Y g d c A n cp T lv mv pv cv us o E :=
  { h with
    ord := h.ord.less h1 fun j hj => h2 j (.inl hj)
    dat := fun i u hu => (h.dat i u hu).less h1
    yz := fun j hj => h2 j (.inl hj)
    zg := h2 g (.inr (.inl rfl))
    zd := h2 d (.inr (.inr rfl))
    lt := fun j hj => h.lt j (h1 j hj) }
theorem Rc.alloc (h : Rc w Z Y g d c A n cp T lv mv pv cv us o E) (ob : Obj) : Rc (w.alloc ob) (fun j => Z j ∨ j = w.heap.size) Y g d c A n cp T lv mv pv cv us o E :=
  have hs : (w.alloc ob).heap.size = w.heap.size + 1 := World.size_alloc w ob
  { h.below (below_alloc w ob) with
    ord := h.ord.alloc ob
    dat := fun i u hu => ((h.dat i u hu).more fun j hj => hj.elim .inl fun e => .inr (by omega)).below (below_alloc w ob)
    yz := fun j hj => .inl (h.yz j hj)
    zg := .inl h.zg
    zd := .inl h.zd
    lt := fun j hj => hj.elim (fun hz => by have := h.lt j hz; omega) fun e => by omega }
theorem Rc.c2 (h : Rc w Z Y g d c A n cp T lv mv pv cv us o E) : w.cell? ⟨g, 2, none⟩ = some (.int .i64 (c 2)) := h.box.cell 2
theorem Rc.c3 (h : Rc w Z Y g d c A n cp T lv mv pv cv us o E) : w.cell? ⟨g, 3, none⟩ = some (.int .i64 (c 3)) := h.box.cell 3
theorem Rc.c5 (h : Rc w Z Y g d c A n cp T lv mv pv cv us o E) : w.cell? ⟨g, 5, none⟩ = some (.int .i64 (c 5)) := h.box.cell 5
theorem Rc.c17 (h : Rc w Z Y g d c A n cp T lv mv pv cv us o E) : w.cell? ⟨g, 17, none⟩ = some (.int .i64 T) := h.box.cell 17
theorem Rc.c18 (h : Rc w Z Y g d c A n cp T lv mv pv cv us o E) : w.cell? ⟨g, 18, none⟩ = some lv := h.box.cell 18
theorem Rc.c19 (h : Rc w Z Y g d c A n cp T lv mv pv cv us o E) : w.cell? ⟨g, 19, none⟩ = some mv := h.box.cell 19
theorem Rc.c20 (h : Rc w Z Y g d c A n cp T lv mv pv cv us o E) : w.cell? ⟨g, 20, none⟩ = some pv := h.box.cell 20
theorem Rc.c21 (h : Rc w Z Y g d c A n cp T lv mv pv cv us o E) : w.cell? ⟨g, 21, none⟩ = some (.slice (some ⟨d, 0, none⟩) 32 cv) := h.box.cell 21
theorem Rc.ul (h : Rc w Z Y g d c A n cp T lv mv pv cv us o E) : us.length = 32 := h.row.len.symm
/-- a row of bytes -/
theorem Rc.at_ (h : Rc w Z Y g d c A n cp T lv mv pv cv us o E) {i : Nat} (hi : i < 32) : ∃ A5 k5 c5, us[i]? = some (.slice A5 k5 c5) ∧ w.cell? ⟨d, i, none⟩ = some (.slice A5 k5 c5) ∧ By w Z (.slice A5 k5 c5) (E i) := by
  have hi2 : i < us.length := by rw [h.ul]; exact hi
  have hu : us[i]? = some us[i] := List.getElem?_eq_getElem hi2
  have hb := h.dat i _ hu
  have hc := (h.row.cellAt hi2).1
  obtain ⟨A5, c5, e, -⟩ := id hb
  rw [e] at hu hb
  exact ⟨A5, _, c5, hu, hc.trans hu, hb⟩
/-- what All tells -/
def AllQ (w : World) (Z : Nat → Prop) (l : List Int) (e : Ending) (w' : World) : Prop := ∃ A3 c3, e = .returned (.slice A3 l.length c3) ∧ Rw w' A3 l ∧ l.length ≤ c3 ∧ c3 ≤ maxLen ∧ (∀ ad, A3 = some ad → ¬ Z ad.block) ∧ Below w.heap.size w w'
theorem told_all {l : List Int} {e : Ending} (h : Told w l e w') (hZ : ∀ j, Z j → j < w.heap.size) : AllQ w Z l e w' := by
  obtain ⟨A3, c3, he, ho, hg⟩ := h
  obtain ⟨h1, h2, h3, h4⟩ := rw_told ho hg
  exact ⟨A3, c3, he, h1, h3, h4, fun ad ea hz => Nat.lt_irrefl _ (Nat.lt_of_lt_of_le (hZ _ hz) (h2 ad ea)), hg.nilBelow⟩
/-- a block that is in an order of few is one of 64 -/
theorem Ob.len64 {K : Nat} {o : Ob} (h : o.Ok K) : o.all.length ≤ 64 := nodup_le 64 _ (Ob.nd h) fun _ hx => Ob.vb_of h hx
set_option maxRecDepth 20000 in
set_option maxHeartbeats 1000000 in
theorem rc_all (h : Rc w Z Y g d c A n cp T lv mv pv cv us o E) {K : Nat} (ok : o.Ok K) : Calls Tryz.prog 17 #[.pointer (some ⟨g, 0, none⟩)] w (AllQ w Z o.all) := by
  have g18 := h.c18
  have g19 := h.c19
  have g20 := h.c20
  have HLT := hid h.lt
  cases o with
  | lru C L =>
    obtain ⟨rfl, rfl, A3, c3, rfl, h1, h2, h3, h4⟩ := h.ord
    have HR := hid (And.intro h1 (And.intro h2 (And.intro h3 h4)))
    clear h h1 h2 h3 h4 ok
    go_enter Tryz.func17, Tryz.ntmps17
    go_wp2
    go_ret
    exact ⟨A3, c3, rfl, HR.out.1, HR.out.2.1, HR.out.2.2.1, HR.out.2.2.2, Below.refl _ _⟩
  | mq C N L H m =>
    obtain ⟨rfl, hq, a, p, e, rfl, h1, -⟩ := h.ord
    have HA := hid (rs_all h1 ok.2.1)
    clear h h1 ok
    go_enter Tryz.func17, Tryz.ntmps17
    go_wp2_with (go_at_call 45; refine HA.out.mono ?_; rintro e w2 ht; obtain ⟨A3, c3, rfl, hq2⟩ := told_all ht HLT.out; have HQ := hid hq2; clear ht hq2)
    go_ret
    exact ⟨A3, c3, rfl, HQ.out⟩
  | prt rg pt lp n2 S =>
    obtain ⟨r, gp, b, A', c', hh, pf, B, cv', us', T', rfl, h1, -⟩ := h.ord
    have HA := hid (rp_all h1 ok.1)
    clear h h1 ok
    go_enter Tryz.func17, Tryz.ntmps17
    go_wp2_with (go_at_call 44; refine HA.out.mono ?_; rintro e w2 ht; obtain ⟨A3, c3, rfl, hq2⟩ := told_all ht HLT.out; have HQ := hid hq2; clear ht hq2)
    go_ret
    exact ⟨A3, c3, rfl, HQ.out⟩
set_option maxRecDepth 20000 in
theorem rc_has (h : Rc w Z Y g d c A n cp T lv mv pv cv us o E) {K : Nat} (ok : o.Ok K) (b : Int) : Calls Tryz.prog 20 #[.pointer (some ⟨g, 0, none⟩), .int .i64 b] w fun e w' => e = .returned (.bool (dec (b ∈ o.all))) ∧ Below w.heap.size w w' := by
  have HA := hid (rc_all h ok)
  clear h ok
  go_enter Tryz.func20, Tryz.ntmps20
  go_wp2_with (first
    | (go_at_call 17; refine HA.out.mono ?_; rintro e w2 ⟨A3, c3, rfl, h1, h2, h3, -, hb⟩; have HB := hid hb; have HH := hid (rhas_any A3 _ c3 o.all b w2 _ rfl (by omega) h1.rd); clear h1 h2 h3 hb)
    | (go_at_call 46; refine HH.out.mono ?_; rintro e w3 ⟨rfl, rfl⟩))
  go_ret
  exact ⟨rfl, HB.out⟩
end
end Go.Proofs.YtmfdlkkligjcbaaGreat
