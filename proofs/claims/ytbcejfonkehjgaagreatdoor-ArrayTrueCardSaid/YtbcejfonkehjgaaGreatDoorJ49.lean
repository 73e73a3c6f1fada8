/-
  What is proved: acts on an array that came in, opened: their cells hold what their types say; whether there is more than the laws do. Condition: the acts are read as such.
-/
import Derived.Test.YtbcejfonkehjgaaGreatDoorJ47
import Derived.Test.YtbcejfonkehjgaaGreatDoorJ48
import Derived.Test.YtbcejfonkehjgaaGreatDoorK27
namespace Go.Proofs.YtbcejfonkehjgaaGreatDoor
open Go.RowKit Go.ChangeShapes Go.WideShapes Go.Deep

structure A18 where
 fu : Int
 t : Tm
 B : Option Addr
 cp : Nat
instance : Inhabited A18 := ⟨⟨0, ⟨fun _ => 0, false, []⟩, none, 0⟩⟩
def A18.sl (x : A18) : Value := .slice x.B x.t.l.length x.cp
structure A18.Good (x : A18) (w : World) : Prop where
 y : By w (fun j => w.heap.size ≤ j) x.sl x.t.l
 b : Byt x.t.l
 wf : -9223372036854775808 ≤ x.fu ∧ x.fu ≤ 9223372036854775807
structure Act18 (w : World) (p : Addr) (x : A18) : Prop where
 lt : p.block < w.heap.size
 c0 : w.cell? p = some (.int .i64 x.fu)
 ck : ∀ j, j < 11 → w.cell? ⟨p.block, p.off + (1 + j), none⟩ = (tcl x.t x.sl)[j]?
theorem Act18.below {w w' : World} {p : Addr} {x : A18} (h : Act18 w p x) (hb : Below w.heap.size w w') : Act18 w' p x :=
 ⟨Nat.lt_of_lt_of_le h.lt hb.size, (hb.cell h.lt).trans h.c0, fun j hj => (hb.cell (p := ⟨p.block, p.off + (1 + j), none⟩) h.lt).trans (h.ck j hj)⟩
def Acts18 (w : World) (A : Option Addr) (n : Nat) (f : Nat → A18) : Prop := ∀ i, i < n → ∃ ad, A = some ad ∧ Act18 w (ad.add (i * 12)) (f i)
theorem Acts18.below {w w' : World} {A : Option Addr} {n : Nat} {f : Nat → A18} (h : Acts18 w A n f) (hb : Below w.heap.size w w') : Acts18 w' A n f := fun i hi => by
 obtain ⟨ad, e, h1⟩ := h i hi
 exact ⟨ad, e, h1.below hb⟩
theorem A18.Good.at_ {w w' : World} {x : A18} (h : x.Good w) (hb : Below w.heap.size w w') (X : Nat → Prop) (hX : ∀ j, X j → w.heap.size ≤ j) : By w' X x.sl x.t.l := (h.y.below hb).less hX
theorem A18.Good.below {w w' : World} {x : A18} (h : x.Good w) (hb : Below w.heap.size w w') : x.Good w' := ⟨h.y.below hb |>.less fun _ hj => Nat.le_trans hb.size hj, h.b, h.wf⟩
section
variable {H : Type} {enc : TypeId × Value → H} {w : World} {base : Nat} {spare : Nat → Bool} {held : Bool}
theorem by_of_rn {A : Option Addr} {c : Nat} {l : List Int} (h : Rn w A l) (h1 : l.length ≤ c) (h2 : c ≤ maxLen) : By w (fun j => w.heap.size ≤ j) (.slice A l.length c) l :=
 ⟨A, c, rfl, rd_rv h, h1, h2, fun ad ea hp => by
  obtain ⟨ad', e, hb, _⟩ := Rd.get h hp
  rw [ea] at e
  injection e with e
  subst e
  exact ⟨hb, by omega⟩⟩
set_option maxRecDepth 100000 in
theorem msg_of {n : Nat} {cs : List Value} {x : DataW H × List MemPlace} (h : DataW.trod enc Tryz.prog w base spare held n 40 cs = some x) :
  ∃ (t : Tm) (A : Option Addr) (cp : Nat), cs = tcl t (.slice A t.l.length cp) ∧ By w (fun j => w.heap.size ≤ j) (.slice A t.l.length cp) t.l ∧ Byt t.l := by
 obtain ⟨xs, m, _, _, hl, hxl, hg⟩ := DataW.trod_struct Tryz.underlying40 h
 have hx : xs.length = 11 := hxl
 have s11 : cs.length = 11 := hl.trans (by kernel_rfl)
 have sm : ∀ i, i < 11 → (xs[i]?).isSome = true := fun i hi => by simp; omega
 obtain ⟨c0, h0, _⟩ := int_atM (off := 0) Tryz.underlying3 (sm 0 (by omega)) (hg 0 _ rfl)
 obtain ⟨c1, h1, _⟩ := int_atM (off := 1) Tryz.underlying3 (sm 1 (by omega)) (hg 1 _ rfl)
 obtain ⟨c2, h2, _⟩ := int_atM (off := 2) Tryz.underlying3 (sm 2 (by omega)) (hg 2 _ rfl)
 obtain ⟨c3, h3, _⟩ := int_atM (off := 3) Tryz.underlying3 (sm 3 (by omega)) (hg 3 _ rfl)
 obtain ⟨c4, h4, _⟩ := int_atM (off := 4) Tryz.underlying3 (sm 4 (by omega)) (hg 4 _ rfl)
 obtain ⟨c5, h5, _⟩ := int_atM (off := 5) Tryz.underlying3 (sm 5 (by omega)) (hg 5 _ rfl)
 obtain ⟨c6, h6, _⟩ := int_atM (off := 6) Tryz.underlying3 (sm 6 (by omega)) (hg 6 _ rfl)
 obtain ⟨c7, h7, _⟩ := int_atM (off := 7) Tryz.underlying3 (sm 7 (by omega)) (hg 7 _ rfl)
 obtain ⟨c8, h8, _⟩ := int_atM (off := 8) Tryz.underlying30 (sm 8 (by omega)) (hg 8 _ rfl)
 obtain ⟨gr, h9⟩ := bool_atM (off := 9) Tryz.underlying4 (sm 9 (by omega)) (hg 9 _ rfl)
 obtain ⟨y, hy⟩ := Option.isSome_iff_exists.1 (sm 10 (by omega))
 obtain ⟨A, n', cp, ds, e, hn, h1c, h2c, hr, hb⟩ := bytes_ofM ((hg 10 _ rfl).trans hy)
 subst hn
 have h10 : cs[10]? = some (.slice A ds.length cp) := by
  have e2 : (cs.drop 10).take 1 = [.slice A ds.length cp] := e
  have := congrArg (·[0]?) e2
  simpa using this
 match cs, s11 with
 | [k0, k1, k2, k3, k4, k5, k6, k7, k8, k9, k10], _ =>
  simp at h0 h1 h2 h3 h4 h5 h6 h7 h8 h9 h10
  subst h0 h1 h2 h3 h4 h5 h6 h7 h8 h9 h10
  exact ⟨⟨fun i => #[c0, c1, c2, c3, c4, c5, c6, c7, c8].getD i 0, gr, ds⟩, A, cp, rfl, by_of_rn hr h1c h2c, hb⟩
set_option maxRecDepth 100000 in
theorem act_of18 {n : Nat} {cs : List Value} {x : DataW H × List MemPlace} (h : DataW.trod enc Tryz.prog w base spare held n 42 cs = some x) : ∃ y : A18, cs = .int .i64 y.fu :: tcl y.t y.sl ∧ y.Good w := by
 obtain ⟨xs, m, _, rfl, hl, hxl, hg⟩ := DataW.trod_struct Tryz.underlying42 h
 have hl12 : cs.length = 12 := hl.trans (by kernel_rfl)
 have hx2 : xs.length = 2 := hxl
 obtain ⟨k, hk, wk⟩ := int_atM (off := 0) Tryz.underlying3 (by simp; omega) (hg 0 _ rfl)
 obtain ⟨y, hy⟩ := Option.isSome_iff_exists.1 (show (xs[1]?).isSome = true by simp; omega)
 obtain ⟨t, A, cp, e, hf, hb⟩ := msg_of ((hg 1 _ rfl).trans hy)
 have e2 : (cs.drop 1).take 11 = tcl t (.slice A t.l.length cp) := e
 simp only [Lit.wf, Bool.and_eq_true, decide_eq_true_eq] at wk
 match cs, hl12 with
 | [k0, k1, k2, k3, k4, k5, k6, k7, k8, k9, k10, k11], _ =>
  simp at hk e2
  exact ⟨⟨k, t, A, cp⟩, by rw [hk, e2]; rfl, hf, hb, wk⟩
set_option maxRecDepth 100000 in
theorem open_acts18 {v : Value} {d : DataW H} {p : List MemPlace} {r : Reach} {b0 : Nat} (hv : Value.okWide Tryz.prog w r b0 26 v) (h : DataW.Trod enc Tryz.prog w base spare held 26 v d p) :
  ∃ A n c f, v = .slice A n c ∧ n ≤ maxLen ∧ Acts18 w A n f ∧ ∀ i, i < n → (f i).Good w := by
 obtain ⟨a0, len0, cap0, rfl⟩ := okWide_slice Tryz.underlying26 hv
 obtain ⟨fuel, hf⟩ := h
 rcases open_slice Tryz.underlying26 hf with ⟨h0, _⟩ | ⟨a, len, cap, m, n, D, Pl, hcs, hb, hl, hm, hmm, hx, hi⟩
 ·simp [Value.cells] at h0
  obtain ⟨rfl, rfl, rfl⟩ := h0
  exact ⟨_, _, _, fun _ => default, rfl, by unfold maxLen; omega, fun i hi => absurd hi (Nat.not_lt_zero i), fun i hi => absurd hi (Nat.not_lt_zero i)⟩
 ·have key : ∀ i, i < len → ∃ y : A18, Act18 w (a.add (i * 12)) y ∧ y.Good w := fun i hil => by
   have him : i < m := by rw [hmm]; split <;> omega
   obtain ⟨cs', hc, ht'⟩ := hi i him
   rw [show Tryz.prog.cellsOf 42 = 12 by kernel_rfl] at hc
   obtain ⟨y, rfl, hy⟩ := act_of18 ht'
   obtain ⟨_, _, hat⟩ := World.cells?_some hc
   have a0 : w.cell? (a.add (i * 12)) = some (.int .i64 y.fu) := hat 0 (by omega)
   refine ⟨y, ⟨World.block_lt_of_cell? w _ a0, a0, fun j hj => ?_⟩, hy⟩
   have h1 := hat (1 + j) (by omega)
   have e' : ∀ (q : Addr) (i : Nat), 0 < i → q.add i = ⟨q.block, q.off + i, none⟩ := fun q i hi => by unfold Addr.add; rw [if_neg (by omega)]
   rw [e' _ (1 + j) (by omega)] at h1
   rw [h1, Nat.add_comm 1 j]
   rfl
  obtain ⟨f, hf⟩ := skolemG key
  simp [Value.cells] at hcs
  obtain ⟨rfl, rfl, rfl⟩ := hcs
  exact ⟨_, _, _, f, rfl, by omega, fun i hi => ⟨a, rfl, (hf i hi).1⟩, fun i hi => (hf i hi).2⟩
end
theorem Act18.all {w : World} {p : Addr} {x : A18} (h : Act18 w p x) : w.cell? p = some (.int .i64 x.fu) ∧ w.cell? ⟨p.block, p.off + 1, none⟩ = some (.int .i64 (x.t.c 0)) ∧ w.cell? ⟨p.block, p.off + 2, none⟩ = some (.int .i64 (x.t.c 1)) ∧ w.cell? ⟨p.block, p.off + 3, none⟩ = some (.int .i64 (x.t.c 2)) ∧ w.cell? ⟨p.block, p.off + 4, none⟩ = some (.int .i64 (x.t.c 3)) ∧ w.cell? ⟨p.block, p.off + 5, none⟩ = some (.int .i64 (x.t.c 4)) ∧ w.cell? ⟨p.block, p.off + 6, none⟩ = some (.int .i64 (x.t.c 5)) ∧ w.cell? ⟨p.block, p.off + 7, none⟩ = some (.int .i64 (x.t.c 6)) ∧ w.cell? ⟨p.block, p.off + 8, none⟩ = some (.int .i64 (x.t.c 7)) ∧ w.cell? ⟨p.block, p.off + 9, none⟩ = some (.int .i64 (x.t.c 8)) ∧ w.cell? ⟨p.block, p.off + 10, none⟩ = some (.bool x.t.gr) ∧ w.cell? ⟨p.block, p.off + 11, none⟩ = some (x.sl) :=
 ⟨h.c0, h.ck 0 (by omega), h.ck 1 (by omega), h.ck 2 (by omega), h.ck 3 (by omega), h.ck 4 (by omega), h.ck 5 (by omega), h.ck 6 (by omega), h.ck 7 (by omega), h.ck 8 (by omega), h.ck 9 (by omega), h.ck 10 (by omega)⟩
def LongQ18 (n m : Nat) (f : Nat → A18) (w : World) (e : Ending) (w' : World) : Prop :=
 ∃ b, e = .returned (.bool b) ∧ Below w.heap.size w w' ∧ (b = false → n ≤ 20 ∧ m ≤ 100 ∧ ∀ i, i < m → (f i).t.l.length ≤ 100)
set_option maxRecDepth 20000 in
set_option maxHeartbeats 1000000 in
theorem long18 {c : Nat → Int} {A A2 : Option Addr} {n cq m c2 : Nat} {f : Nat → A18} {w : World} (hm : m ≤ maxLen) (h : Acts18 w A2 m f) (hg : ∀ i, i < m → (f i).Good w) :
  Calls Tryz.prog 9 #[.agg (cfgC c A n cq), .slice A2 m c2] w (LongQ18 n m f w) := by
 have hb0 := below_alloc w (.cells (cfgC c A n cq) 25)
 have y16 : (w.alloc (.cells (cfgC c A n cq) 25)).cell? ⟨w.heap.size, 16, none⟩ = some (.slice A n cq) := (Bx.new w 25 (cfgC c A n cq)).cell 16
 unfold maxLen at hm
 have HB0 := hid hb0
 have HA := hid (h.below hb0)
 have HGO := hid (fun i hi => (hg i hi).y.below hb0)
 clear h hb0 hg
 by_cases h20 : 20 < n
 ·have d20 : decide ((20 : Int) < (n : Int)) = true := by simp; omega
  clear h20
  go_enter Tryz.func9, Tryz.ntmps9
  go_upto_region 1 with fail
  generalize w.alloc (.cells (cfgC c A n cq) 25) = W0 at *
  go_wp2
  go_ret
  exact ⟨true, rfl, HB0.out, fun e => by cases e⟩
 ·have d20 : decide ((20 : Int) < (n : Int)) = false := by simp; omega
  by_cases h100 : 100 < m
  ·have d100 : decide ((100 : Int) < (m : Int)) = true := by simp; omega
   clear h20 h100
   go_enter Tryz.func9, Tryz.ntmps9
   go_upto_region 1 with fail
   generalize w.alloc (.cells (cfgC c A n cq) 25) = W0 at *
   go_wp2
   go_ret
   exact ⟨true, rfl, HB0.out, fun e => by cases e⟩
  ·have d100 : decide ((100 : Int) < (m : Int)) = false := by simp; omega
   have hle : m ≤ 100 := by omega
   have HN := hid h20
   clear h20 h100
   go_enter Tryz.func9, Tryz.ntmps9
   go_upto_region 1 with fail
   obtain ⟨W0, hW0⟩ : ∃ x, w.alloc (.cells (cfgC c A n cq) 25) = x := ⟨_, rfl⟩
   obtain ⟨r0, hr0⟩ : ∃ x, w.heap.size = x := ⟨_, rfl⟩
   rw [hW0] at HB0 HA y16 ⊢
   rw [hr0] at y16 ⊢
   clear hW0 hr0 HGO
   go_wp2
   go_loopg [17] m (fun gk t17 wr => ∃ p : Nat, p + gk = m ∧ t17 = .int .i64 p ∧ (∀ i, i < p → (f i).t.l.length ≤ 100) ∧ wr = W0)
   case atStart => exact ⟨0, by omega, rfl, fun i hi => absurd hi (Nat.not_lt_zero i), rfl⟩
   case round =>
    obtain ⟨p, hp, rfl, hall, rfl⟩ := hrel
    have HL := hid hall
    clear hall
    by_cases hlt : p < m
    ·have hlt' : (p : Int) < (m : Int) := by omega
     obtain ⟨ad, rfl, hat⟩ := HA.out p hlt
     obtain ⟨⟨fu, ⟨tc, tg, l⟩, B, bc⟩, hf⟩ : ∃ y, f p = y := ⟨_, rfl⟩
     have HF := hid hf
     rw [hf] at hat
     have c3 := hat.all.2.2.2.2.2.2.2.2.2.2.2
     dsimp only [A18.sl] at c3
     obtain ⟨x, hx⟩ : ∃ x, l.length = x := ⟨_, rfl⟩
     rw [hx] at c3
     have HX := hid hx
     clear hat hf hx
     by_cases h2 : 100 < x
     ·have h2' : (100 : Int) < (x : Int) := by omega
      go_wp2
      go_ret
      exact ⟨true, rfl, HB0.out, fun e => by cases e⟩
     ·have h2' : ¬ (100 : Int) < (x : Int) := by omega
      go_wp2
      go_roundg (gk - 1)
      case measure => omega
      case rel =>
       refine ⟨p + 1, by omega, by go_num, fun i hi => ?_, rfl⟩
       by_cases e : i = p
       ·subst e; rw [HF.out]; show l.length ≤ 100; rw [HX.out]; omega
       ·exact HL.out i (by omega)
    ·have hlt' : ¬ (p : Int) < (m : Int) := by omega
     go_wp2
     go_ret
     exact ⟨false, rfl, HB0.out, fun _ => ⟨by have := HN.out; omega, hle, fun i hi => HL.out i (by omega)⟩⟩
end Go.Proofs.YtbcejfonkehjgaaGreatDoor
namespace Go.Proofs.YtbcejfonkehjgaaGreatDoor
open Go.RowKit

section
variable {b0 : Nat} {w0 w w' : World} {K : AC} {st : St} {L : List (List Int)} {X Y : RS} {o : Ob} {D : Int → List Int} {B : Nat} {r f : Int} {d dn : Bool} {r0 : Nat} {cc : Array Value}
theorem fine_len (h : Am w K st o D B r dn) (hF : Fine (shC K.c) L X) (b : Int) (h0 : 0 ≤ b) (h2 : b < K.c 2) : ((X.T b.toNat).length : Int) = K.c 3 := by
 have h1 := hF.agr.b b.toNat (by show b.toNat < (K.c 2).toNat; omega)
 have h3 := (blk_len (shC K.c).Z (sec L (1 + b.toNat))).1
 rw [h1] at h3
 have h4 : (1 : Int) ≤ K.c 3 ∧ K.c 3 ≤ 16 := h.cm.rt.1 3 (by omega)
 have h5 : (X.T b.toNat).length = (K.c 3).toNat := h3
 omega
theorem TmAt.mono {Xs : Nat → Prop} {a : Addr} {t : Tm} {u : Value} (h : TmAt w Xs a t u) (hb : Below w.heap.size w w') : TmAt w' Xs a t u :=
 ⟨Nat.lt_of_lt_of_le h.lt hb.size, fun j hj => (hb.cell (p := a.add j) (by rw [addBlk]; exact h.lt)).trans (h.c j hj), h.y.below hb⟩
theorem WrE.chg {p : S18 × List Tm} {e : Ending} (h : WrE w K L f X Y o D B r p e w') : Chg w w' K.mine K.mine := by
 obtain ⟨_, _, _, _, h2, _⟩ := h
 exact h2
structure Lv18 (b0 : Nat) (w0 w : World) (K : AC) (r0 : Nat) (cc : Array Value) (L : List (List Int)) (X : RS) (o : Ob) (D : Int → List Int) (B : Nat) (r : Int) : Prop where
 am : Am w K ⟨L, -1, false⟩ o D B r false
 fine : Fine (shC K.c) L X
 bel : Below w0.heap.size w0 w
 cb : Bx w r0 25 cc
 dz : ∀ x, x ∈ o.all → ((D x).length : Int) = K.c 3
 rr : 0 ≤ r ∧ r ≤ B
 lo : ∀ j, K.mine j → w0.heap.size ≤ j
 lt : r0 < w0.heap.size
 xlo : ∀ j, K.X j → b0 ≤ j
theorem Lv18.below (h : Lv18 b0 w0 w K r0 cc L X o D B r) (hb : Below w.heap.size w w') : Lv18 b0 w0 w' K r0 cc L X o D B r := { h with am := h.am.below hb, bel := on h.bel hb, cb := h.cb.next hb }
theorem Lv18.hear {m : Tm} {e : Ending} (h : Lv18 b0 w0 w K r0 cc L X o D B r) (hq : WrE w K L (-1) X Y o D B r (hearF K.c ⟨X, o, D, r⟩ m) e w') :
  ∃ u L', e = .returned u ∧ Lv18 b0 w0 w' K r0 cc L' (hearF K.c ⟨X, o, D, r⟩ m).1.X (hearF K.c ⟨X, o, D, r⟩ m).1.o (hearF K.c ⟨X, o, D, r⟩ m).1.D (B + 2) (hearF K.c ⟨X, o, D, r⟩ m).1.r ∧ Tlv w' w.heap.size K.X u (hearF K.c ⟨X, o, D, r⟩ m).2 ∧
   (∀ t, t ∈ (hearF K.c ⟨X, o, D, r⟩ m).2 → Bt18 K.c (hearF K.c ⟨X, o, D, r⟩ m).1.o (m.c 6) t) := by
 obtain ⟨u, L', f', h1, h2, h3⟩ := hq
 rcases h3 with ⟨h3, h4, h5, h6⟩ | h3
 ·obtain ⟨b1, b2, b3, b4⟩ := hear_bound (r := r) h.am.o18 (fun b => fine_len h.am h.fine b) h.dz m
  have e5 := h5 (by omega)
  subst e5
  have := h.rr
  exact ⟨u, L', h1, { am := h3, fine := h4, bel := h.bel.trans (h2.bel h.bel.size h.lo), cb := h2.bx h.cb fun hj => by have h7 := h.lo _ hj; have h8 := h.lt; omega, dz := b1, rr := by omega, lo := h.lo, lt := h.lt, xlo := h.xlo }, h6, b2⟩
 ·exact absurd h3.1 (by omega)
end
end Go.Proofs.YtbcejfonkehjgaaGreatDoor
namespace Go.Proofs.YtbcejfonkehjgaaGreatDoor
open Go.RowKit

section
variable {b0 : Nat} {W0 w w' : World} {K : AC} {c : Nat → Int} {bb kd : Nat} {vv : Value} {r0 : Nat} {cc : Array Value} {L L' : List (List Int)} {f f' : Int} {d : Bool} {o : Ob} {D : Int → List Int} {B : Nat} {r : Int} {X : RS} {st : St}
structure Tv18 (b0 : Nat) (W0 w : World) (K : AC) (c : Nat → Int) (bb kd : Nat) (vv : Value) (r0 : Nat) (cc : Array Value) (L : List (List Int)) (f : Int) (d : Bool) (o : Ob) (D : Int → List Int) (B : Nat) (r : Int) (X : RS) : Prop where
 am : Am w K ⟨L, f, d⟩ o D B r d
 up : d = false → Fine (shC c) L X ∧ ∀ x, x ∈ o.all → D x = X.T x.toNat
 dw : d = true → ∃ Z Y, Pend (shC c) L Z Y
 kc : K.c = c
 kk : K.kd = kd
 kv : K.vv = vv
 kb : K.bb = bb
 bel : Below W0.heap.size W0 w
 cb : Bx w r0 25 cc
 lt : r0 < W0.heap.size
 lo : ∀ j, K.mine j → W0.heap.size ≤ j
 xlo : ∀ j, K.X j → b0 ≤ j
 rr : 0 ≤ r ∧ r ≤ B
 bb0 : W0.heap.size ≤ bb
theorem Tv18.below (h : Tv18 b0 W0 w K c bb kd vv r0 cc L f d o D B r X) (hb : Below w.heap.size w w') : Tv18 b0 W0 w' K c bb kd vv r0 cc L f d o D B r X := { h with am := h.am.below hb, bel := on h.bel hb, cb := h.cb.next hb }
theorem Tv18.dk (h : Tv18 b0 W0 w K c bb kd vv r0 cc L f d o D B r X) : Dk w 77 bb kd vv ⟨L, f, d⟩ := by
 have h1 := h.am.sx.dk
 rw [h.kk, h.kv, h.kb] at h1
 exact h1
theorem Am.dsk (h : Am w K ⟨L, f, d⟩ o D B r d) {d' : Bool} {f' : Int} (hk : Dk w' 77 K.bb K.kd K.vv ⟨L, f', d'⟩) (ho : Only w w' K.kd K.vv) : Am w' K ⟨L, f', d'⟩ o D B r d :=
 h.disk ho ⟨hk, ho.chg.bx h.sx.bx fun hj => hj.elim h.sx.ne.1 h.sx.ne.2, h.sx.ok, h.sx.len, h.sx.by_⟩ rfl
theorem Tv18.only (h : Tv18 b0 W0 w K c bb kd vv r0 cc L f d o D B r X) (ho : Only w w' kd vv) : Below W0.heap.size W0 w' ∧ Bx w' r0 25 cc := by
 have hl : ∀ j, (j = kd ∨ vv.ownBlock = some j) → W0.heap.size ≤ j := fun j hj => h.lo j (.inr (.inl (by unfold AC.dsk; rw [h.kk, h.kv]; exact hj)))
 exact ⟨h.bel.trans (ho.chg.bel h.bel.size hl), ho.chg.bx h.cb fun hj => by have h1 := hl _ hj; have h2 := h.lt; omega⟩
theorem Tv18.fused (h : Tv18 b0 W0 w K c bb kd vv r0 cc L f d o D B r X) (n : Int) (hk : Dk w' 77 bb kd vv ((⟨L, f, d⟩ : St).fuse n)) (ho : Only w w' kd vv) : ∃ f', Tv18 b0 W0 w' K c bb kd vv r0 cc L f' d o D B r X := by
 have e : ∃ f', (⟨L, f, d⟩ : St).fuse n = ⟨L, f', d⟩ := by
  unfold St.fuse
  cases d
  ·exact ⟨n, rfl⟩
  ·exact ⟨f, rfl⟩
 obtain ⟨f', e⟩ := e
 rw [e] at hk
 obtain ⟨h1, h2⟩ := h.only ho
 refine ⟨f', { h with am := h.am.dsk (by rw [h.kk, h.kv, h.kb]; exact hk) (by rw [h.kk, h.kv]; exact ho), bel := h1, cb := h2 }⟩
theorem tv_new {n : Nat} {hh : Nat → Hn} (rt : RightP c hh n) (ha : Am w K ⟨List.replicate 64 [], -1, false⟩ (Ob.new c hh n 3) (fun _ => []) 0 0 false) (kc : K.c = c) (kk : K.kd = kd) (kv : K.vv = vv) (kb : K.bb = bb) (hb : Below W0.heap.size W0 w) (hx : Bx w r0 25 cc) (hl : r0 < W0.heap.size) (ho : ∀ j, K.mine j → W0.heap.size ≤ j) (hxm : ∀ j, K.X j → b0 ≤ j) (hbb : W0.heap.size ≤ bb) :
  Tv18 b0 W0 w K c bb kd vv r0 cc (List.replicate 64 []) (-1) false (Ob.new c hh n 3) (fun _ => []) 0 0 (RS.zero (shC c).Z) := by
 obtain ⟨-, -, -, -, ok⟩ := rt_nat rt
 exact { am := ha, up := fun _ => ⟨fine_new ok, fun x h => by rw [Ob.new_all] at h; cases h⟩, dw := (fun e => by cases e), kc := kc, kk := kk, kv := kv, kb := kb, bel := hb, cb := hx, lt := hl, lo := ho, xlo := hxm, rr := ⟨by omega, by omega⟩, bb0 := hbb }
theorem rdL_byt {dn : Bool} (h : Am w K st o D B r dn) (b : Int) : Byt (rdL K.c st b) := by
 unfold rdL
 split
 ·refine blk_byte ?_ _
  unfold sec
  rw [List.getD_eq_getElem?_getD]
  cases hx : st.L[1 + b.toNat]? with
  | none => intro x hx; cases hx
  | some l => exact (h.sx.by_ l (List.mem_of_getElem? hx)).2
 ·intro x hx; cases hx
theorem Tv18.stored (h : Tv18 b0 W0 w K c bb kd vv r0 cc L f d o D B r X) (ob : Obj) (b : Int) : Calls Tryz.prog 23 #[K.ptr, .int .i64 b] (w.alloc ob) fun e w' =>
  ∃ A5 k5 c5 V, e = .returned (.tuple #[.slice A5 k5 c5, .int .i64 V, .int .i64 (rdE c b)]) ∧ Below (w.alloc ob).heap.size (w.alloc ob) w' ∧ Byt (rdL c ⟨L, f, d⟩ b) ∧
   ∀ i, Tv18 b0 W0 (w'.setCell ⟨w.heap.size, i, none⟩ (.slice A5 k5 c5)) K c bb kd vv r0 cc L f d o D B r X ∧ By (w'.setCell ⟨w.heap.size, i, none⟩ (.slice A5 k5 c5)) K.X (.slice A5 k5 c5) (rdL c ⟨L, f, d⟩ b) := by
 have ha := h.am.with_new ob
 have hby := rdL_byt h.am b
 rw [h.kc] at hby
 refine (astored_any ha b).mono fun e w' ⟨u, h1, h2, h3⟩ => ?_
 obtain ⟨A5, c5, rfl, -⟩ := id h2
 have h1' : e = .returned (.tuple #[.slice A5 (rdL c ⟨L, f, d⟩ b).length c5, .int .i64 (rdV c ⟨L, f, d⟩ b), .int .i64 (rdE c b)]) := by rw [h1, ← h.kc]
 have h2' : By w' (fun j => K.X j ∨ j = w.heap.size) (.slice A5 (rdL c ⟨L, f, d⟩ b).length c5) (rdL c ⟨L, f, d⟩ b) := by rw [← h.kc]; exact h2
 refine ⟨A5, _, c5, _, h1', h3, hby, fun i => ⟨?_, ?_⟩⟩
 ·have hs : w.heap.size ≤ (w.alloc ob).heap.size := (below_alloc w ob).size
  have hb : Below W0.heap.size W0 w' := on (on h.bel (below_alloc w ob)) h3
  exact { h with am := am_set_new h.am h3 i _, bel := below_set hb _ _ h.bel.size, cb := ((h.cb.next (below_alloc w ob)).next h3).far _ _ (fun e => by have h4 := h.lt; have h5 := h.bel.size; have h6 : w.heap.size = r0 := e; omega) }
 ·exact (h2'.chg (set_chg w' ⟨w.heap.size, i, none⟩ _) fun j e => .inr e).less fun j hj => .inl hj
theorem Tv18.open_ (h : Tv18 b0 W0 w K c bb kd vv r0 cc L f d o D B r X) : ∃ L' X', rdo (shC c) ⟨L, -1, false⟩ (sec L 0) = (⟨L', -1, false⟩, 0) ∧ L'.length = L.length ∧ Fine (shC c) L' X' := by
 have hok := h.am.sx.ok
 have hlen := h.am.sx.len
 rw [h.kc] at hok hlen
 cases d with
 | false =>
  obtain ⟨hF, -⟩ := h.up rfl
  exact ⟨L, X, hF.rdo (-1) false, rfl, hF⟩
 | true =>
  obtain ⟨Z, Y, L', h1, h2, h3, h4⟩ := h.dw rfl
  have hl : (shC c).at_ (shC c).C 0 ≤ L'.length := by rw [h2]; exact hlen
  rcases h4 with h4 | h4
  ·exact ⟨L', Z, h1, h2, hok, hl, h4.1, h3⟩
  ·exact ⟨L', Y, h1, h2, hok, hl, h4.1, h3⟩
theorem Tv18.anew {n : Nat} {hh : Nat → Hn} {A : Option Addr} {cq : Nat} (h : Tv18 b0 W0 w K c bb kd vv r0 cc L f d o D B r X) (hk : Dk w' 77 bb kd vv ⟨L, -1, false⟩) (ho : Only w w' kd vv) (rt : RightP c hh n) (hr : Rv w' w'.heap.size A (hvs hh n)) (ca : A = none → cq = 0) (hb0 : b0 ≤ W0.heap.size) :
  Calls Tryz.prog 10 #[.agg (cfgC c A n cq), .pointer (some ⟨kd, 0, none⟩)] w' fun e w2 => ∃ K2 L2 X2, e = .returned (.tuple #[K2.ptr, .int .i64 0]) ∧ Tv18 b0 W0 w2 K2 c bb kd vv r0 cc L2 (-1) false (Ob.new c hh n 3) (fun _ => []) 0 0 X2 := by
 obtain ⟨L2, X2, e1, e2, hF⟩ := h.open_
 have ha := h.am.dsk (d' := false) (f' := -1) (w' := w') (by rw [h.kk, h.kv, h.kb]; exact hk) (by rw [h.kk, h.kv]; exact ho)
 obtain ⟨h1, h2⟩ := h.only ho
 have hlen := ha.sx.len
 have hoff := ha.off
 rw [h.kc] at hlen
 rw [h.kv] at hoff
 have hoff2 : Offd w' (fun j => (j = kd ∨ vv.ownBlock = some j) ∨ False) vv L.length := fun g hg i A m cx hi hcell hm hx => hoff g hg i A m cx hi hcell hm (ha.xd _ (by unfold AC.dsk; rw [h.kk, h.kv]; exact hx.elim id False.elim))
 have hcall := anew_ok (cq := cq) rt hr ca hk hlen ha.sx.by_ (by rw [e1]) (by rw [e1]; exact e2) (Z := fun _ => False) (fun _ hz => hz.elim) hoff2
 rw [e1] at hcall
 refine hcall.mono fun e w2 hq => ?_
 have hch := hq
 obtain ⟨K2, h3, h4, h5, h6, h7, h8, -, -, h9, h10, h11, -⟩ := hq.law h1 hk h.bb0
 refine ⟨K2, L2, X2, h3, { am := h4, up := fun _ => ⟨hF, fun x hx => by rw [Ob.new_all] at hx; cases hx⟩, dw := (fun e => by cases e), kc := h8, kk := h5, kv := h6, kb := h7, bel := h9, cb := ?_, lt := h.lt, lo := fun j hj => h10 j (.inl hj), xlo := fun j hj => ?_, rr := ⟨by omega, by omega⟩, bb0 := h.bb0 }⟩
 ·obtain ⟨K3, g1, -, -, -, -, -, -, -, g2, -⟩ := hch
  refine g2.bx h2 fun hj => ?_
  have h12 : W0.heap.size ≤ r0 := by
   rcases hj with e | e
   ·have := hk.low; have := h.bb0; omega
   ·have := (hk.rowLt e).1; have := h.bb0; omega
  have := h.lt
  omega
 ·rcases h11 j hj with hm | hm
  ·exact Nat.le_trans hb0 (h10 j (.inl hm))
  ·exact hm.elim
def TvQ (b0 : Nat) (W0 w : World) (K : AC) (c : Nat → Int) (bb kd : Nat) (vv : Value) (r0 : Nat) (cc : Array Value) (B : Nat) (e : Ending) (w' : World) : Prop :=
 ∃ u L2 f2 d2 o2 D2 r2 X2 tl, e = .returned u ∧ Tv18 b0 W0 w' K c bb kd vv r0 cc L2 f2 d2 o2 D2 (B + 2) r2 X2 ∧ Tlv w' w.heap.size K.X u tl ∧ Chg w w' K.mine K.mine ∧ ∀ t, t ∈ tl → t.c 0 = 12 → t.c 8 = 0 → (0 ≤ t.c 5 ∧ t.c 5 < c 2) ∧ t.l = rdL c ⟨L2, f2, d2⟩ (t.c 5)
theorem Tv18.hear {mc : Nat → Int} {gr : Bool} {A : Option Addr} {n cp : Nat} {l : List Int} (h : Tv18 b0 W0 w K c bb kd vv r0 cc L f d o D B r X) (hN : Nm w) (hB : B ≤ 9000000) (h45 : c 5 = 0 ∨ c 4 = 2) (hs : c 2 = ((c 2).toNat : Int) ∧ c 3 = ((c 3).toNat : Int)) (hd : By w K.X (.slice A n cp) l) (hby : Byt l)
  (hm : mc 0 = 10 → d = false → 0 ≤ mc 5 → mc 5 < c 2 → l = X.T (mc 5).toNat) : Calls Tryz.prog 15 #[K.ptr, .agg (msgC mc gr A n cp)] w (TvQ b0 W0 w K c bb kd vv r0 cc B) := by
 have hrr := h.rr
 cases d with
 | true =>
  refine (ahear_down h.am).mono fun e w' ⟨h1, h2⟩ => ?_
  have h3 := h.below h2
  exact ⟨_, L, f, true, o, D, r, X, [], h1, { h3 with am := h3.am.up (by omega), rr := by omega }, tlv_nil _ _ _, Chg.of h2 _, fun t ht => by cases ht⟩
 | false =>
  obtain ⟨hF, hde⟩ := h.up rfl
  have hF' : Fine (shC K.c) L X := by rw [h.kc]; exact hF
  have ho := h.am.o18
  have hdom := h.am.dom
  rw [h.kc] at ho hdom
  obtain ⟨t1, t2, t3, t4⟩ := hear_true (r := r) ho h45 hs hdom hde ⟨mc, gr, l⟩ fun a1 a2 a3 => hm a1 rfl a2 a3
  refine (ahear_any (mc := mc) (gr := gr) h.am hN hF' hB (by omega) hd hby).mono fun e w' hq => ?_
  obtain ⟨u, L', f', h1, h2, h3⟩ := hq
  have hbel : Below W0.heap.size W0 w' := h.bel.trans (h2.bel h.bel.size h.lo)
  have hcb : Bx w' r0 25 cc := h2.bx h.cb fun hj => by have h7 := h.lo _ hj; have h8 := h.lt; omega
  rw [h.kc] at h3
  rcases h3 with ⟨h3, h4, h5, h6⟩ | ⟨h3, h4, h5, h6, h7⟩
  ·refine ⟨u, L', f', false, _, _, _, _, _, h1, { am := h3, up := fun _ => ⟨h4, t1⟩, dw := (fun e => by cases e), kc := h.kc, kk := h.kk, kv := h.kv, kb := h.kb, bel := hbel, cb := hcb, lt := h.lt, lo := h.lo, xlo := h.xlo, rr := by omega, bb0 := h.bb0 }, h6, h2, fun t ht a1 a2 => ?_⟩
   obtain ⟨g1, g2⟩ := t2 t ht a1 a2
   refine ⟨g1, g2.trans ?_⟩
   have h8 := (rd_fine h3 (by rw [h.kc]; exact h4) (t.c 5) g1.1 (by rw [h.kc]; exact g1.2)).1
   rw [h.kc] at h8
   exact h8.symm
  ·exact ⟨u, L', f', true, o, D, r, X, [], h1, { am := h5, up := (fun e => by cases e), dw := fun _ => ⟨_, _, h7⟩, kc := h.kc, kk := h.kk, kv := h.kv, kb := h.kb, bel := hbel, cb := hcb, lt := h.lt, lo := h.lo, xlo := h.xlo, rr := by omega, bb0 := h.bb0 }, by rw [h4]; exact tlv_nil _ _ _, h2, fun t ht => by cases ht⟩
end
end Go.Proofs.YtbcejfonkehjgaaGreatDoor
