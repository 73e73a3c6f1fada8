/-
  What is proved: a cache that a law has made, beside its map of what was put last. No condition.
-/
import Derived.Test.YtbcejfonkehjgaaGreatDoorK27
import Derived.Test.YtbcejfonkehjgaaGreatDoorRows
import Derived.Test.YtbcejfonkehjgaaGreatDoorK10
namespace Go.Proofs.YtbcejfonkehjgaaGreatDoor
open Go.RowKit

theorem Cm.up {w : World} {X F : Nat → Prop} {G M n cp T B B' : Nat} {c : Nat → Int} {A : Option Addr} {hh : Nat → Hn} {v : Value} {o : Ob} {D : Int → List Int} (h : Cm w X G M F c A n cp hh T v o D B) (hB : B ≤ B') : Cm w X G M F c A n cp hh T v o D B' :=
  { h with
    tm := Nat.le_trans h.tm hB
    map := by
      obtain ⟨f, h1, h2⟩ := h.map
      exact ⟨f, h1.mono hB, h2⟩ }
theorem Cm.cap {w : World} {X F : Nat → Prop} {G M n cp T B : Nat} {c : Nat → Int} {A : Option Addr} {hh : Nat → Hn} {v : Value} {o : Ob} {D : Int → List Int} (h : Cm w X G M F c A n cp hh T v o D B) : ((o.all.length : Nat) : Int) ≤ c (9 + (T - 1)) := by
  have h1 := Ob.le h.ok
  have ht : T - 1 < 3 := by have := h.t1; have := h.t3; omega
  rw [cps_at ht] at h1
  have h2 := h.rt.caps
  have h3 : (0 : Int) ≤ c (9 + (T - 1)) := by
    have h4 := h.rt.1 (9 + (T - 1)) (by omega)
    have h5 : lo (9 + (T - 1)) = 1 := by
      obtain h | h | h : T - 1 = 0 ∨ T - 1 = 1 ∨ T - 1 = 2 := by omega
      all_goals rw [h]; rfl
    omega
  omega
theorem Cm.full {w : World} {X F : Nat → Prop} {G M n cp T B : Nat} {c : Nat → Int} {A : Option Addr} {hh : Nat → Hn} {v : Value} {o : Ob} {D : Int → List Int} {b : Int} (h : Cm w X G M F c A n cp hh T v o D B) (h5 : ¬ c 5 = 2) (hg : o.gn b = true) : ((o.all.length : Nat) : Int) = c (9 + (T - 1)) := by
  have hk := h.kd
  have hno : ∀ rg pt lp n2 S, o ≠ .prt rg pt lp n2 S := fun rg pt lp n2 S e => by
    subst e
    by_cases h6 : c (6 + (T - 1)) = 2
    · rw [Ob.new_mq h5 h6] at hk; exact hk
    · rw [Ob.new_lru h5 h6] at hk; exact hk
  have h1 := Ob.gn_full h.ok hno hg
  have ht : T - 1 < 3 := by have := h.t1; have := h.t3; omega
  have h2 := h.rt.caps.2.2.2.1 _ ht
  rw [cps_at ht] at h1 h2
  omega
structure Lc16 (w0 w : World) (X : Nat → Prop) (G M : Nat) (F : Nat → Prop) (c : Nat → Int) (A : Option Addr) (n cp : Nat) (hh : Nat → Hn) (T : Nat) (v : Value) (o : Ob) (D : Int → List Int) (B Ml r : Nat) (A0 : Option Addr) (n0 c0 : Nat) : Prop where
  cm : Cm w X G M F c A n cp hh T v o D B
  lst : ∃ lf, Mc w Ml B lf ∧ ∀ x, x ∈ o.all → ∃ u, lf x = some u ∧ By w X u (D x)
  bx : Bx w r 25 (cfgC c A0 n0 c0)
  bel : Below w0.heap.size w0 w
  xl : X Ml
  xo : ∀ j, X j → w0.heap.size ≤ j
  xr : ¬ X r
  nl : Ml ≠ G ∧ Ml ≠ M ∧ ¬ F Ml
variable {w0 w w' : World} {X F P Q : Nat → Prop} {G M n cp T B Ml r n0 c0 : Nat} {c : Nat → Int} {A A0 : Option Addr} {hh : Nat → Hn} {v : Value} {o o' : Ob} {D D' : Int → List Int}
theorem Lc16.below (h : Lc16 w0 w X G M F c A n cp hh T v o D B Ml r A0 n0 c0) (hb : Below w.heap.size w w') : Lc16 w0 w' X G M F c A n cp hh T v o D B Ml r A0 n0 c0 :=
  { h with
    cm := h.cm.below hb
    lst := by
      obtain ⟨lf, h1, h2⟩ := h.lst
      exact ⟨lf, h1.below hb, fun x hx => by
        obtain ⟨u, h3, h4⟩ := h2 x hx
        exact ⟨u, h3, h4.below hb⟩⟩
    bx := h.bx.next hb
    bel := on h.bel hb }
theorem Lc16.up {B' : Nat} (h : Lc16 w0 w X G M F c A n cp hh T v o D B Ml r A0 n0 c0) (hB : B ≤ B') : Lc16 w0 w X G M F c A n cp hh T v o D B' Ml r A0 n0 c0 :=
  { h with
    cm := h.cm.up hB
    lst := by
      obtain ⟨lf, h1, h2⟩ := h.lst
      exact ⟨lf, h1.mono hB, h2⟩ }
theorem Lc16.draws (h : Lc16 w0 w X G M F c A n cp hh T v o D B Ml r A0 n0 c0) (d : Nat) : Lc16 w0 (w.drewN d) X G M F c A n cp hh T v o D B Ml r A0 n0 c0 := h.below (below_draws (Below.refl _ _) d)
theorem Lc16.wide (h : Lc16 w0 w X G M F c A n cp hh T v o D B Ml r A0 n0 c0) : ∀ j, F j ∨ j = M → X j := fun j hj => hj.elim (h.cm.fx j) fun e => e ▸ h.cm.xM
theorem Lc16.step {B' : Nat} (h : Lc16 w0 w X G M F c A n cp hh T v o D B Ml r A0 n0 c0) (hcm : Cm w' X G M F c A n cp hh T v o' D' B') (hc : Chg w w' (fun j => F j ∨ j = M) Q) (hB : B ≤ B') (hD : ∀ x, x ∈ o'.all → x ∈ o.all ∧ D' x = D x) : Lc16 w0 w' X G M F c A n cp hh T v o' D' B' Ml r A0 n0 c0 :=
  { cm := hcm
    lst := by
      obtain ⟨lf, h1, h2⟩ := h.lst
      refine ⟨lf, (h1.same (hc.block Ml h1.lt fun e => e.elim h.nl.2.2 h.nl.2.1)).mono hB, fun x hx => ?_⟩
      obtain ⟨h3, h4⟩ := hD x hx
      obtain ⟨u, h5, h6⟩ := h2 x h3
      exact ⟨u, h5, h4 ▸ h6.chg hc h.wide⟩
    bx := hc.bx h.bx fun e => h.xr (h.wide r e)
    bel := h.bel.trans (hc.bel h.bel.size fun j e => h.xo j (h.wide j e))
    xl := h.xl
    xo := h.xo
    xr := h.xr
    nl := h.nl }
end Go.Proofs.YtbcejfonkehjgaaGreatDoor
namespace Go.Proofs.YtbcejfonkehjgaaGreatDoor
open Go.RowKit

section
variable {c : Nat → Int} {A : Option Addr} {n cq : Nat} {hh : Nat → Hn} {w : World} {τ : Int}
set_option maxRecDepth 20000 in
set_option maxHeartbeats 1000000 in
theorem cm_new_no (hr : Rv w w.heap.size A (hvs hh n)) (hn : n ≤ maxLen) (h : ¬ (RightP c hh n ∧ 1 ≤ τ ∧ τ ≤ 3)) :
    Calls Tryz.prog 30 #[.agg (cfgC c A n cq), .int .i64 τ] w fun e w' => e = .returned (.tuple #[.pointer none, .int .i64 6]) ∧ Below w.heap.size w w' := by
  have hb0 := below_alloc w (.cells (cfgC c A n cq) 25)
  have HX0 := hid (Bx.new w 25 (cfgC c A n cq))
  have HB0 := hid hb0
  have HRI := hid (right_any A n cq c hh _ hn ((hr.below hb0 (Nat.le_refl _)).more hb0.size))
  by_cases rt : RightP c hh n
  · rw [dec_true rt] at HRI
    by_cases h1 : τ < 1
    · have d1 : decide (τ < 1) = true := decide_eq_true h1
      clear hr hb0 hn h rt h1
      go_enter Tryz.func30, Tryz.ntmps30
      go_upto_region 1 with fail
      obtain ⟨W0, hW0⟩ : ∃ x, w.alloc (.cells (cfgC c A n cq) 25) = x := ⟨_, rfl⟩
      obtain ⟨r0, hr0⟩ : ∃ x, w.heap.size = x := ⟨_, rfl⟩
      rw [hW0] at HB0 HX0 HRI ⊢
      rw [hr0] at HX0 ⊢
      clear hW0 hr0
      go_wp2_with (first
        | (go_at_call 49; refine HRI.out.mono ?_; rintro e w1 ⟨rfl, hb⟩; have HB1 := hid (on HB0.out hb); clear hb)
        | (refine wpList_load_bx rfl 25 (.tmp 2) rfl r0 _ _ _ rfl HX0.out Tryz.underlying25 rfl (by kernel_rfl) ?_))
      go_ret2
      exact ⟨rfl, HB1.out⟩
    · have d1 : decide (τ < 1) = false := decide_eq_false h1
      have d3 : decide (3 < τ) = true := decide_eq_true (Classical.byContradiction fun h3 => h ⟨rt, by omega, by omega⟩)
      clear hr hb0 hn h rt h1
      go_enter Tryz.func30, Tryz.ntmps30
      go_upto_region 1 with fail
      obtain ⟨W0, hW0⟩ : ∃ x, w.alloc (.cells (cfgC c A n cq) 25) = x := ⟨_, rfl⟩
      obtain ⟨r0, hr0⟩ : ∃ x, w.heap.size = x := ⟨_, rfl⟩
      rw [hW0] at HB0 HX0 HRI ⊢
      rw [hr0] at HX0 ⊢
      clear hW0 hr0
      go_wp2_with (first
        | (go_at_call 49; refine HRI.out.mono ?_; rintro e w1 ⟨rfl, hb⟩; have HB1 := hid (on HB0.out hb); clear hb)
        | (refine wpList_load_bx rfl 25 (.tmp 2) rfl r0 _ _ _ rfl HX0.out Tryz.underlying25 rfl (by kernel_rfl) ?_))
      go_ret2
      exact ⟨rfl, HB1.out⟩
  · rw [dec_false rt] at HRI
    clear hr hb0 hn h rt
    go_enter Tryz.func30, Tryz.ntmps30
    go_upto_region 1 with fail
    obtain ⟨W0, hW0⟩ : ∃ x, w.alloc (.cells (cfgC c A n cq) 25) = x := ⟨_, rfl⟩
    obtain ⟨r0, hr0⟩ : ∃ x, w.heap.size = x := ⟨_, rfl⟩
    rw [hW0] at HB0 HX0 HRI ⊢
    rw [hr0] at HX0 ⊢
    clear hW0 hr0
    go_wp2_with (first
      | (go_at_call 49; refine HRI.out.mono ?_; rintro e w1 ⟨rfl, hb⟩; have HB1 := hid (on HB0.out hb); clear hb)
      | (refine wpList_load_bx rfl 25 (.tmp 2) rfl r0 _ _ _ rfl HX0.out Tryz.underlying25 rfl (by kernel_rfl) ?_))
    go_ret2
    exact ⟨rfl, HB1.out⟩
end
end Go.Proofs.YtbcejfonkehjgaaGreatDoor
namespace Go.Proofs.YtbcejfonkehjgaaGreatDoor
open Go.RowKit

theorem infoByte : (Tryz.prog.info? 5).map (fun i => (i.zero, i.size, i.bytes)) = some (some (.int .u8 0), 1, 1) := by kernel_rfl

def GrownAt (w w' : World) (v v' : Value) : Prop := w.grownBy w' v.ownBlock ∧ (v'.ownBlock = v.ownBlock ∨ v'.ownBlock = some w.heap.size)

theorem GrownAt.below {w w' : World} {v v' : Value} {b : Nat} {l : List Int} (h : GrownAt w w' v v') (ho : Own w b v l) (hb : b ≤ w.heap.size) : Below b w w' :=
  (Below.refl b w).grown h.1 hb fun k hk => (World.ownsRow.lt ho k hk).1

theorem GrownAt.other {w w' : World} {v v' u : Value} {c : Nat} {k : List Int} (h : GrownAt w w' v v') (ho : Own w c u k) (hne : u.ownBlock = none ∨ u.ownBlock ≠ v.ownBlock) : Own w' c u k :=
  World.ownsRow.kept ho h.1 hne

set_option maxRecDepth 100000 in
theorem run_app (w : World) (ty : TypeId) (b : Nat) (v : Value) (l : List Int) (hown : Own w b v l) (C : Nat) (A : Option Addr) (m c : Nat) (news : List Int)
    (hm : news.length = m) (hr : Rd w C A news) (hbytes : l.length + m ≤ 140737488355328) (hbase : b ≤ w.heap.size) :
    ∃ v' w', (Builtin.append_ #[38, 38] ty #[v, .slice A m c]).run Tryz.prog w = .ok v' w' ∧ Own w' b v' (l ++ news) ∧ GrownAt w w' v v' := by
  obtain ⟨i, hi, hz, hs, hb⟩ := info_parts infoByte
  subst hm
  rcases A with _ | ad
  · have hnews : news = [] := by
      cases news with
      | nil => rfl
      | cons x r => obtain ⟨_, e, _⟩ := hr 0 x rfl; cases e
    subst hnews
    refine ⟨v, w, ?_, by rw [List.append_nil]; exact hown, World.grownBy.refl w _, .inl rfl⟩
    rcases hown.2 with ⟨rfl, _⟩ | ⟨g, cap, cur, rfl, _, _, hnc, _⟩
    · simp [Builtin.append_, run_underlying Tryz.underlying38, sizeOf, typeInfo, hi, Builtin.lenOf, Builtin.firstCells]
    · simp [Builtin.append_, run_underlying Tryz.underlying38, sizeOf, typeInfo, hi, Builtin.lenOf, Builtin.firstCells, hnc, storeCells]
  · have hc : ∀ j u, (bytes news)[j]? = some u → w.cell? (ad.add j) = some u := by
      intro j u hu
      simp only [bytes, List.getElem?_map, Option.map_eq_some_iff] at hu
      obtain ⟨x, hx, rfl⟩ := hu
      obtain ⟨ad', e, _, hh⟩ := hr j x hx
      injection e with e
      subst e
      exact hh
    obtain ⟨v', w', hrun, h2, h3, _, h5⟩ := run_append_own_at (P := Tryz.prog) w b 38 ty 5 i (.int .u8 0) 1 1 Tryz.underlying38 hi hz hs hb rfl (by decide) v l.length (bytes l) hown ad news.length c (bytes news)
      (by rw [bytes_length, Nat.mul_one]) hc (bytes_one _) (by unfold maxLen; omega) (by omega) hbase
    refine ⟨v', w', hrun, ?_, h3, h5⟩
    unfold Own
    rw [List.length_append]
    have e : bytes (l ++ news) = bytes l ++ bytes news := by simp [bytes]
    rw [e]
    exact h2

theorem wpList_app {w : World} {ops : Array Oper} {rest : List Oper} {o : Oper} {a : Act} {Q : Exit → Act → World → Prop} (hgd : o.guard = none) (s x : Operand)
    (ho : o.op = .call { callee := .builtin .append, args := #[s, x], argTypes := #[38, 38] }) (b : Nat) (v : Value) (l : List Int) (hown : Own w b v l) (hs : a.eval s = v) (C : Nat) (A : Option Addr) (m c : Nat) (news : List Int)
    (hx : a.eval x = .slice A m c) (hm : news.length = m) (hr : Rd w C A news) (hbytes : l.length + m ≤ 140737488355328) (hbase : b ≤ w.heap.size)
    (h : ∀ v' w', Own w' b v' (l ++ news) → GrownAt w w' v v' → wpList Tryz.prog ops Q rest (a.put o.dst v') w') : wpList Tryz.prog ops Q (o :: rest) a w := by
  refine wpList_plain hgd fun K hK => ?_
  obtain ⟨v', w', hrun, h2, h3⟩ := run_app w o.type b v l hown C A m c news hm hr hbytes hbase
  unfold Oper.wp execOp
  simp only [ho, resolve, invoke, builtin, Sem.run_bind, Sem.run_pure, Result.andThen_ok, List.map_toArray, List.map_cons, List.map_nil, hs, hx, hrun]
  exact hK _ _ (h v' w' h2 h3)

theorem own_nil (w : World) (b : Nat) : Own w b (.slice none 0 0) [] := World.ownsRow_nil w b _ 1
theorem own_new (w : World) (b : Nat) (l : List Int) (cs : Array Value) (n : Nat) (hb : b ≤ w.heap.size) (hcs : cs.toList = bytes l) (hn : l.length = n) (hm : n ≤ maxLen) :
    Own (w.alloc (.cells cs 5)) b (.slice (some ⟨w.heap.size, 0, none⟩) n n) l := by
  subst hn
  have h := World.ownsRow_lit (size := 1) (e := 5) (base := b) w cs l.length hb hm (by rw [← Array.length_toList, hcs, bytes_length, Nat.mul_one])
  rw [hcs] at h
  exact h
theorem rd_new (w : World) (l : List Int) (cs : Array Value) (hcs : cs.toList = bytes l) (hm : l.length ≤ maxLen) :
    Rd (w.alloc (.cells cs 5)) (w.heap.size + 1) (some ⟨w.heap.size, 0, none⟩) l := by
  obtain ⟨A, c, e, hr, _⟩ := (own_new w w.heap.size l cs _ (Nat.le_refl _) hcs rfl hm).shape
  injection e with e1 e2 e3
  subst e1
  exact hr.more (by simp)
theorem rd_one (w : World) (x : Int) : Rd (w.alloc (.cells #[.int .u8 x] 5)) (w.heap.size + 1) (some ⟨w.heap.size, 0, none⟩) [x] :=
  rd_new w [x] _ rfl (by simp [maxLen])
end Go.Proofs.YtbcejfonkehjgaaGreatDoor
namespace Go.Proofs.YtbcejfonkehjgaaGreatDoor
open Go.RowKit

set_option maxHeartbeats 400000 in
theorem room_any (A : Option Addr) (n c : Nat) (more : Int) (l : List Int) (w : World) (C : Nat) (hn : l.length = n) (hlen : n ≤ 70368744177664) (h0 : 0 ≤ more) (hmore : more ≤ 70368744177664) (ra : Rd w C A l) (hC : C ≤ w.heap.size) :
    Calls Tryz.prog 158 #[.slice A n c, .int .i64 more] w fun e w' => ∃ v, e = .returned v ∧ Own w' w.heap.size v l ∧ Below w.heap.size w w' := by
  obtain ⟨i, hi, hz, hs, hb⟩ := info_parts infoByte
  obtain ⟨k, rfl⟩ := Int.eq_ofNat_of_zero_le h0
  have hbk : i.bytes * (n + k) ≤ 281474976710656 := by rw [hb]; omega
  have hmk : n + k ≤ maxLen := by unfold maxLen; omega
  clear hb
  go_enter Tryz.func158, Tryz.ntmps158
  go_wp2_with (first
    | (at_make; refine wpList_make_own w rfl _ _ 38 rfl w.heap.size 5 i (.int .u8 0) 1 Tryz.underlying38 hi hz hs .i64 .i64 _ (n + k) rfl rfl (by omega) hbk hmk (Nat.le_refl _) ?_; intro w1 hown1 hg1)
    | (at_builtin; refine wpList_app rfl _ _ rfl w.heap.size _ [] hown1 rfl C _ _ _ l rfl hn (ra.keep fun p hp => World.cell?_of_block (hg1.block p.block (by omega) (by simp))) (by simp; omega) (by have := hg1.size; omega) ?_; intro v' w2 hown2 hg2))
  go_ret
  refine ⟨v', rfl, hown2, ?_⟩
  have hb1 : Below w.heap.size w w1 := (Below.refl _ w).grown hg1 (Nat.le_refl _) (fun k hk => by simp at hk)
  exact hb1.trans (hg2.below (l := []) hown1 hg1.size)
end Go.Proofs.YtbcejfonkehjgaaGreatDoor
