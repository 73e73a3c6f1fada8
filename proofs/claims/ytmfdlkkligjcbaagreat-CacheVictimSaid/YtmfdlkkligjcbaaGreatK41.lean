/-
  What is proved: a cache that a law has made, beside its map of what was put last. No condition.
-/
import Derived.Test.YtmfdlkkligjcbaaGreatK40
namespace Go.Proofs.YtmfdlkkligjcbaaGreat
open Go.RowKit

/-- more uses, more blocks that are written to -/
theorem Cm.up {w : World} {X F : Nat → Prop} {G M n cp T B B' : Nat} {c : Nat → Int} {A : Option Addr} {hh : Nat → Hn} {v : Value} {o : Ob} {D : Int → List Int} (h : Cm w X G M F c A n cp hh T v o D B) (hB : B ≤ B') : Cm w X G M F c A n cp hh T v o D B' :=
  { h with
    tm := Nat.le_trans h.tm hB
    map := by
      obtain ⟨f, h1, h2⟩ := h.map
      exact ⟨f, h1.mono hB, h2⟩ }
/-- no more blocks than the capacity -/
theorem Cm.cap {w : World} {X F : Nat → Prop} {G M n cp T B : Nat} {c : Nat → Int} {A : Option Addr} {hh : Nat → Hn} {v : Value} {o : Ob} {D : Int → List Int} (h : Cm w X G M F c A n cp hh T v o D B) : ((o.all.length : Nat) : Int) ≤ c (9 + (T - 1)) := by
  have h1 := Ob.le h.ok
  have ht : T - 1 < 3 := by have := h.t1; have := h.t3; omega
  rw [cps_at ht] at h1
  have h2 := h.rt.caps
  have h3 : (0 : Int) ≤ c (9 + (T - 1)) := by
    have h4 := h.rt.1 (9 + (T - 1)) (by omega)
    have h5 : lo (9 + (T - 1)) = 1 := by
      obtain h | h | h : T - 1 = 0 ∨ T - 1 = 1 ∨ T - 1 = 2 := by omega
      all_goals rw [h]; rfl
    omega
  omega
/-- but for a parted cache one goes only where it is full -/
theorem Cm.full {w : World} {X F : Nat → Prop} {G M n cp T B : Nat} {c : Nat → Int} {A : Option Addr} {hh : Nat → Hn} {v : Value} {o : Ob} {D : Int → List Int} {b : Int} (h : Cm w X G M F c A n cp hh T v o D B) (h5 : ¬ c 5 = 2) (hg : o.gn b = true) : ((o.all.length : Nat) : Int) = c (9 + (T - 1)) := by
  have hk := h.kd
  have hno : ∀ rg pt lp n2 S, o ≠ .prt rg pt lp n2 S := fun rg pt lp n2 S e => by
    subst e
    by_cases h6 : c (6 + (T - 1)) = 2
    · rw [Ob.new_mq h5 h6] at hk; exact hk
    · rw [Ob.new_lru h5 h6] at hk; exact hk
  have h1 := Ob.gn_full h.ok hno hg
  have ht : T - 1 < 3 := by have := h.t1; have := h.t3; omega
  have h2 := h.rt.caps.2.2.2.1 _ ht
  rw [cps_at ht] at h1 h2
  omega
/-- a law's cache: w0 the law's first world, Ml its map of what was put last (lf), the configuration's box at r -/
structure Lc16 (w0 w : World) (X : Nat → Prop) (G M : Nat) (F : Nat → Prop) (c : Nat → Int) (A : Option Addr) (n cp : Nat) (hh : Nat → Hn) (T : Nat) (v : Value) (o : Ob) (D : Int → List Int) (B Ml r : Nat) (A0 : Option Addr) (n0 c0 : Nat) : Prop where
  cm : Cm w X G M F c A n cp hh T v o D B
  lst : ∃ lf, Mc w Ml B lf ∧ ∀ x, x ∈ o.all → ∃ u, lf x = some u ∧ By w X u (D x)
  bx : Bx w r 25 (cfgC c A0 n0 c0)
  bel : Below w0.heap.size w0 w
  xl : X Ml
  xo : ∀ j, X j → w0.heap.size ≤ j
  xr : ¬ X r
  nl : Ml ≠ G ∧ Ml ≠ M ∧ ¬ F Ml
variable {w0 w w' : World} {X F P Q : Nat → Prop} {G M n cp T B Ml r n0 c0 : Nat} {c : Nat → Int} {A A0 : Option Addr} {hh : Nat → Hn} {v : Value} {o o' : Ob} {D D' : Int → List Int}
theorem Lc16.below (h : Lc16 w0 w X G M F c A n cp hh T v o D B Ml r A0 n0 c0) (hb : Below w.heap.size w w') : Lc16 w0 w' X G M F c A n cp hh T v o D B Ml r A0 n0 c0 :=
  { h with
    cm := h.cm.below hb
    lst := by
      obtain ⟨lf, h1, h2⟩ := h.lst
      exact ⟨lf, h1.below hb, fun x hx => by
        obtain ⟨u, h3, h4⟩ := h2 x hx
        exact ⟨u, h3, h4.below hb⟩⟩
    bx := h.bx.next hb
    bel := on h.bel hb }
theorem Lc16.up {B' : Nat} (h : Lc16 w0 w X G M F c A n cp hh T v o D B Ml r A0 n0 c0) (hB : B ≤ B') : Lc16 w0 w X G M F c A n cp hh T v o D B' Ml r A0 n0 c0 :=
  { h with
    cm := h.cm.up hB
    lst := by
      obtain ⟨lf, h1, h2⟩ := h.lst
      exact ⟨lf, h1.mono hB, h2⟩ }
theorem Lc16.draws (h : Lc16 w0 w X G M F c A n cp hh T v o D B Ml r A0 n0 c0) (d : Nat) : Lc16 w0 (w.drewN d) X G M F c A n cp hh T v o D B Ml r A0 n0 c0 := h.below (below_draws (Below.refl _ _) d)
theorem Lc16.wide (h : Lc16 w0 w X G M F c A n cp hh T v o D B Ml r A0 n0 c0) : ∀ j, F j ∨ j = M → X j := fun j hj => hj.elim (h.cm.fx j) fun e => e ▸ h.cm.xM
/-- the cache has done something: what there is was put last as it is in the map (lf stays), or is not asked for -/
theorem Lc16.step {B' : Nat} (h : Lc16 w0 w X G M F c A n cp hh T v o D B Ml r A0 n0 c0) (hcm : Cm w' X G M F c A n cp hh T v o' D' B') (hc : Chg w w' (fun j => F j ∨ j = M) Q) (hB : B ≤ B') (hD : ∀ x, x ∈ o'.all → x ∈ o.all ∧ D' x = D x) : Lc16 w0 w' X G M F c A n cp hh T v o' D' B' Ml r A0 n0 c0 :=
  { cm := hcm
    lst := by
      obtain ⟨lf, h1, h2⟩ := h.lst
      refine ⟨lf, (h1.same (hc.block Ml h1.lt fun e => e.elim h.nl.2.2 h.nl.2.1)).mono hB, fun x hx => ?_⟩
      obtain ⟨h3, h4⟩ := hD x hx
      obtain ⟨u, h5, h6⟩ := h2 x h3
      exact ⟨u, h5, h4 ▸ h6.chg hc h.wide⟩
    bx := hc.bx h.bx fun e => h.xr (h.wide r e)
    bel := h.bel.trans (hc.bel h.bel.size fun j e => h.xo j (h.wide j e))
    xl := h.xl
    xo := h.xo
    xr := h.xr
    nl := h.nl }
/-- something was put, and noted in the map -/
theorem Lc16.noted {w1 : World} {b : Int} {l : List Int} {u : Value} {lf lf' : Int → Option Value} (h : Lc16 w0 w X G M F c A n cp hh T v o D B Ml r A0 n0 c0) (hcm : Cm w1 X G M F c A n cp hh T v o' (updB D b l) (B + 1)) (hc : Chg w w1 (fun j => F j ∨ j = M) Q)
    (hlf : ∀ x, x ∈ o.all → ∃ u, lf x = some u ∧ By w X u (D x)) (hD : ∀ x, x ∈ o'.all → x ≠ b → x ∈ o.all) (hg : Chg w1 w' (· = Ml) (· = Ml)) (hm : Mc w' Ml (B + 1) lf') (h1 : lf' b = some u) (h2 : ∀ x, x ≠ b → lf' x = lf x) (hu : By w1 X u l) : Lc16 w0 w' X G M F c A n cp hh T v o' (updB D b l) (B + 1) Ml r A0 n0 c0 := by
  have hxl : ∀ j, j = Ml → X j := fun j e => e ▸ h.xl
  refine { cm := hcm.chg hg hxl fun j e => ⟨fun hf => h.nl.2.2 (e ▸ hf), fun e2 => h.nl.1 (e.symm.trans e2), fun e2 => h.nl.2.1 (e.symm.trans e2)⟩, lst := ⟨lf', hm, fun x hx => ?_⟩, bx := hg.bx (hc.bx h.bx fun e => h.xr (h.wide r e)) fun e => h.xr (e ▸ h.xl), bel := (h.bel.trans (hc.bel h.bel.size fun j e => h.xo j (h.wide j e))).trans (hg.bel (Nat.le_trans h.bel.size hc.size) fun j e => h.xo j (e ▸ h.xl)), xl := h.xl, xo := h.xo, xr := h.xr, nl := h.nl }
  by_cases e : x = b
  · refine ⟨u, e ▸ h1, ?_⟩
    rw [show updB D b l x = l from if_pos e]
    exact hu.chg hg hxl
  · obtain ⟨u2, h3, h4⟩ := hlf x (hD x hx e)
    refine ⟨u2, (h2 x e).trans h3, ?_⟩
    rw [show updB D b l x = D x from if_neg e]
    exact (h4.chg hc h.wide).chg hg hxl
end Go.Proofs.YtmfdlkkligjcbaaGreat
/-
  What is proved: how a law's cache begins; New refuses what may not be; a Put's answer. No condition.
-/
namespace Go.Proofs.YtmfdlkkligjcbaaGreat
open Go.RowKit

/-- a cache that is new, and an empty map beside it -/
theorem lc_new {w0 w3 w4 : World} {F : Nat → Prop} {G M n cp T r n0 c0 : Nat} {c : Nat → Int} {A A0 : Option Addr} {hh : Nat → Hn} {v : Value} (hx : Bx w3 r 25 (cfgC c A0 n0 c0)) (hb0 : Below w0.heap.size w0 w3) (hb : Below w3.heap.size w3 w4) (ho : ∀ j, Own16 F G M j → w3.heap.size ≤ j ∧ j < w4.heap.size)
    (hc : ∀ (X0 : Nat → Prop) (D : Int → List Int), (∀ j, X0 j → j < w3.heap.size) → Cm w4 (fun j => X0 j ∨ Own16 F G M j) G M F c A n cp hh T v (Ob.new c hh n T) D 0) :
    ∃ X, Lc16 w0 (w4.alloc (.map #[] 0)) X G M F c A n cp hh T v (Ob.new c hh n T) (fun _ => []) 0 w4.heap.size r A0 n0 c0 := by
  have h0 := hb0.size
  have h1 := hb.size
  have hr := hx.lt
  refine ⟨_, { cm := (hc (fun _ => False) (fun _ => []) fun _ h => h.elim).with_new (.map #[] 0), lst := ⟨_, Mp.made w4 Tryz.prog 3, fun x hx => by rw [Ob.new_all] at hx; cases hx⟩, bx := (hx.next hb).next (below_alloc _ _), bel := on (on hb0 hb) (below_alloc _ _), xl := .inr rfl, xo := fun j hj => ?_, xr := fun hj => ?_, nl := ⟨fun e => ?_, fun e => ?_, fun hf => ?_⟩ }⟩
  · rcases hj with (hj | hj) | rfl
    · exact hj.elim
    · have := ho j hj; omega
    · omega
  · rcases hj with (hj | hj) | hj
    · exact hj.elim
    · have := ho r hj; omega
    · omega
  · have := ho G (.inr (.inl rfl)); omega
  · have := ho M (.inr (.inr rfl)); omega
  · have := ho _ (.inl hf); omega
section
variable {c : Nat → Int} {A : Option Addr} {n cq : Nat} {hh : Nat → Hn} {w : World} {τ : Int}
set_option maxRecDepth 20000 in
set_option maxHeartbeats 1000000 in
theorem cm_new_no (hr : Rv w w.heap.size A (hvs hh n)) (hn : n ≤ maxLen) (h : ¬ (RightP c hh n ∧ 1 ≤ τ ∧ τ ≤ 3)) :
    Calls Tryz.prog 10 #[.agg (cfgC c A n cq), .int .i64 τ] w fun e w' => e = .returned (.tuple #[.pointer none, .int .i64 6]) ∧ Below w.heap.size w w' := by
  have hb0 := below_alloc w (.cells (cfgC c A n cq) 25)
  have HX0 := hid (Bx.new w 25 (cfgC c A n cq))
  have HB0 := hid hb0
  have HRI := hid (right_any A n cq c hh _ hn ((hr.below hb0 (Nat.le_refl _)).more hb0.size))
  by_cases rt : RightP c hh n
  · rw [dec_true rt] at HRI
    by_cases h1 : τ < 1
    · have d1 : decide (τ < 1) = true := decide_eq_true h1
      clear hr hb0 hn h rt h1
      go_enter Tryz.func10, Tryz.ntmps10
      go_upto_region 1 with fail
      obtain ⟨W0, hW0⟩ : ∃ x, w.alloc (.cells (cfgC c A n cq) 25) = x := ⟨_, rfl⟩
      obtain ⟨r0, hr0⟩ : ∃ x, w.heap.size = x := ⟨_, rfl⟩
      rw [hW0] at HB0 HX0 HRI ⊢
      rw [hr0] at HX0 ⊢
      clear hW0 hr0
      go_wp2_with (first
        | (go_at_call 32; refine HRI.out.mono ?_; rintro e w1 ⟨rfl, hb⟩; have HB1 := hid (on HB0.out hb); clear hb)
        | (refine wpList_load_bx rfl 25 (.tmp 2) rfl r0 _ _ _ rfl HX0.out Tryz.underlying25 rfl (by kernel_rfl) ?_))
      go_ret2
      exact ⟨rfl, HB1.out⟩
    · have d1 : decide (τ < 1) = false := decide_eq_false h1
      have d3 : decide (3 < τ) = true := decide_eq_true (Classical.byContradiction fun h3 => h ⟨rt, by omega, by omega⟩)
      clear hr hb0 hn h rt h1
      go_enter Tryz.func10, Tryz.ntmps10
      go_upto_region 1 with fail
      obtain ⟨W0, hW0⟩ : ∃ x, w.alloc (.cells (cfgC c A n cq) 25) = x := ⟨_, rfl⟩
      obtain ⟨r0, hr0⟩ : ∃ x, w.heap.size = x := ⟨_, rfl⟩
      rw [hW0] at HB0 HX0 HRI ⊢
      rw [hr0] at HX0 ⊢
      clear hW0 hr0
      go_wp2_with (first
        | (go_at_call 32; refine HRI.out.mono ?_; rintro e w1 ⟨rfl, hb⟩; have HB1 := hid (on HB0.out hb); clear hb)
        | (refine wpList_load_bx rfl 25 (.tmp 2) rfl r0 _ _ _ rfl HX0.out Tryz.underlying25 rfl (by kernel_rfl) ?_))
      go_ret2
      exact ⟨rfl, HB1.out⟩
  · rw [dec_false rt] at HRI
    clear hr hb0 hn h rt
    go_enter Tryz.func10, Tryz.ntmps10
    go_upto_region 1 with fail
    obtain ⟨W0, hW0⟩ : ∃ x, w.alloc (.cells (cfgC c A n cq) 25) = x := ⟨_, rfl⟩
    obtain ⟨r0, hr0⟩ : ∃ x, w.heap.size = x := ⟨_, rfl⟩
    rw [hW0] at HB0 HX0 HRI ⊢
    rw [hr0] at HX0 ⊢
    clear hW0 hr0
    go_wp2_with (first
      | (go_at_call 32; refine HRI.out.mono ?_; rintro e w1 ⟨rfl, hb⟩; have HB1 := hid (on HB0.out hb); clear hb)
      | (refine wpList_load_bx rfl 25 (.tmp 2) rfl r0 _ _ _ rfl HX0.out Tryz.underlying25 rfl (by kernel_rfl) ?_))
    go_ret2
    exact ⟨rfl, HB1.out⟩
end
/-- a Put's answer, its slice written out: the error is 0 just where it was not refused -/
def PutB (w : World) (X F : Nat → Prop) (G M n cp T B : Nat) (c : Nat → Int) (A : Option Addr) (hh : Nat → Hn) (v : Value) (o : Ob) (D : Int → List Int) (b : Int) (l : List Int) (e : Ending) (w' : World) : Prop :=
  ∃ (x : Int) (A5 : Option Addr) (k5 c5 : Nat) (gn : Bool) (z : Int), e = .returned (.tuple #[.agg #[.int .i64 x, .slice A5 k5 c5], .bool gn, .int .i64 z]) ∧
    (((z == 0) = false ∧ gn = false ∧ Below w.heap.size w w') ∨
      (z = 0 ∧ gn = o.gn b ∧ o.tk b ∧ Cm w' X G M F c A n cp hh T v (o.add b) (updB D b l) (B + 1) ∧ Chg w w' (fun j => F j ∨ j = M) (fun j => F j ∨ j = M) ∧ (o.gn b = true → x = o.vi b ∧ By w' X (.slice A5 k5 c5) (D (o.vi b)))))
theorem cm_putB {w : World} {X F : Nat → Prop} {G M n cp T B k1 c1 : Nat} {c : Nat → Int} {A A1 : Option Addr} {hh : Nat → Hn} {v : Value} {o : Ob} {D : Int → List Int} {b : Int} (h : Cm w X G M F c A n cp hh T v o D B) (hB : B ≤ 10000000) {l : List Int} (hd : By w X (.slice A1 k1 c1) l) (lv : Int) :
    Calls Tryz.prog 23 #[.pointer (some ⟨G, 0, none⟩), .agg #[.int .i64 b, .slice A1 k1 c1], .int .i64 lv] w (PutB w X F G M n cp T B c A hh v o D b l) := by
  refine (cm_put h hB hd lv).mono fun e w' hp => ?_
  rcases hp with ⟨h1, h2, h3⟩ | ⟨_, _, h3, x, u, h4, h5, h6, h7, h8⟩
  · exact ⟨0, none, 0, 0, false, _, h2, .inl ⟨by simpa using h1, rfl, h3⟩⟩
  · cases hg : o.gn b with
    | true =>
      obtain ⟨hx, hu⟩ := h7 hg
      obtain ⟨A5, c5, rfl, -⟩ := id hu
      exact ⟨x, A5, _, c5, true, 0, by rw [h4, hg], .inr ⟨rfl, hg.symm, h3, h5, h6, fun _ => ⟨hx, hu⟩⟩⟩
    | false =>
      obtain ⟨hx, rfl⟩ := h8 hg
      exact ⟨x, none, 0, 0, false, 0, by rw [h4, hg], .inr ⟨rfl, hg.symm, h3, h5, h6, fun e => by rw [hg] at e; cases e⟩⟩
/-- Use of a block that is there: its slice written out -/
theorem cm_useY {w : World} {X F : Nat → Prop} {G M n cp T B : Nat} {c : Nat → Int} {A : Option Addr} {hh : Nat → Hn} {v : Value} {o : Ob} {D : Int → List Int} {b : Int} (h : Cm w X G M F c A n cp hh T v o D B) (hB : B ≤ 10000000) (hb : b ∈ o.all) :
    Calls Tryz.prog 24 #[.pointer (some ⟨G, 0, none⟩), .int .i64 b] w fun e w' => ∃ A9 k9 c9, e = .returned (.tuple #[.slice A9 k9 c9, .bool true]) ∧ Cm w' X G M F c A n cp hh T v (o.use b) D (B + 1) ∧ Chg w w' F F ∧ By w' X (.slice A9 k9 c9) (D b) := by
  refine (cm_use h hB b).mono fun e w' ⟨u, h1, h2, h3, h4, _⟩ => ?_
  have hu := h4 hb
  obtain ⟨A9, c9, rfl, -⟩ := id hu
  exact ⟨A9, _, c9, by rw [h1, dec_true hb], h2, h3, hu⟩
end Go.Proofs.YtmfdlkkligjcbaaGreat
