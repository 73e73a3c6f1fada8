/-
  What is proved: the walk of NetKeeps: what is done to one way leaves all others as they were; a frame that is doubled comes twice. Condition: the acts are read as such.
-/
import Derived.Test.YtcagochalnjagaaTu9
import Derived.Deep.QuietTactic
import Derived.BigQuiet
namespace Go.Proofs.Ytcagochalnjagaa
open Go.RowKit

theorem wy_set {S : List Wy} {p : Nat} {x : Wy} {j : Int} (hj : j ≠ p) : wy (S.set p x) j = wy S j := by
  unfold wy
  split
  · rw [List.getD, List.getD, List.getElem?_set_ne (by omega)]
  · rfl
theorem wy_set_self {S : List Wy} {p : Nat} {x : Wy} (hp : p < S.length) : wy (S.set p x) p = x := wy_at (List.getElem?_set_self hp)
/-- an act on one way leaves the others -/
theorem doS_other (κ way i r : Int) (l : Wy) (S : List Wy) {j : Int} (hj : j ≠ way) : wy (doS κ way i r l S) j = wy S j := by
  have key : ∀ x : Wy, isw S way → wy (S.set way.toNat x) j = wy S j := fun x h => wy_set (by have := h.1; omega)
  have tk : wy (takeS S way i) j = wy S j := by
    unfold takeS
    split
    · rename_i h
      exact key _ (vld_isw h)
    · rfl
  unfold doS
  split
  · unfold sendS
    split
    · rename_i h
      exact key _ h
    · rfl
  split
  · exact tk
  split
  · unfold twiceS
    split
    · rename_i h
      split
      · rfl
      · exact key _ (vld_isw h)
    · rfl
  split
  · exact tk
  split
  · unfold turnS
    split
    · rename_i h
      exact key _ (vld_isw h.1)
    · rfl
  · unfold clearS
    split
    · rename_i h
      exact key _ h
    · rfl
/-- four numbers, of which the first p are told -/
def row (L : Nat → Nat) (p : Nat) : Array Value := #[.int .i64 (if 0 < p then L 0 else 0 : Nat), .int .i64 (if 1 < p then L 1 else 0 : Nat), .int .i64 (if 2 < p then L 2 else 0 : Nat), .int .i64 (if 3 < p then L 3 else 0 : Nat)]
theorem row_at (L : Nat → Nat) (p i : Nat) (hi : i < 4) : (row L p)[i]? = some (.int .i64 (if i < p then L i else 0 : Nat)) := by
  have : i = 0 ∨ i = 1 ∨ i = 2 ∨ i = 3 := by omega
  rcases this with rfl | rfl | rfl | rfl <;> rfl
theorem row_set (L : Nat → Nat) (p : Nat) (hp : p < 4) : (row L p).setIfInBounds p (.int .i64 (L p)) = row L (p + 1) := by
  have : p = 0 ∨ p = 1 ∨ p = 2 ∨ p = 3 := by omega
  rcases this with rfl | rfl | rfl | rfl <;> rfl
def LL (S : List Wy) (i : Nat) : Nat := (wy S i).length
/-- the net, made behind w1, and what came ahead of it -/
structure Kp (w1 w : World) (k : Nat) (v : Value) (us : List Value) (S : List Wy) : Prop where
  a : NI w k v us S
  la : ∀ j, Ft k v us j → w1.heap.size ≤ j
  bel : Below w1.heap.size w1 w
section
variable {w1 w w' : World} {k : Nat} {v : Value} {us us' : List Value} {S S' : List Wy}
theorem Kp.below (h : Kp w1 w k v us S) (hb : Below w.heap.size w w') : Kp w1 w' k v us S := ⟨Nt.below h.a stb_Es hb, h.la, on h.bel hb⟩
theorem Kp.step (h : Kp w1 w k v us S) (hn : NI w' k v us' S') (hc : Chg w w' (Ft k v us) (Ft k v us')) : Kp w1 w' k v us' S' :=
  ⟨hn, fun j hj => by
    rcases hc.foot j hj with hf | hf
    · exact h.la j hf
    · have := h.bel.size; omega, h.bel.trans (hc.bel h.bel.size h.la)⟩
end
/-- with an array beside it -/
structure Kq (w1 w : World) (k : Nat) (v : Value) (us : List Value) (S : List Wy) (gw : Nat) (cs : Array Value) : Prop where
  kp : Kp w1 w k v us S
  bx : Bx w gw 50 cs
  ne : ∀ j, Ft k v us j → j ≠ gw
  low : w1.heap.size ≤ gw
section
variable {w1 w w' : World} {k gw : Nat} {v : Value} {us us' : List Value} {S S' : List Wy} {cs : Array Value}
theorem Kq.below (h : Kq w1 w k v us S gw cs) (hb : Below w.heap.size w w') : Kq w1 w' k v us S gw cs := ⟨h.kp.below hb, h.bx.next hb, h.ne, h.low⟩
theorem Kq.draws (h : Kq w1 w k v us S gw cs) (n : Nat) : Kq w1 (w.drewN n) k v us S gw cs := h.below (below_draws (Below.refl _ _) n)
theorem Kq.step (h : Kq w1 w k v us S gw cs) (hn : NI w' k v us' S') (hc : Chg w w' (Ft k v us) (Ft k v us')) : Kq w1 w' k v us' S' gw cs :=
  ⟨h.kp.step hn hc, hc.bx h.bx (fun e => h.ne gw e rfl), fun j hj => by
    rcases hc.foot j hj with hf | hf
    · exact h.ne j hf
    · have := h.bx.lt; omega, h.low⟩
theorem Kq.set (h : Kq w1 w k v us S gw cs) {i : Nat} {x : Value} (hi : cs[i]? = some x) (hx : NB x) (u : Value) : Kq w1 (w.setCell ⟨gw, i, none⟩ u) k v us S gw (cs.setIfInBounds i u) :=
  ⟨⟨Nt.kept h.kp.a stb_Es (by rw [setSize]; exact Nat.le_refl _) (stay_set_nb ((h.bx.cell i).trans hi) hx u) (fun j hj => Below.heap_setCell w _ u j (fun e => h.ne j hj e)), h.kp.la, below_set h.kp.bel _ u h.low⟩, h.bx.set i u, h.ne, h.low⟩
end
/-- a frame that is doubled comes twice: the ways' words -/
theorem twice_take {S : List Wy} {p : Nat} {x : List Int} {fr : Wy} (h : S[p]? = some (x :: fr)) (h4 : ¬ 400 ≤ (x :: fr).length) :
    twiceE S p 0 = 0 ∧ twiceS S p 0 = S.set p (x :: fr ++ [x]) ∧
    takeB (S.set p (x :: fr ++ [x])) p 0 = x ∧ takeS (S.set p (x :: fr ++ [x])) p 0 = S.set p (fr ++ [x]) ∧
    takeB (S.set p (fr ++ [x])) p (fr.length : Nat) = x ∧ errS (S.set p (fr ++ [x])) p (fr.length : Nat) = 0 := by
  have hp := (List.getElem?_eq_some_iff.1 h).1
  have e1 := wy_at h
  have v1 : vld (wy S p) 0 := ⟨by omega, by rw [e1, List.length_cons]; omega⟩
  have e2 : wy (S.set p (x :: fr ++ [x])) p = x :: fr ++ [x] := wy_set_self hp
  have v2 : vld (wy (S.set p (x :: fr ++ [x])) p) 0 := ⟨by omega, by rw [e2, List.length_append, List.length_cons]; omega⟩
  have e3 : wy (S.set p (fr ++ [x])) p = fr ++ [x] := wy_set_self hp
  have v3 : vld (wy (S.set p (fr ++ [x])) p) (fr.length : Nat) := ⟨by omega, by rw [e3, List.length_append, List.length_cons, List.length_nil]; omega⟩
  refine ⟨?_, ?_, ?_, ?_, ?_, if_pos v3⟩
  · unfold twiceE; rw [if_pos v1, e1, if_neg h4]
  · unfold twiceS; rw [if_pos v1, e1, if_neg h4, Int.toNat_natCast]; rfl
  · unfold takeB; rw [if_pos v2, e2]; rfl
  · unfold takeS; rw [if_pos v2, e2, Int.toNat_natCast, List.set_set]; rfl
  · unfold takeB; rw [if_pos v3, e3, Int.toNat_natCast]; exact last_getD fr x

set_option maxRecDepth 100000 in
set_option maxHeartbeats 3200000 in
theorem keeps_walk (A : Option Addr) (n c : Nat) (f : Nat → A9) (x : A9) (w : World) (hn : n ≤ maxLen) (h : Acts w A n f) (hx : x.Good w) :
    Calls Try.prog 6 #[.slice A n c, .agg x.cells.toArray] w fun e w' => e = .returned (.bool true) ∧ Below w.heap.size w w' := by
  obtain ⟨κ, way, i, r, B, cb, bs, l⟩ := x
  obtain ⟨hfr, hle, -⟩ := hx
  dsimp only at hfr hle
  show Calls Try.prog 6 #[.slice A n c, .agg #[.int .i64 κ, .int .i64 way, .int .i64 i, .int .i64 r, .slice B l.length cb]] w _
  obtain ⟨ln, hln⟩ : ∃ x, l.length = x := ⟨_, rfl⟩
  rw [hln] at hle ⊢
  have HLN := hid hln
  have HLE := hid hle
  have HFR := hid hfr
  have HNN := hid hn
  have HA := hid h
  unfold maxLen at hn
  obtain ⟨g, hg⟩ : ∃ g, w.heap.size = g := ⟨_, rfl⟩
  obtain ⟨W, hW⟩ : ∃ W, w.alloc (.cells #[.int .i64 κ, .int .i64 way, .int .i64 i, .int .i64 r, .slice B ln cb] 31) = W := ⟨_, rfl⟩
  have BW : Below w.heap.size w W := by rw [← hW]; exact below_alloc _ _
  have XW : Bx W g 31 #[.int .i64 κ, .int .i64 way, .int .i64 i, .int .i64 r, .slice B ln cb] := by rw [← hW, ← hg]; exact Bx.new _ _ _
  have HBW := hid BW
  have HXW := hid XW
  have HGG := hid hg
  have HWW := hid hW
  clear h hfr hln hle BW XW hg hW
  go_enter Try.func6, Try.ntmps6
  go_upto_region 1 with fail
  rw [HGG.out, HWW.out]
  go_upto_region 3 with (go_at_call 8; refine (wakes_any _).mono ?_; rintro e w1 ⟨rfl, hb⟩; have HB := hid (on HBW.out hb); have HX1 := hid (HXW.out.next hb); clear hb)
  clear HWW HBW HXW
  have HA1 := hid (HA.out.below HB.out)
  have HFR1 := hid (HFR.out.below HB.out)
  have y0 : w1.cell? ⟨g, 0, none⟩ = some (.int .i64 κ) := HX1.out.cell 0
  have y4 : w1.cell? ⟨g, 4, none⟩ = some (.slice B ln cb) := HX1.out.cell 4
  go_cut [36] (fun s wx => (s = .bool true ∨ s = .bool false ∧ n ≤ 100 ∧ (0 ≤ κ ∧ κ ≤ 5)) ∧ wx = w1)
  case first =>
    by_cases hq : 100 < ln ∨ κ < 0 ∨ 5 < κ
    · go_wp2_with fail
      refine (long_any A n c f _ HNN.out HA1.out).mono ?_
      rintro e w' ⟨b, rfl, rfl, hb⟩
      cases b
      · clear hb
        rcases hq with hq | hq | hq
        · go_wp2_with fail
          go_meet
          exact ⟨.inl rfl, rfl⟩
        · have d1 : decide (κ < (0 : Int)) = true := by simpa using hq
          by_cases h1 : 100 < ln
          · go_wp2_with fail
            go_meet
            exact ⟨.inl rfl, rfl⟩
          · go_wp2_with fail
            go_meet
            exact ⟨.inl rfl, rfl⟩
        · have d1 : decide ((5 : Int) < κ) = true := by simpa using hq
          have d2 : decide (κ < (0 : Int)) = false := by simp; omega
          by_cases h1 : 100 < ln
          · go_wp2_with fail
            go_meet
            exact ⟨.inl rfl, rfl⟩
          · go_wp2_with fail
            go_meet
            exact ⟨.inl rfl, rfl⟩
      · clear hb
        go_wp2_with fail
        go_meet
        exact ⟨.inl rfl, rfl⟩
    · have d0 : ¬ 100 < ln := fun h => hq (.inl h)
      have d1 : decide (κ < (0 : Int)) = false := by simp; omega
      have d2 : decide ((5 : Int) < κ) = false := by simp; omega
      go_wp2_with fail
      refine (long_any A n c f _ HNN.out HA1.out).mono ?_
      rintro e w' ⟨b, rfl, rfl, hb⟩
      cases b
      · obtain ⟨hn1, -⟩ := hb rfl
        clear hb
        go_wp2_with fail
        go_meet
        exact ⟨.inr ⟨by rw [show decide ((100 : Int) < (ln : Int)) = false from by simp; omega], hn1, by omega, by omega⟩, rfl⟩
      · clear hb
        go_wp2_with fail
        go_meet
        exact ⟨.inl rfl, rfl⟩
  case rest =>
    obtain ⟨hs, rfl⟩ := hcut
    clear y0 y4
    rcases hs with rfl | ⟨rfl, hn100, hκ⟩
    · go_wp2
      go_ret
      exact ⟨rfl, HB.out⟩
    go_wp2_with fail
    refine (nnew_any 4 _).mono ?_
    rintro e w2 ⟨k, v, us, rfl, hk, hb2, hF2⟩
    have HK0 := hid (show Kp wc w2 k v us (empt (cl 4)) from ⟨hk, hF2, hb2⟩)
    clear hk hb2 hF2
    go_wp2_with fail
    go_loopg [40] n (fun gk t wr => ∃ p : Nat, p + gk = n ∧ t = .int .i64 p ∧ ∃ us S, Kp wc wr k v us S)
    case atStart => exact ⟨0, by omega, rfl, _, _, HK0.out⟩
    case round =>
      obtain ⟨p, hp, rfl, us1, S, hT⟩ := hrel
      have HT := hid hT
      clear hT HK0
      by_cases hlt : p < n
      · have hat0 := (HA1.out p hlt).choose_spec.2.g
        obtain ⟨ad, rfl, hat⟩ := (HA1.out.below HT.out.bel) p hlt
        obtain ⟨⟨κ2, way2, i2, r2, B2, cb2, bs2, l2⟩, hH⟩ : ∃ y, f p = y := ⟨_, rfl⟩
        rw [hH] at hat hat0
        obtain ⟨alt, c0, c1, c2, c3, c4, -⟩ := hat
        obtain ⟨hfr2, hle2, -⟩ := hat0
        dsimp only at c0 c1 c2 c3 c4 hfr2 hle2
        have HFR2 := hid hfr2
        obtain ⟨ln2, hln2⟩ : ∃ x, l2.length = x := ⟨_, rfl⟩
        rw [hln2] at c4 hle2
        have HLN2 := hid hln2
        have HLE2 := hid hle2
        obtain ⟨g2, hg2⟩ : ∃ g, wr.heap.size = g := ⟨_, rfl⟩
        obtain ⟨W2, hW2⟩ : ∃ W, wr.alloc (.cells #[.int .i64 κ2, .int .i64 way2, .int .i64 i2, .int .i64 r2, .slice B2 ln2 cb2] 31) = W := ⟨_, rfl⟩
        have BW2 : Below wr.heap.size wr W2 := by rw [← hW2]; exact below_alloc _ _
        have XW2 : Bx W2 g2 31 #[.int .i64 κ2, .int .i64 way2, .int .i64 i2, .int .i64 r2, .slice B2 ln2 cb2] := by rw [← hW2, ← hg2]; exact Bx.new _ _ _
        have HTW := hid (HT.out.below BW2)
        have HXW2 := hid XW2
        have HWW2 := hid hW2
        have HGG2 := hid hg2
        clear BW2 XW2 hH hW2 hg2 hln2 hfr2 hle2
        go_upto_region 9 with fail
        rw [HGG2.out, HWW2.out]
        clear c0 c1 c2 c3 c4 HGG2 HWW2 alt
        have y0 : W2.cell? ⟨g2, 0, none⟩ = some (.int .i64 κ2) := HXW2.out.cell 0
        by_cases hneg : κ2 < 0
        · have d1 : decide ((0 : Int) ≤ κ2) = false := by simpa using hneg
          clear hneg
          go_wp2_with fail
          go_roundg (gk - 1)
          case measure => omega
          case rel => exact ⟨p + 1, by omega, by go_num, _, _, HTW.out⟩
        by_cases hbig : 5 < κ2
        · have d1 : decide ((0 : Int) ≤ κ2) = true := by simp; omega
          have d2 : decide (κ2 ≤ (5 : Int)) = false := by simpa using hbig
          clear hneg hbig
          go_wp2_with fail
          go_roundg (gk - 1)
          case measure => omega
          case rel => exact ⟨p + 1, by omega, by go_num, _, _, HTW.out⟩
        have d1 : decide ((0 : Int) ≤ κ2) = true := by simp; omega
        have d2 : decide (κ2 ≤ (5 : Int)) = true := by simp; omega
        clear hneg hbig
        go_wp2_with (first | (with_reducible refine wpList_load_bx rfl 31 (.tmp 7) rfl g2 _ _ _ rfl HXW2.out Try.underlying31 rfl (by kernel_rfl) ?_) | (go_at_call 12; refine (ndo_any HTW.out.a κ2 way2 i2 r2 B2 ln2 cb2 bs2 l2 HLN2.out HLE2.out (HFR2.out.fin HTW.out.bel HTW.out.la)).mono ?_; rintro e w4 ⟨u4, us4, rfl, hB, hN, hC⟩; have HT4 := hid (HTW.out.step hN hC); clear hB hN hC))
        go_roundg (gk - 1)
        case measure => omega
        case rel => exact ⟨p + 1, by omega, by go_num, _, _, HT4.out⟩
      · obtain rfl : p = n := by omega
        clear hlt hp
        obtain ⟨gw, hgw⟩ : ∃ x, wr.heap.size = x := ⟨_, rfl⟩
        have BA := below_alloc wr (.cells #[.int .i64 0, .int .i64 0, .int .i64 0, .int .i64 0] 50)
        obtain ⟨w5, hw5⟩ : ∃ x, wr.alloc (.cells #[.int .i64 0, .int .i64 0, .int .i64 0, .int .i64 0] 50) = x := ⟨_, rfl⟩
        have HQ := hid (show Kq wc w5 k v us1 S gw (row (LL S) 0) from by
          rw [← hw5]
          refine ⟨HT.out.below BA, by rw [← hgw]; exact Bx.new wr _ _, fun j hj => ?_, by rw [← hgw]; exact HT.out.bel.size⟩
          have := Nt.lt HT.out.a hj
          omega)
        have HG5 := hid hgw
        have HW5 := hid hw5
        clear hgw hw5 BA
        go_wp2_with fail
        rw [HG5.out, HW5.out]
        clear HG5 HW5 HT
        go_loopg [56] 4 (fun gk t wr => ∃ p : Nat, p + gk = 4 ∧ t = .int .i64 p ∧ Kq wc wr k v us1 S gw (row (LL S) p))
        case atStart => exact ⟨0, by omega, rfl, HQ.out⟩
        case round =>
          obtain ⟨p, hp, rfl, hq⟩ := hrel
          have HR := hid hq
          clear hq HQ
          by_cases hlt : p < 4
          · have hp4 : (p : Int) < 4 := by omega
            have z0 : wr.cell? ⟨gw, p, none⟩ = some (.int .i64 (if p < p then LL S p else 0 : Nat)) := (HR.out.bx.cell p).trans (row_at _ _ _ hlt)
            rw [if_neg (Nat.lt_irrefl p)] at z0
            have z1 := HR.out.bx.free p
            have HL := hid (nlen_any HR.out.kp.a p)
            have HSET := hid (HR.out.set ((row_at _ p p hlt)) (by intro y e; cases e) (.int .i64 (LL S p)))
            rw [row_set _ _ hlt] at HSET
            have HLL := hid (show (wy S p).length = LL S p from rfl)
            rw [HLL.out] at HL
            generalize LL S p = Lp at HL HSET
            go_wp2_with (go_at_call 15; refine HL.out.mono ?_; rintro e w' ⟨rfl, rfl⟩)
            go_roundg (gk - 1)
            case measure => omega
            case rel => exact ⟨p + 1, by omega, by go_num, HSET.out⟩
          · obtain rfl : p = 4 := by omega
            clear hlt hp
            have HXR := hid (HX1.out.next HR.out.kp.bel)
            obtain ⟨S2, hS2⟩ : ∃ z, doS κ way i r l S = z := ⟨_, rfl⟩
            have HS2 := hid hS2
            clear hS2
            go_wp2_with (first | (with_reducible refine wpList_load_bx rfl 31 (.tmp 3) rfl g _ _ _ rfl HXR.out Try.underlying31 rfl (by kernel_rfl) ?_) | (go_at_call 12; refine (ndo_any HR.out.kp.a κ way i r B ln cb bs l HLN.out HLE.out (HFR1.out.fin HR.out.kp.bel HR.out.kp.la)).mono ?_; rintro e w6 ⟨u6, us6, rfl, hB, hN, hC⟩; rw [HS2.out] at hN; have HQ6 := hid (HR.out.step hN hC); clear hB hN hC))
            have HO := hid (show ∀ p : Nat, (p : Int) ≠ way → (wy S2 p).length = LL S p from fun p hp => by rw [← HS2.out, doS_other _ _ _ _ _ _ hp]; rfl)
            clear HR HXR HS2
            go_loopg [68] 4 (fun gk t wr => ∃ p : Nat, p + gk = 4 ∧ t = .int .i64 p ∧ Kq wc wr k v us6 S2 gw (row (LL S) 4))
            case atStart => exact ⟨0, by omega, rfl, HQ6.out⟩
            case round =>
              obtain ⟨p, hp, rfl, hq⟩ := hrel
              have HR := hid hq
              clear hq HQ6
              by_cases hlt : p < 4
              · have hp4 : (p : Int) < 4 := by omega
                have z0 : wr.cell? ⟨gw, p, none⟩ = some (.int .i64 (if p < 4 then LL S p else 0 : Nat)) := (HR.out.bx.cell p).trans (row_at _ _ _ hlt)
                rw [if_pos hlt] at z0
                have y1 : wr.cell? ⟨g, 1, none⟩ = some (.int .i64 way) := (HX1.out.next HR.out.kp.bel).cell 1
                by_cases hw : (p : Int) = way
                · have hd : ((p : Int) != way) = false := by simpa using hw
                  clear hw
                  go_upto_region 22 with fail
                  go_region
                  go_wp2_with fail
                  go_roundg (gk - 1)
                  case measure => omega
                  case rel => exact ⟨p + 1, by omega, by go_num, HR.out.draws 1⟩
                · have hd : ((p : Int) != way) = true := by simpa using hw
                  have HL := hid (nlen_any (show NI wr.drew k v us6 S2 from Nt.draws HR.out.kp.a stb_Es 1) p)
                  rw [HO.out p hw] at HL
                  generalize LL S p = Lp at HL z0
                  clear hw
                  go_upto_region 22 with fail
                  go_region_held3 (fun w' => w'.cell? ⟨g, 1, none⟩ = some (.int .i64 way) ∧ w'.cell? ⟨gw, p, none⟩ = some (.int .i64 Lp)) (first | exact ⟨y1, z0⟩ | (exact ⟨by go_simp, by go_simp⟩)) ((go_at_call 15; (with_reducible refine HL.out.mono ?_); rintro e w' ⟨rfl, rfl⟩))
                  go_wp2_with fail
                  go_roundg (gk - 1)
                  case measure => omega
                  case rel => exact ⟨p + 1, by omega, by go_num, HR.out.draws 1⟩
              · obtain rfl : p = 4 := by omega
                clear hlt hp
                have HK := hid HR.out.kp
                clear HR HO
                go_wp2_with fail
                go_loopg [85] 4 (fun gk t wr => ∃ p : Nat, p + gk = 4 ∧ t = .int .i64 p ∧ ∃ us S, Kp wc wr k v us S)
                case atStart => exact ⟨0, by omega, rfl, _, _, HK.out⟩
                case round =>
                  obtain ⟨p, hp, rfl, us7, S7, hk7⟩ := hrel
                  have HK7 := hid hk7
                  clear hk7 HK
                  by_cases hlt : p < 4
                  · have HL := hid (nlen_any HK7.out.a p)
                    obtain ⟨fs, hfs⟩ : ∃ x, wy S7 p = x := ⟨_, rfl⟩
                    rw [hfs] at HL
                    cases fs with
                    | nil =>
                      clear hfs
                      go_wp2_with (go_at_call 15; refine HL.out.mono ?_; rintro e w' ⟨rfl, rfl⟩)
                      go_roundg (gk - 1)
                      case measure => omega
                      case rel => exact ⟨p + 1, by omega, by go_num, _, _, HK7.out⟩
                    | cons x fr =>
                      have hS7 : S7[p]? = some (x :: fr) := by
                        by_cases hi : isw S7 p
                        · obtain ⟨p', fs', e1, e2, e3⟩ := isw_at hi
                          obtain rfl : p = p' := by omega
                          rw [e2, ← e3, hfs]
                        · rw [wy_out hi] at hfs; cases hfs
                      obtain ⟨k7, hk7⟩ : ∃ z, (x :: fr).length = z := ⟨_, rfl⟩
                      have hfl : k7 = fr.length + 1 := by rw [← hk7]; simp
                      have hk0 : ((k7 : Int) == 0) = false := by simp; omega
                      by_cases h4 : 400 ≤ k7
                      · have e4 : twiceE S7 p 0 = 4 ∧ twiceS S7 p 0 = S7 := by
                          have v1 : vld (wy S7 p) 0 := ⟨by omega, by rw [hfs, List.length_cons]; omega⟩
                          unfold twiceE twiceS
                          rw [if_pos v1, if_pos v1, hfs, hk7, if_pos h4, if_pos h4]
                          exact ⟨rfl, rfl⟩
                        have HT := hid (ntwice_any HK7.out.a p 0)
                        rw [e4.1, e4.2] at HT
                        rw [hk7] at HL
                        clear hfs hS7 hk7 hfl h4 e4
                        go_wp2_with (first | (go_at_call 15; refine HL.out.mono ?_; rintro e w' ⟨rfl, rfl⟩) | (go_at_call 19; refine HT.out.mono ?_; rintro e w8 ⟨rfl, us8, hN, hC⟩; have HK8 := hid (HK7.out.step hN hC); clear hN hC))
                        go_roundg (gk - 1)
                        case measure => omega
                        case rel => exact ⟨p + 1, by omega, by go_num, _, _, HK8.out⟩
                      · obtain ⟨t1, t2, t3, t4, t5, t6⟩ := twice_take hS7 (by rw [hk7]; exact h4)
                        have HT := hid (ntwice_any HK7.out.a p 0)
                        rw [t1, t2] at HT
                        rw [hk7] at HL
                        have e9 : ((fr.length : Nat) : Int) = (k7 : Int) - 1 := by omega
                        rw [e9] at t5 t6
                        have T34 := hid (And.intro t3 t4)
                        have T5 := hid t5
                        have T6 := hid t6
                        have hk1 : 1 ≤ k7 := by omega
                        clear t1 t2 t3 t4 t5 t6 e9 hfs hS7 hk7 hfl
                        go_wp2_with (first | (go_at_call 15; refine HL.out.mono ?_; rintro e w' ⟨rfl, rfl⟩) | (go_at_call 19; refine HT.out.mono ?_; rintro e w8 ⟨rfl, us8, hN, hC⟩; have HK8 := hid (HK7.out.step hN hC); clear hN hC))
                        refine (ntake_any HK8.out.a p 0).mono ?_
                        rintro e w9 ⟨u9, us9, rfl, hB, hN, hC⟩
                        rw [T34.out.1] at hB
                        rw [T34.out.2] at hN
                        have HK9 := hid (HK8.out.step hN hC)
                        have HB9 := hid hB
                        clear hN hC hB T34 HK8 HT HL
                        go_wp2_with fail
                        refine (ntake_any HK9.out.a p ((k7 : Int) - 1)).mono ?_
                        rintro e w10 ⟨u10, us10, rfl, hB, hN, hC⟩
                        rw [T5.out] at hB
                        rw [T6.out]
                        have HK10 := hid (HK9.out.step hN hC)
                        obtain ⟨A9, x9, rfl, hr9, h91, h92⟩ := HB9.out
                        obtain ⟨A10, x10, rfl, hr10, -, -⟩ := hB
                        have HR9 := hid (show Rn w10 A9 x from fun j y hy => by obtain ⟨ad, e, h1, h2⟩ := hr9 j y hy; exact ⟨ad, e, Nat.lt_of_lt_of_le h1 hC.size, hC.stay _ _ h2⟩)
                        have HR10 := hid hr10
                        have HX9 := hid (Nat.le_trans h91 h92)
                        obtain ⟨lx, hlx⟩ : ∃ z, x.length = z := ⟨_, rfl⟩
                        rw [hlx] at HX9 ⊢
                        have HLX := hid hlx
                        clear hN hC hr9 hr10 h91 h92 HB9 HK9 T5 T6 hlx
                        go_wp2_with (go_at_call 14; refine (same_yes A9 A10 lx lx x9 x10 x _ _ _ HLX.out HLX.out HX9.out HR9.out HR10.out).mono ?_; rintro e w11 ⟨rfl, d11, rfl⟩)
                        go_roundg (gk - 1)
                        case measure => omega
                        case rel => exact ⟨p + 1, by omega, by go_num, _, _, HK10.out.below (below_draws (Below.refl _ _) d11)⟩
                  · obtain rfl : p = 4 := by omega
                    have HE := hid (on HB.out (show Below wc.heap.size wc wr from HK7.out.bel))
                    go_wp2_with fail
                    go_ret
                    exact ⟨rfl, HE.out⟩
end Go.Proofs.Ytcagochalnjagaa
