/-
  What is proved: the walk of ListOne: a block is in one list at most, and there once. Condition: the acts are read as such.
-/
import Derived.Test.YtoiikjpeceolpaaEn10
import Derived.Maps.OwnSet
import Derived.WalkLawsBesides
namespace Go.Proofs.Ytoiikjpeceolpaa
open Go.RowKit

/-- block b is a set of numbers that has none of those that No tells -/
def Fresh (w : World) (b m : Nat) (No : Int → Prop) : Prop :=
  ∃ D : DataW Unit, w.ownsMap Try.prog 3 (plainElem Try.prog 4) b m D ∧ ∀ p, No p → ∀ z, D.atKey (.int .i64 p) z = z
theorem keysInt : Go.Maps.Keyed Try.prog 3 := Go.Maps.int_keyed Try.underlying3
theorem zeroBool (w : World) : (zeroValue 4).run Try.prog w = .ok (.bool false) w := by kernel_rfl
theorem fresh_made (w : World) (No : Int → Prop) : Fresh (w.alloc (.map #[] 0)) w.heap.size 0 No := ⟨_, World.ownsMap_made _ _ _ _, fun _ _ _ => rfl⟩
theorem Fresh.look {w : World} {b m : Nat} {No : Int → Prop} (h : Fresh w b m No) (p : Int) (hp : No p) (hw : (Lit.int .i64 p).wf = true) :
    (Instr.lookup 47 (.map (some b)) (.int .i64 p) false).run Try.prog w = .ok (.bool false) w := by
  obtain ⟨D, h1, h2⟩ := h
  obtain ⟨v, ps, hrun, hv⟩ := h1.lookup keysInt Try.underlying47 (zeroBool w) (plainElem_bool Try.underlying4 false) (Go.Maps.keyOf_int_mk Try.underlying3 hw)
  rw [h2 p hp] at hv
  have : v = .bool false := by
    unfold plainElem at hv
    rw [Try.underlying4] at hv
    cases v <;> simp at hv
    rw [hv.1]
  rw [this] at hrun
  exact hrun
theorem Fresh.put {w : World} {b m : Nat} {No : Int → Prop} (h : Fresh w b m No) (p : Int) (hm : m < maxLen) (hw : (Lit.int .i64 p).wf = true) :
    ∃ w', (Instr.mapUpdate 47 (.map (some b)) (.int .i64 p) (.bool true)).run Try.prog w = .ok () w' ∧ Fresh w' b (m + 1) (fun x => No x ∧ x ≠ p) ∧ w.grownBy w' (some b) := by
  obtain ⟨D, h1, h2⟩ := h
  obtain ⟨w', hrun, ho, hg⟩ := h1.update keysInt Try.underlying47 hm (Go.Maps.keyOf_int_mk Try.underlying3 hw) (plainElem_bool Try.underlying4 true)
  refine ⟨w', hrun, ⟨_, ho, fun x hx z => ?_⟩, hg⟩
  rw [Go.Maps.atKey_put_other (k := .int .i64 p) (k' := .int .i64 x) (by intro e; injection e with _ e; exact hx.2 e)]
  exact h2 x hx.1 z
theorem Fresh.weak {w : World} {b m : Nat} {No No' : Int → Prop} (h : Fresh w b m No) (g : ∀ p, No' p → No p) : Fresh w b m No' := by
  obtain ⟨D, h1, h2⟩ := h
  exact ⟨D, h1, fun p hp => h2 p (g p hp)⟩
/-- not met: in none of the first i lists, nor among the first j of l -/
def NoM (S : List (List Int)) (i j : Nat) (l : List Int) (p : Int) : Prop := (∀ (r : Nat) m, r < i → S[r]? = some m → p ∉ m) ∧ p ∉ l.take j
theorem OwnW.blk {w : World} {e : TypeId} {A : Option Addr} {n c : Nat} {us : List Value} (h : OwnW w e (.slice A n c) us) {ad : Addr} (hA : A = some ad) : (Value.slice A n c).ownBlock = some ad.block := by
  subst hA
  rcases h with ⟨e1, _⟩ | ⟨g, cap, cur, e1, _⟩
  · simp at e1
  · simp only [Value.slice.injEq, Option.some.injEq] at e1
    rw [e1.1]
    rfl
/-- between two rounds: the space, the set, the row that is gone through -/
structure On (w0 w : World) (k bm : Nat) (S : List (List Int)) (i j : Nat) (l : List Int) : Prop where
  al : Al w0 w k 4 S
  fr : ∃ m, m ≤ 64 * i + j ∧ Fresh w bm m (NoM S i j l)
  kb : k < bm
  lo : w0.heap.size ≤ bm
  lt : bm < w.heap.size
theorem Fresh.kept {w w' : World} {b m : Nat} {No : Int → Prop} (h : Fresh w b m No) (hb : Below w.heap.size w w') : Fresh w' b m No := by
  obtain ⟨D, h1, h2⟩ := h
  exact ⟨D, h1.kept (grown_below hb none) (by simp), h2⟩
theorem On.below {w0 w w' : World} {k bm : Nat} {S : List (List Int)} {i j : Nat} {l : List Int} (h : On w0 w k bm S i j l) (hb : Below w.heap.size w w') : On w0 w' k bm S i j l :=
  ⟨h.al.below hb, by obtain ⟨m, hm, hf⟩ := h.fr; exact ⟨m, hm, hf.kept hb⟩, h.kb, h.lo, Nat.lt_of_lt_of_le h.lt hb.size⟩
/-- a block that is met -/
theorem On.meet {w0 w : World} {k bm : Nat} {S : List (List Int)} {i j : Nat} {l : List Int} (h : On w0 w k bm S i j l) (hi : i < 4) (hl : S[i]? = some l) (hj : j < l.length) :
    (Instr.lookup 47 (.map (some bm)) (.int .i64 l[j]) false).run Try.prog w = .ok (.bool false) w ∧ ∃ w', (Instr.mapUpdate 47 (.map (some bm)) (.int .i64 l[j]) (.bool true)).run Try.prog w = .ok () w' ∧ On w0 w' k bm S i (j + 1) l ∧ w.grownBy w' (some bm) := by
  obtain ⟨m, hm, hf⟩ := h.fr
  have hwf := h.al.a.wf.1
  have hx := hwf.lt i l _ hl (List.getElem_mem hj)
  have h64 := hwf.len hl
  have hno : NoM S i j l l[j] := by
    refine ⟨fun r m hr hS hmem => ?_, fun hmem => ?_⟩
    · have := hwf.one r i m l l[j] hS hl hmem (List.getElem_mem hj); omega
    · obtain ⟨q, hq⟩ := List.getElem?_of_mem hmem
      rw [List.getElem?_take] at hq
      split at hq
      · rename_i hqj
        have := nd_inj (hwf.nd i l hl) hq (List.getElem?_eq_getElem hj)
        omega
      · cases hq
  have hwl : (Lit.int .i64 l[j]).wf = true := by
    simp only [Lit.wf, Bool.and_eq_true, decide_eq_true_eq]
    exact ⟨Int.le_trans (by decide) hx.1, Int.le_trans (Int.le_of_lt hx.2) (by decide)⟩
  obtain ⟨w', hput, hf', hg⟩ := hf.put l[j] (by unfold maxLen; omega) hwl
  refine ⟨hf.look _ hno hwl, w', hput, ⟨⟨h.al.a.same (hg.block k h.al.a.lt (by simp; have := h.kb; omega)), h.al.len, h.al.la, h.al.bel.grown hg h.al.bel.size fun q e => by injection e with e; rw [← e]; exact h.lo⟩, ⟨m + 1, by omega, hf'.weak fun p hp => ⟨⟨hp.1, fun hmem => hp.2 ?_⟩, fun e => hp.2 ?_⟩⟩, h.kb, h.lo, Nat.lt_of_lt_of_le h.lt hg.size⟩, hg⟩
  · rw [List.take_succ_eq_append_getElem hj]; exact List.mem_append.2 (.inl hmem)
  · rw [List.take_succ_eq_append_getElem hj]; exact List.mem_append.2 (.inr (List.mem_singleton.2 e))
/-- the next list -/
theorem On.next {w0 w : World} {k bm : Nat} {S : List (List Int)} {i : Nat} {l l' : List Int} (h : On w0 w k bm S i l.length l) (hl : S[i]? = some l) (h64 : l.length ≤ 64) : On w0 w k bm S (i + 1) 0 l' := by
  obtain ⟨m, hm, hf⟩ := h.fr
  refine ⟨h.al, ⟨m, by omega, hf.weak fun p hp => ⟨fun r x hr hS => hp.1 r x (by omega) hS, ?_⟩⟩, h.kb, h.lo, h.lt⟩
  rw [List.take_length]
  exact hp.1 i l (by omega) hl
set_option maxRecDepth 100000 in
set_option maxHeartbeats 4000000 in
theorem one_walk (A : Option Addr) (n c : Nat) (f : Nat → A3) (w : World) (hn : n ≤ maxLen) (h : Acts w A n f) :
    Calls Try.prog 5 #[.slice A n c] w fun e w' => e = .returned (.bool true) ∧ Below w.heap.size w w' := by
  have HA := hid h
  unfold maxLen at hn
  clear h
  go_enter Try.func5, Try.ntmps5
  go_upto_region 3 with (go_at_call 8; refine (wakes_any _).mono ?_; rintro e w1 ⟨rfl, hb⟩; have HB := hid hb; clear hb)
  by_cases h100 : 100 < n
  · have hd : decide ((100 : Int) < (n : Int)) = true := by simp; omega
    clear h100
    go_wp2
    go_ret
    exact ⟨rfl, HB.out⟩
  have hd : decide ((100 : Int) < (n : Int)) = false := by simp; omega
  have hw1 : w.heap.size ≤ w1.heap.size := HB.out.size
  go_upto_region 6 with (go_at_call 9; refine (lnew_any 4 _).mono ?_; rintro e w2 ⟨k, rfl, hs, hb, hk⟩; have HS0 := hid (show Al w w2 k 4 (empt (cl 4)) from ⟨hs, by decide, Nat.le_trans hw1 hk, on HB.out hb⟩); clear hs hb hk)
  clear hw1 HB
  go_wp2_with fail
  go_loopg [20] n (fun gk t wr => ∃ p : Nat, p + gk = n ∧ t = .int .i64 p ∧ ∃ S, Al w wr k 4 S)
  case atStart => exact ⟨0, by omega, rfl, _, HS0.out⟩
  case round =>
    obtain ⟨p, hp, rfl, S, hT⟩ := hrel
    have HT := hid hT
    clear hT HS0
    by_cases hlt : p < n
    · obtain ⟨ad, rfl, hat⟩ := (HA.out.below HT.out.bel) p hlt
      obtain ⟨⟨κ, z, b⟩, hH⟩ : ∃ y, f p = y := ⟨_, rfl⟩
      rw [hH] at hat
      obtain ⟨alt, c0, c1, c2⟩ := hat
      dsimp only at c0 c1 c2
      obtain ⟨g, hg⟩ : ∃ g, wr.heap.size = g := ⟨_, rfl⟩
      obtain ⟨W, hW⟩ : ∃ W, wr.alloc (.cells #[.int .i64 κ, .int .i64 z, .int .i64 b] 29) = W := ⟨_, rfl⟩
      have BW : Below wr.heap.size wr W := by rw [← hW]; exact below_alloc _ _
      have HXW := hid (show Bx W g 29 #[.int .i64 κ, .int .i64 z, .int .i64 b] from by rw [← hW, ← hg]; exact Bx.new _ _ _)
      have HTW := hid (HT.out.below BW)
      have HWW := hid hW
      have HGG := hid hg
      clear BW hH hW hg
      go_upto_region 9 with fail
      rw [HGG.out, HWW.out]
      clear c0 c1 c2 HGG HWW alt
      have y0 : W.cell? ⟨g, 0, none⟩ = some (.int .i64 κ) := HXW.out.cell 0
      by_cases hneg : κ < 0
      · have d1 : decide ((0 : Int) ≤ κ) = false := by simpa using hneg
        clear hneg
        go_wp2_with fail
        go_roundg (gk - 1)
        case measure => omega
        case rel => exact ⟨p + 1, by omega, by go_num, _, HTW.out⟩
      by_cases hbig : 2 < κ
      · have d1 : decide ((0 : Int) ≤ κ) = true := by simp; omega
        have d2 : decide (κ ≤ (2 : Int)) = false := by simpa using hbig
        clear hneg hbig
        go_wp2_with fail
        go_roundg (gk - 1)
        case measure => omega
        case rel => exact ⟨p + 1, by omega, by go_num, _, HTW.out⟩
      have d1 : decide ((0 : Int) ≤ κ) = true := by simp; omega
      have d2 : decide (κ ≤ (2 : Int)) = true := by simp; omega
      have HKK := hid (show 0 ≤ κ ∧ κ ≤ 2 from by omega)
      clear hneg hbig
      go_wp2_with (first
        | (with_reducible refine wpList_load_bx rfl 29 (.tmp 5) rfl g _ _ _ rfl HXW.out Try.underlying29 rfl (by kernel_rfl) ?_)
        | (go_at_call 11; refine (ndo_any HTW.out.a κ z b HKK.out).mono ?_; rintro e w4 ⟨rfl, hN, hC⟩; have HT5 := hid (HTW.out.step hN hC (len_do κ z b S)); clear hN hC))
      go_roundg (gk - 1)
      case measure => omega
      case rel => exact ⟨p + 1, by omega, by go_num, _, HT5.out⟩
    · obtain rfl : p = n := by omega
      have HT4 := hid HT.out
      have hmm := @run_makeMap Try.prog
      clear hlt hp
      go_wp2_with fail
      clear hmm
      have HO0 := hid (show On w (wr.alloc (.map #[] 0)) k wr.heap.size S 0 0 [] from ⟨HT4.out.below (below_alloc wr _), ⟨0, by omega, (fresh_made wr (fun _ => True)).weak fun p _ => trivial⟩, HT4.out.a.lt, HT4.out.bel.size, by rw [World.size_alloc]; omega⟩)
      generalize wr.heap.size = bm at *
      generalize gk = K1 at *
      go_loopg [37] 4 (fun gk t wr => ∃ i : Nat, i + gk = 4 ∧ t = .int .i64 i ∧ ∀ l, On w wr k bm S i 0 l)
      case atStart => exact ⟨0, by omega, rfl, fun l => ⟨HO0.out.al, by obtain ⟨m, hm, hf⟩ := HO0.out.fr; exact ⟨m, hm, hf.weak fun p hp => ⟨hp.1, by simp⟩⟩, HO0.out.kb, HO0.out.lo, HO0.out.lt⟩⟩
      case round =>
        obtain ⟨i, hi, rfl, hO⟩ := hrel
        have HO := hid hO
        clear hO HO0
        by_cases hi4 : i < 4
        · obtain ⟨l, hl⟩ : ∃ x, S[i]? = some x := ⟨_, List.getElem?_eq_getElem (by rw [HT4.out.len]; exact hi4)⟩
          have h64 := (HO.out l).al.a.wf.1.len hl
          have HL := hid hl
          have HALL := hid (all_in (HO.out l).al.a hl)
          obtain ⟨ln, hln⟩ : ∃ x, l.length = x := ⟨_, rfl⟩
          rw [hln] at h64
          have HLN := hid hln
          have hii : (i : Int) < 4 := by omega
          clear hl hln
          go_wp2_with (go_at_call 14; refine HALL.out.mono ?_; rintro e w7 ⟨A7, c7, rfl, ho, hg⟩; rw [HLN.out] at ho hg ⊢; have H7 := hid ((HO.out l).below hg.nilBelow); obtain ⟨A', c', e', hr, -⟩ := ho.read; rw [ints_length, HLN.out] at e'; simp only [Value.slice.injEq] at e'; obtain ⟨rfl, -, -⟩ := e'; have HR7 := hid hr; have HN7 := hid (show ∀ ad, A7 = some ad → ad.block ≠ bm from fun ad e => by have h1 := hg.new (ho.blk e); have h2 := (HO.out l).lt; omega); clear ho hg hr)
          generalize gk = K0 at *
          go_loopg [44] ln (fun gk t wr => ∃ j : Nat, j + gk = ln ∧ t = .int .i64 j ∧ On w wr k bm S i j l ∧ Rv wr wr.heap.size A7 (ints l))
          case atStart => exact ⟨0, by omega, rfl, H7.out, HR7.out⟩
          case round =>
            obtain ⟨j, hj, rfl, hO, hR⟩ := hrel
            have HOJ := hid hO
            have HRJ := hid hR
            clear hO hR H7 HR7
            by_cases hjl : j < ln
            · have hjl2 : j < l.length := by rw [HLN.out]; exact hjl
              obtain ⟨a, ha, hab, hca⟩ := rv_at HRJ.out hjl2
              have hane := HN7.out a ha
              subst ha
              obtain ⟨hlook, w9, hput, hO9, hg9⟩ := HOJ.out.meet hi4 HL.out hjl2
              have HOF := hid (of_yes HOJ.out.al.a HL.out (List.getElem_mem hjl2))
              have HO9 := hid hO9
              have HR9 := hid (show Rv w9 w9.heap.size (some a) (ints l) from fun q u hu => by
                obtain ⟨ad, e1, e2, e3⟩ := HRJ.out q u hu
                injection e1 with e1
                subst e1
                exact ⟨a, rfl, Nat.lt_of_lt_of_le e2 hg9.size, (World.cell?_of_block (hg9.block _ (by rw [addBlk]; exact e2) (by rw [addBlk]; intro e; injection e with e; exact hane e))).trans e3⟩)
              have hjj : (j : Int) < (ln : Int) := by omega
              have ii : ((i : Int) != (i : Int)) = false := by simp
              generalize l[j] = y at *
              clear hjl2 hab hane hO9 hg9
              go_wp2_with (go_at_call 17; refine HOF.out.mono ?_; rintro e w' ⟨rfl, rfl⟩)
              go_roundg (gk - 1)
              case measure => omega
              case rel => exact ⟨j + 1, by omega, by go_num, HO9.out, HR9.out⟩
            · obtain rfl : j = ln := by omega
              go_wp2_with fail
              go_roundg (K0 - 1)
              case measure => omega
              case rel => exact ⟨i + 1, by omega, by go_num, fun l' => On.next (l := l) (by rw [HLN.out]; exact HOJ.out) HL.out (by rw [HLN.out]; exact h64)⟩
        · obtain rfl : i = 4 := by omega
          go_wp2_with fail
          go_ret
          exact ⟨rfl, (HO.out []).al.bel⟩
end Go.Proofs.Ytoiikjpeceolpaa
