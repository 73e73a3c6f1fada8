/-
  What is proved: store's reader: of a sector; its next number, its next text, whether it has ended. Condition: it lies in memory as a reader of no more than 64 bytes.
-/
import Derived.Test.YtbcejfonkehjgaaGreatDoorK32
import Derived.Deep.RegionWith
import Derived.Test.YtbcejfonkehjgaaGreatDoorRows
import Derived.Test.YtbcejfonkehjgaaGreatDoorK02
import Derived.Deep.QuietTactic
import Derived.BigQuiet
namespace Go.Proofs.YtbcejfonkehjgaaGreatDoor
open Go.RowKit

def Rdq (w : World) (kr : Nat) (l : List Int) (o : Option Nat) : Prop :=
  ∃ (A : Option Addr) (c : Nat) (p x : Int), Bx w kr 225 #[.slice A l.length c, .int .i64 p, .int .i64 x] ∧ Rn w A l ∧ l.length ≤ c ∧ (∀ q, o = some q → x = 0 ∧ p = (q : Nat) ∧ q ≤ l.length) ∧ (o = none → x ≠ 0)
def O1 (w w' : World) (k : Nat) : Prop := Only w w' k (.slice none 0 0)
theorem Rdq.only {w w' : World} {kr k : Nat} {l : List Int} {o : Option Nat} (h : Rdq w kr l o) (ho : O1 w w' k) (hk : kr ≠ k) : Rdq w' kr l o := by
  obtain ⟨A, c, p, x, hb, r, h1⟩ := h
  refine ⟨A, c, p, x, (ho.block kr hb.lt hk (by simp [Value.ownBlock])).trans hb, fun j y hy => ?_, h1⟩
  obtain ⟨ad, e, hbl, hc⟩ := r j y hy
  exact ⟨ad, e, Nat.lt_of_lt_of_le hbl ho.size, ho.stay _ _ hc⟩
theorem Rdq.bnd {w : World} {kr : Nat} {l : List Int} {o : Option Nat} (h : Rdq w kr l o) : ∀ q, o = some q → q ≤ l.length := by
  obtain ⟨A, c, p, x, hb, r, hc, h1, h2⟩ := h
  exact fun q hq => (h1 q hq).2.2
theorem Rn.stay1 {w w' : World} {A : Option Addr} {l : List Int} (r : Rn w A l) (st : Stay w w') (hs : w.heap.size ≤ w'.heap.size) : Rn w' A l := fun j y hy => by
  obtain ⟨ad, e, hbl, hc⟩ := r j y hy
  exact ⟨ad, e, Nat.lt_of_lt_of_le hbl hs, st _ _ hc⟩
theorem rq_set {w : World} {kr : Nat} {V : Value} {p x : Int} (hb : Bx w kr 225 #[V, .int .i64 p, .int .i64 x]) (_: ∀ y, V ≠ .int .u8 y) (p' x' : Int) :
    ∀ w', (w' = (w.setCell ⟨kr, 1, none⟩ (.int .i64 p')).setCell ⟨kr, 2, none⟩ (.int .i64 x') ∨ w' = (w.setCell ⟨kr, 2, none⟩ (.int .i64 x')).setCell ⟨kr, 1, none⟩ (.int .i64 p')) →
    Bx w' kr 225 #[V, .int .i64 p', .int .i64 x'] ∧ O1 w w' kr := by
  rintro w' (rfl | rfl)
  · have b1 := hb.set 1 (.int .i64 p')
    refine ⟨b1.set 2 (.int .i64 x'), Only.trans (Only.setK w kr 1 _ _ fun y e => ?_) (Only.setK _ kr 2 _ _ fun y e => ?_)⟩
    · have := (hb.cell 1).symm.trans e; cases this
    · have := (b1.cell 2).symm.trans e; cases this
  · have b1 := hb.set 2 (.int .i64 x')
    refine ⟨b1.set 1 (.int .i64 p'), Only.trans (Only.setK w kr 2 _ _ fun y e => ?_) (Only.setK _ kr 1 _ _ fun y e => ?_)⟩
    · have := (hb.cell 2).symm.trans e; cases this
    · have := (b1.cell 1).symm.trans e; cases this

theorem O1.of {w w' : World} (h : Below w.heap.size w w') (k : Nat) : O1 w w' k := Only.of h k _
theorem rq_step {w : World} {kr : Nat} {A : Option Addr} {c : Nat} {l : List Int} {p x : Int} (_ : Bx w kr 225 #[.slice A l.length c, .int .i64 p, .int .i64 x]) (r : Rn w A l) (hc : l.length ≤ c) (w1 : World) (h1 : O1 w w1 kr) (hb1 : Bx w1 kr 225 #[.slice A l.length c, .int .i64 p, .int .i64 x])
    (p' x' : Int) (w' : World) (o : Option Nat) (e : w' = (w1.setCell ⟨kr, 1, none⟩ (.int .i64 p')).setCell ⟨kr, 2, none⟩ (.int .i64 x') ∨ w' = (w1.setCell ⟨kr, 2, none⟩ (.int .i64 x')).setCell ⟨kr, 1, none⟩ (.int .i64 p'))
    (ho : (∀ q, o = some q → x' = 0 ∧ p' = (q : Nat) ∧ q ≤ l.length) ∧ (o = none → x' ≠ 0)) : Rdq w' kr l o ∧ O1 w w' kr ∧ O1 w1 w' kr := by
  obtain ⟨b, o1⟩ := rq_set hb1 (fun y e => by cases e) p' x' w' e
  have o2 := Only.trans h1 o1
  exact ⟨⟨A, c, p', x', b, Rn.stay1 r o2.stay o2.size, hc, ho⟩, o2, o1⟩

section
variable {w : World} {kr : Nat} {l : List Int}
set_option maxRecDepth 100000 in
set_option maxHeartbeats 400000 in
theorem number_none (h : Rdq w kr l none) : Calls Tryz.prog 105 #[.pointer (some ⟨kr, 0, none⟩)] w fun e w' => e = .returned (.int .i64 0) ∧ w' = w := by
  obtain ⟨A, c, p, x, hb, r, hc, _, h2⟩ := h
  have hx := h2 rfl
  have c2 := hb.cell 2
  have hx1 : (x == 0) = false := by simpa using hx
  clear h2 hx hb r
  simp at c2
  go_enter Tryz.func105, Tryz.ntmps105
  go_wp2
  go_ret
  exact ⟨rfl, rfl⟩
set_option maxRecDepth 100000 in
set_option maxHeartbeats 400000 in
theorem number_some {p0 : Nat} (hl : Ok1 l) (h : Rdq w kr l (some p0)) : Calls Tryz.prog 105 #[.pointer (some ⟨kr, 0, none⟩)] w fun e w' => e = .returned (.int .i64 (nx l (some p0)).1) ∧ Rdq w' kr l (nx l (some p0)).2 ∧ O1 w w' kr := by
  obtain ⟨A, c, p, x, hb, r, hc, h1, h2⟩ := h
  obtain ⟨rfl, rfl, hp⟩ := h1 p0 rfl
  have c0 : w.cell? ⟨kr, 0, none⟩ = _ := hb.cell 0
  have c1 : w.cell? ⟨kr, 1, none⟩ = _ := hb.cell 1
  have c2 : w.cell? ⟨kr, 2, none⟩ = _ := hb.cell 2
  have f1 := hb.free 1
  have f2 := hb.free 2
  simp at c0 c1 c2
  have HS := hid (fun d => rq_step hb r hc (w.drewN d) (O1.of (below_draws (Below.refl w.heap.size w) d) kr) (hb.draws d))
  have HR := hid r
  have HC := hid hc
  clear hb r h1 h2
  have hll := hl.1
  obtain ⟨L, hL⟩ : ∃ L, l.length = L := ⟨_, rfl⟩
  have HL := hid hL
  cases hg : gnum l p0 with
  | none =>
    have HG := hid (fun (w1 : World) (r : Rn w1 A l) => get_none (c := c) (w := w1) (by omega) hp hl.2 r hg L hL)
    simp only [nx, hg]
    clear hg hl
    rw [hL] at c0 HC hp hll
    clear hL
    go_enter Tryz.func105, Tryz.ntmps105
    go_wp2
    go_region_with ((go_at_call 140; refine (HG.out _ (by exact HR.out)).mono ?_; rintro e w1 ⟨⟨x, hx, rfl⟩, d, rfl⟩; have HX := hid hx; clear hx))
    all_goals
      go_wp2
      go_ret
      obtain ⟨h1, h2, _⟩ := HS.out _ 0 x _ none (by first | exact .inl rfl | exact .inr rfl) ⟨fun q h => (by cases h), fun _ => HX.out⟩
      exact ⟨rfl, h1, h2⟩
  | some nq =>
    obtain ⟨n, q⟩ := nq
    have HG := hid (fun (w1 : World) (r : Rn w1 A l) => get_some (c := c) (w := w1) (by omega) hp hl.2 r hg L hL)
    obtain ⟨_, hq, _⟩ := gnum_bnd hl.2 hg
    simp only [nx, hg]
    clear hg hl
    have HQ := hid hq
    rw [hL] at c0 HC hp hll
    clear hL hq
    go_enter Tryz.func105, Tryz.ntmps105
    go_wp2
    go_region_with ((go_at_call 140; refine (HG.out _ (by exact HR.out)).mono ?_; rintro e w1 ⟨rfl, d, rfl⟩))
    all_goals
      go_wp2
      go_ret
      obtain ⟨h1, h2, _⟩ := HS.out _ q 0 _ (some q) (by first | exact .inl rfl | exact .inr rfl) ⟨fun q h => (by cases h; exact ⟨rfl, rfl, HQ.out⟩), fun h => (by cases h)⟩
      exact ⟨rfl, h1, h2⟩
theorem number_any {o : Option Nat} (hl : Ok1 l) (h : Rdq w kr l o) : Calls Tryz.prog 105 #[.pointer (some ⟨kr, 0, none⟩)] w fun e w' => e = .returned (.int .i64 (nx l o).1) ∧ Rdq w' kr l (nx l o).2 ∧ O1 w w' kr := by
  cases o with
  | none => exact (number_none h).mono fun e w' ⟨h1, h2⟩ => by subst h1 h2; exact ⟨rfl, h, Only.refl _ _ _⟩
  | some p => exact number_some hl h

set_option maxRecDepth 100000 in
set_option maxHeartbeats 400000 in
theorem rtext_none (h : Rdq w kr l none) : Calls Tryz.prog 106 #[.pointer (some ⟨kr, 0, none⟩)] w fun e w' => e = .returned (.slice none 0 0) ∧ w' = w := by
  obtain ⟨A, c, p, x, hb, r, hc, _, h2⟩ := h
  have hx := h2 rfl
  have c2 := hb.cell 2
  have hx1 : (x == 0) = false := by simpa using hx
  clear h2 hx hb r
  simp at c2
  go_enter Tryz.func106, Tryz.ntmps106
  go_wp2
  go_ret
  exact ⟨rfl, rfl⟩
theorem Own.o1 {w w' : World} {b k : Nat} {v : Value} {l : List Int} (h : Own w b v l) (ho : O1 w w' k) (hk : v.ownBlock ≠ some k) : Own w' b v l := by
  refine ⟨h.1, ?_⟩
  rcases h.2 with hn | ⟨g, cap, cur, hv, hb', hgg, rest⟩
  · exact .inl hn
  · refine .inr ⟨g, cap, cur, hv, hb', (ho.block g (Array.getElem?_eq_some_iff.1 hgg).1 (fun e => hk (by rw [hv, ← e]; rfl)) (by simp [Value.ownBlock])).trans hgg, rest⟩
theorem Own.lower {w : World} {b b' : Nat} {v : Value} {l : List Int} (h : Own w b v l) (hb : b' ≤ b) : Own w b' v l := by
  refine ⟨h.1, ?_⟩
  rcases h.2 with hn | ⟨g, cap, cur, hv, hb', rest⟩
  · exact .inl hn
  · exact .inr ⟨g, cap, cur, hv, Nat.le_trans hb hb', rest⟩
set_option maxRecDepth 100000 in
set_option maxHeartbeats 400000 in
theorem rtext_some {p0 : Nat} (hl : Ok1 l) (h : Rdq w kr l (some p0)) : Calls Tryz.prog 106 #[.pointer (some ⟨kr, 0, none⟩)] w fun e w' => (∃ u, e = .returned u ∧ Own w' w.heap.size u (tx l (some p0)).1) ∧ Rdq w' kr l (tx l (some p0)).2 ∧ O1 w w' kr := by
  obtain ⟨A, c, p, x, hb, r, hc, h1, h2⟩ := h
  obtain ⟨rfl, rfl, hp⟩ := h1 p0 rfl
  have c0 : w.cell? ⟨kr, 0, none⟩ = _ := hb.cell 0
  have c1 : w.cell? ⟨kr, 1, none⟩ = _ := hb.cell 1
  have c2 : w.cell? ⟨kr, 2, none⟩ = _ := hb.cell 2
  have f1 := hb.free 1
  have f2 := hb.free 2
  simp at c0 c1 c2
  have HS := hid (rq_step hb r hc)
  have HB := hid hb
  have HR := hid r
  have HC := hid hc
  clear hb r h1 h2
  have hll := hl.1
  obtain ⟨L, hL⟩ : ∃ L, l.length = L := ⟨_, rfl⟩
  have HL := hid hL
  cases hg : gtext l p0 16 with
  | none =>
    have HG := hid (fun (w1 : World) (r : Rn w1 A l) => gettext_none (c := c) (w := w1) (by omega) hp hl.2 r hg L hL)
    simp only [tx, hg]
    clear hg hl
    rw [hL] at c0 HC hp hll
    clear hL
    go_enter Tryz.func106, Tryz.ntmps106
    go_wp2
    go_region_with ((go_at_call 141; refine (HG.out _ (by exact HR.out)).mono ?_; rintro e w1 ⟨⟨x, hx, rfl⟩, d, rfl⟩; have HX := hid hx; clear hx))
    all_goals
      go_wp2
      go_ret
      obtain ⟨h1, h2, _⟩ := HS.out _ (O1.of (below_draws (Below.refl w.heap.size w) (1 + d)) kr) (HB.out.draws _) 0 x _ none (by first | exact .inl rfl | exact .inr rfl) ⟨fun q h => (by cases h), fun _ => HX.out⟩
      exact ⟨⟨_, rfl, own_nil _ _⟩, h1, h2⟩
  | some nq =>
    obtain ⟨n, q⟩ := nq
    have HG := hid (fun (w1 : World) (r : Rn w1 A l) => gettext_some (c := c) (w := w1) (by omega) hp hc hl.2 r hg L hL)
    obtain ⟨hq, _⟩ := gtext_bnd hl.2 hg
    simp only [tx, hg]
    clear hg hl
    have HQ := hid hq
    rw [hL] at c0 HC hp hll
    clear hL hq
    go_enter Tryz.func106, Tryz.ntmps106
    go_wp2
    go_region_with ((go_at_call 141; refine (HG.out _ (by exact HR.out)).mono ?_; rintro e w1 ⟨v, rfl, hown, hb1⟩; have HO := hid hown; have B1 := hid (show Below w.heap.size w w1 from ⟨hb1.os, hb1.tape, hb1.output, hb1.size, hb1.block⟩); have g1 : w1.frozen? ⟨kr, 1, none⟩ = false := (HB.out.next B1.out).free 1; have g2 : w1.frozen? ⟨kr, 2, none⟩ = false := (HB.out.next B1.out).free 2; have d1 : w1.cell? ⟨kr, 1, none⟩ = some (.int .i64 p0) := (HB.out.next B1.out).cell 1; have d2 : w1.cell? ⟨kr, 2, none⟩ = some (.int .i64 0) := (HB.out.next B1.out).cell 2; clear hown hb1))
    all_goals
      go_wp2
      go_ret
      obtain ⟨h1, h2, h4⟩ := HS.out w1 (O1.of B1.out kr) (HB.out.next B1.out) q 0 _ (some q) (by first | exact .inl rfl | exact .inr rfl) ⟨fun q h => (by cases h; exact ⟨rfl, rfl, HQ.out⟩), fun h => (by cases h)⟩
      refine ⟨⟨_, rfl, ?_⟩, h1, h2⟩
      exact HO.out.o1 h4 (fun e => by have : w.heap.size ≤ kr := (World.ownsRow.lt HO.out kr e).1; have := HB.out.lt; omega)
theorem rtext_any {o : Option Nat} (hl : Ok1 l) (h : Rdq w kr l o) : Calls Tryz.prog 106 #[.pointer (some ⟨kr, 0, none⟩)] w fun e w' => (∃ u, e = .returned u ∧ Own w' w.heap.size u (tx l o).1) ∧ Rdq w' kr l (tx l o).2 ∧ O1 w w' kr := by
  cases o with
  | none => exact (rtext_none h).mono fun e w' ⟨h1, h2⟩ => by subst h1 h2; exact ⟨⟨_, rfl, own_nil _ _⟩, h, Only.refl _ _ _⟩
  | some p => exact rtext_some hl h

end
end Go.Proofs.YtbcejfonkehjgaaGreatDoor
namespace Go.Proofs.YtbcejfonkehjgaaGreatDoor
open Go.RowKit

theorem O1.set (w : World) (p : Addr) (u : Value) (h : ∀ x, w.cell? p ≠ some (.int .u8 x)) : O1 w (w.setCell p u) p.block :=
  ⟨rfl, rfl, rfl, by rw [setSize]; exact Nat.le_refl _, fun j _ h2 _ => Below.heap_setCell w p u j h2, Stay.set w p u h, fun _ _ _ _ _ e => by simp [Value.ownBlock] at e⟩
set_option maxRecDepth 100000 in
set_option maxHeartbeats 800000 in
theorem fill_any {l : List Int} (hl : Ok1 l) (kr : Nat) (o : Option Nat) (ps : List Addr) (n : Nat) (hn : ps.length = n) (hn1 : n ≤ 100) (A : Option Addr) (c : Nat) (I : Nat → World → Prop) (w : World) (hr : Rdq w kr l o) (hI : I 0 w)
    (hslice : ∀ i w', I i w' → Rv w' w'.heap.size A (ps.map fun p => .pointer (some p)))
    (hkeep : ∀ i w1 w2, I i w1 → O1 w1 w2 kr → I i w2)
    (hst : ∀ i p w1, ps[i]? = some p → I i w1 → p.block ≠ kr ∧ w1.frozen? p = false ∧ (∃ x : Int, w1.cell? p = some (.int .i64 x)) ∧ I (i + 1) (w1.setCell p (.int .i64 (nth l o i)))) :
    Calls Tryz.prog 104 #[.func (.func 105) #[.pointer (some ⟨kr, 0, none⟩)] #[], .slice A n c] w fun e w' => e = .returned (.tuple #[]) ∧ I n w' ∧ Rdq w' kr l (stt l o n) := by
  have HI := hid hI
  have HR := hid hr
  have HS := hid hslice
  have HK := hid hkeep
  have HT := hid hst
  have HN := hid hn
  have HL := hid hl
  clear hI hr hslice hkeep hst hn hl
  go_enter Tryz.func104, Tryz.ntmps104
  go_wp2
  go_loopw [8] (fun i wr => ∃ k : Nat, i = .int .i64 k ∧ k ≤ n ∧ Hid (I k wr) ∧ Hid (Rdq wr kr l (stt l o k))) (fun i _ => n - (intOf i).toNat)
  case atStart => exact ⟨0, by rfl, by omega, HI, HR⟩
  case round =>
    obtain ⟨k, rfl, hk, hi, hq⟩ := hrel
    by_cases hlt : k < n
    · have hlt' : (k : Int) < (n : Int) := by omega
      have hkp : k < ps.length := by rw [HN.out]; exact hlt
      obtain ⟨ad, rfl, hb, hc⟩ := HS.out k _ hi.out k _ (by rw [List.getElem?_map, List.getElem?_eq_getElem hkp]; rfl)
      generalize hp : ps[k] = p at hc
      have HP := hid (show ps[k]? = some p by rw [List.getElem?_eq_getElem hkp, hp])
      clear hp hb
      go_wp2_with (go_at_call 105; refine (number_any HL.out hq.out).mono ?_; rintro e w1 ⟨rfl, hr1, ho1⟩; have HR1 := hid hr1; have HO1 := hid ho1; have HI1 := hid (HK.out _ _ _ hi.out ho1); obtain ⟨q1, q2, ⟨x, q3⟩, q4⟩ := HT.out k p w1 HP.out HI1.out; have HI2 := hid q4; have HQ1 := hid q1; clear hr1 ho1 q4 q1)
      go_roundw
      case rel =>
        refine ⟨k + 1, by go_num, by omega, HI2, ?_⟩
        exact hid (HR1.out.only (O1.set w1 p _ fun y e => by rw [q3] at e; cases e) (Ne.symm HQ1.out))
      case measure => simp [intOf]; omega
    · have hkn : k = n := by omega
      subst hkn
      go_wp2
      go_end0
      exact ⟨rfl, hi.out, hq.out⟩
end Go.Proofs.YtbcejfonkehjgaaGreatDoor
namespace Go.Proofs.YtbcejfonkehjgaaGreatDoor
open Go.RowKit

structure Sh where
  B : Nat
  Z : Nat
  C : Nat
  S : Nat
structure Sh.ok (h : Sh) : Prop where
  b : 1 ≤ h.B ∧ h.B ≤ 32
  z : 1 ≤ h.Z ∧ h.Z ≤ 16
  c : 1 ≤ h.C ∧ h.C ≤ 4
  s : 1 ≤ h.S ∧ h.S ≤ 4
def Sh.v (h : Sh) : Value := .agg #[.int .i64 h.B, .int .i64 h.Z, .int .i64 h.C, .int .i64 h.S]

set_option maxHeartbeats 400000 in
theorem within_yes (n a b : Int) (w : World) (h : a ≤ n ∧ n ≤ b) : Calls Tryz.prog 82 #[.int .i64 n, .int .i64 a, .int .i64 b] w fun e w' => e = .returned (.bool true) ∧ w' = w := by
  obtain ⟨h1, h2⟩ := h
  go_enter Tryz.func82, Tryz.ntmps82
  go_wp2
  go_ret
  exact ⟨rfl, rfl⟩
set_option maxHeartbeats 400000 in
theorem within_no (n a b : Int) (w : World) (h : ¬ (a ≤ n ∧ n ≤ b)) : Calls Tryz.prog 82 #[.int .i64 n, .int .i64 a, .int .i64 b] w fun e w' => e = .returned (.bool false) ∧ w' = w := by
  by_cases h1 : a ≤ n
  · have h2 : ¬ n ≤ b := fun e => h ⟨h1, e⟩
    have hd : decide (n ≤ b) = false := by simpa using h2
    clear h h2
    go_enter Tryz.func82, Tryz.ntmps82
    go_wp2
    go_ret
    exact ⟨rfl, rfl⟩
  · have hd : decide (a ≤ n) = false := by simpa using h1
    clear h h1
    go_enter Tryz.func82, Tryz.ntmps82
    go_wp2
    go_ret
    exact ⟨rfl, rfl⟩

structure Wr where
  c : Int
  s : Int
  b : Int
  o : Int
  k : Int
  A : Option Addr
  cap : Nat
  l : List Int
def Wr.v (x : Wr) : Value := .agg #[.int .i64 x.c, .int .i64 x.s, .int .i64 x.b, .int .i64 x.o, .int .i64 x.k, .slice x.A x.l.length x.cap]
def Wr.slot (x : Wr) (sh : Sh) : Prop := (0 ≤ x.c ∧ x.c < sh.C) ∧ 0 ≤ x.s ∧ x.s < sh.S
instance (x : Wr) (sh : Sh) : Decidable (x.slot sh) := by unfold Wr.slot; infer_instance
def Wr.wrong (x : Wr) (sh : Sh) : Nat :=
  if ¬ (0 ≤ x.k ∧ x.k < sh.B) then 9 else if x.l.length ≠ sh.Z then 10 else if ¬ (x.slot sh ∧ (1 ≤ x.b ∧ x.b ≤ 1099511627776) ∧ 1 ≤ x.o ∧ x.o ≤ 1099511627776) then 6 else 0
theorem Wr.fits (x : Wr) (sh : Sh) (h : x.wrong sh = 0) : (0 ≤ x.k ∧ x.k < sh.B) ∧ x.l.length = sh.Z ∧ x.slot sh ∧ (1 ≤ x.b ∧ x.b ≤ 1099511627776) ∧ 1 ≤ x.o ∧ x.o ≤ 1099511627776 := by
  unfold Wr.wrong at h
  split at h
  · cases h
  · split at h
    · cases h
    · split at h
      · cases h
      · rename_i h1 h2 h3
        exact ⟨Classical.not_not.1 h1, Classical.not_not.1 h2, Classical.not_not.1 h3⟩
section
variable (sh : Sh) (ok : sh.ok) (w : World)
include ok
set_option maxHeartbeats 400000 in
theorem hasBlock_yes (k : Int) (h : 0 ≤ k ∧ k < sh.B) : Calls Tryz.prog 74 #[sh.v, .int .i64 k] w fun e w' => e = .returned (.bool true) ∧ Below w.heap.size w w' := by
  obtain ⟨B, Z, C, S⟩ := sh
  obtain ⟨b, _, _, _⟩ := ok
  unfold Sh.v
  simp only at h b ⊢
  go_enter Tryz.func74, Tryz.ntmps74
  go_wp2_with (go_at_call 82; refine (within_yes _ _ _ _ (by omega)).mono ?_; rintro e w1 ⟨rfl, rfl⟩)
  go_ret
  exact ⟨rfl, below_alloc _ _⟩
set_option maxHeartbeats 400000 in
theorem hasBlock_no (k : Int) (h : ¬ (0 ≤ k ∧ k < sh.B)) : Calls Tryz.prog 74 #[sh.v, .int .i64 k] w fun e w' => e = .returned (.bool false) ∧ Below w.heap.size w w' := by
  obtain ⟨B, Z, C, S⟩ := sh
  obtain ⟨b, _, _, _⟩ := ok
  unfold Sh.v
  simp only at h b ⊢
  have H := hid h
  clear h
  go_enter Tryz.func74, Tryz.ntmps74
  go_wp2_with (go_at_call 82; refine (within_no _ _ _ _ (by have := H.out; omega)).mono ?_; rintro e w1 ⟨rfl, rfl⟩)
  go_ret
  exact ⟨rfl, below_alloc _ _⟩
set_option maxHeartbeats 400000 in
theorem hasSlot_yes (c s : Int) (h : (0 ≤ c ∧ c < sh.C) ∧ 0 ≤ s ∧ s < sh.S) : Calls Tryz.prog 115 #[sh.v, .int .i64 c, .int .i64 s] w fun e w' => e = .returned (.bool true) ∧ Below w.heap.size w w' := by
  obtain ⟨B, Z, C, S⟩ := sh
  obtain ⟨_, _, hc, hs⟩ := ok
  unfold Sh.v
  simp only at h hc hs ⊢
  go_enter Tryz.func115, Tryz.ntmps115
  go_wp2_with (go_at_call 82; refine (within_yes _ _ _ _ (by omega)).mono ?_; rintro e w1 ⟨rfl, rfl⟩)
  go_ret
  exact ⟨rfl, below_alloc _ _⟩
set_option maxHeartbeats 400000 in
theorem hasSlot_no (c s : Int) (h : ¬ ((0 ≤ c ∧ c < sh.C) ∧ 0 ≤ s ∧ s < sh.S)) : Calls Tryz.prog 115 #[sh.v, .int .i64 c, .int .i64 s] w fun e w' => e = .returned (.bool false) ∧ Below w.heap.size w w' := by
  obtain ⟨B, Z, C, S⟩ := sh
  obtain ⟨_, _, hc, hs⟩ := ok
  unfold Sh.v
  simp only at h hc hs ⊢
  have H := hid h
  clear h
  by_cases h1 : 0 ≤ c ∧ c < C
  · go_enter Tryz.func115, Tryz.ntmps115
    go_wp2_with (go_at_call 82; first | (refine (within_yes _ _ _ _ (by have := H.out; omega)).mono ?_; rintro e w1 ⟨rfl, rfl⟩) | (refine (within_no _ _ _ _ (by have := H.out; omega)).mono ?_; rintro e w1 ⟨rfl, rfl⟩))
    go_ret
    exact ⟨rfl, below_alloc _ _⟩
  · have H1 := hid h1
    clear h1
    go_enter Tryz.func115, Tryz.ntmps115
    go_wp2_with (go_at_call 82; (refine (within_no _ _ _ _ (by have := H1.out; omega)).mono ?_; rintro e w1 ⟨rfl, rfl⟩))
    go_ret
    exact ⟨rfl, below_alloc _ _⟩
set_option maxHeartbeats 400000 in
theorem blockAt_any (k : Nat) (h : k < 64) : Calls Tryz.prog 103 #[sh.v, .int .i64 k] w fun e w' => e = .returned (.int .i64 (1 + k : Nat)) ∧ Below w.heap.size w w' := by
  obtain ⟨B, Z, C, S⟩ := sh
  unfold Sh.v
  go_enter Tryz.func103, Tryz.ntmps103
  go_wp2
  go_ret
  exact ⟨by simp, below_alloc _ _⟩
def Sh.at_ (h : Sh) (c s : Nat) : Nat := 1 + h.B + (h.S * c + s)
set_option maxHeartbeats 400000 in
theorem slotAt_any (c s : Nat) (hc : c ≤ 4) (hs : s ≤ 4) : Calls Tryz.prog 83 #[sh.v, .int .i64 c, .int .i64 s] w fun e w' => e = .returned (.int .i64 (sh.at_ c s : Nat)) ∧ Below w.heap.size w w' := by
  have HB := hid (fun w1 => blockAt_any sh ok w1 sh.B (by have := ok.b; omega))
  obtain ⟨B, Z, C, S⟩ := sh
  obtain ⟨b, _, _, s1⟩ := ok
  unfold Sh.v at HB ⊢
  unfold Sh.at_
  simp only at HB b s1 ⊢
  have h1 : S * c ≤ 16 := Nat.mul_le_mul s1.2 hc
  have h2 : ((S : Int) * (c : Int)) = ((S * c : Nat) : Int) := by simp
  have h3 : IntKind.i64.wrap ((S : Int) * (c : Int)) = ((S * c : Nat) : Int) := by
    rw [h2, IntKind.wrap_i64]
    omega
  generalize S * c = m at *
  have hbox := hid (Bx.new w 73 #[.int .i64 (B : Nat), .int .i64 (Z : Nat), .int .i64 (C : Nat), .int .i64 (S : Nat)])
  have hbel := hid (below_alloc w (.cells #[.int .i64 (B : Nat), .int .i64 (Z : Nat), .int .i64 (C : Nat), .int .i64 (S : Nat)] 73))
  go_enter Tryz.func83, Tryz.ntmps83
  go_wp2_with fail
  generalize w.alloc _ = W at hbox hbel ⊢
  have d0 : ∀ s : Since W, s.at_.cell? ⟨w.heap.size, 0, none⟩ = some (.int .i64 (B : Nat)) := fun s => (hbox.out.next s.bel).cell 0
  have d1 : ∀ s : Since W, s.at_.cell? ⟨w.heap.size, 1, none⟩ = some (.int .i64 (Z : Nat)) := fun s => (hbox.out.next s.bel).cell 1
  have d2 : ∀ s : Since W, s.at_.cell? ⟨w.heap.size, 2, none⟩ = some (.int .i64 (C : Nat)) := fun s => (hbox.out.next s.bel).cell 2
  have d3 : ∀ s : Since W, s.at_.cell? ⟨w.heap.size, 3, none⟩ = some (.int .i64 (S : Nat)) := fun s => (hbox.out.next s.bel).cell 3
  refine wp_region_since (by kernel_rfl) (by kernel_rfl) ?_
  repeat (quiet_step (first | (go_at_call 103; refine Calls.since _ (HB.out _))))
  refine wpQuiet_nil ?_
  rintro _ ⟨s', rfl⟩
  go_wp2
  go_ret
  refine ⟨?_, hbel.out.trans (s'.bel.mono hbel.out.size)⟩
  have e1 : IntKind.i64.wrap (m : Int) = m := by rw [IntKind.wrap_i64]; omega
  have e2 : IntKind.i64.wrap (1 + (B : Int) + m) = 1 + B + m := by rw [IntKind.wrap_i64]; omega
  have e3 : IntKind.i64.wrap (1 + (B : Int) + m + s) = 1 + B + m + s := by rw [IntKind.wrap_i64]; omega
  simp [e1, e2, e3]
  omega
set_option maxHeartbeats 400000 in
theorem sectors_any : Calls Tryz.prog 54 #[sh.v] w fun e w' => e = .returned (.int .i64 (sh.at_ sh.C 0 : Nat)) ∧ Below w.heap.size w w' := by
  have HB := hid (fun w1 => slotAt_any sh ok w1 sh.C 0 ok.c.2 (by omega))
  obtain ⟨B, Z, C, S⟩ := sh
  unfold Sh.v at HB ⊢
  simp only at HB ⊢
  generalize Sh.at_ ⟨B, Z, C, S⟩ C 0 = m at *
  go_enter Tryz.func54, Tryz.ntmps54
  go_wp2_with (go_at_call 83; refine (HB.out _).mono ?_; rintro e w1 ⟨rfl, hb1⟩)
  go_ret
  exact ⟨rfl, on (below_alloc _ _) hb1⟩
set_option maxHeartbeats 400000 in
theorem right_yes : Calls Tryz.prog 52 #[sh.v] w fun e w' => e = .returned (.bool true) ∧ Below w.heap.size w w' := by
  obtain ⟨B, Z, C, S⟩ := sh
  obtain ⟨⟨b1, b2⟩, ⟨z1, z2⟩, ⟨c1, c2⟩, s1, s2⟩ := ok
  unfold Sh.v
  simp only at b1 b2 z1 z2 c1 c2 s1 s2 ⊢
  go_enter Tryz.func52, Tryz.ntmps52
  go_wp2_with (go_at_call 82; refine (within_yes _ _ _ _ (by omega)).mono ?_; rintro e w1 ⟨rfl, rfl⟩)
  go_ret
  exact ⟨rfl, below_alloc _ _⟩
end
/-! ### refuses -/
set_option maxRecDepth 100000 in
set_option maxHeartbeats 800000 in
theorem ref_9 (c s b o k : Int) (A : Option Addr) (cap L : Nat) (B Z C S : Nat) (ok : (Sh.mk B Z C S).ok) (w : World) (hk : ¬ (0 ≤ k ∧ k < B)) :
    Calls Tryz.prog 123 #[.agg #[.int .i64 B, .int .i64 Z, .int .i64 C, .int .i64 S], .agg #[.int .i64 c, .int .i64 s, .int .i64 b, .int .i64 o, .int .i64 k, .slice A L cap]] w fun e w' => e = .returned (.int .i64 9) ∧ Below w.heap.size w w' := by
  obtain ⟨W, hW⟩ : ∃ W, (w.alloc (.cells #[.int .i64 B, .int .i64 Z, .int .i64 C, .int .i64 S] 73)).alloc (.cells #[.int .i64 c, .int .i64 s, .int .i64 b, .int .i64 o, .int .i64 k, .slice A L cap] 133) = W := ⟨_, rfl⟩
  have BS := hid (show Bx W w.heap.size 73 #[.int .i64 B, .int .i64 Z, .int .i64 C, .int .i64 S] by rw [← hW]; exact (Bx.new w _ _).alloc _)
  have BW := hid (show Bx W (w.heap.size + 1) 133 #[.int .i64 c, .int .i64 s, .int .i64 b, .int .i64 o, .int .i64 k, .slice A L cap] by
    rw [← hW]; have := Bx.new (w.alloc (.cells #[.int .i64 B, .int .i64 Z, .int .i64 C, .int .i64 S] 73)) 133 #[.int .i64 c, .int .i64 s, .int .i64 b, .int .i64 o, .int .i64 k, .slice A L cap]; rw [World.size_alloc] at this; exact this)
  have H0 := hid (show Below w.heap.size w W by rw [← hW]; exact on (below_alloc w _) (below_alloc _ _))
  have HW := hid hW
  clear hW
  have HB := hid (fun w1 => hasBlock_no ⟨B, Z, C, S⟩ ok w1 k hk)
  clear hk
  go_enter Tryz.func123, Tryz.ntmps123
  go_wp2_with fail
  rw [HW.out]
  refine (HB.out _).mono ?_
  rintro e w1 ⟨rfl, hb1⟩
  obtain ⟨p0, p1, p2, p3⟩ := (BS.out.next hb1).all4
  obtain ⟨q0, q1, q2, q3, q4, q5⟩ := (BW.out.next hb1).all6
  have HB1 := hid hb1
  clear hb1
  go_wp2
  go_ret
  exact ⟨rfl, on H0.out HB1.out⟩
set_option maxRecDepth 100000 in
set_option maxHeartbeats 800000 in
theorem ref_10 (c s b o k : Int) (A : Option Addr) (cap L : Nat) (B Z C S : Nat) (ok : (Sh.mk B Z C S).ok) (w : World) (hk : 0 ≤ k ∧ k < B) (hz : L ≠ Z) :
    Calls Tryz.prog 123 #[.agg #[.int .i64 B, .int .i64 Z, .int .i64 C, .int .i64 S], .agg #[.int .i64 c, .int .i64 s, .int .i64 b, .int .i64 o, .int .i64 k, .slice A L cap]] w fun e w' => e = .returned (.int .i64 10) ∧ Below w.heap.size w w' := by
  obtain ⟨W, hW⟩ : ∃ W, (w.alloc (.cells #[.int .i64 B, .int .i64 Z, .int .i64 C, .int .i64 S] 73)).alloc (.cells #[.int .i64 c, .int .i64 s, .int .i64 b, .int .i64 o, .int .i64 k, .slice A L cap] 133) = W := ⟨_, rfl⟩
  have BS := hid (show Bx W w.heap.size 73 #[.int .i64 B, .int .i64 Z, .int .i64 C, .int .i64 S] by rw [← hW]; exact (Bx.new w _ _).alloc _)
  have BW := hid (show Bx W (w.heap.size + 1) 133 #[.int .i64 c, .int .i64 s, .int .i64 b, .int .i64 o, .int .i64 k, .slice A L cap] by
    rw [← hW]; have := Bx.new (w.alloc (.cells #[.int .i64 B, .int .i64 Z, .int .i64 C, .int .i64 S] 73)) 133 #[.int .i64 c, .int .i64 s, .int .i64 b, .int .i64 o, .int .i64 k, .slice A L cap]; rw [World.size_alloc] at this; exact this)
  have H0 := hid (show Below w.heap.size w W by rw [← hW]; exact on (below_alloc w _) (below_alloc _ _))
  have HW := hid hW
  clear hW
  have HB := hid (fun w1 => hasBlock_yes ⟨B, Z, C, S⟩ ok w1 k hk)
  have hz1 : ((L : Int) == (Z : Int)) = false := by simpa using fun h : (L : Int) = Z => hz (by omega)
  have hz2 : ((L : Int) != (Z : Int)) = true := by simpa using fun h : (L : Int) = Z => hz (by omega)
  clear hz hk
  go_enter Tryz.func123, Tryz.ntmps123
  go_wp2_with fail
  rw [HW.out]
  refine (HB.out _).mono ?_
  rintro e w1 ⟨rfl, hb1⟩
  obtain ⟨p0, p1, p2, p3⟩ := (BS.out.next hb1).all4
  obtain ⟨q0, q1, q2, q3, q4, q5⟩ := (BW.out.next hb1).all6
  have HB1 := hid hb1
  clear hb1
  go_wp2
  go_ret
  exact ⟨rfl, on H0.out HB1.out⟩
set_option maxRecDepth 100000 in
set_option maxHeartbeats 800000 in
theorem ref_s (c s b o k : Int) (A : Option Addr) (cap L : Nat) (B Z C S : Nat) (ok : (Sh.mk B Z C S).ok) (w : World) (hk : 0 ≤ k ∧ k < B) (hz : L = Z) (hs : ¬ ((0 ≤ c ∧ c < C) ∧ 0 ≤ s ∧ s < S)) :
    Calls Tryz.prog 123 #[.agg #[.int .i64 B, .int .i64 Z, .int .i64 C, .int .i64 S], .agg #[.int .i64 c, .int .i64 s, .int .i64 b, .int .i64 o, .int .i64 k, .slice A L cap]] w fun e w' => e = .returned (.int .i64 6) ∧ Below w.heap.size w w' := by
  obtain ⟨W, hW⟩ : ∃ W, (w.alloc (.cells #[.int .i64 B, .int .i64 Z, .int .i64 C, .int .i64 S] 73)).alloc (.cells #[.int .i64 c, .int .i64 s, .int .i64 b, .int .i64 o, .int .i64 k, .slice A L cap] 133) = W := ⟨_, rfl⟩
  have BS := hid (show Bx W w.heap.size 73 #[.int .i64 B, .int .i64 Z, .int .i64 C, .int .i64 S] by rw [← hW]; exact (Bx.new w _ _).alloc _)
  have BW := hid (show Bx W (w.heap.size + 1) 133 #[.int .i64 c, .int .i64 s, .int .i64 b, .int .i64 o, .int .i64 k, .slice A L cap] by
    rw [← hW]; have := Bx.new (w.alloc (.cells #[.int .i64 B, .int .i64 Z, .int .i64 C, .int .i64 S] 73)) 133 #[.int .i64 c, .int .i64 s, .int .i64 b, .int .i64 o, .int .i64 k, .slice A L cap]; rw [World.size_alloc] at this; exact this)
  have H0 := hid (show Below w.heap.size w W by rw [← hW]; exact on (below_alloc w _) (below_alloc _ _))
  have HW := hid hW
  clear hW
  have HB := hid (fun w1 => hasBlock_yes ⟨B, Z, C, S⟩ ok w1 k hk)
  have HS := hid (fun w1 => hasSlot_no ⟨B, Z, C, S⟩ ok w1 c s hs)
  clear hs
  subst hz
  clear hk
  go_enter Tryz.func123, Tryz.ntmps123
  go_wp2_with fail
  rw [HW.out]
  refine (HB.out _).mono ?_
  rintro e w1 ⟨rfl, hb1⟩
  obtain ⟨p0, p1, p2, p3⟩ := (BS.out.next hb1).all4
  obtain ⟨q0, q1, q2, q3, q4, q5⟩ := (BW.out.next hb1).all6
  have HB1 := hid hb1
  clear hb1
  go_wp2_with fail
  refine (HS.out _).mono ?_
  rintro e w2 ⟨rfl, hb2⟩
  clear p0 p1 p2 p3 q0 q1 q2 q3 q4 q5
  have HB2 := hid (HB1.out.trans (hb2.mono HB1.out.size))
  obtain ⟨p0, p1, p2, p3⟩ := (BS.out.next HB2.out).all4
  obtain ⟨q0, q1, q2, q3, q4, q5⟩ := (BW.out.next HB2.out).all6
  clear hb2
  go_wp2
  go_ret
  exact ⟨rfl, on H0.out HB2.out⟩
set_option maxRecDepth 100000 in
set_option maxHeartbeats 800000 in
theorem ref_b (c s b o k : Int) (A : Option Addr) (cap L : Nat) (B Z C S : Nat) (ok : (Sh.mk B Z C S).ok) (w : World) (hk : 0 ≤ k ∧ k < B) (hz : L = Z) (hs : (0 ≤ c ∧ c < C) ∧ 0 ≤ s ∧ s < S) (hb : ¬ (1 ≤ b ∧ b ≤ 1099511627776)) :
    Calls Tryz.prog 123 #[.agg #[.int .i64 B, .int .i64 Z, .int .i64 C, .int .i64 S], .agg #[.int .i64 c, .int .i64 s, .int .i64 b, .int .i64 o, .int .i64 k, .slice A L cap]] w fun e w' => e = .returned (.int .i64 6) ∧ Below w.heap.size w w' := by
  obtain ⟨W, hW⟩ : ∃ W, (w.alloc (.cells #[.int .i64 B, .int .i64 Z, .int .i64 C, .int .i64 S] 73)).alloc (.cells #[.int .i64 c, .int .i64 s, .int .i64 b, .int .i64 o, .int .i64 k, .slice A L cap] 133) = W := ⟨_, rfl⟩
  have BS := hid (show Bx W w.heap.size 73 #[.int .i64 B, .int .i64 Z, .int .i64 C, .int .i64 S] by rw [← hW]; exact (Bx.new w _ _).alloc _)
  have BW := hid (show Bx W (w.heap.size + 1) 133 #[.int .i64 c, .int .i64 s, .int .i64 b, .int .i64 o, .int .i64 k, .slice A L cap] by
    rw [← hW]; have := Bx.new (w.alloc (.cells #[.int .i64 B, .int .i64 Z, .int .i64 C, .int .i64 S] 73)) 133 #[.int .i64 c, .int .i64 s, .int .i64 b, .int .i64 o, .int .i64 k, .slice A L cap]; rw [World.size_alloc] at this; exact this)
  have H0 := hid (show Below w.heap.size w W by rw [← hW]; exact on (below_alloc w _) (below_alloc _ _))
  have HW := hid hW
  clear hW
  have HB := hid (fun w1 => hasBlock_yes ⟨B, Z, C, S⟩ ok w1 k hk)
  have HS := hid (fun w1 => hasSlot_yes ⟨B, Z, C, S⟩ ok w1 c s hs)
  clear hs
  subst hz
  clear hk
  have HN := hid hb
  clear hb
  go_enter Tryz.func123, Tryz.ntmps123
  go_wp2_with fail
  rw [HW.out]
  refine (HB.out _).mono ?_
  rintro e w1 ⟨rfl, hb1⟩
  obtain ⟨p0, p1, p2, p3⟩ := (BS.out.next hb1).all4
  obtain ⟨q0, q1, q2, q3, q4, q5⟩ := (BW.out.next hb1).all6
  have HB1 := hid hb1
  clear hb1
  go_wp2_with fail
  refine (HS.out _).mono ?_
  rintro e w2 ⟨rfl, hb2⟩
  clear p0 p1 p2 p3 q0 q1 q2 q3 q4 q5
  have HB2 := hid (HB1.out.trans (hb2.mono HB1.out.size))
  obtain ⟨p0, p1, p2, p3⟩ := (BS.out.next HB2.out).all4
  obtain ⟨q0, q1, q2, q3, q4, q5⟩ := (BW.out.next HB2.out).all6
  clear hb2
  go_wp2_with (go_at_call 82; refine (within_no _ _ _ _ HN.out).mono ?_; rintro e w1 ⟨rfl, rfl⟩)
  go_ret
  exact ⟨rfl, on H0.out HB2.out⟩
set_option maxRecDepth 100000 in
set_option maxHeartbeats 800000 in
theorem ref_o (c s b o k : Int) (A : Option Addr) (cap L : Nat) (B Z C S : Nat) (ok : (Sh.mk B Z C S).ok) (w : World) (hk : 0 ≤ k ∧ k < B) (hz : L = Z) (hs : (0 ≤ c ∧ c < C) ∧ 0 ≤ s ∧ s < S) (hb : 1 ≤ b ∧ b ≤ 1099511627776) (ho : ¬ (1 ≤ o ∧ o ≤ 1099511627776)) :
    Calls Tryz.prog 123 #[.agg #[.int .i64 B, .int .i64 Z, .int .i64 C, .int .i64 S], .agg #[.int .i64 c, .int .i64 s, .int .i64 b, .int .i64 o, .int .i64 k, .slice A L cap]] w fun e w' => e = .returned (.int .i64 6) ∧ Below w.heap.size w w' := by
  obtain ⟨W, hW⟩ : ∃ W, (w.alloc (.cells #[.int .i64 B, .int .i64 Z, .int .i64 C, .int .i64 S] 73)).alloc (.cells #[.int .i64 c, .int .i64 s, .int .i64 b, .int .i64 o, .int .i64 k, .slice A L cap] 133) = W := ⟨_, rfl⟩
  have BS := hid (show Bx W w.heap.size 73 #[.int .i64 B, .int .i64 Z, .int .i64 C, .int .i64 S] by rw [← hW]; exact (Bx.new w _ _).alloc _)
  have BW := hid (show Bx W (w.heap.size + 1) 133 #[.int .i64 c, .int .i64 s, .int .i64 b, .int .i64 o, .int .i64 k, .slice A L cap] by
    rw [← hW]; have := Bx.new (w.alloc (.cells #[.int .i64 B, .int .i64 Z, .int .i64 C, .int .i64 S] 73)) 133 #[.int .i64 c, .int .i64 s, .int .i64 b, .int .i64 o, .int .i64 k, .slice A L cap]; rw [World.size_alloc] at this; exact this)
  have H0 := hid (show Below w.heap.size w W by rw [← hW]; exact on (below_alloc w _) (below_alloc _ _))
  have HW := hid hW
  clear hW
  have HB := hid (fun w1 => hasBlock_yes ⟨B, Z, C, S⟩ ok w1 k hk)
  have HS := hid (fun w1 => hasSlot_yes ⟨B, Z, C, S⟩ ok w1 c s hs)
  clear hs
  subst hz
  clear hk
  have HY := hid hb
  have HN := hid ho
  clear hb ho
  go_enter Tryz.func123, Tryz.ntmps123
  go_wp2_with fail
  rw [HW.out]
  refine (HB.out _).mono ?_
  rintro e w1 ⟨rfl, hb1⟩
  obtain ⟨p0, p1, p2, p3⟩ := (BS.out.next hb1).all4
  obtain ⟨q0, q1, q2, q3, q4, q5⟩ := (BW.out.next hb1).all6
  have HB1 := hid hb1
  clear hb1
  go_wp2_with fail
  refine (HS.out _).mono ?_
  rintro e w2 ⟨rfl, hb2⟩
  clear p0 p1 p2 p3 q0 q1 q2 q3 q4 q5
  have HB2 := hid (HB1.out.trans (hb2.mono HB1.out.size))
  obtain ⟨p0, p1, p2, p3⟩ := (BS.out.next HB2.out).all4
  obtain ⟨q0, q1, q2, q3, q4, q5⟩ := (BW.out.next HB2.out).all6
  clear hb2
  go_wp2_with (go_at_call 82; first | (with_reducible refine (within_yes _ _ _ _ HY.out).mono ?_; rintro e w1 ⟨rfl, rfl⟩) | (with_reducible refine (within_no _ _ _ _ HN.out).mono ?_; rintro e w1 ⟨rfl, rfl⟩))
  go_ret
  exact ⟨rfl, on H0.out HB2.out⟩
set_option maxRecDepth 100000 in
set_option maxHeartbeats 800000 in
theorem ref_0 (c s b o k : Int) (A : Option Addr) (cap L : Nat) (B Z C S : Nat) (ok : (Sh.mk B Z C S).ok) (w : World) (hk : 0 ≤ k ∧ k < B) (hz : L = Z) (hs : (0 ≤ c ∧ c < C) ∧ 0 ≤ s ∧ s < S) (hb : 1 ≤ b ∧ b ≤ 1099511627776) (ho : 1 ≤ o ∧ o ≤ 1099511627776) :
    Calls Tryz.prog 123 #[.agg #[.int .i64 B, .int .i64 Z, .int .i64 C, .int .i64 S], .agg #[.int .i64 c, .int .i64 s, .int .i64 b, .int .i64 o, .int .i64 k, .slice A L cap]] w fun e w' => e = .returned (.int .i64 0) ∧ Below w.heap.size w w' := by
  obtain ⟨W, hW⟩ : ∃ W, (w.alloc (.cells #[.int .i64 B, .int .i64 Z, .int .i64 C, .int .i64 S] 73)).alloc (.cells #[.int .i64 c, .int .i64 s, .int .i64 b, .int .i64 o, .int .i64 k, .slice A L cap] 133) = W := ⟨_, rfl⟩
  have BS := hid (show Bx W w.heap.size 73 #[.int .i64 B, .int .i64 Z, .int .i64 C, .int .i64 S] by rw [← hW]; exact (Bx.new w _ _).alloc _)
  have BW := hid (show Bx W (w.heap.size + 1) 133 #[.int .i64 c, .int .i64 s, .int .i64 b, .int .i64 o, .int .i64 k, .slice A L cap] by
    rw [← hW]; have := Bx.new (w.alloc (.cells #[.int .i64 B, .int .i64 Z, .int .i64 C, .int .i64 S] 73)) 133 #[.int .i64 c, .int .i64 s, .int .i64 b, .int .i64 o, .int .i64 k, .slice A L cap]; rw [World.size_alloc] at this; exact this)
  have H0 := hid (show Below w.heap.size w W by rw [← hW]; exact on (below_alloc w _) (below_alloc _ _))
  have HW := hid hW
  clear hW
  have HB := hid (fun w1 => hasBlock_yes ⟨B, Z, C, S⟩ ok w1 k hk)
  have HS := hid (fun w1 => hasSlot_yes ⟨B, Z, C, S⟩ ok w1 c s hs)
  clear hs
  subst hz
  clear hk
  have HY := hid hb
  have HN := hid ho
  clear hb ho
  go_enter Tryz.func123, Tryz.ntmps123
  go_wp2_with fail
  rw [HW.out]
  refine (HB.out _).mono ?_
  rintro e w1 ⟨rfl, hb1⟩
  obtain ⟨p0, p1, p2, p3⟩ := (BS.out.next hb1).all4
  obtain ⟨q0, q1, q2, q3, q4, q5⟩ := (BW.out.next hb1).all6
  have HB1 := hid hb1
  clear hb1
  go_wp2_with fail
  refine (HS.out _).mono ?_
  rintro e w2 ⟨rfl, hb2⟩
  clear p0 p1 p2 p3 q0 q1 q2 q3 q4 q5
  have HB2 := hid (HB1.out.trans (hb2.mono HB1.out.size))
  obtain ⟨p0, p1, p2, p3⟩ := (BS.out.next HB2.out).all4
  obtain ⟨q0, q1, q2, q3, q4, q5⟩ := (BW.out.next HB2.out).all6
  clear hb2
  go_wp2_with (go_at_call 82; first | (with_reducible refine (within_yes _ _ _ _ HY.out).mono ?_; rintro e w1 ⟨rfl, rfl⟩) | (with_reducible refine (within_yes _ _ _ _ HN.out).mono ?_; rintro e w1 ⟨rfl, rfl⟩))
  go_ret
  exact ⟨rfl, on H0.out HB2.out⟩
theorem srefuses_any (sh : Sh) (ok : sh.ok) (w : World) (x : Wr) : Calls Tryz.prog 123 #[sh.v, x.v] w fun e w' => e = .returned (.int .i64 (x.wrong sh : Nat)) ∧ Below w.heap.size w w' := by
  have e : x.wrong sh = if ¬ (0 ≤ x.k ∧ x.k < sh.B) then 9 else if x.l.length ≠ sh.Z then 10 else if ¬ (x.slot sh ∧ (1 ≤ x.b ∧ x.b ≤ 1099511627776) ∧ 1 ≤ x.o ∧ x.o ≤ 1099511627776) then 6 else 0 := rfl
  by_cases hk : 0 ≤ x.k ∧ x.k < sh.B
  · rw [if_neg (fun h => h hk)] at e
    by_cases hz : x.l.length = sh.Z
    · rw [if_neg (fun h => h hz)] at e
      by_cases hs : x.slot sh
      · by_cases hb : 1 ≤ x.b ∧ x.b ≤ 1099511627776
        · by_cases ho : 1 ≤ x.o ∧ x.o ≤ 1099511627776
          · rw [if_neg (fun h => h ⟨hs, hb, ho⟩)] at e
            rw [e]
            exact ref_0 x.c x.s x.b x.o x.k x.A x.cap _ sh.B sh.Z sh.C sh.S ok w hk hz hs hb ho
          · rw [if_pos (fun h => ho h.2.2)] at e
            rw [e]
            exact ref_o x.c x.s x.b x.o x.k x.A x.cap _ sh.B sh.Z sh.C sh.S ok w hk hz hs hb ho
        · rw [if_pos (fun h => hb h.2.1)] at e
          rw [e]
          exact ref_b x.c x.s x.b x.o x.k x.A x.cap _ sh.B sh.Z sh.C sh.S ok w hk hz hs hb
      · rw [if_pos (fun h => hs h.1)] at e
        rw [e]
        exact ref_s x.c x.s x.b x.o x.k x.A x.cap _ sh.B sh.Z sh.C sh.S ok w hk hz hs
    · rw [if_pos hz] at e
      rw [e]
      exact ref_10 x.c x.s x.b x.o x.k x.A x.cap _ sh.B sh.Z sh.C sh.S ok w hk hz
  · rw [if_pos hk] at e
    rw [e]
    exact ref_9 x.c x.s x.b x.o x.k x.A x.cap _ sh.B sh.Z sh.C sh.S ok w hk
end Go.Proofs.YtbcejfonkehjgaaGreatDoor
namespace Go.Proofs.YtbcejfonkehjgaaGreatDoor
open Go.RowKit

def ptr (k : Nat) : Value := .pointer (some ⟨k, 0, none⟩)

section
variable {w : World} {b k : Nat} {v : Value} {s : St}
set_option maxHeartbeats 400000 in
theorem has_yes (h : Dk w 77 b k v s) (i : Nat) (hi : i < s.L.length) :
    Calls Tryz.prog 150 #[.pointer (some ⟨k, 0, none⟩), .int .i64 i] w fun e w' => e = .returned (.bool true) ∧ w = w' := by
  obtain ⟨A, c, rfl, _, _⟩ := h.shape
  obtain ⟨c0, _, _, _, _, _⟩ := h.cells
  have h1 : (i : Int) < (s.L.length : Int) := by omega
  clear h
  generalize s.L.length = n at *
  go_enter Tryz.func150, Tryz.ntmps150
  go_wp2
  go_ret
  exact ⟨rfl, rfl⟩
set_option maxHeartbeats 400000 in
theorem has_no (h : Dk w 77 b k v s) (i : Int) (hi : i < 0 ∨ (s.L.length : Int) ≤ i) :
    Calls Tryz.prog 150 #[.pointer (some ⟨k, 0, none⟩), .int .i64 i] w fun e w' => e = .returned (.bool false) ∧ w = w' := by
  obtain ⟨A, c, rfl, _, _⟩ := h.shape
  obtain ⟨c0, _, _, _, _, _⟩ := h.cells
  clear h
  generalize s.L.length = n at *
  by_cases h0 : i < 0
  · clear hi
    have hd : decide ((0 : Int) ≤ i) = false := by simpa using h0
    go_enter Tryz.func150, Tryz.ntmps150
    go_wp2
    go_ret
    exact ⟨rfl, rfl⟩
  · have h1 : (n : Int) ≤ i := by omega
    have h2 : 0 ≤ i := by omega
    have hd : decide (i < (n : Int)) = false := by simpa using h1
    clear hi h0
    go_enter Tryz.func150, Tryz.ntmps150
    go_wp2
    go_ret
    exact ⟨rfl, rfl⟩

set_option maxHeartbeats 400000 in
theorem down_any (h : Dk w 77 b k v s) : Calls Tryz.prog 26 #[.pointer (some ⟨k, 0, none⟩)] w fun e w' => e = .returned (.bool s.d) ∧ w = w' := by
  obtain ⟨_, _, c2, _, _, _⟩ := h.cells
  clear h
  generalize s.d = d at *
  go_enter Tryz.func26, Tryz.ntmps26
  go_wp2
  go_ret
  exact ⟨rfl, rfl⟩
set_option maxHeartbeats 400000 in
theorem len_any (h : Dk w 77 b k v s) : Calls Tryz.prog 53 #[.pointer (some ⟨k, 0, none⟩)] w fun e w' => e = .returned (.int .i64 s.L.length) ∧ w = w' := by
  obtain ⟨A, c, rfl, _, _⟩ := h.shape
  obtain ⟨c0, _, _, _, _, _⟩ := h.cells
  clear h
  generalize s.L.length = n at *
  go_enter Tryz.func53, Tryz.ntmps53
  go_wp2
  go_ret
  exact ⟨rfl, rfl⟩

def St.fuse (s : St) (n : Int) : St := if s.d then s else { s with f := n }
set_option maxHeartbeats 400000 in
theorem fuse_any (h : Dk w 77 b k v s) (n : Int) (hn : -9223372036854775808 ≤ n ∧ n ≤ 9223372036854775807) :
    Calls Tryz.prog 24 #[.pointer (some ⟨k, 0, none⟩), .int .i64 n] w fun e w' => e = .returned (.tuple #[]) ∧ Dk w' 77 b k v (s.fuse n) ∧ Only w w' k v := by
  obtain ⟨_, c1, c2, _, f1, _⟩ := h.cells
  have H := hid (h.setF n hn)
  have H0 := hid h
  clear h hn
  obtain ⟨L, f, d⟩ := s
  cases d
  · have c2' : w.cell? ⟨k, 2, none⟩ = some (.bool false) := c2
    have c1' : w.cell? ⟨k, 1, none⟩ = some (.int .i64 f) := c1
    clear c1 c2
    go_enter Tryz.func24, Tryz.ntmps24
    go_wp2
    exact bodyPost_end (results_none rfl _ _ _) rfl ⟨rfl, H.out⟩
  · have c2' : w.cell? ⟨k, 2, none⟩ = some (.bool true) := c2
    clear c1 c2
    go_enter Tryz.func24, Tryz.ntmps24
    go_wp2
    exact bodyPost_ret (results_none rfl _ _ _) rfl ⟨rfl, H0.out, Only.refl _ _ _⟩
set_option maxHeartbeats 400000 in
theorem up_any (h : Dk w 77 b k v s) :
    Calls Tryz.prog 25 #[.pointer (some ⟨k, 0, none⟩)] w fun e w' => e = .returned (.tuple #[]) ∧ Dk w' 77 b k v { s with f := -1, d := false } ∧ Only w w' k v := by
  obtain ⟨_, c1, c2, _, f1, f2⟩ := h.cells
  have h1 := h.setD false
  have h2 := h1.1.setF (-1) (by omega)
  have H := hid (show Dk _ 77 b k v { s with f := -1, d := false } ∧ Only w _ k v from ⟨h2.1, h1.2.trans h2.2⟩)
  have HN : (⟨k, 2, none⟩ : Addr) ≠ ⟨k, 1, none⟩ := by intro e; injection e with _ e; omega
  have c3 : (w.setCell ⟨k, 2, none⟩ (.bool false)).cell? ⟨k, 1, none⟩ = some (.int .i64 s.f) := by rw [World.cell?_setCell_other _ _ _ _ HN]; exact c1
  have f3 : (w.setCell ⟨k, 2, none⟩ (.bool false)).frozen? ⟨k, 1, none⟩ = false := by rw [World.frozen?_setCell]; exact f1
  clear h h1 h2 HN
  generalize s.d = d at *
  generalize s.f = f at *
  go_enter Tryz.func25, Tryz.ntmps25
  go_wp2
  exact bodyPost_end (results_none rfl _ _ _) rfl ⟨rfl, H.out⟩
def St.burn (s : St) : St := if s.f = 0 then { s with d := true } else if 0 < s.f then { s with f := s.f - 1 } else s
set_option maxHeartbeats 400000 in
theorem burn_any (h : Dk w 77 b k v s) :
    Calls Tryz.prog 151 #[.pointer (some ⟨k, 0, none⟩)] w fun e w' => e = .returned (.tuple #[]) ∧ Dk w' 77 b k v s.burn ∧ Only w w' k v := by
  obtain ⟨_, c1, c2, _, f1, f2⟩ := h.cells
  have hb := h.bnd
  by_cases h0 : s.f = 0
  · have H := hid (show Dk (w.setCell ⟨k, 2, none⟩ (.bool true)) 77 b k v s.burn ∧ Only w (w.setCell ⟨k, 2, none⟩ (.bool true)) k v from by unfold St.burn; rw [if_pos h0]; exact h.setD true)
    rw [h0] at c1
    clear h hb h0
    generalize s.d = d at *
    go_enter Tryz.func151, Tryz.ntmps151
    go_wp2
    exact bodyPost_end (results_none rfl _ _ _) rfl ⟨rfl, H.out⟩
  · by_cases h1 : 0 < s.f
    · have H := hid (show Dk (w.setCell ⟨k, 1, none⟩ (.int .i64 (s.f - 1))) 77 b k v s.burn ∧ Only w (w.setCell ⟨k, 1, none⟩ (.int .i64 (s.f - 1))) k v from by unfold St.burn; rw [if_neg h0, if_pos h1]; exact h.setF _ (by omega))
      clear h
      generalize s.d = d at *
      generalize hf : s.f = f at *
      clear hf
      go_enter Tryz.func151, Tryz.ntmps151
      go_wp2
      exact bodyPost_end (results_none rfl _ _ _) rfl ⟨rfl, H.out⟩
    · have H := hid (show Dk w 77 b k v s.burn ∧ Only w w k v from by unfold St.burn; rw [if_neg h0, if_neg h1]; exact ⟨h, Only.refl _ _ _⟩)
      clear h
      generalize s.d = d at *
      generalize hf : s.f = f at *
      clear hf
      go_enter Tryz.func151, Tryz.ntmps151
      go_wp2
      exact bodyPost_end (results_none rfl _ _ _) rfl ⟨rfl, H.out⟩
end
end Go.Proofs.YtbcejfonkehjgaaGreatDoor
