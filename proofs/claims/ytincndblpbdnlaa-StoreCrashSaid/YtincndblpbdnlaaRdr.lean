/-
  What is proved: store's reader: of a sector; its next number, its next text, whether it has ended. Condition: it lies in memory as a reader of no more than 64 bytes.
-/
import Derived.Test.YtincndblpbdnlaaDec
import Derived.Test.YtincndblpbdnlaaDk
import Derived.Deep.RegionWith
namespace Go.Proofs.Ytincndblpbdnlaa
open Go.RowKit

/-- a reader of l in block kr that stands at o -/
def Rq (w : World) (kr : Nat) (l : List Int) (o : Option Nat) : Prop :=
  ∃ (A : Option Addr) (c : Nat) (p x : Int), Bx w kr 111 #[.slice A l.length c, .int .i64 p, .int .i64 x] ∧ Rn w A l ∧ l.length ≤ c ∧ (∀ q, o = some q → x = 0 ∧ p = (q : Nat) ∧ q ≤ l.length) ∧ (o = none → x ≠ 0)
/-- w' is w but for block k, and new ones -/
def O1 (w w' : World) (k : Nat) : Prop := Only w w' k (.slice none 0 0)
theorem Rq.only {w w' : World} {kr k : Nat} {l : List Int} {o : Option Nat} (h : Rq w kr l o) (ho : O1 w w' k) (hk : kr ≠ k) : Rq w' kr l o := by
  obtain ⟨A, c, p, x, hb, r, h1⟩ := h
  refine ⟨A, c, p, x, (ho.block kr hb.lt hk (by simp [Value.ownBlock])).trans hb, fun j y hy => ?_, h1⟩
  obtain ⟨ad, e, hbl, hc⟩ := r j y hy
  exact ⟨ad, e, Nat.lt_of_lt_of_le hbl ho.size, ho.stay _ _ hc⟩
theorem Rq.bnd {w : World} {kr : Nat} {l : List Int} {o : Option Nat} (h : Rq w kr l o) : ∀ q, o = some q → q ≤ l.length := by
  obtain ⟨A, c, p, x, hb, r, hc, h1, h2⟩ := h
  exact fun q hq => (h1 q hq).2.2
theorem Rn.stay1 {w w' : World} {A : Option Addr} {l : List Int} (r : Rn w A l) (st : Stay w w') (hs : w.heap.size ≤ w'.heap.size) : Rn w' A l := fun j y hy => by
  obtain ⟨ad, e, hbl, hc⟩ := r j y hy
  exact ⟨ad, e, Nat.lt_of_lt_of_le hbl hs, st _ _ hc⟩
/-- a reader's two places are other ones -/
theorem rq_set {w : World} {kr : Nat} {V : Value} {p x : Int} (hb : Bx w kr 111 #[V, .int .i64 p, .int .i64 x]) (_: ∀ y, V ≠ .int .u8 y) (p' x' : Int) :
    ∀ w', (w' = (w.setCell ⟨kr, 1, none⟩ (.int .i64 p')).setCell ⟨kr, 2, none⟩ (.int .i64 x') ∨ w' = (w.setCell ⟨kr, 2, none⟩ (.int .i64 x')).setCell ⟨kr, 1, none⟩ (.int .i64 p')) →
    Bx w' kr 111 #[V, .int .i64 p', .int .i64 x'] ∧ O1 w w' kr := by
  rintro w' (rfl | rfl)
  · have b1 := hb.set 1 (.int .i64 p')
    refine ⟨b1.set 2 (.int .i64 x'), Only.trans (Only.setK w kr 1 _ _ fun y e => ?_) (Only.setK _ kr 2 _ _ fun y e => ?_)⟩
    · have := (hb.cell 1).symm.trans e; cases this
    · have := (b1.cell 2).symm.trans e; cases this
  · have b1 := hb.set 2 (.int .i64 x')
    refine ⟨b1.set 1 (.int .i64 p'), Only.trans (Only.setK w kr 2 _ _ fun y e => ?_) (Only.setK _ kr 1 _ _ fun y e => ?_)⟩
    · have := (hb.cell 2).symm.trans e; cases this
    · have := (b1.cell 1).symm.trans e; cases this

theorem O1.draw {w w' : World} {k d : Nat} (h : O1 (w.drewN d) w' k) : O1 w w' k := ⟨h.os, h.tape, h.output, h.size, h.block, h.stay⟩
theorem O1.of {w w' : World} (h : Below w.heap.size w w') (k : Nat) : O1 w w' k := Only.of h k _
theorem rq_step {w : World} {kr : Nat} {A : Option Addr} {c : Nat} {l : List Int} {p x : Int} (_ : Bx w kr 111 #[.slice A l.length c, .int .i64 p, .int .i64 x]) (r : Rn w A l) (hc : l.length ≤ c) (w1 : World) (h1 : O1 w w1 kr) (hb1 : Bx w1 kr 111 #[.slice A l.length c, .int .i64 p, .int .i64 x])
    (p' x' : Int) (w' : World) (o : Option Nat) (e : w' = (w1.setCell ⟨kr, 1, none⟩ (.int .i64 p')).setCell ⟨kr, 2, none⟩ (.int .i64 x') ∨ w' = (w1.setCell ⟨kr, 2, none⟩ (.int .i64 x')).setCell ⟨kr, 1, none⟩ (.int .i64 p'))
    (ho : (∀ q, o = some q → x' = 0 ∧ p' = (q : Nat) ∧ q ≤ l.length) ∧ (o = none → x' ≠ 0)) : Rq w' kr l o ∧ O1 w w' kr ∧ O1 w1 w' kr := by
  obtain ⟨b, o1⟩ := rq_set hb1 (fun y e => by cases e) p' x' w' e
  have o2 := Only.trans h1 o1
  exact ⟨⟨A, c, p', x', b, Rn.stay1 r o2.stay o2.size, hc, ho⟩, o2, o1⟩

section
variable {w : World} {kr : Nat} {l : List Int}
set_option maxRecDepth 100000 in
set_option maxHeartbeats 400000 in
theorem number_none (h : Rq w kr l none) : Calls Try.prog 55 #[.pointer (some ⟨kr, 0, none⟩)] w fun e w' => e = .returned (.int .i64 0) ∧ w' = w := by
  obtain ⟨A, c, p, x, hb, r, hc, _, h2⟩ := h
  have hx := h2 rfl
  have c2 := hb.cell 2
  have hx1 : (x == 0) = false := by simpa using hx
  clear h2 hx hb r
  simp at c2
  go_enter Try.func55, Try.ntmps55
  go_wp2
  go_ret
  exact ⟨rfl, rfl⟩
set_option maxRecDepth 100000 in
set_option maxHeartbeats 400000 in
theorem number_some {p0 : Nat} (hl : Ok1 l) (h : Rq w kr l (some p0)) : Calls Try.prog 55 #[.pointer (some ⟨kr, 0, none⟩)] w fun e w' => e = .returned (.int .i64 (nx l (some p0)).1) ∧ Rq w' kr l (nx l (some p0)).2 ∧ O1 w w' kr := by
  obtain ⟨A, c, p, x, hb, r, hc, h1, h2⟩ := h
  obtain ⟨rfl, rfl, hp⟩ := h1 p0 rfl
  have c0 : w.cell? ⟨kr, 0, none⟩ = _ := hb.cell 0
  have c1 : w.cell? ⟨kr, 1, none⟩ = _ := hb.cell 1
  have c2 : w.cell? ⟨kr, 2, none⟩ = _ := hb.cell 2
  have f1 := hb.free 1
  have f2 := hb.free 2
  simp at c0 c1 c2
  have HS := hid (fun d => rq_step hb r hc (w.drewN d) (O1.of (below_draws (Below.refl w.heap.size w) d) kr) (hb.draws d))
  have HR := hid r
  have HC := hid hc
  clear hb r h1 h2
  have hll := hl.1
  obtain ⟨L, hL⟩ : ∃ L, l.length = L := ⟨_, rfl⟩
  have HL := hid hL
  cases hg : gnum l p0 with
  | none =>
    have HG := hid (fun (w1 : World) (r : Rn w1 A l) => get_none (c := c) (w := w1) (by omega) hp hl.2 r hg L hL)
    simp only [nx, hg]
    clear hg hl
    rw [hL] at c0 HC hp hll
    clear hL
    go_enter Try.func55, Try.ntmps55
    go_wp2
    go_region_with ((go_at_call 66; refine (HG.out _ (by exact HR.out)).mono ?_; rintro e w1 ⟨⟨x, hx, rfl⟩, d, rfl⟩; have HX := hid hx; clear hx))
    all_goals
      go_wp2
      go_ret
      obtain ⟨h1, h2, _⟩ := HS.out _ 0 x _ none (by first | exact .inl rfl | exact .inr rfl) ⟨fun q h => (by cases h), fun _ => HX.out⟩
      exact ⟨rfl, h1, h2⟩
  | some nq =>
    obtain ⟨n, q⟩ := nq
    have HG := hid (fun (w1 : World) (r : Rn w1 A l) => get_some (c := c) (w := w1) (by omega) hp hl.2 r hg L hL)
    obtain ⟨_, hq, _⟩ := gnum_bnd hl.2 hg
    simp only [nx, hg]
    clear hg hl
    have HQ := hid hq
    rw [hL] at c0 HC hp hll
    clear hL hq
    go_enter Try.func55, Try.ntmps55
    go_wp2
    go_region_with ((go_at_call 66; refine (HG.out _ (by exact HR.out)).mono ?_; rintro e w1 ⟨rfl, d, rfl⟩))
    all_goals
      go_wp2
      go_ret
      obtain ⟨h1, h2, _⟩ := HS.out _ q 0 _ (some q) (by first | exact .inl rfl | exact .inr rfl) ⟨fun q h => (by cases h; exact ⟨rfl, rfl, HQ.out⟩), fun h => (by cases h)⟩
      exact ⟨rfl, h1, h2⟩
theorem number_any {o : Option Nat} (hl : Ok1 l) (h : Rq w kr l o) : Calls Try.prog 55 #[.pointer (some ⟨kr, 0, none⟩)] w fun e w' => e = .returned (.int .i64 (nx l o).1) ∧ Rq w' kr l (nx l o).2 ∧ O1 w w' kr := by
  cases o with
  | none => exact (number_none h).mono fun e w' ⟨h1, h2⟩ => by subst h1 h2; exact ⟨rfl, h, Only.refl _ _ _⟩
  | some p => exact number_some hl h

set_option maxRecDepth 100000 in
set_option maxHeartbeats 400000 in
theorem rtext_none (h : Rq w kr l none) : Calls Try.prog 61 #[.pointer (some ⟨kr, 0, none⟩)] w fun e w' => e = .returned (.slice none 0 0) ∧ w' = w := by
  obtain ⟨A, c, p, x, hb, r, hc, _, h2⟩ := h
  have hx := h2 rfl
  have c2 := hb.cell 2
  have hx1 : (x == 0) = false := by simpa using hx
  clear h2 hx hb r
  simp at c2
  go_enter Try.func61, Try.ntmps61
  go_wp2
  go_ret
  exact ⟨rfl, rfl⟩
theorem Own.bs {w : World} {b : Nat} {v : Value} {l : List Int} (h : Own w b v l) : Bs w v l := h.shape
/-- a row of the call's own is kept over what is done to another block -/
theorem Own.o1 {w w' : World} {b k : Nat} {v : Value} {l : List Int} (h : Own w b v l) (ho : O1 w w' k) (hk : v.ownBlock ≠ some k) : Own w' b v l := by
  refine ⟨h.1, ?_⟩
  rcases h.2 with hn | ⟨g, cap, cur, hv, hb', hgg, rest⟩
  · exact .inl hn
  · refine .inr ⟨g, cap, cur, hv, hb', (ho.block g (Array.getElem?_eq_some_iff.1 hgg).1 (fun e => hk (by rw [hv, ← e]; rfl)) (by simp [Value.ownBlock])).trans hgg, rest⟩
theorem Own.lower {w : World} {b b' : Nat} {v : Value} {l : List Int} (h : Own w b v l) (hb : b' ≤ b) : Own w b' v l := by
  refine ⟨h.1, ?_⟩
  rcases h.2 with hn | ⟨g, cap, cur, hv, hb', rest⟩
  · exact .inl hn
  · exact .inr ⟨g, cap, cur, hv, Nat.le_trans hb hb', rest⟩
set_option maxRecDepth 100000 in
set_option maxHeartbeats 400000 in
theorem rtext_some {p0 : Nat} (hl : Ok1 l) (h : Rq w kr l (some p0)) : Calls Try.prog 61 #[.pointer (some ⟨kr, 0, none⟩)] w fun e w' => (∃ u, e = .returned u ∧ Own w' w.heap.size u (tx l (some p0)).1) ∧ Rq w' kr l (tx l (some p0)).2 ∧ O1 w w' kr := by
  obtain ⟨A, c, p, x, hb, r, hc, h1, h2⟩ := h
  obtain ⟨rfl, rfl, hp⟩ := h1 p0 rfl
  have c0 : w.cell? ⟨kr, 0, none⟩ = _ := hb.cell 0
  have c1 : w.cell? ⟨kr, 1, none⟩ = _ := hb.cell 1
  have c2 : w.cell? ⟨kr, 2, none⟩ = _ := hb.cell 2
  have f1 := hb.free 1
  have f2 := hb.free 2
  simp at c0 c1 c2
  have HS := hid (rq_step hb r hc)
  have HB := hid hb
  have HR := hid r
  have HC := hid hc
  clear hb r h1 h2
  have hll := hl.1
  obtain ⟨L, hL⟩ : ∃ L, l.length = L := ⟨_, rfl⟩
  have HL := hid hL
  cases hg : gtext l p0 16 with
  | none =>
    have HG := hid (fun (w1 : World) (r : Rn w1 A l) => gettext_none (c := c) (w := w1) (by omega) hp hl.2 r hg L hL)
    simp only [tx, hg]
    clear hg hl
    rw [hL] at c0 HC hp hll
    clear hL
    go_enter Try.func61, Try.ntmps61
    go_wp2
    go_region_with ((go_at_call 67; refine (HG.out _ (by exact HR.out)).mono ?_; rintro e w1 ⟨⟨x, hx, rfl⟩, d, rfl⟩; have HX := hid hx; clear hx))
    all_goals
      go_wp2
      go_ret
      obtain ⟨h1, h2, _⟩ := HS.out _ (O1.of (below_draws (Below.refl w.heap.size w) (1 + d)) kr) (HB.out.draws _) 0 x _ none (by first | exact .inl rfl | exact .inr rfl) ⟨fun q h => (by cases h), fun _ => HX.out⟩
      exact ⟨⟨_, rfl, own_nil _ _⟩, h1, h2⟩
  | some nq =>
    obtain ⟨n, q⟩ := nq
    have HG := hid (fun (w1 : World) (r : Rn w1 A l) => gettext_some (c := c) (w := w1) (by omega) hp hc hl.2 r hg L hL)
    obtain ⟨hq, _⟩ := gtext_bnd hl.2 hg
    simp only [tx, hg]
    clear hg hl
    have HQ := hid hq
    rw [hL] at c0 HC hp hll
    clear hL hq
    go_enter Try.func61, Try.ntmps61
    go_wp2
    go_region_with ((go_at_call 67; refine (HG.out _ (by exact HR.out)).mono ?_; rintro e w1 ⟨v, rfl, hown, hb1⟩; have HO := hid hown; have B1 := hid (show Below w.heap.size w w1 from ⟨hb1.os, hb1.tape, hb1.output, hb1.size, hb1.block⟩); have g1 : w1.frozen? ⟨kr, 1, none⟩ = false := (HB.out.next B1.out).free 1; have g2 : w1.frozen? ⟨kr, 2, none⟩ = false := (HB.out.next B1.out).free 2; have d1 : w1.cell? ⟨kr, 1, none⟩ = some (.int .i64 p0) := (HB.out.next B1.out).cell 1; have d2 : w1.cell? ⟨kr, 2, none⟩ = some (.int .i64 0) := (HB.out.next B1.out).cell 2; clear hown hb1))
    all_goals
      go_wp2
      go_ret
      obtain ⟨h1, h2, h4⟩ := HS.out w1 (O1.of B1.out kr) (HB.out.next B1.out) q 0 _ (some q) (by first | exact .inl rfl | exact .inr rfl) ⟨fun q h => (by cases h; exact ⟨rfl, rfl, HQ.out⟩), fun h => (by cases h)⟩
      refine ⟨⟨_, rfl, ?_⟩, h1, h2⟩
      exact HO.out.o1 h4 (fun e => by have : w.heap.size ≤ kr := (World.ownsRow.lt HO.out kr e).1; have := HB.out.lt; omega)
theorem rtext_any {o : Option Nat} (hl : Ok1 l) (h : Rq w kr l o) : Calls Try.prog 61 #[.pointer (some ⟨kr, 0, none⟩)] w fun e w' => (∃ u, e = .returned u ∧ Own w' w.heap.size u (tx l o).1) ∧ Rq w' kr l (tx l o).2 ∧ O1 w w' kr := by
  cases o with
  | none => exact (rtext_none h).mono fun e w' ⟨h1, h2⟩ => by subst h1 h2; exact ⟨⟨_, rfl, own_nil _ _⟩, h, Only.refl _ _ _⟩
  | some p => exact rtext_some hl h

end
end Go.Proofs.Ytincndblpbdnlaa
