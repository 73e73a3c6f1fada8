/-
  What is proved: what a plan is in memory; slices.Clone of hints and of parts; karma's Set, Parts. Condition: the plan lies in memory as one, the hints are read as such.
-/
import Derived.Test.YtcibhmbneedghaaKa14
import Derived.Laws.Cover3
namespace Go.Proofs.Ytcibhmbneedghaa
open Go.RowKit

theorem infoHint : (Try.prog.info? 45).map (fun i => (i.zero, i.size, i.bytes)) = some (some (.agg #[.int .i64 0, .int .i64 0, .int .i64 0, .bool false]), 4, 32) := by kernel_rfl
theorem elt_hint : Elt Try.prog 22 45 (.agg #[.int .i64 0, .int .i64 0, .int .i64 0, .bool false]) 4 32 := ⟨Try.underlying22, infoHint, rfl, by decide⟩
/-- a row that is told: new memory -/
def RowQ (us : List Value) (n : Nat) (w : World) (e : Ending) (w' : World) : Prop :=
  ∃ A c, e = .returned (.slice A n c) ∧ Rv w' w'.heap.size A us ∧ Below w.heap.size w w' ∧ ∀ ad, A = some ad → w.heap.size ≤ ad.block
theorem own_row {w w' : World} {b s n : Nat} {e : TypeId} {v : Value} {us : List Value} (h : OwnV w' b e s v n us) (hb : w.heap.size ≤ b) : ∃ A c, v = .slice A n c ∧ Rv w' w'.heap.size A us ∧ ∀ ad, A = some ad → w.heap.size ≤ ad.block := by
  obtain ⟨A, c, e, hr, -, -⟩ := OwnV.read h
  exact ⟨A, c, e, hr, fun ad ea => Nat.le_trans hb (World.ownsRow.lt h ad.block (by rw [e, ea]; rfl)).1⟩
theorem rv_none {w : World} {B : Nat} {us : List Value} (h : Rv w B none us) : us = [] := by
  cases us with
  | nil => rfl
  | cons x r => obtain ⟨_, e, _⟩ := h 0 x rfl; cases e
theorem eql_nil {P : Program} (t e : TypeId) (a : Option Addr) (l c : Nat) (h : P.underlying t = some (.slice e)) (w : World) : (binOp .eql t (.slice a l c) (.slice none 0 0)).run P w = .ok (.bool a.isNone) w := by
  simp only [binOp]
  simp [run_equal_slice_nil w t e a l c h]
set_option maxHeartbeats 400000 in
theorem clone_hints (A : Option Addr) (n c : Nat) (hh : Nat → Hn) (w : World) (hn : n ≤ 1000) (hc : A = none → c = 0) (hr : Rv w w.heap.size A (hvs hh n)) :
    Calls Try.prog 33 #[.slice A n c] w (RowQ (hvs hh n) n w) := by
  cases A with
  | none =>
    have h0 := rv_none hr
    have hl := hvs_length hh n
    rw [h0] at hl
    obtain rfl : n = 0 := by simp at hl; omega
    obtain rfl := hc rfl
    rw [h0]
    clear h0 hl hr hc
    have hnil := fun w => eql_nil (P := Try.prog) 22 _ none 0 0 Try.underlying22 w
    rw [show (none : Option Addr).isNone = true from rfl] at hnil
    go_enter Try.func33, Try.ntmps33
    go_wp2
    go_ret
    exact ⟨none, 0, rfl, Rv.nil _ _ _, Below.refl _ _, fun ad e => by cases e⟩
  | some a =>
    have HR := hid hr
    clear hr hc
    have O := World.ownsRow_lit (size := 4) (e := 45) (base := w.heap.size) w #[] 0 (Nat.le_refl _) (by unfold maxLen; omega) rfl
    have HO := hid O
    clear O
    have hnil := fun w => eql_nil (P := Try.prog) 22 _ (some a) n c Try.underlying22 w
    rw [show (some a).isNone = false from rfl] at hnil
    go_enter Try.func33, Try.ntmps33
    go_wp2_with (at_builtin; refine wpList_appV elt_hint rfl _ _ rfl w.heap.size _ 0 [] HO.out rfl _ _ n c (hvs hh n) rfl (hvs_length hh n) (HR.out.below (below_alloc w _) (Nat.le_refl _)) (hvs_one hh n) (by unfold maxLen; omega) (by omega) (by rw [World.size_alloc]; omega) ?_; intro v' w2 hown2 hg2)
    have hb2 : Below w.heap.size w w2 := (below_alloc w _).trans (hg2.below HO.out (by rw [World.size_alloc]; omega))
    rw [List.nil_append, Nat.zero_add] at hown2
    obtain ⟨A', c', rfl, hr', hge⟩ := own_row (w := w) hown2 (Nat.le_refl _)
    have HF := hid (And.intro hr' (And.intro hb2 hge))
    clear hown2 hg2 hb2 hr' hge
    go_wp2
    go_ret
    exact ⟨A', c', rfl, HF.out.1, HF.out.2.1, HF.out.2.2⟩
set_option maxHeartbeats 400000 in
theorem clone_parts (A : Option Addr) (n c : Nat) (P : Nat → Nat → Int) (w : World) (hn : n ≤ 1000) (hc : A = none → c = 0) (hr : Rv w w.heap.size A (pvs P n)) :
    Calls Try.prog 31 #[.slice A n c] w (RowQ (pvs P n) n w) := by
  cases A with
  | none =>
    have h0 := rv_none hr
    have hl := pvs_length P n
    rw [h0] at hl
    obtain rfl : n = 0 := by simp at hl; omega
    obtain rfl := hc rfl
    rw [h0]
    clear h0 hl hr hc
    have hnil := fun w => eql_nil (P := Try.prog) 40 _ none 0 0 Try.underlying40 w
    rw [show (none : Option Addr).isNone = true from rfl] at hnil
    go_enter Try.func31, Try.ntmps31
    go_wp2
    go_ret
    exact ⟨none, 0, rfl, Rv.nil _ _ _, Below.refl _ _, fun ad e => by cases e⟩
  | some a =>
    have HR := hid hr
    clear hr hc
    have O := World.ownsRow_lit (size := 4) (e := 57) (base := w.heap.size) w #[] 0 (Nat.le_refl _) (by unfold maxLen; omega) rfl
    have HO := hid O
    clear O
    have hnil := fun w => eql_nil (P := Try.prog) 40 _ (some a) n c Try.underlying40 w
    rw [show (some a).isNone = false from rfl] at hnil
    go_enter Try.func31, Try.ntmps31
    go_wp2_with (at_builtin; refine wpList_appV elt_part rfl _ _ rfl w.heap.size _ 0 [] HO.out rfl _ _ n c (pvs P n) rfl (pvs_length P n) (HR.out.below (below_alloc w _) (Nat.le_refl _)) (pvs_one P n) (by unfold maxLen; omega) (by omega) (by rw [World.size_alloc]; omega) ?_; intro v' w2 hown2 hg2)
    have hb2 : Below w.heap.size w w2 := (below_alloc w _).trans (hg2.below HO.out (by rw [World.size_alloc]; omega))
    rw [List.nil_append, Nat.zero_add] at hown2
    obtain ⟨A', c', rfl, hr', hge⟩ := own_row (w := w) hown2 (Nat.le_refl _)
    have HF := hid (And.intro hr' (And.intro hb2 hge))
    clear hown2 hg2 hb2 hr' hge
    go_wp2
    go_ret
    exact ⟨A', c', rfl, HF.out.1, HF.out.2.1, HF.out.2.2⟩
/-- the parts of a plan, as they are told -/
noncomputable def kps (hh : Nat → Hn) (n : Nat) (x : Nat → Nat) (i t : Nat) : Int := (KP hh n x i t : Nat)
/-- a plan's cells -/
def pc (b : Int) (x : Nat → Nat) (A : Option Addr) (n c : Nat) (B : Option Addr) (m d : Nat) : Array Value := #[.int .i64 b, .int .i64 (x 0 : Nat), .int .i64 (x 1 : Nat), .int .i64 (x 2 : Nat), .slice A n c, .slice B m d]
/-- a plan in memory -/
structure Pl (w : World) (g : Nat) (b : Int) (x : Nat → Nat) (hh : Nat → Hn) (n : Nat) (A : Option Addr) (c : Nat) (B : Option Addr) (d : Nat) : Prop where
  bx : Bx w g 63 (pc b x A n c B n d)
  hr : Rv w w.heap.size A (hvs hh n)
  pr : Rv w w.heap.size B (pvs (kps hh n x) n)
  ok : HintsP hh n b
  od : OrdH hh n (ordd hh n)
  nb : B = none → d = 0
section
variable {w w' : World} {g n c d : Nat} {b : Int} {x : Nat → Nat} {hh : Nat → Hn} {A B : Option Addr}
theorem Pl.below (h : Pl w g b x hh n A c B d) (hb : Below w.heap.size w w') : Pl w' g b x hh n A c B d := ⟨h.bx.next hb, h.hr.now hb, h.pr.now hb, h.ok, h.od, h.nb⟩
theorem Pl.c4 (h : Pl w g b x hh n A c B d) : w.cell? ⟨g, 4, none⟩ = some (.slice A n c) := h.bx.cell 4
theorem Pl.c5 (h : Pl w g b x hh n A c B d) : w.cell? ⟨g, 5, none⟩ = some (.slice B n d) := h.bx.cell 5
set_option maxHeartbeats 400000 in
theorem parts_any (h : Pl w g b x hh n A c B d) : Calls Try.prog 19 #[.pointer (some ⟨g, 0, none⟩)] w (RowQ (pvs (kps hh n x) n) n w) := by
  have hn8 := h.ok.1
  have HC := hid (clone_parts B n d (kps hh n x) w (by omega) h.nb h.pr)
  have c5 := h.c5
  clear h
  go_enter Try.func19, Try.ntmps19
  go_wp2_with (go_at_call 31; refine HC.out.mono ?_; rintro e w2 ⟨A', c', rfl, h1, h2, h3⟩; have HF := hid (And.intro h1 (And.intro h2 h3)); clear h1 h2 h3)
  go_ret
  exact ⟨A', c', rfl, HF.out.1, HF.out.2.1, HF.out.2.2⟩
end
theorem parts_nil (w : World) : Calls Try.prog 19 #[.pointer none] w fun e w' => e = .returned (.slice none 0 0) ∧ w = w' := by
  go_enter Try.func19, Try.ntmps19
  go_wp2
  go_ret
  exact ⟨rfl, rfl⟩
theorem set_nil (A : Option Addr) (n c : Nat) (w : World) : Calls Try.prog 22 #[.pointer none, .slice A n c] w fun e w' => e = .returned (.int .i64 7) ∧ w = w' := by
  go_enter Try.func22, Try.ntmps22
  go_wp2
  go_ret
  exact ⟨rfl, rfl⟩
end Go.Proofs.Ytcibhmbneedghaa
