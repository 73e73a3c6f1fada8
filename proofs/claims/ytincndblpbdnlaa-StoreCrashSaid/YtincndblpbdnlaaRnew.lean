/-
  What is proved: the reference's New makes a store at its beginning. Condition: a shape that may be.
-/
import Derived.Test.YtincndblpbdnlaaRwri
import Derived.Test.YtincndblpbdnlaaBlk
import Derived.BigRegion
import Derived.StillTailTactics
import Derived.Deep.QuietTactic
import Derived.BigQuiet
namespace Go.Proofs.Ytincndblpbdnlaa
open Go.RowKit

theorem cel_succ (n : Nat) (f : Nat → Nat) : cel (n + 1) f = cel n f ++ [.int .i64 (f n : Nat)] := by
  unfold cel
  rw [List.range_succ, List.map_append]
  rfl
/-- a store's memory while it is made: rows so long so far; Q says what texts are -/
structure Pf (Q : World → Nat → Value → Prop) (w : World) (b kx : Nat) (r0 r1 r2 r3 r4 : Value) (n0 n1 n2 n3 n4 : Nat) (sh : Sh) (X : RS) : Prop where
  bx : Bx w kx 70 #[.int .i64 sh.B, .int .i64 sh.Z, .int .i64 sh.C, .int .i64 sh.S, r0, r1, r2, r3, r4]
  low : b ≤ kx
  T : ∃ us, OwnV w b 36 1 r1 n1 us ∧ ∀ i, i < n1 → ∃ u, us[i]? = some u ∧ Q w i u
  V : OwnV w b 3 1 r0 n0 (cel n0 X.V)
  P : OwnV w b 3 1 r2 n2 (cel n2 X.P)
  O : OwnV w b 3 1 r3 n3 (cel n3 X.O)
  K : OwnV w b 3 1 r4 n4 (cel n4 X.K)
  a02 : Apt r0 r2
  a03 : Apt r0 r3
  a04 : Apt r0 r4
  a23 : Apt r2 r3
  a24 : Apt r2 r4
  a34 : Apt r3 r4
/-- what texts are stays behind new blocks, and where a cell is another one that is no byte -/
def Keeps (Q : World → Nat → Value → Prop) : Prop := (∀ w w' i u, Below w.heap.size w w' → Q w i u → Q w' i u) ∧ (∀ w g t cs j i (u v : Value), Bx w g t cs → t ≠ 5 → (∀ x, .int .u8 x ∉ cs.toList) → Q w i u → Q (w.setCell ⟨g, j, none⟩ v) i u)
section
variable {Q : World → Nat → Value → Prop} {w w2 w' : World} {b kx : Nat} {r0 r1 r2 r3 r4 v2 : Value} {n0 n1 n2 n3 n4 n' : Nat} {sh : Sh} {X : RS}
theorem Pf.nk (h : Pf Q w b kx r0 r1 r2 r3 r4 n0 n1 n2 n3 n4 sh X) : r0.ownBlock ≠ some kx ∧ r1.ownBlock ≠ some kx ∧ r2.ownBlock ≠ some kx ∧ r3.ownBlock ≠ some kx ∧ r4.ownBlock ≠ some kx := by
  obtain ⟨us, h1, _⟩ := h.T
  exact ⟨fun e => absurd (h.V.typ e h.bx) (by decide), fun e => absurd (h1.typ e h.bx) (by decide), fun e => absurd (h.P.typ e h.bx) (by decide), fun e => absurd (h.O.typ e h.bx) (by decide), fun e => absurd (h.K.typ e h.bx) (by decide)⟩
theorem no_u8 {w : World} {b n : Nat} {v : Value} {e : TypeId} {us : List Value} (h : OwnV w b e 1 v n us) (he : e ≠ 5) : ∀ g, v.ownBlock = some g → ∀ cs z, w.heap[g]? ≠ some (.cells cs 5 z) := fun g hg cs z h2 => by
  rcases h.2 with ⟨rfl, _⟩ | ⟨g', cap, cur, rfl, _, hgg, _⟩
  · cases hg
  · injection hg with hg
    have hg' : g' = g := hg
    subst hg'
    rw [h2] at hgg
    injection hgg with hgg
    injection hgg with _ hgg
    exact he hgg.symm
theorem Pf.below (h : Pf Q w b kx r0 r1 r2 r3 r4 n0 n1 n2 n3 n4 sh X) (hk : Keeps Q) (hb : Below w.heap.size w w') : Pf Q w' b kx r0 r1 r2 r3 r4 n0 n1 n2 n3 n4 sh X where
  bx := h.bx.next hb
  low := h.low
  T := by
    obtain ⟨us, h1, h2⟩ := h.T
    exact ⟨us, h1.below hb, fun i hi => by obtain ⟨u, e1, e2⟩ := h2 i hi; exact ⟨u, e1, hk.1 w w' i u hb e2⟩⟩
  V := h.V.below hb
  P := h.P.below hb
  O := h.O.below hb
  K := h.K.below hb
  a02 := h.a02
  a03 := h.a03
  a04 := h.a04
  a23 := h.a23
  a24 := h.a24
  a34 := h.a34
theorem apt_grown {v v2 u : Value} {b1 s1 m : Nat} {e1 : TypeId} {us : List Value} (h : Apt v u) (hg : GrownV w w2 v v2) (hu : OwnV w b1 e1 s1 u m us) : Apt v2 u := fun g h1 h2 => by
  rcases hg.2 with e | e
  · exact h g (e ▸ h1) h2
  · rw [e] at h1
    injection h1 with h1
    have := (ownV_lt hu h2).2
    omega
theorem own_far {v v2 u : Value} {b1 s1 m kx j : Nat} {e1 : TypeId} {us : List Value} (h : Apt v u) (hg : GrownV w w2 v v2) (hu : OwnV w b1 e1 s1 u m us) (hne : u.ownBlock ≠ some kx) (x : Value) : OwnV (w2.setCell ⟨kx, j, none⟩ x) b1 e1 s1 u m us :=
  Dk.setF.ownsRow_setCell_other' (ownV_kept hu fun g hgu => hg.1.block g (ownV_lt hu hgu).2 fun e => h g e.symm hgu) hne x
theorem ne_kx {v v2 : Value} (hg : GrownV w w2 v v2) (hk : kx < w.heap.size) (hne : v.ownBlock ≠ some kx) : v2.ownBlock ≠ some kx := by
  rcases hg.2 with e | e
  · rw [e]; exact hne
  · rw [e]
    intro e2
    injection e2 with e2
    omega
/-- the struct's cells hold no byte -/
theorem Pf.nb (h : Pf Q w b kx r0 r1 r2 r3 r4 n0 n1 n2 n3 n4 sh X) : ∀ x, Value.int .u8 x ∉ (#[.int .i64 sh.B, .int .i64 sh.Z, .int .i64 sh.C, .int .i64 sh.S, r0, r1, r2, r3, r4] : Array Value).toList := fun x hx => by
  obtain ⟨us, h1, _⟩ := h.T
  obtain ⟨_, _, rfl, _⟩ := h.V.read
  obtain ⟨_, _, rfl, _⟩ := h1.read
  obtain ⟨_, _, rfl, _⟩ := h.P.read
  obtain ⟨_, _, rfl, _⟩ := h.O.read
  obtain ⟨_, _, rfl, _⟩ := h.K.read
  simp at hx
theorem apt_nil (v : Value) : Apt (.slice none 0 0) v := fun g e => by cases e
theorem Pf.moreV (h : Pf Q w b kx r0 r1 r2 r3 r4 n0 n1 n2 n3 n4 sh X) (hk : Keeps Q) (hb : b ≤ w.heap.size) (ho : OwnV w2 b 3 1 v2 n' (cel n' X.V)) (hg : GrownV w w2 r0 v2) (hq : ∀ i u, Q w i u → Q w2 i u) :
    Bx w2 kx 70 #[.int .i64 sh.B, .int .i64 sh.Z, .int .i64 sh.C, .int .i64 sh.S, r0, r1, r2, r3, r4] ∧ Pf Q (w2.setCell ⟨kx, 4, none⟩ v2) b kx v2 r1 r2 r3 r4 n' n1 n2 n3 n4 sh X ∧ Below b w (w2.setCell ⟨kx, 4, none⟩ v2) := by
  obtain ⟨us, t1, t2⟩ := h.T
  obtain ⟨hn0, hn1, hn2, hn3, hn4⟩ := h.nk
  have hlt := h.bx.lt
  have BB : Bx w2 kx 70 #[.int .i64 sh.B, .int .i64 sh.Z, .int .i64 sh.C, .int .i64 sh.S, r0, r1, r2, r3, r4] := h.bx.apart hg.1 fun e => hn0 e.symm
  have hv2 : v2.ownBlock ≠ some kx := ne_kx hg hlt hn0
  refine ⟨BB, { bx := BB.set 4 v2, low := h.low, T := ?_, V := Dk.setF.ownsRow_setCell_other' ho hv2 v2, P := own_far h.a02 hg h.P hn2 _, O := own_far h.a03 hg h.O hn3 _, K := own_far h.a04 hg h.K hn4 _, a02 := apt_grown h.a02 hg h.P, a03 := apt_grown h.a03 hg h.O, a04 := apt_grown h.a04 hg h.K, a23 := h.a23, a24 := h.a24, a34 := h.a34 }, (hg.below h.V hb).setCell h.low v2⟩
  refine ⟨us, own_far (apt_typ h.V t1 (by decide)) hg t1 hn1 _, fun i hi => ?_⟩
  obtain ⟨u, e1, e2⟩ := t2 i hi
  exact ⟨u, e1, hk.2 w2 kx _ _ _ i u v2 BB (by decide) h.nb (hq i u e2)⟩
theorem Pf.moreT (h : Pf Q w b kx r0 r1 r2 r3 r4 n0 n1 n2 n3 n4 sh X) (hk : Keeps Q) (hb : b ≤ w.heap.size) (ho : ∃ us, OwnV w2 b 36 1 v2 n' us ∧ ∀ i, i < n' → ∃ u, us[i]? = some u ∧ Q w2 i u) (hg : GrownV w w2 r1 v2) :
    Bx w2 kx 70 #[.int .i64 sh.B, .int .i64 sh.Z, .int .i64 sh.C, .int .i64 sh.S, r0, r1, r2, r3, r4] ∧ Pf Q (w2.setCell ⟨kx, 5, none⟩ v2) b kx r0 v2 r2 r3 r4 n0 n' n2 n3 n4 sh X ∧ Below b w (w2.setCell ⟨kx, 5, none⟩ v2) := by
  obtain ⟨us, t1, t2⟩ := h.T
  obtain ⟨hn0, hn1, hn2, hn3, hn4⟩ := h.nk
  have hlt := h.bx.lt
  have BB : Bx w2 kx 70 #[.int .i64 sh.B, .int .i64 sh.Z, .int .i64 sh.C, .int .i64 sh.S, r0, r1, r2, r3, r4] := h.bx.apart hg.1 fun e => hn1 e.symm
  have hv2 : v2.ownBlock ≠ some kx := ne_kx hg hlt hn1
  refine ⟨BB, { bx := BB.set 5 v2, low := h.low, T := ?_, V := own_far (apt_typ t1 h.V (by decide)) hg h.V hn0 _, P := own_far (apt_typ t1 h.P (by decide)) hg h.P hn2 _, O := own_far (apt_typ t1 h.O (by decide)) hg h.O hn3 _, K := own_far (apt_typ t1 h.K (by decide)) hg h.K hn4 _, a02 := h.a02, a03 := h.a03, a04 := h.a04, a23 := h.a23, a24 := h.a24, a34 := h.a34 }, (hg.below t1 hb).setCell h.low v2⟩
  obtain ⟨vs, s1, s2⟩ := ho
  refine ⟨vs, Dk.setF.ownsRow_setCell_other' s1 hv2 v2, fun i hi => ?_⟩
  obtain ⟨u, e1, e2⟩ := s2 i hi
  exact ⟨u, e1, hk.2 w2 kx _ _ _ i u v2 BB (by decide) h.nb e2⟩
theorem Pf.moreP (h : Pf Q w b kx r0 r1 r2 r3 r4 n0 n1 n2 n3 n4 sh X) (hk : Keeps Q) (hb : b ≤ w.heap.size) (ho : OwnV w2 b 3 1 v2 n' (cel n' X.P)) (hg : GrownV w w2 r2 v2) (hq : ∀ i u, Q w i u → Q w2 i u) :
    Bx w2 kx 70 #[.int .i64 sh.B, .int .i64 sh.Z, .int .i64 sh.C, .int .i64 sh.S, r0, r1, r2, r3, r4] ∧ Pf Q (w2.setCell ⟨kx, 6, none⟩ v2) b kx r0 r1 v2 r3 r4 n0 n1 n' n3 n4 sh X ∧ Below b w (w2.setCell ⟨kx, 6, none⟩ v2) := by
  obtain ⟨us, t1, t2⟩ := h.T
  obtain ⟨hn0, hn1, hn2, hn3, hn4⟩ := h.nk
  have hlt := h.bx.lt
  have BB : Bx w2 kx 70 #[.int .i64 sh.B, .int .i64 sh.Z, .int .i64 sh.C, .int .i64 sh.S, r0, r1, r2, r3, r4] := h.bx.apart hg.1 fun e => hn2 e.symm
  have hv2 : v2.ownBlock ≠ some kx := ne_kx hg hlt hn2
  refine ⟨BB, { bx := BB.set 6 v2, low := h.low, T := ?_, V := own_far h.a02.symm hg h.V hn0 _, P := Dk.setF.ownsRow_setCell_other' ho hv2 v2, O := own_far h.a23 hg h.O hn3 _, K := own_far h.a24 hg h.K hn4 _, a02 := (apt_grown h.a02.symm hg h.V).symm, a03 := h.a03, a04 := h.a04, a23 := apt_grown h.a23 hg h.O, a24 := apt_grown h.a24 hg h.K, a34 := h.a34 }, (hg.below h.P hb).setCell h.low v2⟩
  refine ⟨us, own_far (apt_typ h.P t1 (by decide)) hg t1 hn1 _, fun i hi => ?_⟩
  obtain ⟨u, e1, e2⟩ := t2 i hi
  exact ⟨u, e1, hk.2 w2 kx _ _ _ i u v2 BB (by decide) h.nb (hq i u e2)⟩
theorem Pf.moreO (h : Pf Q w b kx r0 r1 r2 r3 r4 n0 n1 n2 n3 n4 sh X) (hk : Keeps Q) (hb : b ≤ w.heap.size) (ho : OwnV w2 b 3 1 v2 n' (cel n' X.O)) (hg : GrownV w w2 r3 v2) (hq : ∀ i u, Q w i u → Q w2 i u) :
    Bx w2 kx 70 #[.int .i64 sh.B, .int .i64 sh.Z, .int .i64 sh.C, .int .i64 sh.S, r0, r1, r2, r3, r4] ∧ Pf Q (w2.setCell ⟨kx, 7, none⟩ v2) b kx r0 r1 r2 v2 r4 n0 n1 n2 n' n4 sh X ∧ Below b w (w2.setCell ⟨kx, 7, none⟩ v2) := by
  obtain ⟨us, t1, t2⟩ := h.T
  obtain ⟨hn0, hn1, hn2, hn3, hn4⟩ := h.nk
  have hlt := h.bx.lt
  have BB : Bx w2 kx 70 #[.int .i64 sh.B, .int .i64 sh.Z, .int .i64 sh.C, .int .i64 sh.S, r0, r1, r2, r3, r4] := h.bx.apart hg.1 fun e => hn3 e.symm
  have hv2 : v2.ownBlock ≠ some kx := ne_kx hg hlt hn3
  refine ⟨BB, { bx := BB.set 7 v2, low := h.low, T := ?_, V := own_far h.a03.symm hg h.V hn0 _, P := own_far h.a23.symm hg h.P hn2 _, O := Dk.setF.ownsRow_setCell_other' ho hv2 v2, K := own_far h.a34 hg h.K hn4 _, a02 := h.a02, a03 := (apt_grown h.a03.symm hg h.V).symm, a04 := h.a04, a23 := (apt_grown h.a23.symm hg h.P).symm, a24 := h.a24, a34 := apt_grown h.a34 hg h.K }, (hg.below h.O hb).setCell h.low v2⟩
  refine ⟨us, own_far (apt_typ h.O t1 (by decide)) hg t1 hn1 _, fun i hi => ?_⟩
  obtain ⟨u, e1, e2⟩ := t2 i hi
  exact ⟨u, e1, hk.2 w2 kx _ _ _ i u v2 BB (by decide) h.nb (hq i u e2)⟩
theorem Pf.moreK (h : Pf Q w b kx r0 r1 r2 r3 r4 n0 n1 n2 n3 n4 sh X) (hk : Keeps Q) (hb : b ≤ w.heap.size) (ho : OwnV w2 b 3 1 v2 n' (cel n' X.K)) (hg : GrownV w w2 r4 v2) (hq : ∀ i u, Q w i u → Q w2 i u) :
    Bx w2 kx 70 #[.int .i64 sh.B, .int .i64 sh.Z, .int .i64 sh.C, .int .i64 sh.S, r0, r1, r2, r3, r4] ∧ Pf Q (w2.setCell ⟨kx, 8, none⟩ v2) b kx r0 r1 r2 r3 v2 n0 n1 n2 n3 n' sh X ∧ Below b w (w2.setCell ⟨kx, 8, none⟩ v2) := by
  obtain ⟨us, t1, t2⟩ := h.T
  obtain ⟨hn0, hn1, hn2, hn3, hn4⟩ := h.nk
  have hlt := h.bx.lt
  have BB : Bx w2 kx 70 #[.int .i64 sh.B, .int .i64 sh.Z, .int .i64 sh.C, .int .i64 sh.S, r0, r1, r2, r3, r4] := h.bx.apart hg.1 fun e => hn4 e.symm
  have hv2 : v2.ownBlock ≠ some kx := ne_kx hg hlt hn4
  refine ⟨BB, { bx := BB.set 8 v2, low := h.low, T := ?_, V := own_far h.a04.symm hg h.V hn0 _, P := own_far h.a24.symm hg h.P hn2 _, O := own_far h.a34.symm hg h.O hn3 _, K := Dk.setF.ownsRow_setCell_other' ho hv2 v2, a02 := h.a02, a03 := h.a03, a04 := (apt_grown h.a04.symm hg h.V).symm, a23 := h.a23, a24 := (apt_grown h.a24.symm hg h.P).symm, a34 := (apt_grown h.a34.symm hg h.O).symm }, (hg.below h.K hb).setCell h.low v2⟩
  refine ⟨us, own_far (apt_typ h.K t1 (by decide)) hg t1 hn1 _, fun i hi => ?_⟩
  obtain ⟨u, e1, e2⟩ := t2 i hi
  exact ⟨u, e1, hk.2 w2 kx _ _ _ i u v2 BB (by decide) h.nb (hq i u e2)⟩
end
/-- a text is a block of noughts -/
def Noughts (Z : Nat) (w : World) (_ : Nat) (u : Value) : Prop := ∃ g, u = .slice (some ⟨g, 0, none⟩) Z Z ∧ Bx w g 5 (Array.replicate Z (.int .u8 0))
theorem noughts_grown {Z : Nat} {w w2 : World} {v v2 : Value} {b n : Nat} {e : TypeId} {us : List Value} (hg : GrownV w w2 v v2) (ho : OwnV w b e 1 v n us) (he : e ≠ 5) : ∀ i u, Noughts Z w i u → Noughts Z w2 i u := by
  rintro i u ⟨g, rfl, hx⟩
  exact ⟨g, rfl, (hg.1.block g hx.lt fun e => no_u8 ho he g e.symm _ _ hx).trans hx⟩
theorem keeps_noughts (Z : Nat) : Keeps (Noughts Z) := by
  refine ⟨?_, ?_⟩
  · rintro w w' i u hb ⟨g, rfl, hx⟩
    exact ⟨g, rfl, hx.next hb⟩
  · rintro w g' t cs j i u v hb ht - ⟨g, rfl, hx⟩
    refine ⟨g, rfl, hx.far _ _ ?_⟩
    intro e
    have e' : g' = g := e
    subst e'
    unfold Bx at hb hx
    rw [hb] at hx
    injection hx with hx
    injection hx with _ hx
    exact ht hx
/-- a text of noughts, and what holds it, made behind w -/
theorem new_text {Z : Nat} {w : World} {b kx : Nat} {r0 r1 r2 r3 r4 : Value} {n0 n1 n2 n3 n4 : Nat} {sh : Sh} {X : RS} (h : Pf (Noughts Z) w b kx r0 r1 r2 r3 r4 n0 n1 n2 n3 n4 sh X) :
    Pf (Noughts Z) ((w.alloc (.cells (Array.replicate Z (Value.int .u8 0)) 5)).alloc (.cells #[.slice (some ⟨w.heap.size, 0, none⟩) Z Z] 36)).drew b kx r0 r1 r2 r3 r4 n0 n1 n2 n3 n4 sh X ∧ Below w.heap.size w ((w.alloc (.cells (Array.replicate Z (Value.int .u8 0)) 5)).alloc (.cells #[.slice (some ⟨w.heap.size, 0, none⟩) Z Z] 36)).drew ∧
    Noughts Z ((w.alloc (.cells (Array.replicate Z (Value.int .u8 0)) 5)).alloc (.cells #[.slice (some ⟨w.heap.size, 0, none⟩) Z Z] 36)).drew n1 (.slice (some ⟨w.heap.size, 0, none⟩) Z Z) ∧
    Rv ((w.alloc (.cells (Array.replicate Z (Value.int .u8 0)) 5)).alloc (.cells #[.slice (some ⟨w.heap.size, 0, none⟩) Z Z] 36)).drew (w.heap.size + 1 + 1) (some ⟨w.heap.size + 1, 0, none⟩) [.slice (some ⟨w.heap.size, 0, none⟩) Z Z] := by
  have hb1 := below_alloc w (.cells (Array.replicate Z (Value.int .u8 0)) 5)
  have hs1 : (w.alloc (.cells (Array.replicate Z (Value.int .u8 0)) 5)).heap.size = w.heap.size + 1 := by simp
  have hb2 := below_alloc (w.alloc (.cells (Array.replicate Z (Value.int .u8 0)) 5)) (.cells #[.slice (some ⟨w.heap.size, 0, none⟩) Z Z] 36)
  have hb : Below w.heap.size w ((w.alloc (.cells (Array.replicate Z (Value.int .u8 0)) 5)).alloc (.cells #[.slice (some ⟨w.heap.size, 0, none⟩) Z Z] 36)).drew := below_draws (hb1.trans (hb2.mono (by omega))) 1
  refine ⟨h.below (keeps_noughts Z) hb, hb, ⟨w.heap.size, rfl, ?_⟩, ?_⟩
  · exact (Bx.next (Bx.new w _ _) hb2).draws 1
  · have := rv_new (w.alloc (.cells (Array.replicate Z (Value.int .u8 0)) 5)) 36 #[.slice (some ⟨w.heap.size, 0, none⟩) Z Z]
    rw [hs1] at this
    exact this
theorem more_text {Z : Nat} {w w2 : World} {b kx : Nat} {r0 r1 r2 r3 r4 v2 u : Value} {n0 n1 n2 n3 n4 : Nat} {sh : Sh} {X : RS} {us : List Value} (h : Pf (Noughts Z) w b kx r0 r1 r2 r3 r4 n0 n1 n2 n3 n4 sh X) (hb : b ≤ w.heap.size) (t1 : OwnV w b 36 1 r1 n1 us) (t2 : ∀ i, i < n1 → ∃ u, us[i]? = some u ∧ Noughts Z w i u) (hu : Noughts Z w n1 u) (ho : OwnV w2 b 36 1 v2 (n1 + 1) (us ++ [u])) (hg : GrownV w w2 r1 v2) :
    Bx w2 kx 70 #[.int .i64 sh.B, .int .i64 sh.Z, .int .i64 sh.C, .int .i64 sh.S, r0, r1, r2, r3, r4] ∧ Pf (Noughts Z) (w2.setCell ⟨kx, 5, none⟩ v2) b kx r0 v2 r2 r3 r4 n0 (n1 + 1) n2 n3 n4 sh X ∧ Below b w (w2.setCell ⟨kx, 5, none⟩ v2) := by
  have key : ∀ i u, Noughts Z w i u → Noughts Z w2 i u := noughts_grown hg t1 (by decide)
  have hl : us.length = n1 := by rw [t1.1, Nat.mul_one]
  refine h.moreT (keeps_noughts Z) hb ⟨_, ho, fun i hi => ?_⟩ hg
  by_cases e : i < n1
  · obtain ⟨u', e1, e2⟩ := t2 i e
    exact ⟨u', by rw [List.getElem?_append_left (by omega)]; exact e1, key _ _ e2⟩
  · obtain rfl : i = n1 := by omega
    exact ⟨u, by rw [List.getElem?_append_right (by omega), hl, Nat.sub_self]; rfl, key _ _ hu⟩
/-- all rows are as long as they are to be -/
theorem Pf.rf {w : World} {b kx : Nat} {r0 r1 r2 r3 r4 : Value} {sh : Sh} (h : Pf (Noughts sh.Z) w b kx r0 r1 r2 r3 r4 sh.B sh.B (sh.S * sh.C) (sh.S * sh.C) (sh.S * sh.C) sh (RS.zero sh.Z)) (hz : sh.Z ≤ 16) : Rf w b kx r0 r1 r2 r3 r4 sh (RS.zero sh.Z) where
  bx := h.bx
  low := h.low
  T := by
    obtain ⟨us, h1, h2⟩ := h.T
    refine ⟨us, h1, fun i hi => ?_⟩
    obtain ⟨u, e1, g, rfl, hx⟩ := h2 i hi
    exact ⟨_, e1, (own_rep (B0 := 0) hx hz (Nat.zero_le _)).bs⟩
  V := h.V
  P := h.P
  O := h.O
  K := h.K
  a02 := h.a02
  a03 := h.a03
  a04 := h.a04
  a23 := h.a23
  a24 := h.a24
  a34 := h.a34

def NewP (sh : Sh) (w : World) (e : Ending) (w' : World) : Prop := ∃ r0 r1 r2 r3 r4, e = .returned (.pointer (some ⟨w.heap.size, 0, none⟩)) ∧ Rf w' w.heap.size w.heap.size r0 r1 r2 r3 r4 sh (RS.zero sh.Z) ∧ Below w.heap.size w w'
set_option maxRecDepth 100000 in
set_option maxHeartbeats 1600000 in
theorem refnew_any (sh : Sh) (ok : sh.ok) (w : World) : Calls Try.prog 13 #[.int .i64 sh.B, .int .i64 sh.Z, .int .i64 sh.C, .int .i64 sh.S] w (NewP sh w) := by
  have sB := ok.b.2
  have sZ := ok.z.2
  have sC := ok.c.2
  have sS := ok.s.2
  obtain ⟨N, hN⟩ : ∃ N, sh.S * sh.C = N := ⟨_, rfl⟩
  have sN : N ≤ 16 := by rw [← hN]; exact Nat.le_trans (Nat.mul_le_mul sS sC) (by decide)
  have hmul : wrap64 (((sh.C : Nat) : Int) * ((sh.S : Nat) : Int)) = ((N : Nat) : Int) := by
    rw [← Int.natCast_mul, Nat.mul_comm, hN]
    unfold wrap64
    omega
  have HMUL := hid hmul
  have M0 : Pf (Noughts sh.Z) (w.alloc (.cells #[.int .i64 sh.B, .int .i64 sh.Z, .int .i64 sh.C, .int .i64 sh.S, .slice none 0 0, .slice none 0 0, .slice none 0 0, .slice none 0 0, .slice none 0 0] 70)) w.heap.size w.heap.size (.slice none 0 0) (.slice none 0 0) (.slice none 0 0) (.slice none 0 0) (.slice none 0 0) 0 0 0 0 0 sh (RS.zero sh.Z) :=
    { bx := Bx.new w _ _, low := Nat.le_refl _, T := ⟨[], ownV_nil _ _ _ _, fun i hi => absurd hi (Nat.not_lt_zero _)⟩, V := ownV_nil _ _ _ _, P := ownV_nil _ _ _ _, O := ownV_nil _ _ _ _, K := ownV_nil _ _ _ _, a02 := apt_nil _, a03 := apt_nil _, a04 := apt_nil _, a23 := apt_nil _, a24 := apt_nil _, a34 := apt_nil _ }
  have HM0 := hid M0
  have HB0 := hid (below_alloc w (.cells #[.int .i64 sh.B, .int .i64 sh.Z, .int .i64 sh.C, .int .i64 sh.S, .slice none 0 0, .slice none 0 0, .slice none 0 0, .slice none 0 0, .slice none 0 0] 70))
  clear M0 hmul
  have HN := hid hN
  clear hN
  go_enter Try.func13, Try.ntmps13
  go_wp2_with fail
  obtain ⟨MK, hMK⟩ : ∃ m, Instr.makeSlice 36 (.int .i64 sh.Z) (.int .i64 sh.Z) = m := ⟨_, rfl⟩
  have hrun : ∀ w', MK.run Try.prog w' = .ok (.slice (some ⟨w'.heap.size, 0, none⟩) sh.Z sh.Z) (w'.alloc (.cells (List.replicate sh.Z (Value.int .u8 0)).toArray 5)) := fun w' => by rw [← hMK]; exact run_mk w' sh.Z sZ
  go_loopw [10] (fun t wr => ∃ p : Nat, p ≤ sh.B ∧ t = .int .i64 p ∧ (∃ r0 r1, Pf (Noughts sh.Z) wr w.heap.size w.heap.size r0 r1 (.slice none 0 0) (.slice none 0 0) (.slice none 0 0) p p 0 0 0 sh (RS.zero sh.Z)) ∧ Below w.heap.size w wr) (fun t _ => sh.B - (intOf t).toNat)
  case atStart => exact ⟨0, Nat.zero_le _, rfl, ⟨_, _, HM0.out⟩, HB0.out⟩
  case round =>
    obtain ⟨p, hp, rfl, ⟨r0, r1, hm⟩, hbl⟩ := hrel
    have HP := hid hm
    have HBL := hid hbl
    clear hm hbl
    by_cases hlt : p < sh.B
    · have q0 : decide ((p : Int) < ((sh.B : Nat) : Int)) = true := by simp; omega
      have HLT := hid hlt
      clear hlt hp
      obtain ⟨A0, c0, rfl, -, -, -⟩ := HP.out.V.read
      have c4 : wr.cell? ⟨w.heap.size, 4, none⟩ = some (.slice A0 p c0) := HP.out.bx.cell 4
      have HP1 := hid (HP.out.below (keeps_noughts _) (below_alloc wr (.cells #[.int .i64 0] 3)))
      have HR1 := hid (rv_new wr 3 #[.int .i64 0])
      have hlt1 : w.heap.size < wr.heap.size := HP.out.bx.lt
      have HZ := hid (show w.heap.size ≤ (wr.alloc (.cells #[.int .i64 0] 3)).heap.size from Nat.le_of_lt HP1.out.bx.lt)
      clear HP
      generalize hgg : w.heap.size = g at c4 hlt1 ⊢
      have HGG := hid hgg
      clear hgg
      go_upto_region 6 with (at_builtin; go_loud (refine wpList_appV elt_int rfl (.tmp 27) (.tmp 28) rfl w.heap.size _ p _ HP1.out.V rfl _ _ 1 1 [.int .i64 0] rfl rfl HR1.out (fun u hu => by simp at hu; subst hu; rfl) (by unfold maxLen; omega) (by omega) HZ.out ?_); intro v2 w2 hown2 hg2; obtain ⟨X2, M2, L2⟩ := HP1.out.moreV (keeps_noughts _) HZ.out (by rw [cel_succ]; exact hown2) hg2 (noughts_grown hg2 HP1.out.V (by decide)); obtain ⟨AA, ac, rfl, -, -, -⟩ := hown2.read; have y0 := X2.cell 4; have y1 := X2.free 4; rw [HGG.out] at y0 y1; have HM2 := hid M2; have HL2 := hid L2; clear X2 M2 L2 hown2 hg2)
      clear HR1 HZ HP1 c4 hlt1 y0 y1
      refine wp_world fun w3 hw3 => ?_
      rw [HGG.out] at HM2 HL2
      have HP3 := hid (show Pf (Noughts sh.Z) w3 g g (.slice AA (p + 1) ac) r1 (.slice none 0 0) (.slice none 0 0) (.slice none 0 0) (p + 1) p 0 0 0 sh (RS.zero sh.Z) by rw [hw3]; exact HM2.out)
      have HB3 := hid (show Below g w w3 by rw [hw3]; exact (((HGG.out ▸ HBL.out : Below g w wr).trans ((below_alloc wr _).mono (HGG.out ▸ HBL.out.size))).trans HL2.out))
      clear hw3 HM2 HL2 HBL
      have hlt3 : g < w3.heap.size := HP3.out.bx.lt
      obtain ⟨w4, hw4⟩ : ∃ w4, w4 = ((w3.alloc (.cells (Array.replicate sh.Z (Value.int .u8 0)) 5)).alloc (.cells #[.slice (some ⟨w3.heap.size, 0, none⟩) sh.Z sh.Z] 36)).drew := ⟨_, rfl⟩
      obtain ⟨hp4, hl4, hn4, hr4⟩ := new_text (Z := sh.Z) HP3.out
      rw [← hw4] at hp4 hl4 hn4 hr4
      obtain ⟨us, t1, t2⟩ := hp4.T
      obtain ⟨A1, c1, rfl, -, -, -⟩ := t1.read
      have c5 : w3.cell? ⟨g, 5, none⟩ = some (.slice A1 p c1) := HP3.out.bx.cell 5
      have HP4 := hid hp4
      have HL4 := hid hl4
      have HN4 := hid hn4
      have HR4 := hid hr4
      have HO := hid t1
      have HT2 := hid t2
      have HSZ4 := hid (show g ≤ w4.heap.size from Nat.le_of_lt hp4.bx.lt)
      clear t1 t2 hp4 hl4 hn4 hr4
      go_region_law (rw [← hw4]; refine step_appV elt_text rfl (.tmp 36) (.tmp 39) rfl g (.slice A1 p c1) p us HO.out rfl _ _ 1 1 [.slice (some ⟨w3.heap.size, 0, none⟩) sh.Z sh.Z] rfl rfl HR4.out (fun u hu => by simp at hu; subst hu; rfl) (by unfold maxLen; omega) (by omega) HSZ4.out ?_; intro v5 w5 hown5 hg5; have M5 := more_text HP4.out HSZ4.out HO.out HT2.out HN4.out hown5 hg5; obtain ⟨X5, M5, L5⟩ := M5; obtain ⟨AA5, ac5, rfl, -, -, -⟩ := hown5.read; have y0 := X5.cell 5; have y1 := X5.free 5; have HM5 := hid M5; have HL5 := hid ((HL4.out.mono (Nat.le_of_lt hlt3)).trans L5); clear X5 M5 L5 hown5 hg5)
      all_goals
        go_wp2
        go_roundw
        case rel => exact ⟨p + 1, HLT.out, by go_num, ⟨_, _, HM5.out⟩, HB3.out.trans HL5.out⟩
        case measure => have := HLT.out; simp [intOf]; omega
    · obtain rfl : p = sh.B := by omega
      have q0 : decide (((sh.B : Nat) : Int) < ((sh.B : Nat) : Int)) = false := by simp
      clear hlt hp
      go_wp2_with fail
      go_loopw [11] (fun t wr => ∃ q : Nat, q ≤ N ∧ t = .int .i64 q ∧ (∃ r0 r1 r2 r3 r4, Pf (Noughts sh.Z) wr w.heap.size w.heap.size r0 r1 r2 r3 r4 sh.B sh.B q q q sh (RS.zero sh.Z)) ∧ Below w.heap.size w wr) (fun t _ => N - (intOf t).toNat)
      case atStart => exact ⟨0, Nat.zero_le _, rfl, ⟨_, _, _, _, _, HP.out⟩, HBL.out⟩
      case round =>
        obtain ⟨q, hq, rfl, ⟨s0, s1, s2, s3, s4, hm⟩, hbl⟩ := hrel
        have HP1 := hid hm
        have HBL1 := hid hbl
        clear hm hbl HP HBL
        by_cases hlt : q < N
        · have q1 : decide ((q : Int) < ((N : Nat) : Int)) = true := by simp; omega
          have HLT := hid hlt
          have hmul := HMUL.out
          clear hlt hq
          generalize hgg : w.heap.size = g at *
          have HGG := hid hgg
          clear hgg
          obtain ⟨A0, c0, rfl, -, -, -⟩ := HP1.out.P.read
          have d0 : wr.cell? ⟨g, 6, none⟩ = some (.slice A0 q c0) := HP1.out.bx.cell 6
          have lt0 : g < wr.heap.size := HP1.out.bx.lt
          have Y0 := hid (HP1.out.below (keeps_noughts _) (below_alloc wr (.cells #[.int .i64 0] 3)))
          have R0 := hid (rv_new wr 3 #[.int .i64 0])
          have Z0 := hid (show g ≤ (wr.alloc (.cells #[.int .i64 0] 3)).heap.size from Nat.le_of_lt Y0.out.bx.lt)
          clear HP1
          go_upto_region 11 with (at_builtin; go_loud (refine wpList_appV elt_int rfl (.tmp 54) (.tmp 55) rfl g _ q _ Y0.out.P rfl _ _ 1 1 [.int .i64 0] rfl rfl R0.out (fun u hu => by simp at hu; subst hu; rfl) (by unfold maxLen; omega) (by omega) Z0.out ?_); intro v0 y0 hown hgr; obtain ⟨XX, MM, LL⟩ := Y0.out.moreP (keeps_noughts _) Z0.out (by rw [cel_succ]; exact hown) hgr (noughts_grown hgr Y0.out.P (by decide)); obtain ⟨B0, e0, rfl, -, -, -⟩ := hown.read; have z0 := XX.cell 6; have z1 := XX.free 6; have MM0 := hid MM; have LL0 := hid LL; clear XX MM LL hown hgr)
          refine wp_world fun x0 hx0 => ?_
          have HP2 := hid (show Pf (Noughts sh.Z) x0 g g s0 s1 (.slice B0 (q + 1) e0) s3 s4 sh.B sh.B (q + 1) q q sh (RS.zero sh.Z) by rw [hx0]; exact MM0.out)
          have HBL2 := hid (show Below g w x0 by rw [hx0]; exact (HBL1.out.trans ((below_alloc wr _).mono (Nat.le_of_lt lt0))).trans LL0.out)
          clear hx0 MM0 LL0 HBL1 d0 lt0 R0 Z0 z0 z1
          obtain ⟨A1, c1, rfl, -, -, -⟩ := HP2.out.O.read
          have d1 : x0.cell? ⟨g, 7, none⟩ = some (.slice A1 q c1) := HP2.out.bx.cell 7
          have lt1 : g < x0.heap.size := HP2.out.bx.lt
          have Y1 := hid (HP2.out.below (keeps_noughts _) (below_alloc x0 (.cells #[.int .i64 0] 3)))
          have R1 := hid (rv_new x0 3 #[.int .i64 0])
          have Z1 := hid (show g ≤ (x0.alloc (.cells #[.int .i64 0] 3)).heap.size from Nat.le_of_lt Y1.out.bx.lt)
          clear HP2
          go_upto_region 12 with (at_builtin; go_loud (refine wpList_appV elt_int rfl (.tmp 63) (.tmp 64) rfl g _ q _ Y1.out.O rfl _ _ 1 1 [.int .i64 0] rfl rfl R1.out (fun u hu => by simp at hu; subst hu; rfl) (by unfold maxLen; omega) (by omega) Z1.out ?_); intro v1 y1 hown hgr; obtain ⟨XX, MM, LL⟩ := Y1.out.moreO (keeps_noughts _) Z1.out (by rw [cel_succ]; exact hown) hgr (noughts_grown hgr Y1.out.O (by decide)); obtain ⟨B1, e1, rfl, -, -, -⟩ := hown.read; have z0 := XX.cell 7; have z1 := XX.free 7; have MM1 := hid MM; have LL1 := hid LL; clear XX MM LL hown hgr)
          refine wp_world fun x1 hx1 => ?_
          have HP3 := hid (show Pf (Noughts sh.Z) x1 g g s0 s1 (.slice B0 (q + 1) e0) (.slice B1 (q + 1) e1) s4 sh.B sh.B (q + 1) (q + 1) q sh (RS.zero sh.Z) by rw [hx1]; exact MM1.out)
          have HBL3 := hid (show Below g w x1 by rw [hx1]; exact (HBL2.out.trans ((below_alloc x0 _).mono (Nat.le_of_lt lt1))).trans LL1.out)
          clear hx1 MM1 LL1 HBL2 d1 lt1 R1 Z1 z0 z1
          obtain ⟨A2, c2, rfl, -, -, -⟩ := HP3.out.K.read
          have d2 : x1.cell? ⟨g, 8, none⟩ = some (.slice A2 q c2) := HP3.out.bx.cell 8
          have lt2 : g < x1.heap.size := HP3.out.bx.lt
          have Y2 := hid (HP3.out.below (keeps_noughts _) (below_alloc x1 (.cells #[.int .i64 0] 3)))
          have R2 := hid (rv_new x1 3 #[.int .i64 0])
          have Z2 := hid (show g ≤ (x1.alloc (.cells #[.int .i64 0] 3)).heap.size from Nat.le_of_lt Y2.out.bx.lt)
          clear HP3
          go_wp2_with (at_builtin; go_loud (refine wpList_appV elt_int rfl (.tmp 72) (.tmp 73) rfl g _ q _ Y2.out.K rfl _ _ 1 1 [.int .i64 0] rfl rfl R2.out (fun u hu => by simp at hu; subst hu; rfl) (by unfold maxLen; omega) (by omega) Z2.out ?_); intro v2 y2 hown hgr; obtain ⟨XX, MM, LL⟩ := Y2.out.moreK (keeps_noughts _) Z2.out (by rw [cel_succ]; exact hown) hgr (noughts_grown hgr Y2.out.K (by decide)); obtain ⟨B2, e2, rfl, -, -, -⟩ := hown.read; have z0 := XX.cell 8; have z1 := XX.free 8; have MM2 := hid MM; have LL2 := hid LL; clear XX MM LL hown hgr)
          go_roundw
          case rel => exact ⟨q + 1, HLT.out, by go_num, ⟨_, _, _, _, _, MM2.out⟩, (HBL3.out.trans ((below_alloc x1 _).mono (Nat.le_of_lt lt2))).trans LL2.out⟩
          case measure => have := HLT.out; simp [intOf]; omega
        · obtain rfl : q = N := by omega
          have q1 : decide ((q : Int) < ((q : Nat) : Int)) = false := by simp
          have hmul := HMUL.out
          clear hlt hq
          go_wp2
          go_ret
          exact ⟨_, _, _, _, _, rfl, (HN.out ▸ HP1.out : Pf (Noughts sh.Z) wr w.heap.size w.heap.size s0 s1 s2 s3 s4 sh.B sh.B (sh.S * sh.C) (sh.S * sh.C) (sh.S * sh.C) sh (RS.zero sh.Z)).rf sZ, HBL1.out⟩
end Go.Proofs.Ytincndblpbdnlaa
