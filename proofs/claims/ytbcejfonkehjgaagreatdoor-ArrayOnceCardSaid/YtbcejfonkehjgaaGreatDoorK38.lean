/-
  What is proved: plain mathematics of the store: what a write does to a disk that stays up, to one that goes down in between, to one that is down; what opening does behind that. No program's function is in it. No condition.
-/
import Derived.Test.YtbcejfonkehjgaaGreatDoorK37
import Derived.Test.YtbcejfonkehjgaaGreatDoorK26
import Derived.Test.YtbcejfonkehjgaaGreatDoorK28
import Derived.Test.YtbcejfonkehjgaaGreatDoorK36
import Derived.Test.YtbcejfonkehjgaaGreatDoorK34
namespace Go.Proofs.YtbcejfonkehjgaaGreatDoor
open Go.RowKit

def age (b o : Int) (p q : Nat) : Int := orI (cmpI6 b p) (cmpI6 o q)
def dwr (sh : Sh) (st : St) (x : Wr) : St × Int × Int :=
  if x.wrong sh = 0 then
    if age x.b x.o (slt (sec st.L (sh.at_ x.c.toNat x.s.toNat))).1 (slt (sec st.L (sh.at_ x.c.toNat x.s.toNat))).2.1 < 0 then (st, 0, 12)
    else if age x.b x.o (slt (sec st.L (sh.at_ x.c.toNat x.s.toNat))).1 (slt (sec st.L (sh.at_ x.c.toNat x.s.toNat))).2.1 = 0 then (st, ((slt (sec st.L (sh.at_ x.c.toNat x.s.toNat))).2.2 : Nat), 0)
    else ((adr sh st (blk sh.Z (sec st.L (1 + x.k.toNat))).1 x.c.toNat x.s.toNat x.b.toNat x.o.toNat x.k.toNat x.l).1.1, (adr sh st (blk sh.Z (sec st.L (1 + x.k.toNat))).1 x.c.toNat x.s.toNat x.b.toNat x.o.toNat x.k.toNat x.l).2, (adr sh st (blk sh.Z (sec st.L (1 + x.k.toNat))).1 x.c.toNat x.s.toNat x.b.toNat x.o.toNat x.k.toNat x.l).1.2)
  else (st, 0, (x.wrong sh : Nat))
def Wr.i (x : Wr) (sh : Sh) : Nat := sh.S * x.c.toNat + x.s.toNat
def rwr (sh : Sh) (X : RS) (x : Wr) : RS × Int × Int :=
  if x.wrong sh = 0 then
    if age x.b x.o (X.P (x.i sh)) (X.O (x.i sh)) < 0 then (X, 0, 12)
    else if age x.b x.o (X.P (x.i sh)) (X.O (x.i sh)) = 0 then (X, (X.K (x.i sh) : Nat), 0)
    else ((X.put (x.i sh) x.b.toNat x.o.toNat x.k.toNat x.l).1, ((X.put (x.i sh) x.b.toNat x.o.toNat x.k.toNat x.l).2 : Nat), 0)
  else (X, 0, (x.wrong sh : Nat))

theorem Wr.fit {x : Wr} {sh : Sh} (ok : sh.ok) (h : x.wrong sh = 0) : Fit sh x.c.toNat x.s.toNat x.b.toNat x.o.toNat x.k.toNat x.l := by
  obtain ⟨h1, h2, ⟨h3, h4⟩, h5, h6⟩ := x.fits sh h
  exact ⟨ok, by omega, h2, by omega, by omega, by unfold great; omega, by unfold great; omega⟩

section
variable {sh : Sh} {c t b o k : Nat} {l : List Int}
theorem wat_lt (fit : Fit sh c t b o k l) {L : List (List Int)} (hL : sh.at_ sh.C 0 ≤ L.length) (i : Nat) : wat (1 + k) (sh.at_ c t) i < L.length := by
  have h1 := fit.i
  have h2 := fit.k
  rw [top_eq] at hL
  have h3 := fit.ok.b
  unfold wat
  split
  · omega
  · rw [at_eq]; omega
  · omega
theorem at_ne (fit : Fit sh c t b o k l) : sh.at_ c t ≠ 1 + k ∧ 0 < sh.at_ c t := by
  have := fit.k
  rw [at_eq]
  omega
theorem runs_free (fit : Fit sh c t b o k l) {L : List (List Int)} (hL : sh.at_ sh.C 0 ≤ L.length) {f : Int} (hf : f < 0) {v x : Nat} (hv : v ≤ 1000) (hx : x ≤ 16) (hy : Byt l) (ns : List Nat) (hns : ∀ i ∈ ns, i < 4) :
    ∃ L', runs (wat (1 + k) (sh.at_ c t)) (pgs c t b o k v x l) ⟨L, f, false⟩ ns = (⟨L', f, false⟩, 0) ∧ L' = ns.foldl (fun L i => L.set (wat (1 + k) (sh.at_ c t) i) (pgs c t b o k v x l i)) L := by
  induction ns generalizing L with
  | nil => exact ⟨L, rfl, rfl⟩
  | cons i r ih =>
    rw [runs_ok _ _ L f i r (by omega) (wat_lt fit hL i) (pgs_short fit hv hx hy i (hns i (by simp))), if_neg (by omega)]
    exact ih (by rw [List.length_set]; exact hL) fun j hj => hns j (by simp [hj])
theorem len_fold (a : Nat → Nat) (g : Nat → List Int) (ns : List Nat) (L : List (List Int)) : (ns.foldl (fun L i => L.set (a i) (g i)) L).length = L.length := by
  induction ns generalizing L with
  | nil => rfl
  | cons i r ih => simp only [List.foldl_cons]; rw [ih, List.length_set]
theorem rdo_jrn (fit : Fit sh c t b o k l) {L : List (List Int)} (hL : sh.at_ sh.C 0 ≤ L.length) {v : Nat} (hv : v ≤ 1000) (hy : Byt l) (hJ : sec L 0 = pgs c t b o k v 0 l 0) :
    ∃ L', rdo sh ⟨L, -1, false⟩ (sec L 0) = (⟨L', -1, false⟩, 0) ∧ L'.length = L.length ∧ sec L' 0 = [] ∧
      ∀ j, 0 < j → sec L' j = if j = 1 + k then pgs c t b o k v 0 l 1 else if j = sh.at_ c t then pgs c t b o k v 0 l 2 else sec L j := by
  obtain ⟨h1, h2⟩ := jrn (c := c) (t := t) (b := b) (o := o) (k := k) (v := v) (fit.nums hv) fit.h16
  obtain ⟨L', e1, e2⟩ := runs_free fit hL (f := -1) (by omega) hv (x := 0) (by omega) hy [1, 2, 3] (by simp)
  refine ⟨L', ?_, ?_, ?_, ?_⟩
  · unfold rdo
    rw [hJ, if_pos (pok_jrn (fit.nums hv) fit.h16 fit.z fit.k fit.c fit.t), h1 0 c rfl, h1 1 t rfl, h1 2 b rfl, h1 3 o rfl, h1 4 k rfl, h1 5 v rfl, h2]
    exact e1
  · rw [e2, len_fold]
  · rw [e2]
    simp only [List.foldl_cons, List.foldl_nil]
    have hw := fun i => wat_lt fit hL i
    rw [sec_set (by simp only [List.length_set]; exact hw 3)]
    rfl
  · intro j hj
    obtain ⟨n1, n2⟩ := at_ne fit
    have hw := fun i => wat_lt fit hL i
    rw [e2]
    simp only [List.foldl_cons, List.foldl_nil]
    rw [sec_set (by simp only [List.length_set]; exact hw 3), sec_set (by simp only [List.length_set]; exact hw 2), sec_set (hw 1)]
    simp only [wat]
    rw [if_neg (by omega)]
    by_cases h3 : j = 1 + k
    · rw [if_pos h3, if_pos h3, if_neg (by omega)]
    · rw [if_neg h3, if_neg h3]
theorem rdo_none {L : List (List Int)} {f : Int} {d : Bool} (h : ¬ pok sh (sec L 0)) : rdo sh ⟨L, f, d⟩ (sec L 0) = (⟨L, f, d⟩, 0) := if_neg h

def Pend (sh : Sh) (L : List (List Int)) (X Y : RS) : Prop :=
  ∃ L', rdo sh ⟨L, -1, false⟩ (sec L 0) = (⟨L', -1, false⟩, 0) ∧ L'.length = L.length ∧ ¬ pok sh (sec L' 0) ∧
    ((Agr sh L' X ∧ ((∃ k, k < sh.B ∧ Y.V k ≠ X.V k) ∨ (∀ k, k < sh.B → Y.V k = X.V k ∧ Y.T k = X.T k) ∧ ∃ i, i < sh.S * sh.C ∧ (Y.P i ≠ X.P i ∨ Y.O i ≠ X.O i))) ∨ (Agr sh L' Y ∧ ∃ k, k < sh.B ∧ Y.V k ≠ X.V k))

theorem put_V {X : RS} {i : Nat} (h : X.V k ≠ 1000) : (X.put i b o k l).1.V k ≠ X.V k := by
  unfold RS.put
  rw [if_neg h]
  simp only [upd_self]
  omega
theorem put_K {X : RS} {i : Nat} : (X.put i b o k l).2 = if X.V k = 1000 then 11 else 0 := by
  unfold RS.put
  split <;> rfl
theorem age_pos {b o p q : Nat} (h : 0 < age b o p q) : p ≠ b ∨ q ≠ o := by
  unfold age orI cmpI6 at h
  by_cases e : p = b
  · right
    subst e
    intro e2
    subst e2
    simp at h
  · exact .inl e
theorem adr_any (fit : Fit sh c t b o k l) {L : List (List Int)} {X : RS} (hL : sh.at_ sh.C 0 ≤ L.length) (h : Agr sh L X) (hp : ¬ pok sh (sec L 0)) (hy : Byt l) (f : Int) (hage : 0 < age b o (X.P (sh.S * c + t)) (X.O (sh.S * c + t))) :
    (∃ L' f', adr sh ⟨L, f, false⟩ (X.V k) c t b o k l = ((St.mk L' f' false, (0 : Int)), (((X.put (sh.S * c + t) b o k l).2 : Nat) : Int)) ∧ L'.length = L.length ∧ ¬ pok sh (sec L' 0) ∧ Agr sh L' (X.put (sh.S * c + t) b o k l).1 ∧ (f < 0 → f' = f)) ∨
    (0 ≤ f ∧ ∃ L' f', adr sh ⟨L, f, false⟩ (X.V k) c t b o k l = ((St.mk L' f' true, 8), 0) ∧ L'.length = L.length ∧ Pend sh L' X (X.put (sh.S * c + t) b o k l).1) := by
  obtain ⟨hle, -⟩ := h.le fit.k
  obtain ⟨n1, n2⟩ := at_ne fit
  have hw := fun i => wat_lt fit hL i
  rw [put_K]
  by_cases hv : X.V k = 1000
  · rw [if_pos hv]
    unfold adr
    simp only [if_pos hv]
    have hs := pgs_short fit (v := 0) (x := 11) (by omega) (by omega) hy 2 (by omega)
    by_cases h0 : f = 0
    · right
      subst h0
      rw [runs_stop _ _ L 2 [] (hw 2) hs]
      refine ⟨by omega, L, 0, rfl, rfl, L, rdo_none hp, rfl, hp, .inl ⟨h, .inr ⟨?_, sh.S * c + t, fit.i, ?_⟩⟩⟩
      · intro j _
        unfold RS.put
        rw [if_pos hv]
        exact ⟨rfl, rfl⟩
      · unfold RS.put
        rw [if_pos hv]
        simp only [upd_self]
        rcases age_pos hage with e | e
        · exact .inl (Ne.symm e)
        · exact .inr (Ne.symm e)
    · left
      rw [runs_ok _ _ L f 2 [] h0 (hw 2) hs]
      refine ⟨_, _, rfl, by rw [List.length_set], ?_, h.last fit hv fun j hj => ?_, fun hf => if_neg (by omega)⟩
      · rw [sec_set (hw 2), if_neg (by simp only [wat]; omega)]
        exact hp
      · rw [sec_set (hw 2)]
        rfl
  · rw [if_neg hv]
    unfold adr
    simp only [if_neg hv]
    have hs := pgs_short fit (v := X.V k + 1) (x := 0) (by omega) (by omega) hy
    have hput := fun L' => h.put (L' := L') fit hv hle
    have hV : ∃ j, j < sh.B ∧ (X.put (sh.S * c + t) b o k l).1.V j ≠ X.V j := ⟨k, fit.k, put_V hv⟩
    -- whatever was written behind the journal
    have key : ∀ L', L'.length = L.length → sec L' 0 = pgs c t b o k (X.V k + 1) 0 l 0 → (∀ j, 0 < j → j ≠ 1 + k → j ≠ sh.at_ c t → sec L' j = sec L j) → Pend sh L' X (X.put (sh.S * c + t) b o k l).1 := by
      intro L' hl' hJ hr
      obtain ⟨L2, e1, e2, e3, e4⟩ := rdo_jrn fit (L := L') (by rw [hl']; exact hL) (v := X.V k + 1) (by omega) hy hJ
      refine ⟨L2, e1, e2, by rw [e3]; exact pok_nil sh, .inr ⟨hput L2 fun j hj => ?_, hV⟩⟩
      rw [e4 j hj]
      by_cases h1 : j = 1 + k
      · rw [if_pos h1, if_pos h1]
      · rw [if_neg h1, if_neg h1]
        by_cases h2 : j = sh.at_ c t
        · rw [if_pos h2, if_pos h2]
        · rw [if_neg h2, if_neg h2, hr j hj h1 h2]
    by_cases h0 : f = 0
    · right
      subst h0
      rw [runs_stop _ _ L 0 _ (hw 0) (hs 0 (by omega))]
      exact ⟨by omega, L, 0, rfl, rfl, L, rdo_none hp, rfl, hp, .inl ⟨h, .inl hV⟩⟩
    · rw [runs_ok _ _ L f 0 _ h0 (hw 0) (hs 0 (by omega))]
      have l0 := sec_set (hw 0) (pgs c t b o k (X.V k + 1) 0 l 0)
      generalize e0 : L.set (wat (1 + k) (sh.at_ c t) 0) (pgs c t b o k (X.V k + 1) 0 l 0) = L0 at *
      have z0 : L0.length = L.length := by rw [← e0, List.length_set]
      have w0 : ∀ i, wat (1 + k) (sh.at_ c t) i < L0.length := fun i => by rw [z0]; exact hw i
      have m0 : sec L0 0 = pgs c t b o k (X.V k + 1) 0 l 0 := by rw [l0]; rfl
      have r0 : ∀ j, 0 < j → sec L0 j = sec L j := fun j hj => by rw [l0, if_neg (by simp only [wat]; omega)]
      generalize e1f : (if 0 < f then f - 1 else f) = f1
      have hneg1 : f < 0 → f1 = f := fun hf => by rw [← e1f, if_neg (by omega)]
      have hpos1 : f1 = 0 → 0 ≤ f := fun hf => by
        by_cases h : 0 < f
        · omega
        · rw [if_neg h] at e1f; omega
      by_cases h1 : f1 = 0
      · right
        subst h1
        rw [runs_stop _ _ L0 1 _ (w0 1) (hs 1 (by omega))]
        exact ⟨hpos1 rfl, L0, 0, rfl, z0, key L0 z0 m0 fun j hj _ _ => r0 j hj⟩
      · rw [runs_ok _ _ L0 f1 1 _ h1 (w0 1) (hs 1 (by omega))]
        have l1 : ∀ j, sec (L0.set (wat (1 + k) (sh.at_ c t) 1) (pgs c t b o k (X.V k + 1) 0 l 1)) j = if j = 1 + k then pgs c t b o k (X.V k + 1) 0 l 1 else sec L0 j := fun j => sec_set (w0 1) _ j
        generalize e1 : L0.set (wat (1 + k) (sh.at_ c t) 1) (pgs c t b o k (X.V k + 1) 0 l 1) = L1 at *
        have z1 : L1.length = L.length := by rw [← e1, List.length_set, z0]
        have w1 : ∀ i, wat (1 + k) (sh.at_ c t) i < L1.length := fun i => by rw [z1]; exact hw i
        have m1 : sec L1 0 = pgs c t b o k (X.V k + 1) 0 l 0 := by rw [l1, if_neg (by omega), m0]
        generalize e2f : (if 0 < f1 then f1 - 1 else f1) = f2
        have hneg2 : f1 < 0 → f2 = f1 := fun hf => by rw [← e2f, if_neg (by omega)]
        have hpos2 : f2 = 0 → 0 ≤ f := fun hf => by
          by_cases h : f < 0
          · have := hneg1 h; have := hneg2 (by omega); omega
          · omega
        by_cases h2 : f2 = 0
        · right
          subst h2
          rw [runs_stop _ _ L1 2 _ (w1 2) (hs 2 (by omega))]
          exact ⟨hpos2 rfl, L1, 0, rfl, z1, key L1 z1 m1 fun j hj j1 _ => by rw [l1, if_neg j1, r0 j hj]⟩
        · rw [runs_ok _ _ L1 f2 2 _ h2 (w1 2) (hs 2 (by omega))]
          have l2 : ∀ j, sec (L1.set (wat (1 + k) (sh.at_ c t) 2) (pgs c t b o k (X.V k + 1) 0 l 2)) j = if j = sh.at_ c t then pgs c t b o k (X.V k + 1) 0 l 2 else sec L1 j := fun j => sec_set (w1 2) _ j
          generalize e2 : L1.set (wat (1 + k) (sh.at_ c t) 2) (pgs c t b o k (X.V k + 1) 0 l 2) = L2 at *
          have z2 : L2.length = L.length := by rw [← e2, List.length_set, z1]
          have w2 : ∀ i, wat (1 + k) (sh.at_ c t) i < L2.length := fun i => by rw [z2]; exact hw i
          have m2 : sec L2 0 = pgs c t b o k (X.V k + 1) 0 l 0 := by rw [l2, if_neg (by omega), m1]
          generalize e3f : (if 0 < f2 then f2 - 1 else f2) = f3
          have hneg3 : f < 0 → f3 = f := fun hf => by
            have a1 := hneg1 hf
            have a2 := hneg2 (by omega)
            rw [← e3f, if_neg (by omega)]
            omega
          by_cases h3 : f3 = 0
          · right
            subst h3
            rw [runs_stop _ _ L2 3 _ (w2 3) (hs 3 (by omega))]
            exact ⟨Classical.byContradiction fun hf => by have := hneg3 (by omega); omega, L2, 0, rfl, z2, key L2 z2 m2 fun j hj j1 j2 => by rw [l2, if_neg j2, l1, if_neg j1, r0 j hj]⟩
          · left
            rw [runs_ok _ _ L2 f3 3 _ h3 (w2 3) (hs 3 (by omega))]
            refine ⟨_, _, rfl, by rw [List.length_set, z2], ?_, hput _ fun j hj => ?_, fun hf => ?_⟩
            · rw [sec_set (w2 3)]
              exact pok_nil sh
            · rw [sec_set (w2 3), if_neg (by simp only [wat]; omega), l2]
              by_cases j1 : j = 1 + k
              · rw [if_pos j1, if_neg (by omega), l1, if_pos j1]
              · rw [if_neg j1]
                by_cases j2 : j = sh.at_ c t
                · rw [if_pos j2, if_pos j2]
                · rw [if_neg j2, if_neg j2, l1, if_neg j1, r0 j hj]
            · rw [if_neg (by have := hneg3 hf; omega)]
              exact hneg3 hf
end

section
variable {sh : Sh}
theorem dwr_any (ok : sh.ok) {L : List (List Int)} {X : RS} (hL : sh.at_ sh.C 0 ≤ L.length) (h : Agr sh L X) (hp : ¬ pok sh (sec L 0)) (x : Wr) (hy : Byt x.l) (f : Int) :
    (∃ L' f', dwr sh ⟨L, f, false⟩ x = (⟨L', f', false⟩, (rwr sh X x).2) ∧ L'.length = L.length ∧ ¬ pok sh (sec L' 0) ∧ Agr sh L' (rwr sh X x).1 ∧ (f < 0 → f' = f)) ∨
    (0 ≤ f ∧ ∃ L' f', dwr sh ⟨L, f, false⟩ x = (⟨L', f', true⟩, 0, 8) ∧ L'.length = L.length ∧ Pend sh L' X (rwr sh X x).1) := by
  unfold dwr rwr
  by_cases hw : x.wrong sh = 0
  · have fit := x.fit ok hw
    obtain ⟨_, _, _, hb, ho⟩ := x.fits sh hw
    have e1 : slt (sec L (sh.at_ x.c.toNat x.s.toNat)) = (X.P (x.i sh), X.O (x.i sh), X.K (x.i sh)) := by rw [at_eq]; exact h.s _ fit.i
    have e2 : blk sh.Z (sec L (1 + x.k.toNat)) = (X.V x.k.toNat, X.T x.k.toNat) := h.b _ fit.k
    simp only [if_pos hw, e1, e2]
    by_cases h1 : age x.b x.o (X.P (x.i sh)) (X.O (x.i sh)) < 0
    · rw [if_pos h1, if_pos h1]
      exact .inl ⟨L, f, rfl, rfl, hp, h, fun _ => rfl⟩
    · rw [if_neg h1, if_neg h1]
      by_cases h2 : age x.b x.o (X.P (x.i sh)) (X.O (x.i sh)) = 0
      · rw [if_pos h2, if_pos h2]
        exact .inl ⟨L, f, rfl, rfl, hp, h, fun _ => rfl⟩
      · rw [if_neg h2, if_neg h2]
        have hage : 0 < age (x.b.toNat : Nat) (x.o.toNat : Nat) (X.P (x.i sh)) (X.O (x.i sh)) := by
          rw [show ((x.b.toNat : Nat) : Int) = x.b by omega, show ((x.o.toNat : Nat) : Int) = x.o by omega]
          omega
        rcases adr_any fit hL h hp hy f hage with ⟨L', f', a1, a2, a3, a4, a5⟩ | ⟨a0, L', f', a1, a2, a3⟩
        · left
          rw [a1]
          exact ⟨L', f', rfl, a2, a3, a4, a5⟩
        · right
          rw [a1]
          exact ⟨a0, L', f', rfl, a2, a3⟩
  · simp only [if_neg hw]
    exact .inl ⟨L, f, rfl, rfl, hp, h, fun _ => rfl⟩
end
end Go.Proofs.YtbcejfonkehjgaaGreatDoor
namespace Go.Proofs.YtbcejfonkehjgaaGreatDoor
open Go.RowKit

structure Tm where
  c : Nat → Int
  gr : Bool
  l : List Int
def tmI (b : Int) : Tm := ⟨fun i => #[14, 0, 0, 0, 0, b, 0, 0, 0].getD i 0, false, []⟩
def tmD (b : Int) (l : List Int) : Tm := ⟨fun i => #[12, 0, 0, 0, 0, b, 0, 0, 0].getD i 0, false, l⟩
def tmE (b : Int) : Tm := ⟨fun i => #[12, 0, 0, 0, 0, b, 0, 0, 9].getD i 0, false, []⟩
def tmW (m : Nat → Int) (z : Int) (gr : Bool) : Tm := ⟨fun i => #[13, m 1, m 2, m 3, m 4, m 5, 0, 0, z].getD i 0, gr, []⟩
def tcl (t : Tm) (u : Value) : List Value := [.int .i64 (t.c 0), .int .i64 (t.c 1), .int .i64 (t.c 2), .int .i64 (t.c 3), .int .i64 (t.c 4), .int .i64 (t.c 5), .int .i64 (t.c 6), .int .i64 (t.c 7), .int .i64 (t.c 8), .bool t.gr, u]
def tcs : List Tm → List Value → List Value
  | t :: L, u :: us => tcl t u ++ tcs L us
  | _, _ => []
theorem tcs_snoc (t : Tm) (u : Value) : ∀ (L : List Tm) (us : List Value), us.length = L.length → tcs (L ++ [t]) (us ++ [u]) = tcs L us ++ tcl t u
  | [], [], _ => by simp [tcs]
  | x :: L, y :: us, h => by
    have ih := tcs_snoc t u L us (by simpa using h)
    simp only [List.cons_append, tcs, ih, List.append_assoc]
  | [], _ :: _, h => by simp at h
  | _ :: _, [], h => by simp at h
theorem tcs_at : ∀ (L : List Tm) (us : List Value), us.length = L.length → ∀ i t u, L[i]? = some t → us[i]? = some u → ∀ j, j < 11 → (tcs L us)[i * 11 + j]? = (tcl t u)[j]?
  | [], _, _, i, t, u, h, _, _, _ => by simp at h
  | x :: L, [], h, _, _, _, _, _, _, _ => by simp at h
  | x :: L, y :: us, h, 0, t, u, h1, h2, j, hj => by
    simp only [List.getElem?_cons_zero, Option.some.injEq] at h1 h2
    subst h1 h2
    rw [Nat.zero_mul, Nat.zero_add]
    simp only [tcs]
    rw [List.getElem?_append_left (by simpa [tcl] using hj)]
  | x :: L, y :: us, h, i + 1, t, u, h1, h2, j, hj => by
    have ih := tcs_at L us (by simpa using h) i t u (by simpa using h1) (by simpa using h2) j hj
    simp only [tcs]
    rw [List.getElem?_append_right (by simp [tcl]; omega), show (i + 1) * 11 + j - (tcl x y).length = i * 11 + j by simp [tcl]; omega]
    exact ih
theorem infoMsg : (Tryz.prog.info? 40).map (fun i => (i.zero, i.size, i.bytes)) = some (some (.agg #[.int .i64 0, .int .i64 0, .int .i64 0, .int .i64 0, .int .i64 0, .int .i64 0, .int .i64 0, .int .i64 0, .int .i64 0, .bool false, .slice none 0 0]), 11, 104) := by kernel_rfl
theorem elt_msg : Elt Tryz.prog 44 40 (.agg #[.int .i64 0, .int .i64 0, .int .i64 0, .int .i64 0, .int .i64 0, .int .i64 0, .int .i64 0, .int .i64 0, .int .i64 0, .bool false, .slice none 0 0]) 11 104 := ⟨Tryz.underlying44, infoMsg, rfl, by decide⟩
def Tlv (w : World) (b : Nat) (X : Nat → Prop) (v : Value) (L : List Tm) : Prop :=
  ∃ us : List Value, us.length = L.length ∧ OwnV w b 40 11 v L.length (tcs L us) ∧ ∀ (i : Nat) (t : Tm) (u : Value), L[i]? = some t → us[i]? = some u → By w X u t.l
section
variable {w w' : World} {b : Nat} {X P Q : Nat → Prop} {v : Value} {L : List Tm} {t : Tm}
theorem tlv_nil (w : World) (b : Nat) (X : Nat → Prop) : Tlv w b X (.slice none 0 0) [] := ⟨[], rfl, ownV_nil _ _ _ _, fun i t u h => by simp at h⟩
theorem by_none (w : World) (X : Nat → Prop) : By w X (.slice none 0 0) [] := ⟨none, 0, rfl, Rv.nil _ _ _, Nat.le_refl _, by unfold maxLen; omega, fun ad e => by cases e⟩
theorem tlv_one {u : Value} (hb : b ≤ w.heap.size) (hu : By (w.alloc (.cells (tcl t u).toArray 40)) X u t.l) : Tlv (w.alloc (.cells (tcl t u).toArray 40)) b X (.slice (some ⟨w.heap.size, 0, none⟩) 1 1) [t] :=
  ⟨[u], rfl, ⟨by simp [tcs, tcl], .inr ⟨w.heap.size, 1, _, rfl, hb, Bx.new w _ _, Nat.le_refl _, by unfold maxLen; omega, rfl, by simp [tcs, tcl]⟩⟩, fun i t' u' h1 h2 => by
    rcases i with _ | i
    · simp only [List.getElem?_cons_zero, Option.some.injEq] at h1 h2
      subst h1 h2
      exact hu
    · simp at h1⟩
theorem Tlv.below (h : Tlv w b X v L) (hb : Below w.heap.size w w') : Tlv w' b X v L := by
  obtain ⟨us, h1, h2, h3⟩ := h
  exact ⟨us, h1, OwnV.below h2 hb, fun i t u a1 a2 => (h3 i t u a1 a2).below hb⟩
theorem Tlv.snoc {us : List Value} {u v2 : Value} (hl : us.length = L.length) (ho : OwnV w' b 40 11 v2 (L.length + 1) (tcs L us ++ tcl t u)) (hb : ∀ (i : Nat) (t : Tm) (u : Value), L[i]? = some t → us[i]? = some u → By w' X u t.l) (hu : By w' X u t.l) : Tlv w' b X v2 (L ++ [t]) :=
  ⟨us ++ [u], by simp [hl], by rw [List.length_append, tcs_snoc t u L us hl]; exact ho, fun i t' u' h1 h2 => by
    by_cases hi : i < L.length
    · rw [List.getElem?_append_left hi] at h1
      rw [List.getElem?_append_left (by omega)] at h2
      exact hb i t' u' h1 h2
    · have e : i = L.length := by
        have h4 := (List.getElem?_eq_some_iff.1 h1).1
        rw [List.length_append, List.length_singleton] at h4
        omega
      subst e
      rw [List.getElem?_append_right (Nat.le_refl _), Nat.sub_self, List.getElem?_cons_zero, Option.some.injEq] at h1
      rw [← hl, List.getElem?_append_right (Nat.le_refl _), Nat.sub_self, List.getElem?_cons_zero, Option.some.injEq] at h2
      subst h1 h2
      exact hu⟩
structure TmAt (w : World) (X : Nat → Prop) (a : Addr) (t : Tm) (u : Value) : Prop where
  lt : a.block < w.heap.size
  c : ∀ j, j < 11 → w.cell? (a.add j) = (tcl t u)[j]?
  y : By w X u t.l
theorem Tlv.at_ (h : Tlv w b X v L) : ∃ A c, v = .slice A L.length c ∧ L.length ≤ c ∧ c ≤ maxLen ∧ (∀ ad, A = some ad → b ≤ ad.block ∧ ad.block < w.heap.size) ∧ ∀ (i : Nat) (t : Tm), L[i]? = some t → ∃ ad u, A = some ad ∧ TmAt w X (ad.add (i * 11)) t u := by
  obtain ⟨us, h1, h2, h3⟩ := h
  obtain ⟨A, c, e, hr, h4, h5⟩ := OwnV.read h2
  refine ⟨A, c, e, h4, h5, fun ad ea => World.ownsRow.lt h2 ad.block (by rw [e, ea]; rfl), fun i t hi => ?_⟩
  have hil := (List.getElem?_eq_some_iff.1 hi).1
  obtain ⟨u, hu⟩ : ∃ u, us[i]? = some u := ⟨_, List.getElem?_eq_getElem (by omega)⟩
  have key : ∀ j, j < 11 → ∃ ad, A = some ad ∧ ad.block < w.heap.size ∧ w.cell? (ad.add (i * 11 + j)) = (tcl t u)[j]? := fun j hj => by
    have h6 := tcs_at L us h1 i t u hi hu j hj
    have h7 : (tcl t u)[j]? = some ((tcl t u)[j]'(by simpa [tcl] using hj)) := List.getElem?_eq_getElem _
    rw [h7] at h6 ⊢
    obtain ⟨ad, a1, a2, a3⟩ := hr _ _ h6
    exact ⟨ad, a1, a2, a3⟩
  obtain ⟨ad, rfl, hb, _⟩ := key 0 (by omega)
  refine ⟨ad, u, rfl, ⟨by rw [addBlk]; exact hb, fun j hj => ?_, h3 i t u hi hu⟩⟩
  obtain ⟨ad', e', _, hc⟩ := key j hj
  injection e' with e'
  subst e'
  rw [add_add]
  exact hc
end
end Go.Proofs.YtbcejfonkehjgaaGreatDoor
namespace Go.Proofs.YtbcejfonkehjgaaGreatDoor
open Go.RowKit

section
variable {w : World} {b kd ks : Nat} {v : Value} {s : St} {sh : Sh}
set_option maxHeartbeats 400000 in
theorem read_no (h : Sx w b kd ks v s sh) (k : Int) (hk : ¬ (0 ≤ k ∧ k < sh.B)) : Calls Tryz.prog 47 #[.pointer (some ⟨ks, 0, none⟩), .int .i64 k] w fun e w' => e = .returned (.tuple #[.slice none 0 0, .int .i64 0, .int .i64 9]) ∧ Below w.heap.size w w' := by
  obtain ⟨c0, c1, c2, c3, c4⟩ := h.bx.all5
  have HB := hid (fun w1 => hasBlock_no sh h.ok w1 k hk)
  clear h hk
  obtain ⟨B, Z, C, S⟩ := sh
  simp only [Sh.v] at HB c0 c1 c2 c3 c4
  go_enter Tryz.func47, Tryz.ntmps47
  go_wp2_with fail
  refine (HB.out _).mono ?_
  rintro e w1 ⟨rfl, hb1⟩
  have HB1 := hid hb1
  clear hb1
  go_wp2
  go_ret3
  exact ⟨rfl, HB1.out⟩
set_option maxHeartbeats 400000 in
theorem read_yes (h : Sx w b kd ks v s sh) (k : Nat) (hk : k < sh.B) (l : List Int) (hl : s.L[1 + k]? = some l) :
    Calls Tryz.prog 47 #[.pointer (some ⟨ks, 0, none⟩), .int .i64 k] w fun e w' => ∃ u, e = .returned (.tuple #[u, .int .i64 ((blk sh.Z l).1 : Nat), .int .i64 0]) ∧ Own w' w.heap.size u (blk sh.Z l).2 ∧ Below w.heap.size w w' := by
  obtain ⟨c0, c1, c2, c3, c4⟩ := h.bx.all5
  have HB := hid (fun w1 => hasBlock_yes sh h.ok w1 k ⟨by omega, by omega⟩)
  have HK := hid (fun w1 (hb : Below w.heap.size w w1) => block_own (h.below hb) k hk l hl)
  clear h hk hl
  obtain ⟨B, Z, C, S⟩ := sh
  simp only [Sh.v] at HB c0 c1 c2 c3 c4
  generalize blk Z l = vl at *
  go_enter Tryz.func47, Tryz.ntmps47
  go_wp2_with fail
  refine (HB.out _).mono ?_
  rintro e w1 ⟨rfl, hb1⟩
  have HB1 := hid hb1
  clear hb1
  go_wp2_with fail
  refine (HK.out w1 HB1.out).mono ?_
  rintro e w2 ⟨u, rfl, hu, hb2⟩
  have HB2 := hid (on HB1.out hb2)
  have HU := hid hu
  clear hu hb2
  go_wp2
  go_ret3
  exact ⟨_, rfl, HU.out.lower HB1.out.size, HB2.out⟩

















end
end Go.Proofs.YtbcejfonkehjgaaGreatDoor
namespace Go.Proofs.YtbcejfonkehjgaaGreatDoor
open Go.RowKit

theorem zero2 {w w5 : World} {k0 k1 : Nat} {a b : Int} (hb : Below w.heap.size w w5) (h0 : Bx w5 k0 3 #[.int .i64 a]) (h1 : Bx w5 k1 3 #[.int .i64 b]) (hne : k0 ≠ k1) (l0 : w.heap.size ≤ k0) (l1 : w.heap.size ≤ k1) (d : Nat) (x y : Int) :
    Bx (((w5.drewN d).setCell ⟨k0, 0, none⟩ (.int .i64 x)).setCell ⟨k1, 0, none⟩ (.int .i64 y)) k0 3 #[.int .i64 x] ∧ Bx (((w5.drewN d).setCell ⟨k0, 0, none⟩ (.int .i64 x)).setCell ⟨k1, 0, none⟩ (.int .i64 y)) k1 3 #[.int .i64 y] ∧
    Below w.heap.size w (((w5.drewN d).setCell ⟨k0, 0, none⟩ (.int .i64 x)).setCell ⟨k1, 0, none⟩ (.int .i64 y)) :=
  ⟨((h0.draws d).set 0 _).far _ _ (fun e => hne e.symm), ((h1.draws d).far _ _ hne).set 0 _, below_set (below_set (below_draws hb d) _ _ l0) _ _ l1⟩

section
variable {w : World} {b kd ks : Nat} {v : Value} {s : St} {sh : Sh}
set_option maxRecDepth 100000 in
set_option maxHeartbeats 800000 in
theorem last_any (h : Sx w b kd ks v s sh) (c i : Nat) (hc : c < sh.C) (hi : i < sh.S) (l : List Int) (hl : s.L[sh.at_ c i]? = some l) :
    Calls Tryz.prog 124 #[.pointer (some ⟨ks, 0, none⟩), .int .i64 c, .int .i64 i] w fun e w' => e = .returned (.tuple #[.int .i64 ((slt l).1 : Nat), .int .i64 ((slt l).2.1 : Nat), .int .i64 ((slt l).2.2 : Nat)]) ∧ Below w.heap.size w w' := by
  have hl1 : Ok1 l := h.by_ l (List.mem_of_getElem? hl)
  obtain ⟨Wa, hWa, V0, B0, s0⟩ := below_new w 3 #[.int .i64 0]
  obtain ⟨Wb, hWb, V1, B1, s1⟩ := below_new Wa 3 #[.int .i64 0]
  obtain ⟨W, hW, V2, B2, s2⟩ := below_new Wb 3 #[.int .i64 0]
  rw [s0] at V1
  rw [s1, s0] at V2
  have HW := hid (show ((w.alloc (.cells #[.int .i64 0] 3)).alloc (.cells #[.int .i64 0] 3)).alloc (.cells #[.int .i64 0] 3) = W by rw [hWa, hWb, hW])
  have HBel := hid (on (on B0 B1) B2)
  have HX0 := hid h
  have HX := hid (h.below HBel.out)
  have hsz : W.heap.size = w.heap.size + 3 := by omega
  have HV0 := hid ((V0.next B1).next B2)
  have HV1 := hid (V1.next B2)
  have HV2 := hid V2
  have HBA := hid (slotAt_any sh h.ok W c i (by have := h.ok.c; omega) (by have := h.ok.s; omega))
  obtain ⟨c0, c1, c2, c3, c4⟩ := HX.out.bx.all5
  have HL := hid hl
  have HL1 := hid hl1
  generalize sh.at_ c i = at1 at *
  clear h hl V0 V1 V2 B0 B1 B2 hWa hWb hW s0 s1 s2 hl1
  obtain ⟨B, Z, C, S⟩ := sh
  simp only [Sh.v] at hc hi HBA HX HX0 c0 c1 c2 c3 c4 ⊢
  go_enter Tryz.func124, Tryz.ntmps124
  go_upto_region 2 with (fail)
  rw [show w.heap.size + 1 + 1 = w.heap.size + 2 from rfl] at *
  rw [HW.out]
  go_wp2_with fail
  refine (HBA.out).mono ?_
  rintro e w1 ⟨rfl, hb1⟩
  have HX1 := hid (HX.out.below hb1)
  have HB1 := hid (on HBel.out hb1)
  have hw1s : w.heap.size + 3 ≤ w1.heap.size := by rw [← hsz]; exact hb1.size
  have HV01 := hid (HV0.out.next hb1)
  have HV11 := hid (HV1.out.next hb1)
  have HV21 := hid (HV2.out.next hb1)
  clear hb1 c0 c1 c2 c3 c4
  go_wp2_with fail
  refine (reader_any HX1.out _ l HL.out).mono ?_
  rintro e w2 ⟨kr, rfl, hkr, hrq, hb2⟩
  obtain ⟨W3, hW3, BG, HB3, hs3⟩ := below_new w2 119 #[.pointer (some ⟨w.heap.size, 0, none⟩), .pointer (some ⟨w.heap.size + 1, 0, none⟩), .pointer (some ⟨w.heap.size + 2, 0, none⟩)]
  have HRQ := hid (show Rdq W3 kr l (some 0) from hrq.next HB3)
  have HB3' := hid (on (on HB1.out hb2) HB3)
  have HV03 := hid ((HV01.out.next hb2).next HB3)
  have HV13 := hid ((HV11.out.next hb2).next HB3)
  have HV23 := hid ((HV21.out.next hb2).next HB3)
  have HG3 := hid BG
  have HW3 := hid hW3
  have HK := hid (show w.heap.size + 3 ≤ kr ∧ kr < w2.heap.size from ⟨Nat.le_trans hw1s hkr, hrq.lt⟩)
  clear hW3 hrq hkr hb2 BG HB3
  go_wp2_with fail
  rw [HW3.out]
  obtain ⟨I, hI⟩ : ∃ I : Nat → World → Prop, I = fun i w1 => Bx w1 w.heap.size 3 #[.int .i64 (if 0 < i then (nth l (some 0) 0 : Nat) else 0)] ∧ Bx w1 (w.heap.size + 1) 3 #[.int .i64 (if 1 < i then (nth l (some 0) 1 : Nat) else 0)] ∧ Bx w1 (w.heap.size + 2) 3 #[.int .i64 (if 2 < i then (nth l (some 0) 2 : Nat) else 0)] ∧
    Bx w1 w2.heap.size 119 #[.pointer (some ⟨w.heap.size, 0, none⟩), .pointer (some ⟨w.heap.size + 1, 0, none⟩), .pointer (some ⟨w.heap.size + 2, 0, none⟩)] ∧ Below w.heap.size w w1 := ⟨_, rfl⟩
  refine (fill_any HL1.out kr (some 0) [⟨w.heap.size, 0, none⟩, ⟨w.heap.size + 1, 0, none⟩, ⟨w.heap.size + 2, 0, none⟩] 3 rfl (by omega) (some ⟨w2.heap.size, 0, none⟩) 3 I W3 HRQ.out (by rw [hI]; exact ⟨HV03.out, HV13.out, HV23.out, HG3.out, HB3'.out⟩) ?_ ?_ ?_).mono ?_
  · intro i w' h
    rw [hI] at h
    exact rv_places _ _ rfl h.2.2.2.1
  · intro i a c h ho
    rw [hI] at h ⊢
    obtain ⟨k1, k2⟩ := HK.out
    exact ⟨h.1.only ho (by omega), h.2.1.only ho (by omega), h.2.2.1.only ho (by omega), h.2.2.2.1.only ho (by omega), h.2.2.2.2.trans (ho.below (by omega) h.2.2.2.2.size)⟩
  · intro i p a hp h
    rw [hI] at h
    obtain ⟨k1, k2⟩ := HK.out
    have hw2 : w.heap.size + 3 ≤ w2.heap.size := by omega
    match i, hp with
    | 0, hp =>
      simp only [List.getElem?_cons_zero, Option.some.injEq] at hp
      subst hp
      refine ⟨by show w.heap.size ≠ kr; omega, h.1.free 0, ⟨_, h.1.cell 0⟩, ?_⟩
      rw [hI]
      exact ⟨h.1.set 0 _, h.2.1.far _ _ (by show w.heap.size ≠ _; omega), h.2.2.1.far _ _ (by show w.heap.size ≠ _; omega), h.2.2.2.1.far _ _ (by show w.heap.size ≠ w2.heap.size; omega), below_set h.2.2.2.2 _ _ (Nat.le_refl _)⟩
    | 1, hp =>
      simp only [List.getElem?_cons_succ, List.getElem?_cons_zero, Option.some.injEq] at hp
      subst hp
      refine ⟨by show w.heap.size + 1 ≠ kr; omega, h.2.1.free 0, ⟨_, h.2.1.cell 0⟩, ?_⟩
      rw [hI]
      exact ⟨h.1.far _ _ (by show w.heap.size + 1 ≠ _; omega), h.2.1.set 0 _, h.2.2.1.far _ _ (by show w.heap.size + 1 ≠ _; omega), h.2.2.2.1.far _ _ (by show w.heap.size + 1 ≠ w2.heap.size; omega), below_set h.2.2.2.2 _ _ (by show w.heap.size ≤ w.heap.size + 1; omega)⟩
    | 2, hp =>
      simp only [List.getElem?_cons_succ, List.getElem?_cons_zero, Option.some.injEq] at hp
      subst hp
      refine ⟨by show w.heap.size + 2 ≠ kr; omega, h.2.2.1.free 0, ⟨_, h.2.2.1.cell 0⟩, ?_⟩
      rw [hI]
      exact ⟨h.1.far _ _ (by show w.heap.size + 2 ≠ _; omega), h.2.1.far _ _ (by show w.heap.size + 2 ≠ _; omega), h.2.2.1.set 0 _, h.2.2.2.1.far _ _ (by show w.heap.size + 2 ≠ w2.heap.size; omega), below_set h.2.2.2.2 _ _ (by show w.heap.size ≤ w.heap.size + 2; omega)⟩
  rintro e w5 ⟨rfl, hi4, hrq4⟩
  rw [hI] at hi4
  obtain ⟨v04, v14, v24, g4, b4⟩ := hi4
  simp only [Nat.lt_add_one, Nat.reduceLT, if_true] at v04 v14 v24
  have HB5 := hid b4
  have HE := hid (ended_any hrq4 HL1.out)
  have n0b : nth l (some 0) 0 < 9223372036854775808 := nth_bnd HL1.out 0
  have n1b : nth l (some 0) 1 < 9223372036854775808 := nth_bnd HL1.out 1
  have n2b : nth l (some 0) 2 < 9223372036854775808 := nth_bnd HL1.out 2
  have HBK := hid (show slt l = if endd l (stt l (some 0) 3) = true ∧ nth l (some 0) 0 ≤ 1099511627776 ∧ nth l (some 0) 1 ≤ 1099511627776 ∧ nth l (some 0) 2 ≤ 16 then (nth l (some 0) 0, nth l (some 0) 1, nth l (some 0) 2) else (0, 0, 0) from rfl)
  generalize nth l (some 0) 0 = n0 at *
  generalize nth l (some 0) 1 = n1 at *
  generalize nth l (some 0) 2 = n2 at *
  generalize endd l (stt l (some 0) 3) = en at *
  have cV0 : w5.cell? ⟨w.heap.size, 0, none⟩ = some (.int .i64 (n0 : Nat)) := v04.cell 0
  have fV0 : w5.frozen? ⟨w.heap.size, 0, none⟩ = false := v04.free 0
  have cV1 : w5.cell? ⟨w.heap.size + 1, 0, none⟩ = some (.int .i64 (n1 : Nat)) := v14.cell 0
  have fV1 : w5.frozen? ⟨w.heap.size + 1, 0, none⟩ = false := v14.free 0
  have cV2 : w5.cell? ⟨w.heap.size + 2, 0, none⟩ = some (.int .i64 (n2 : Nat)) := v24.cell 0
  have HF := hid (fun d => zero2 HB5.out v04 v14 (by omega) (Nat.le_refl _) (by omega) d 0 0)
  have HG := hid (fun d => zero2 HB5.out v04 v14 (by omega) (Nat.le_refl _) (by omega) d n0 n1)
  clear v04 v14 v24 g4 b4 hrq4 hI HX1 HV01 HV11 HV21 HV03 HV13 HV23 HG3 HW3 HRQ HBA HL HW HX
  by_cases hg : en = true ∧ n0 ≤ 1099511627776 ∧ n1 ≤ 1099511627776 ∧ n2 ≤ 16
  · have HB := hid (HBK.out.trans (if_pos hg))
    obtain ⟨rfl, g0, g1, g2⟩ := hg
    go_wp2_with fail
    refine HE.out.mono ?_
    rintro e w6 ⟨rfl, d, rfl⟩
    go_wp2
    refine bodyPost_ret (results_cci rfl _ rfl rfl ((HG.out d).1.cell 0) ((HG.out d).2.1.cell 0)) rfl ?_
    rw [HB.out]
    exact ⟨rfl, (HG.out d).2.2⟩
  · have HB := hid (HBK.out.trans (if_neg hg))
    by_cases he : en = true
    · subst he
      by_cases g0 : n0 ≤ 1099511627776
      · by_cases g1 : n1 ≤ 1099511627776
        · have g2 : 16 < n2 := by
            rcases Nat.lt_or_ge 16 n2 with h | h
            · exact h
            · exact absurd ⟨rfl, g0, g1, h⟩ hg
          clear hg
          go_wp2_with fail
          refine HE.out.mono ?_
          rintro e w6 ⟨rfl, d, rfl⟩
          go_wp2
          refine bodyPost_ret (results_cci rfl _ rfl rfl ((HF.out d).1.cell 0) ((HF.out d).2.1.cell 0)) rfl ?_
          rw [HB.out]
          exact ⟨rfl, (HF.out d).2.2⟩
        · have g1 : 1099511627776 < n1 := by omega
          clear hg
          go_wp2_with fail
          refine HE.out.mono ?_
          rintro e w6 ⟨rfl, d, rfl⟩
          go_wp2
          refine bodyPost_ret (results_cci rfl _ rfl rfl ((HF.out d).1.cell 0) ((HF.out d).2.1.cell 0)) rfl ?_
          rw [HB.out]
          exact ⟨rfl, (HF.out d).2.2⟩
      · have g0 : 1099511627776 < n0 := by omega
        clear hg
        go_wp2_with fail
        refine HE.out.mono ?_
        rintro e w6 ⟨rfl, d, rfl⟩
        go_wp2
        refine bodyPost_ret (results_cci rfl _ rfl rfl ((HF.out d).1.cell 0) ((HF.out d).2.1.cell 0)) rfl ?_
        rw [HB.out]
        exact ⟨rfl, (HF.out d).2.2⟩
    · have he2 : en = false := by simpa using he
      subst he2
      clear hg he
      go_wp2_with fail
      refine HE.out.mono ?_
      rintro e w6 ⟨rfl, d, rfl⟩
      go_wp2
      refine bodyPost_ret (results_cci rfl _ rfl rfl ((HF.out d).1.cell 0) ((HF.out d).2.1.cell 0)) rfl ?_
      rw [HB.out]
      exact ⟨rfl, (HF.out d).2.2⟩
end
end Go.Proofs.YtbcejfonkehjgaaGreatDoor
