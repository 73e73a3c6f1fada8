/-
  What is proved: plain mathematics of the store: what a write does to a disk that stays up, to one that goes down in between, to one that is down; what opening does behind that. No program's function is in it. No condition.
-/
import Derived.Test.YtincndblpbdnlaaStm
namespace Go.Proofs.Ytincndblpbdnlaa
open Go.RowKit

/-- how old a write is -/
def age (b o : Int) (p q : Nat) : Int := orI (cmpI b p) (cmpI o q)
/-- what a write does to a disk: the disk, the answer, the error -/
def dwr (sh : Sh) (st : St) (x : Wr) : St × Int × Int :=
  if x.wrong sh = 0 then
    if age x.b x.o (slt (sec st.L (sh.at_ x.c.toNat x.s.toNat))).1 (slt (sec st.L (sh.at_ x.c.toNat x.s.toNat))).2.1 < 0 then (st, 0, 12)
    else if age x.b x.o (slt (sec st.L (sh.at_ x.c.toNat x.s.toNat))).1 (slt (sec st.L (sh.at_ x.c.toNat x.s.toNat))).2.1 = 0 then (st, ((slt (sec st.L (sh.at_ x.c.toNat x.s.toNat))).2.2 : Nat), 0)
    else ((adr sh st (blk sh.Z (sec st.L (1 + x.k.toNat))).1 x.c.toNat x.s.toNat x.b.toNat x.o.toNat x.k.toNat x.l).1.1, (adr sh st (blk sh.Z (sec st.L (1 + x.k.toNat))).1 x.c.toNat x.s.toNat x.b.toNat x.o.toNat x.k.toNat x.l).2, (adr sh st (blk sh.Z (sec st.L (1 + x.k.toNat))).1 x.c.toNat x.s.toNat x.b.toNat x.o.toNat x.k.toNat x.l).1.2)
  else (st, 0, (x.wrong sh : Nat))
def Wr.i (x : Wr) (sh : Sh) : Nat := sh.S * x.c.toNat + x.s.toNat
/-- what a write does to blocks and slots: these, the answer, the error -/
def rwr (sh : Sh) (X : RS) (x : Wr) : RS × Int × Int :=
  if x.wrong sh = 0 then
    if age x.b x.o (X.P (x.i sh)) (X.O (x.i sh)) < 0 then (X, 0, 12)
    else if age x.b x.o (X.P (x.i sh)) (X.O (x.i sh)) = 0 then (X, (X.K (x.i sh) : Nat), 0)
    else ((X.put (x.i sh) x.b.toNat x.o.toNat x.k.toNat x.l).1, ((X.put (x.i sh) x.b.toNat x.o.toNat x.k.toNat x.l).2 : Nat), 0)
  else (X, 0, (x.wrong sh : Nat))

theorem Wr.fit {x : Wr} {sh : Sh} (ok : sh.ok) (h : x.wrong sh = 0) : Fit sh x.c.toNat x.s.toNat x.b.toNat x.o.toNat x.k.toNat x.l := by
  obtain ⟨h1, h2, ⟨h3, h4⟩, h5, h6⟩ := x.fits sh h
  exact ⟨ok, by omega, h2, by omega, by omega, by unfold great; omega, by unfold great; omega⟩

section
variable {sh : Sh} {c t b o k : Nat} {l : List Int}
/-- a step's place lies on the disk -/
theorem wat_lt (fit : Fit sh c t b o k l) {L : List (List Int)} (hL : sh.at_ sh.C 0 ≤ L.length) (i : Nat) : wat (1 + k) (sh.at_ c t) i < L.length := by
  have h1 := fit.i
  have h2 := fit.k
  rw [top_eq] at hL
  have h3 := fit.ok.b
  unfold wat
  split
  · omega
  · rw [at_eq]; omega
  · omega
theorem at_ne (fit : Fit sh c t b o k l) : sh.at_ c t ≠ 1 + k ∧ 0 < sh.at_ c t := by
  have := fit.k
  rw [at_eq]
  omega
/-- all steps, on a disk that stays up -/
theorem runs_free (fit : Fit sh c t b o k l) {L : List (List Int)} (hL : sh.at_ sh.C 0 ≤ L.length) {f : Int} (hf : f < 0) {v x : Nat} (hv : v ≤ 1000) (hx : x ≤ 16) (hy : Byt l) (ns : List Nat) (hns : ∀ i ∈ ns, i < 4) :
    ∃ L', runs (wat (1 + k) (sh.at_ c t)) (pgs c t b o k v x l) ⟨L, f, false⟩ ns = (⟨L', f, false⟩, 0) ∧ L' = ns.foldl (fun L i => L.set (wat (1 + k) (sh.at_ c t) i) (pgs c t b o k v x l i)) L := by
  induction ns generalizing L with
  | nil => exact ⟨L, rfl, rfl⟩
  | cons i r ih =>
    rw [runs_ok _ _ L f i r (by omega) (wat_lt fit hL i) (pgs_short fit hv hx hy i (hns i (by simp))), if_neg (by omega)]
    exact ih (by rw [List.length_set]; exact hL) fun j hj => hns j (by simp [hj])
theorem len_fold (a : Nat → Nat) (g : Nat → List Int) (ns : List Nat) (L : List (List Int)) : (ns.foldl (fun L i => L.set (a i) (g i)) L).length = L.length := by
  induction ns generalizing L with
  | nil => rfl
  | cons i r ih => simp only [List.foldl_cons]; rw [ih, List.length_set]
/-- what sectors hold behind steps -/
theorem sec_fold (a : Nat → Nat) (g : Nat → List Int) (ns : List Nat) (L : List (List Int)) (ha : ∀ i ∈ ns, a i < L.length) (j : Nat) (hj : ∀ i ∈ ns, a i ≠ j) : sec (ns.foldl (fun L i => L.set (a i) (g i)) L) j = sec L j := by
  induction ns generalizing L with
  | nil => rfl
  | cons i r ih =>
    simp only [List.foldl_cons]
    rw [ih (L.set (a i) (g i)) (fun i' hi' => by rw [List.length_set]; exact ha i' (by simp [hi'])) (fun i' hi' => hj i' (by simp [hi'])), sec_set (ha i (by simp)), if_neg (fun e => hj i (by simp) e.symm)]
/-- opening a disk whose journal tells a write does it once more -/
theorem rdo_jrn (fit : Fit sh c t b o k l) {L : List (List Int)} (hL : sh.at_ sh.C 0 ≤ L.length) {v : Nat} (hv : v ≤ 1000) (hy : Byt l) (hJ : sec L 0 = pgs c t b o k v 0 l 0) :
    ∃ L', rdo sh ⟨L, -1, false⟩ (sec L 0) = (⟨L', -1, false⟩, 0) ∧ L'.length = L.length ∧ sec L' 0 = [] ∧
      ∀ j, 0 < j → sec L' j = if j = 1 + k then pgs c t b o k v 0 l 1 else if j = sh.at_ c t then pgs c t b o k v 0 l 2 else sec L j := by
  obtain ⟨h1, h2⟩ := jrn (c := c) (t := t) (b := b) (o := o) (k := k) (v := v) (fit.nums hv) fit.h16
  obtain ⟨L', e1, e2⟩ := runs_free fit hL (f := -1) (by omega) hv (x := 0) (by omega) hy [1, 2, 3] (by simp)
  refine ⟨L', ?_, ?_, ?_, ?_⟩
  · unfold rdo
    rw [hJ, if_pos (pok_jrn (fit.nums hv) fit.h16 fit.z fit.k fit.c fit.t), h1 0 c rfl, h1 1 t rfl, h1 2 b rfl, h1 3 o rfl, h1 4 k rfl, h1 5 v rfl, h2]
    exact e1
  · rw [e2, len_fold]
  · rw [e2]
    simp only [List.foldl_cons, List.foldl_nil]
    have hw := fun i => wat_lt fit hL i
    rw [sec_set (by simp only [List.length_set]; exact hw 3)]
    rfl
  · intro j hj
    obtain ⟨n1, n2⟩ := at_ne fit
    have hw := fun i => wat_lt fit hL i
    rw [e2]
    simp only [List.foldl_cons, List.foldl_nil]
    rw [sec_set (by simp only [List.length_set]; exact hw 3), sec_set (by simp only [List.length_set]; exact hw 2), sec_set (hw 1)]
    simp only [wat]
    rw [if_neg (by omega)]
    by_cases h3 : j = 1 + k
    · rw [if_pos h3, if_pos h3, if_neg (by omega)]
    · rw [if_neg h3, if_neg h3]
theorem rdo_none {L : List (List Int)} {f : Int} {d : Bool} (h : ¬ pok sh (sec L 0)) : rdo sh ⟨L, f, d⟩ (sec L 0) = (⟨L, f, d⟩, 0) := if_neg h

/-- what opening finds behind a write that was cut off: X, or what came of it, Y; the two part -/
def Pend (sh : Sh) (L : List (List Int)) (X Y : RS) : Prop :=
  ∃ L', rdo sh ⟨L, -1, false⟩ (sec L 0) = (⟨L', -1, false⟩, 0) ∧ L'.length = L.length ∧ ¬ pok sh (sec L' 0) ∧
    ((Agr sh L' X ∧ ((∃ k, k < sh.B ∧ Y.V k ≠ X.V k) ∨ (∀ k, k < sh.B → Y.V k = X.V k ∧ Y.T k = X.T k) ∧ ∃ i, i < sh.S * sh.C ∧ (Y.P i ≠ X.P i ∨ Y.O i ≠ X.O i))) ∨ (Agr sh L' Y ∧ ∃ k, k < sh.B ∧ Y.V k ≠ X.V k))

theorem put_V {X : RS} {i : Nat} (h : X.V k ≠ 1000) : (X.put i b o k l).1.V k ≠ X.V k := by
  unfold RS.put
  rw [if_neg h]
  simp only [upd_self]
  omega
theorem put_K {X : RS} {i : Nat} : (X.put i b o k l).2 = if X.V k = 1000 then 11 else 0 := by
  unfold RS.put
  split <;> rfl
theorem age_pos {b o p q : Nat} (h : 0 < age b o p q) : p ≠ b ∨ q ≠ o := by
  unfold age orI cmpI at h
  by_cases e : p = b
  · right
    subst e
    intro e2
    subst e2
    simp at h
  · exact .inl e
/-- a newer write, on a disk with any fuse -/
theorem adr_any (fit : Fit sh c t b o k l) {L : List (List Int)} {X : RS} (hL : sh.at_ sh.C 0 ≤ L.length) (h : Agr sh L X) (hp : ¬ pok sh (sec L 0)) (hy : Byt l) (f : Int) (hage : 0 < age b o (X.P (sh.S * c + t)) (X.O (sh.S * c + t))) :
    (∃ L' f', adr sh ⟨L, f, false⟩ (X.V k) c t b o k l = ((St.mk L' f' false, (0 : Int)), (((X.put (sh.S * c + t) b o k l).2 : Nat) : Int)) ∧ L'.length = L.length ∧ ¬ pok sh (sec L' 0) ∧ Agr sh L' (X.put (sh.S * c + t) b o k l).1 ∧ (f < 0 → f' = f)) ∨
    (0 ≤ f ∧ ∃ L' f', adr sh ⟨L, f, false⟩ (X.V k) c t b o k l = ((St.mk L' f' true, 8), 0) ∧ L'.length = L.length ∧ Pend sh L' X (X.put (sh.S * c + t) b o k l).1) := by
  obtain ⟨hle, -⟩ := h.le fit.k
  obtain ⟨n1, n2⟩ := at_ne fit
  have hw := fun i => wat_lt fit hL i
  rw [put_K]
  by_cases hv : X.V k = 1000
  · rw [if_pos hv]
    unfold adr
    simp only [if_pos hv]
    have hs := pgs_short fit (v := 0) (x := 11) (by omega) (by omega) hy 2 (by omega)
    by_cases h0 : f = 0
    · right
      subst h0
      rw [runs_stop _ _ L 2 [] (hw 2) hs]
      refine ⟨by omega, L, 0, rfl, rfl, L, rdo_none hp, rfl, hp, .inl ⟨h, .inr ⟨?_, sh.S * c + t, fit.i, ?_⟩⟩⟩
      · intro j _
        unfold RS.put
        rw [if_pos hv]
        exact ⟨rfl, rfl⟩
      · unfold RS.put
        rw [if_pos hv]
        simp only [upd_self]
        rcases age_pos hage with e | e
        · exact .inl (Ne.symm e)
        · exact .inr (Ne.symm e)
    · left
      rw [runs_ok _ _ L f 2 [] h0 (hw 2) hs]
      refine ⟨_, _, rfl, by rw [List.length_set], ?_, h.last fit hv fun j hj => ?_, fun hf => if_neg (by omega)⟩
      · rw [sec_set (hw 2), if_neg (by simp only [wat]; omega)]
        exact hp
      · rw [sec_set (hw 2)]
        rfl
  · rw [if_neg hv]
    unfold adr
    simp only [if_neg hv]
    have hs := pgs_short fit (v := X.V k + 1) (x := 0) (by omega) (by omega) hy
    have hput := fun L' => h.put (L' := L') fit hv hle
    have hV : ∃ j, j < sh.B ∧ (X.put (sh.S * c + t) b o k l).1.V j ≠ X.V j := ⟨k, fit.k, put_V hv⟩
    -- whatever was written behind the journal
    have key : ∀ L', L'.length = L.length → sec L' 0 = pgs c t b o k (X.V k + 1) 0 l 0 → (∀ j, 0 < j → j ≠ 1 + k → j ≠ sh.at_ c t → sec L' j = sec L j) → Pend sh L' X (X.put (sh.S * c + t) b o k l).1 := by
      intro L' hl' hJ hr
      obtain ⟨L2, e1, e2, e3, e4⟩ := rdo_jrn fit (L := L') (by rw [hl']; exact hL) (v := X.V k + 1) (by omega) hy hJ
      refine ⟨L2, e1, e2, by rw [e3]; exact pok_nil sh, .inr ⟨hput L2 fun j hj => ?_, hV⟩⟩
      rw [e4 j hj]
      by_cases h1 : j = 1 + k
      · rw [if_pos h1, if_pos h1]
      · rw [if_neg h1, if_neg h1]
        by_cases h2 : j = sh.at_ c t
        · rw [if_pos h2, if_pos h2]
        · rw [if_neg h2, if_neg h2, hr j hj h1 h2]
    by_cases h0 : f = 0
    · right
      subst h0
      rw [runs_stop _ _ L 0 _ (hw 0) (hs 0 (by omega))]
      exact ⟨by omega, L, 0, rfl, rfl, L, rdo_none hp, rfl, hp, .inl ⟨h, .inl hV⟩⟩
    · rw [runs_ok _ _ L f 0 _ h0 (hw 0) (hs 0 (by omega))]
      have l0 := sec_set (hw 0) (pgs c t b o k (X.V k + 1) 0 l 0)
      generalize e0 : L.set (wat (1 + k) (sh.at_ c t) 0) (pgs c t b o k (X.V k + 1) 0 l 0) = L0 at *
      have z0 : L0.length = L.length := by rw [← e0, List.length_set]
      have w0 : ∀ i, wat (1 + k) (sh.at_ c t) i < L0.length := fun i => by rw [z0]; exact hw i
      have m0 : sec L0 0 = pgs c t b o k (X.V k + 1) 0 l 0 := by rw [l0]; rfl
      have r0 : ∀ j, 0 < j → sec L0 j = sec L j := fun j hj => by rw [l0, if_neg (by simp only [wat]; omega)]
      generalize e1f : (if 0 < f then f - 1 else f) = f1
      have hneg1 : f < 0 → f1 = f := fun hf => by rw [← e1f, if_neg (by omega)]
      have hpos1 : f1 = 0 → 0 ≤ f := fun hf => by
        by_cases h : 0 < f
        · omega
        · rw [if_neg h] at e1f; omega
      by_cases h1 : f1 = 0
      · right
        subst h1
        rw [runs_stop _ _ L0 1 _ (w0 1) (hs 1 (by omega))]
        exact ⟨hpos1 rfl, L0, 0, rfl, z0, key L0 z0 m0 fun j hj _ _ => r0 j hj⟩
      · rw [runs_ok _ _ L0 f1 1 _ h1 (w0 1) (hs 1 (by omega))]
        have l1 : ∀ j, sec (L0.set (wat (1 + k) (sh.at_ c t) 1) (pgs c t b o k (X.V k + 1) 0 l 1)) j = if j = 1 + k then pgs c t b o k (X.V k + 1) 0 l 1 else sec L0 j := fun j => sec_set (w0 1) _ j
        generalize e1 : L0.set (wat (1 + k) (sh.at_ c t) 1) (pgs c t b o k (X.V k + 1) 0 l 1) = L1 at *
        have z1 : L1.length = L.length := by rw [← e1, List.length_set, z0]
        have w1 : ∀ i, wat (1 + k) (sh.at_ c t) i < L1.length := fun i => by rw [z1]; exact hw i
        have m1 : sec L1 0 = pgs c t b o k (X.V k + 1) 0 l 0 := by rw [l1, if_neg (by omega), m0]
        generalize e2f : (if 0 < f1 then f1 - 1 else f1) = f2
        have hneg2 : f1 < 0 → f2 = f1 := fun hf => by rw [← e2f, if_neg (by omega)]
        have hpos2 : f2 = 0 → 0 ≤ f := fun hf => by
          by_cases h : f < 0
          · have := hneg1 h; have := hneg2 (by omega); omega
          · omega
        by_cases h2 : f2 = 0
        · right
          subst h2
          rw [runs_stop _ _ L1 2 _ (w1 2) (hs 2 (by omega))]
          exact ⟨hpos2 rfl, L1, 0, rfl, z1, key L1 z1 m1 fun j hj j1 _ => by rw [l1, if_neg j1, r0 j hj]⟩
        · rw [runs_ok _ _ L1 f2 2 _ h2 (w1 2) (hs 2 (by omega))]
          have l2 : ∀ j, sec (L1.set (wat (1 + k) (sh.at_ c t) 2) (pgs c t b o k (X.V k + 1) 0 l 2)) j = if j = sh.at_ c t then pgs c t b o k (X.V k + 1) 0 l 2 else sec L1 j := fun j => sec_set (w1 2) _ j
          generalize e2 : L1.set (wat (1 + k) (sh.at_ c t) 2) (pgs c t b o k (X.V k + 1) 0 l 2) = L2 at *
          have z2 : L2.length = L.length := by rw [← e2, List.length_set, z1]
          have w2 : ∀ i, wat (1 + k) (sh.at_ c t) i < L2.length := fun i => by rw [z2]; exact hw i
          have m2 : sec L2 0 = pgs c t b o k (X.V k + 1) 0 l 0 := by rw [l2, if_neg (by omega), m1]
          generalize e3f : (if 0 < f2 then f2 - 1 else f2) = f3
          have hneg3 : f < 0 → f3 = f := fun hf => by
            have a1 := hneg1 hf
            have a2 := hneg2 (by omega)
            rw [← e3f, if_neg (by omega)]
            omega
          by_cases h3 : f3 = 0
          · right
            subst h3
            rw [runs_stop _ _ L2 3 _ (w2 3) (hs 3 (by omega))]
            exact ⟨Classical.byContradiction fun hf => by have := hneg3 (by omega); omega, L2, 0, rfl, z2, key L2 z2 m2 fun j hj j1 j2 => by rw [l2, if_neg j2, l1, if_neg j1, r0 j hj]⟩
          · left
            rw [runs_ok _ _ L2 f3 3 _ h3 (w2 3) (hs 3 (by omega))]
            refine ⟨_, _, rfl, by rw [List.length_set, z2], ?_, hput _ fun j hj => ?_, fun hf => ?_⟩
            · rw [sec_set (w2 3)]
              exact pok_nil sh
            · rw [sec_set (w2 3), if_neg (by simp only [wat]; omega), l2]
              by_cases j1 : j = 1 + k
              · rw [if_pos j1, if_neg (by omega), l1, if_pos j1]
              · rw [if_neg j1]
                by_cases j2 : j = sh.at_ c t
                · rw [if_pos j2, if_pos j2]
                · rw [if_neg j2, if_neg j2, l1, if_neg j1, r0 j hj]
            · rw [if_neg (by have := hneg3 hf; omega)]
              exact hneg3 hf
theorem adr_down (fit : Fit sh c t b o k l) (L : List (List Int)) (f : Int) (v : Nat) : adr sh ⟨L, f, true⟩ v c t b o k l = ((⟨L, f, true⟩, 8), 0) := by
  have _ := fit
  unfold adr
  by_cases hv : v = 1000
  · simp only [if_pos hv, runs_down]; rfl
  · simp only [if_neg hv, runs_down]; rfl
end

section
variable {sh : Sh}
/-- a write, on a disk with any fuse -/
theorem dwr_any (ok : sh.ok) {L : List (List Int)} {X : RS} (hL : sh.at_ sh.C 0 ≤ L.length) (h : Agr sh L X) (hp : ¬ pok sh (sec L 0)) (x : Wr) (hy : Byt x.l) (f : Int) :
    (∃ L' f', dwr sh ⟨L, f, false⟩ x = (⟨L', f', false⟩, (rwr sh X x).2) ∧ L'.length = L.length ∧ ¬ pok sh (sec L' 0) ∧ Agr sh L' (rwr sh X x).1 ∧ (f < 0 → f' = f)) ∨
    (0 ≤ f ∧ ∃ L' f', dwr sh ⟨L, f, false⟩ x = (⟨L', f', true⟩, 0, 8) ∧ L'.length = L.length ∧ Pend sh L' X (rwr sh X x).1) := by
  unfold dwr rwr
  by_cases hw : x.wrong sh = 0
  · have fit := x.fit ok hw
    obtain ⟨_, _, _, hb, ho⟩ := x.fits sh hw
    have e1 : slt (sec L (sh.at_ x.c.toNat x.s.toNat)) = (X.P (x.i sh), X.O (x.i sh), X.K (x.i sh)) := by rw [at_eq]; exact h.s _ fit.i
    have e2 : blk sh.Z (sec L (1 + x.k.toNat)) = (X.V x.k.toNat, X.T x.k.toNat) := h.b _ fit.k
    simp only [if_pos hw, e1, e2]
    by_cases h1 : age x.b x.o (X.P (x.i sh)) (X.O (x.i sh)) < 0
    · rw [if_pos h1, if_pos h1]
      exact .inl ⟨L, f, rfl, rfl, hp, h, fun _ => rfl⟩
    · rw [if_neg h1, if_neg h1]
      by_cases h2 : age x.b x.o (X.P (x.i sh)) (X.O (x.i sh)) = 0
      · rw [if_pos h2, if_pos h2]
        exact .inl ⟨L, f, rfl, rfl, hp, h, fun _ => rfl⟩
      · rw [if_neg h2, if_neg h2]
        have hage : 0 < age (x.b.toNat : Nat) (x.o.toNat : Nat) (X.P (x.i sh)) (X.O (x.i sh)) := by
          rw [show ((x.b.toNat : Nat) : Int) = x.b by omega, show ((x.o.toNat : Nat) : Int) = x.o by omega]
          omega
        rcases adr_any fit hL h hp hy f hage with ⟨L', f', a1, a2, a3, a4, a5⟩ | ⟨a0, L', f', a1, a2, a3⟩
        · left
          rw [a1]
          exact ⟨L', f', rfl, a2, a3, a4, a5⟩
        · right
          rw [a1]
          exact ⟨a0, L', f', rfl, a2, a3⟩
  · simp only [if_neg hw]
    exact .inl ⟨L, f, rfl, rfl, hp, h, fun _ => rfl⟩
theorem dwr_free (ok : sh.ok) {L : List (List Int)} {X : RS} (hL : sh.at_ sh.C 0 ≤ L.length) (h : Agr sh L X) (hp : ¬ pok sh (sec L 0)) (x : Wr) (hy : Byt x.l) :
    ∃ L', dwr sh ⟨L, -1, false⟩ x = (⟨L', -1, false⟩, (rwr sh X x).2) ∧ L'.length = L.length ∧ ¬ pok sh (sec L' 0) ∧ Agr sh L' (rwr sh X x).1 := by
  rcases dwr_any ok hL h hp x hy (-1) with ⟨L', f', a1, a2, a3, a4, a5⟩ | ⟨a0, _⟩
  · rw [a5 (by omega)] at a1
    exact ⟨L', a1, a2, a3, a4⟩
  · omega
theorem dwr_down (ok : sh.ok) (L : List (List Int)) (f : Int) (x : Wr) : (dwr sh ⟨L, f, true⟩ x).1 = ⟨L, f, true⟩ := by
  unfold dwr
  by_cases hw : x.wrong sh = 0
  · have fit := x.fit ok hw
    simp only [if_pos hw]
    split
    · rfl
    · split
      · rfl
      · rw [adr_down fit]
  · rw [if_neg hw]
theorem rwr_e (sh : Sh) (X : RS) (x : Wr) : (rwr sh X x).2.2 ≠ 8 := by
  unfold rwr
  split
  · split
    · simp
    · split <;> simp
  · rename_i h
    show ((x.wrong sh : Nat) : Int) ≠ 8
    unfold Wr.wrong at *
    split at h
    · rename_i h1; rw [if_pos h1]; omega
    · split at h
      · rename_i h1 h2; rw [if_neg h1, if_pos h2]; omega
      · split at h
        · rename_i h1 h2 h3; rw [if_neg h1, if_neg h2, if_pos h3]; omega
        · exact absurd rfl h
end
end Go.Proofs.Ytincndblpbdnlaa
