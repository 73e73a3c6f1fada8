/-
  What is proved: an array of a law, over a disk that stays up: what it hears, what the law reads of it. No condition.
-/
import Derived.Test.YtbcejfonkehjgaaGreatDoorP48
import Derived.Test.YtbcejfonkehjgaaGreatDoorK38
namespace Go.Proofs.YtbcejfonkehjgaaGreatDoor
open Go.RowKit

section
variable {b0 : Nat} {w0 w w' : World} {K : AC} {st : St} {L : List (List Int)} {X Y : RS} {o : Ob} {D : Int → List Int} {B : Nat} {r f : Int} {d dn : Bool} {r0 : Nat} {cc : Array Value}
theorem fine_len (h : Am w K st o D B r dn) (hF : Fine (shC K.c) L X) (b : Int) (h0 : 0 ≤ b) (h2 : b < K.c 2) : ((X.T b.toNat).length : Int) = K.c 3 := by
  have h1 := hF.agr.b b.toNat (by show b.toNat < (K.c 2).toNat; omega)
  have h3 := (blk_len (shC K.c).Z (sec L (1 + b.toNat))).1
  rw [h1] at h3
  have h4 : (1 : Int) ≤ K.c 3 ∧ K.c 3 ≤ 16 := h.cm.rt.1 3 (by omega)
  have h5 : (X.T b.toNat).length = (K.c 3).toNat := h3
  omega
theorem Am.len16 (h : Am w K st o D B r dn) : o.all.length ≤ 16 := by
  have h1 : ((o.all.length : Nat) : Int) ≤ K.c 11 := h.cm.cap
  have h2 : K.c 11 ≤ 16 := (h.cm.rt.1 11 (by omega)).2
  omega
theorem TmAt.mono {Xs : Nat → Prop} {a : Addr} {t : Tm} {u : Value} (h : TmAt w Xs a t u) (hb : Below w.heap.size w w') : TmAt w' Xs a t u :=
  ⟨Nat.lt_of_lt_of_le h.lt hb.size, fun j hj => (hb.cell (p := a.add j) (by rw [addBlk]; exact h.lt)).trans (h.c j hj), h.y.below hb⟩
theorem WrE.chg {p : S18 × List Tm} {e : Ending} (h : WrE w K L f X Y o D B r p e w') : Chg w w' K.mine K.mine := by
  obtain ⟨_, _, _, _, h2, _⟩ := h
  exact h2
structure Lv18 (b0 : Nat) (w0 w : World) (K : AC) (r0 : Nat) (cc : Array Value) (L : List (List Int)) (X : RS) (o : Ob) (D : Int → List Int) (B : Nat) (r : Int) : Prop where
  am : Am w K ⟨L, -1, false⟩ o D B r false
  fine : Fine (shC K.c) L X
  bel : Below w0.heap.size w0 w
  cb : Bx w r0 25 cc
  dz : ∀ x, x ∈ o.all → ((D x).length : Int) = K.c 3
  rr : 0 ≤ r ∧ r ≤ B
  lo : ∀ j, K.mine j → w0.heap.size ≤ j
  lt : r0 < w0.heap.size
  xlo : ∀ j, K.X j → b0 ≤ j
theorem Lv18.below (h : Lv18 b0 w0 w K r0 cc L X o D B r) (hb : Below w.heap.size w w') : Lv18 b0 w0 w' K r0 cc L X o D B r := { h with am := h.am.below hb, bel := on h.bel hb, cb := h.cb.next hb }
theorem Lv18.hear {m : Tm} {e : Ending} (h : Lv18 b0 w0 w K r0 cc L X o D B r) (hq : WrE w K L (-1) X Y o D B r (hearF K.c ⟨X, o, D, r⟩ m) e w') :
    ∃ u L', e = .returned u ∧ Lv18 b0 w0 w' K r0 cc L' (hearF K.c ⟨X, o, D, r⟩ m).1.X (hearF K.c ⟨X, o, D, r⟩ m).1.o (hearF K.c ⟨X, o, D, r⟩ m).1.D (B + 2) (hearF K.c ⟨X, o, D, r⟩ m).1.r ∧ Tlv w' w.heap.size K.X u (hearF K.c ⟨X, o, D, r⟩ m).2 ∧
      (∀ t, t ∈ (hearF K.c ⟨X, o, D, r⟩ m).2 → Bt18 K.c (hearF K.c ⟨X, o, D, r⟩ m).1.o (m.c 6) t) := by
  obtain ⟨u, L', f', h1, h2, h3⟩ := hq
  rcases h3 with ⟨h3, h4, h5, h6⟩ | h3
  · obtain ⟨b1, b2, b3, b4⟩ := hear_bound (r := r) h.am.o18 (fun b => fine_len h.am h.fine b) h.dz m
    have e5 := h5 (by omega)
    subst e5
    have := h.rr
    exact ⟨u, L', h1, { am := h3, fine := h4, bel := h.bel.trans (h2.bel h.bel.size h.lo), cb := h2.bx h.cb fun hj => by have h7 := h.lo _ hj; have h8 := h.lt; omega, dz := b1, rr := by omega, lo := h.lo, lt := h.lt, xlo := h.xlo }, h6, b2⟩
  · exact absurd h3.1 (by omega)
theorem lv_new {c : Nat → Int} {n : Nat} {hh : Nat → Hn} (ha : Am w K ⟨List.replicate 64 [], -1, false⟩ (Ob.new c hh n 3) (fun _ => []) 0 0 false) (hc : K.c = c) (rt : RightP c hh n) (hb : Below w0.heap.size w0 w) (hx : Bx w r0 25 cc) (ho : ∀ j, K.mine j → w0.heap.size ≤ j) (hxm : ∀ j, K.X j → b0 ≤ j) (hl : r0 < w0.heap.size) :
    Lv18 b0 w0 w K r0 cc (List.replicate 64 []) (RS.zero (shC c).Z) (Ob.new c hh n 3) (fun _ => []) 0 0 := by
  obtain ⟨-, -, -, -, ok⟩ := rt_nat rt
  exact { am := ha, fine := by rw [hc]; exact fine_new ok, bel := hb, cb := hx, dz := fun x h => by rw [Ob.new_all] at h; cases h
          rr := ⟨by omega, by omega⟩, lo := ho, lt := hl, xlo := hxm }
theorem ablocks_rv (h : Am w K st o D B r dn) : Calls Tryz.prog 19 #[K.ptr] w fun e w' => ∃ A c, e = .returned (.slice A o.all.length c) ∧ Rv w' w'.heap.size A (ints o.all) ∧ Below w.heap.size w w' ∧ ∀ ad, A = some ad → w.heap.size ≤ ad.block := by
  refine (ablocks_any h).mono fun e w' ⟨A, c, h1, h2, h3⟩ => ?_
  obtain ⟨A', c', e', hr, _⟩ := OwnW.read h2
  injection e' with e1 e2 e3
  subst e1
  exact ⟨A, c, h1, hr, h3.nilBelow, fun ad ea => by
    have h4 := h3.at_
    rw [ea] at h4
    rcases h4 with h4 | h4
    · simp [Value.ownBlock] at h4
    · exact (h4 ad.block rfl).1⟩
end
end Go.Proofs.YtbcejfonkehjgaaGreatDoor
namespace Go.Proofs.YtbcejfonkehjgaaGreatDoor
open Go.RowKit

theorem age_self (b o : Int) (p q : Nat) (h1 : b = p) (h2 : o = q) : age b o p q = 0 := by
  subst h1 h2
  unfold age orI cmpI6
  simp
theorem age_zero {b o : Int} {p q : Nat} (h : age b o p q = 0) : b = p ∧ o = q := by
  unfold age orI cmpI6 at h
  rcases Int.lt_trichotomy b p with h1 | h1 | h1
  · simp [h1] at h
  · refine ⟨h1, ?_⟩
    subst h1
    rcases Int.lt_trichotomy o q with h2 | h2 | h2
    · simp [h2] at h
    · exact h2
    · simp [h2, Int.not_lt.2 (Int.le_of_lt h2)] at h
  · simp [h1, Int.not_lt.2 (Int.le_of_lt h1)] at h
theorem rwr_done {sh : Sh} {X : RS} {x : Wr} (h : (rwr sh X x).2.2 = 0) : x.wrong sh = 0 ∧ x.b = ((rwr sh X x).1.P (x.i sh) : Nat) ∧ x.o = ((rwr sh X x).1.O (x.i sh) : Nat) ∧ (rwr sh X x).2.1 = ((rwr sh X x).1.K (x.i sh) : Nat) := by
  unfold rwr at h ⊢
  by_cases hw : x.wrong sh = 0
  · obtain ⟨_, _, _, hb, ho⟩ := x.fits sh hw
    simp only [if_pos hw] at h ⊢
    by_cases h1 : age x.b x.o (X.P (x.i sh)) (X.O (x.i sh)) < 0
    · simp only [if_pos h1] at h
      omega
    · simp only [if_neg h1] at h ⊢
      by_cases h2 : age x.b x.o (X.P (x.i sh)) (X.O (x.i sh)) = 0
      · simp only [if_pos h2] at h ⊢
        obtain ⟨e1, e2⟩ := age_zero h2
        exact ⟨hw, e1, e2, trivial⟩
      · simp only [if_neg h2] at h ⊢
        unfold RS.put
        by_cases hv : X.V x.k.toNat = 1000
        · simp only [if_pos hv, upd_self]
          exact ⟨hw, by omega, by omega, trivial⟩
        · simp only [if_neg hv, upd_self]
          exact ⟨hw, by omega, by omega, trivial⟩
  · simp only [if_neg hw] at h
    omega
theorem rwr_again {sh : Sh} {X : RS} {x : Wr} (h : (rwr sh X x).2.2 = 0) : rwr sh (rwr sh X x).1 x = ((rwr sh X x).1, (rwr sh X x).2.1, 0) := by
  obtain ⟨hw, h1, h2, h3⟩ := rwr_done h
  generalize (rwr sh X x).1 = Y at *
  generalize (rwr sh X x).2.1 = c at *
  subst h3
  unfold rwr
  rw [if_pos hw, age_self _ _ _ _ h1 h2, if_neg (by omega), if_pos rfl]
end Go.Proofs.YtbcejfonkehjgaaGreatDoor
namespace Go.Proofs.YtbcejfonkehjgaaGreatDoor
open Go.RowKit

theorem rwr_grant {sh : Sh} {X : RS} {x : Wr} {q : Nat} (h0 : (rwr sh X x).2.2 = 0) (h : (rwr sh X x).1.V q ≠ X.V q) : (rwr sh X x).2.1 = 0 := by
  unfold rwr at h0 h ⊢
  by_cases hw : x.wrong sh = 0
  · rw [if_pos hw] at h0 h ⊢
    by_cases h1 : age x.b x.o (X.P (x.i sh)) (X.O (x.i sh)) < 0
    · rw [if_pos h1] at h0; cases h0
    · rw [if_neg h1] at h0 h ⊢
      by_cases h2 : age x.b x.o (X.P (x.i sh)) (X.O (x.i sh)) = 0
      · rw [if_pos h2] at h; exact absurd rfl h
      · rw [if_neg h2] at h ⊢
        unfold RS.put at h ⊢
        by_cases hv : X.V x.k.toNat = 1000
        · rw [if_pos hv] at h; exact absurd rfl h
        · rw [if_neg hv]; rfl
  · rw [if_neg hw] at h; exact absurd rfl h
section
variable {c : Nat → Int} {s : S18} {m : Tm}
theorem hear_w (h9 : m.c 0 = 9) (hR : dec (RightM m.c m.gr m.l.length) = true) (s : S18) : hearF c s m = hrW c s m := by
  unfold hearF
  rw [if_neg (by rw [hR]; decide), if_neg (by omega), if_pos h9]
theorem hrW_again {s' : S18} (hne : ¬ (rwr (shC c) s'.X (wrX m)).2.2 = 12) (hX : (rwr (shC c) s'.X (wrX m)).1 = s'.X) : hrW c s' m = (⟨s'.X, s'.o, s'.D, s'.r⟩, [tmW m.c (wrZ c s' m) false]) := by
  unfold hrW
  rw [if_neg hne, hX, if_pos rfl]
theorem once_book (h9 : m.c 0 = 9) (t : Tm) (ht : (hearF c s m).2.getLast? = some t) :
    (hearF c (hearF c s m).1 m).2 = [tmW m.c (t.c 8) false] ∧ (hearF c (hearF c s m).1 m).1.o = (hearF c s m).1.o ∧ vrs c m (hearF c (hearF c s m).1 m).1.X = vrs c m (hearF c s m).1.X ∧ (t.gr = true → t.c 8 = 0) := by
  cases hR : dec (RightM m.c m.gr m.l.length) with
  | false =>
    have e : hearF c s m = (s, []) := by unfold hearF; rw [if_pos hR]
    rw [e] at ht
    cases ht
  | true =>
    rw [hear_w h9 hR s] at ht ⊢
    rw [hear_w h9 hR]
    by_cases h12 : (rwr (shC c) s.X (wrX m)).2.2 = 12
    · have e : hrW c s m = (⟨(rwr (shC c) s.X (wrX m)).1, s.o, s.D, s.r⟩, []) := by unfold hrW; rw [if_pos h12]
      rw [e] at ht
      cases ht
    · have key : (hrW c s m).1.X = (rwr (shC c) s.X (wrX m)).1 ∧ t.c 8 = wrZ c s m ∧ (t.gr = true → vrs c m (rwr (shC c) s.X (wrX m)).1 ≠ vrs c m s.X) := by
        unfold hrW at ht ⊢
        rw [if_neg h12] at ht ⊢
        by_cases hv : vrs c m (rwr (shC c) s.X (wrX m)).1 = vrs c m s.X
        · rw [if_pos hv] at ht ⊢
          simp only [List.getLast?_singleton, Option.some.injEq] at ht
          subst ht
          exact ⟨rfl, rfl, fun h => by cases h⟩
        · rw [if_neg hv] at ht ⊢
          simp only [List.getLast?_append, List.getLast?_singleton, Option.some_or, Option.some.injEq] at ht
          subst ht
          exact ⟨rfl, rfl, fun _ => hv⟩
      obtain ⟨k1, k2, k3⟩ := key
      have again : (rwr (shC c) (rwr (shC c) s.X (wrX m)).1 (wrX m)).1 = (rwr (shC c) s.X (wrX m)).1 ∧ (rwr (shC c) (rwr (shC c) s.X (wrX m)).1 (wrX m)).2 = (rwr (shC c) s.X (wrX m)).2 := by
        by_cases h0 : (rwr (shC c) s.X (wrX m)).2.2 = 0
        · rw [rwr_again h0]
          refine ⟨rfl, ?_⟩
          exact Prod.ext rfl h0.symm
        · have h1 := (rwr_err h0).2
          rw [h1]
          exact ⟨h1, rfl⟩
      have hz : wrZ c (hrW c s m).1 m = wrZ c s m := by
        unfold wrZ
        rw [k1, again.2]
      have hg : t.gr = true → t.c 8 = 0 := fun h => by
        have hv := k3 h
        have h0 : (rwr (shC c) s.X (wrX m)).2.2 = 0 := by
          by_cases h0 : (rwr (shC c) s.X (wrX m)).2.2 = 0
          · exact h0
          · rw [(rwr_err h0).2] at hv
            exact absurd rfl hv
        rw [k2]
        unfold wrZ
        rw [if_pos h0]
        refine rwr_grant (q := (m.c 5).toNat) h0 fun e => hv ?_
        unfold vrs
        split
        · rw [e]
        · rfl
      have e2 := hrW_again (c := c) (m := m) (s' := (hrW c s m).1) (by rw [k1, again.2]; exact h12) (by rw [k1]; exact again.1)
      rw [e2, hz, k2]
      exact ⟨rfl, rfl, rfl, fun h => by rw [← k2]; exact hg h⟩
end
end Go.Proofs.YtbcejfonkehjgaaGreatDoor
