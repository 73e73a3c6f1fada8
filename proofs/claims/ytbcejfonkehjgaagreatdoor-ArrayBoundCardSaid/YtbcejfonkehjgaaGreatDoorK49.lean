/-
  What is proved: an array of a law, over a disk that stays up: what it hears, what the law reads of it. No condition.
-/
import Derived.Test.YtbcejfonkehjgaaGreatDoorK48
namespace Go.Proofs.YtbcejfonkehjgaaGreatDoor
open Go.RowKit

section
variable {b0 : Nat} {w0 w w' : World} {K : AC} {st : St} {L : List (List Int)} {X Y : RS} {o : Ob} {D : Int → List Int} {B : Nat} {r f : Int} {d dn : Bool} {r0 : Nat} {cc : Array Value}
theorem fine_len (h : Am w K st o D B r dn) (hF : Fine (shC K.c) L X) (b : Int) (h0 : 0 ≤ b) (h2 : b < K.c 2) : ((X.T b.toNat).length : Int) = K.c 3 := by
  have h1 := hF.agr.b b.toNat (by show b.toNat < (K.c 2).toNat; omega)
  have h3 := (blk_len (shC K.c).Z (sec L (1 + b.toNat))).1
  rw [h1] at h3
  have h4 : (1 : Int) ≤ K.c 3 ∧ K.c 3 ≤ 16 := h.cm.rt.1 3 (by omega)
  have h5 : (X.T b.toNat).length = (K.c 3).toNat := h3
  omega
theorem Am.len16 (h : Am w K st o D B r dn) : o.all.length ≤ 16 := by
  have h1 : ((o.all.length : Nat) : Int) ≤ K.c 11 := h.cm.cap
  have h2 : K.c 11 ≤ 16 := (h.cm.rt.1 11 (by omega)).2
  omega
theorem TmAt.mono {Xs : Nat → Prop} {a : Addr} {t : Tm} {u : Value} (h : TmAt w Xs a t u) (hb : Below w.heap.size w w') : TmAt w' Xs a t u :=
  ⟨Nat.lt_of_lt_of_le h.lt hb.size, fun j hj => (hb.cell (p := a.add j) (by rw [addBlk]; exact h.lt)).trans (h.c j hj), h.y.below hb⟩
theorem WrE.chg {p : S18 × List Tm} {e : Ending} (h : WrE w K L f X Y o D B r p e w') : Chg w w' K.mine K.mine := by
  obtain ⟨_, _, _, _, h2, _⟩ := h
  exact h2
structure Lv18 (b0 : Nat) (w0 w : World) (K : AC) (r0 : Nat) (cc : Array Value) (L : List (List Int)) (X : RS) (o : Ob) (D : Int → List Int) (B : Nat) (r : Int) : Prop where
  am : Am w K ⟨L, -1, false⟩ o D B r false
  fine : Fine (shC K.c) L X
  bel : Below w0.heap.size w0 w
  cb : Bx w r0 25 cc
  dz : ∀ x, x ∈ o.all → ((D x).length : Int) = K.c 3
  rr : 0 ≤ r ∧ r ≤ B
  lo : ∀ j, K.mine j → w0.heap.size ≤ j
  lt : r0 < w0.heap.size
  xlo : ∀ j, K.X j → b0 ≤ j
theorem Lv18.below (h : Lv18 b0 w0 w K r0 cc L X o D B r) (hb : Below w.heap.size w w') : Lv18 b0 w0 w' K r0 cc L X o D B r := { h with am := h.am.below hb, bel := on h.bel hb, cb := h.cb.next hb }
theorem Lv18.hear {m : Tm} {e : Ending} (h : Lv18 b0 w0 w K r0 cc L X o D B r) (hq : WrE w K L (-1) X Y o D B r (hearF K.c ⟨X, o, D, r⟩ m) e w') :
    ∃ u L', e = .returned u ∧ Lv18 b0 w0 w' K r0 cc L' (hearF K.c ⟨X, o, D, r⟩ m).1.X (hearF K.c ⟨X, o, D, r⟩ m).1.o (hearF K.c ⟨X, o, D, r⟩ m).1.D (B + 2) (hearF K.c ⟨X, o, D, r⟩ m).1.r ∧ Tlv w' w.heap.size K.X u (hearF K.c ⟨X, o, D, r⟩ m).2 ∧
      (∀ t, t ∈ (hearF K.c ⟨X, o, D, r⟩ m).2 → Bt18 K.c (hearF K.c ⟨X, o, D, r⟩ m).1.o (m.c 6) t) := by
  obtain ⟨u, L', f', h1, h2, h3⟩ := hq
  rcases h3 with ⟨h3, h4, h5, h6⟩ | h3
  · obtain ⟨b1, b2, b3, b4⟩ := hear_bound (r := r) h.am.o18 (fun b => fine_len h.am h.fine b) h.dz m
    have e5 := h5 (by omega)
    subst e5
    have := h.rr
    exact ⟨u, L', h1, { am := h3, fine := h4, bel := h.bel.trans (h2.bel h.bel.size h.lo), cb := h2.bx h.cb fun hj => by have h7 := h.lo _ hj; have h8 := h.lt; omega, dz := b1, rr := by omega, lo := h.lo, lt := h.lt, xlo := h.xlo }, h6, b2⟩
  · exact absurd h3.1 (by omega)
theorem lv_new {c : Nat → Int} {n : Nat} {hh : Nat → Hn} (ha : Am w K ⟨List.replicate 64 [], -1, false⟩ (Ob.new c hh n 3) (fun _ => []) 0 0 false) (hc : K.c = c) (rt : RightP c hh n) (hb : Below w0.heap.size w0 w) (hx : Bx w r0 25 cc) (ho : ∀ j, K.mine j → w0.heap.size ≤ j) (hxm : ∀ j, K.X j → b0 ≤ j) (hl : r0 < w0.heap.size) :
    Lv18 b0 w0 w K r0 cc (List.replicate 64 []) (RS.zero (shC c).Z) (Ob.new c hh n 3) (fun _ => []) 0 0 := by
  obtain ⟨-, -, -, -, ok⟩ := rt_nat rt
  exact { am := ha, fine := by rw [hc]; exact fine_new ok, bel := hb, cb := hx, dz := fun x h => by rw [Ob.new_all] at h; cases h
          rr := ⟨by omega, by omega⟩, lo := ho, lt := hl, xlo := hxm }
theorem ablocks_rv (h : Am w K st o D B r dn) : Calls Tryz.prog 19 #[K.ptr] w fun e w' => ∃ A c, e = .returned (.slice A o.all.length c) ∧ Rv w' w'.heap.size A (ints o.all) ∧ Below w.heap.size w w' ∧ ∀ ad, A = some ad → w.heap.size ≤ ad.block := by
  refine (ablocks_any h).mono fun e w' ⟨A, c, h1, h2, h3⟩ => ?_
  obtain ⟨A', c', e', hr, _⟩ := OwnW.read h2
  injection e' with e1 e2 e3
  subst e1
  exact ⟨A, c, h1, hr, h3.nilBelow, fun ad ea => by
    have h4 := h3.at_
    rw [ea] at h4
    rcases h4 with h4 | h4
    · simp [Value.ownBlock] at h4
    · exact (h4 ad.block rfl).1⟩
end
end Go.Proofs.YtbcejfonkehjgaaGreatDoor
