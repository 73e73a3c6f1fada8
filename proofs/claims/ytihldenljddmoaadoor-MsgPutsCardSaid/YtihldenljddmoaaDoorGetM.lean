/-
  What is proved: msg's Get over a message's bytes answers it; over what is cut off of them the error that they end within; over a byte more the error that it isn't formed so; it writes new memory alone. Conditions: the message is right; the table of the kinds' fields lies where the program lays it.
-/
import Derived.Test.YtihldenljddmoaaDoorPGetT
import Derived.Deep.DeepCutAuto
import Derived.Deep.CutBlock
namespace Go.Proofs.YtihldenljddmoaaDoor
open Go.RowKit

/-- the numbers that are set when these fields are -/
def cs (k : Int) (c : Nat → Int) (l : List Nat) : Nat → Int := fun i => if i = 0 then k else if i ∈ l then c i else 0
def gs (gr : Bool) (l : List Nat) : Bool := decide (9 ∈ l) && gr
theorem cs_next (k : Int) (c : Nat → Int) (l : List Nat) (f : Nat) (h : 1 ≤ f) : (fun i => if i = f then c f else cs k c l i) = cs k c (l ++ [f]) := by
  funext i
  unfold cs
  by_cases e : i = f
  · subst e
    rw [if_pos rfl, if_neg (by omega), if_pos (by simp)]
  · rw [if_neg e]
    by_cases h0 : i = 0
    · rw [if_pos h0, if_pos h0]
    · rw [if_neg h0, if_neg h0]
      by_cases hm : i ∈ l
      · rw [if_pos hm, if_pos (by simp [hm])]
      · rw [if_neg hm, if_neg (by simp [hm, e])]
theorem cs_other (k : Int) (c : Nat → Int) (l : List Nat) (f : Nat) (h : 9 ≤ f) (A : Option Addr) (g : Bool) (n cp : Nat) : msgC (cs k c (l ++ [f])) g A n cp = msgC (cs k c l) g A n cp := by
  have e : ∀ i, i ≤ 8 → cs k c (l ++ [f]) i = cs k c l i := fun i hi => by
    unfold cs
    by_cases h0 : i = 0
    · rw [if_pos h0, if_pos h0]
    · rw [if_neg h0, if_neg h0]
      by_cases hm : i ∈ l
      · rw [if_pos hm, if_pos (by simp [hm])]
      · rw [if_neg hm, if_neg (by simp [hm]; omega)]
  unfold msgC
  rw [e 0 (by omega), e 1 (by omega), e 2 (by omega), e 3 (by omega), e 4 (by omega), e 5 (by omega), e 6 (by omega), e 7 (by omega), e 8 (by omega)]
theorem gs_next (gr : Bool) (l : List Nat) (f : Nat) (h : f ≠ 9) : gs gr (l ++ [f]) = gs gr l := by
  unfold gs
  congr 1
  rw [decide_eq_decide]
  simp [h.symm]
theorem gs_nine (gr : Bool) (l : List Nat) : gs gr (l ++ [9]) = gr := by unfold gs; simp
theorem fl_fresh (k q : Nat) (hk : k ≤ 14) (h : q < (fl (mk k) 1).length) : (fl (mk k) 1)[q]'h ∉ (fl (mk k) 1).take q := by
  have key : ∀ k : Fin 15, ∀ q : Fin 11, ((fl (mk k.val) 1)[q.val]?.all fun f => !((fl (mk k.val) 1).take q.val).contains f) = true := by decide
  have h10 := fl_len10 (mk k)
  have := key ⟨k, by omega⟩ ⟨q, by omega⟩
  rw [List.getElem?_eq_getElem h] at this
  simpa using this
theorem right_zero {c : Nat → Int} {gr : Bool} {n f : Nat} (hy : RightM c gr n) (h1 : 1 ≤ f) (h2 : f ≤ 10) (h : f ∉ fl (mk (c 0).toNat) 1) : me c gr n f = 0 := by
  have hb : (mk (c 0).toNat).testBit f = false := by
    cases hb : (mk (c 0).toNat).testBit f
    · rfl
    · exact absurd ((fl_mem _ _).2 ⟨h1, h2, hb⟩) h
  obtain ⟨a, b⟩ := hy.2 f h1 h2
  rw [hb] at b
  simp at b
  omega
theorem end_msg {c : Nat → Int} {gr : Bool} {n : Nat} {k : Nat} (hy : RightM c gr n) (hk : c 0 = k) (A : Option Addr) (m cp : Nat) :
    msgC (cs k c (fl (mk k) 1)) (gs gr (fl (mk k) 1)) A m cp = msgC c gr A m cp := by
  have ek : mk (c 0).toNat = mk k := by rw [hk, Int.toNat_natCast]
  have e : ∀ i, i ≤ 8 → cs k c (fl (mk k) 1) i = c i := fun i hi => by
    unfold cs
    by_cases h0 : i = 0
    · rw [if_pos h0, h0, hk]
    · rw [if_neg h0]
      by_cases hm : i ∈ fl (mk k) 1
      · rw [if_pos hm]
      · rw [if_neg hm]
        have := right_zero hy (f := i) (by omega) (by omega) (by rw [ek]; exact hm)
        rw [me8 c gr n i hi] at this
        exact this.symm
  have g : gs gr (fl (mk k) 1) = gr := by
    unfold gs
    by_cases hm : 9 ∈ fl (mk k) 1
    · simp [hm]
    · have := right_zero hy (f := 9) (by omega) (by omega) (by rw [ek]; exact hm)
      cases gr
      · simp
      · simp [me] at this
  unfold msgC
  rw [g, e 0 (by omega), e 1 (by omega), e 2 (by omega), e 3 (by omega), e 4 (by omega), e 5 (by omega), e 6 (by omega), e 7 (by omega), e 8 (by omega)]
theorem end_text {c : Nat → Int} {gr : Bool} {n k : Nat} (hy : RightM c gr n) (hk : c 0 = k) (h : 10 ∉ fl (mk k) 1) : n = 0 := by
  have := right_zero hy (f := 10) (by omega) (by omega) (by rw [hk, Int.toNat_natCast]; exact h)
  simp [me] at this
  exact this

def zM : Nat → Int := fun _ => 0
/-- the state of the loop when the first q fields are got -/
def GSt (w wr : World) (g2 g B0 : Nat) (P : Option Addr) (cpl : Nat) (T : List Nat) (k : Int) (c : Nat → Int) (gr : Bool) (ds : List Int) (l : List Nat) : Prop :=
  ∃ D n cp, Bx wr g 25 (msgC (cs k c l) (gs gr l) D n cp) ∧ Bx wr g2 25 (msgC zM false none 0 0) ∧ OwnV wr B0 55 6 (.slice P T.length cpl) T.length (pcs g T) ∧ Below w.heap.size w wr ∧
    ((10 ∉ l ∧ D = none ∧ n = 0 ∧ cp = 0) ∨ (10 ∈ l ∧ n = ds.length ∧ Own wr (g + 1) (.slice D n cp) ds))

theorem own_far {w w' : World} {b e s : Nat} {v : Value} {n g : Nat} {us : List Value} (h : w.ownsRow b e s v n us) (hg : w.grownBy w' (some g)) (hb : g < b) : w'.ownsRow b e s v n us :=
  World.ownsRow.kept h hg (by
    rcases hob : v.ownBlock with _ | k
    · exact .inl rfl
    · right
      intro e
      injection e with e
      have := (World.ownsRow.lt h _ hob).1
      omega)
theorem GSt.alloc {w wr : World} {g2 g B0 : Nat} {P : Option Addr} {cpl : Nat} {T : List Nat} {k : Int} {c : Nat → Int} {gr : Bool} {ds : List Int} {l : List Nat} (h : GSt w wr g2 g B0 P cpl T k c gr ds l) (o : Obj) : GSt w (wr.alloc o) g2 g B0 P cpl T k c gr ds l := by
  obtain ⟨D, n, cp, h1, h2, h3, h4, h5⟩ := h
  exact ⟨D, n, cp, h1.alloc o, h2.alloc o, World.ownsRow.alloc h3 o, on h4 (below_alloc wr o), h5.imp id fun ⟨a, b, c⟩ => ⟨a, b, World.ownsRow.alloc c o⟩⟩

/-- the round of Get's loop: what the get of the next field does with its state -/
theorem round_get {w : World} {g2 g B0 : Nat} {P : Option Addr} {cpl : Nat} {T : List Nat} {k : Nat} {c : Nat → Int} {gr : Bool} {ds : List Int} {q : Nat} {by_ : Int} {A : Option Addr} {cb L C p : Nat} {l : List Int} {w4 : World} {mm : Int}
    (hg : w.heap.size ≤ g) (hg2 : g2 ≠ g) (hB : g < B0) (hk : k ≤ 14) (hT : T = fl (mk k) 1) (hs : SmallM c ds) (hq : q < T.length) (hst : GSt w w4 g2 g B0 P cpl T k c gr ds (T.take q))
    (hL : Hid (l.length = L)) (hlen : L ≤ 1000000) (hLc : L ≤ cb) (hx : p ≤ L) (hb : Hid (∀ x ∈ l, 0 ≤ x ∧ x ≤ 255)) (ra : Rd w4 C A l) (hC : C ≤ g) (hr : Hid (l.drop ((p : Int)).toNat = (fe c gr ds (T[q]'hq) ++ (fes c gr ds (T.drop (q + 1)) ++ [by_])).take (L - p))) :
    Calls Tryd.prog 29 #[.agg (pcl g (T[q]'hq) mm), .slice A L cb, .int .i64 p] w4 fun e w' => Below w.heap.size w w' ∧
      (((fe c gr ds (T[q]'hq)).length ≤ L - p ∧ e = .returned (.tuple #[.int .i64 (p + (fe c gr ds (T[q]'hq)).length : Nat), .int .i64 0]) ∧ GSt w w' g2 g B0 P cpl T k c gr ds (T.take (q + 1))) ∨
       (L - p < (fe c gr ds (T[q]'hq)).length ∧ e = .returned (.tuple #[.int .i64 0, .int .i64 1]) ∧ Bx w' g2 25 (msgC zM false none 0 0))) := by
  obtain ⟨D, n, cp, h1, h2, h3, h4, h5⟩ := hst
  have hfresh : T[q]'hq ∉ T.take q := by subst hT; exact fl_fresh k q hk hq
  have hrange : 1 ≤ T[q]'hq ∧ T[q]'hq ≤ 10 := fl_range (mk k) _ (by rw [← hT]; exact List.getElem_mem hq)
  have htake : T.take (q + 1) = T.take q ++ [T[q]'hq] := by rw [List.take_add_one, List.getElem?_eq_getElem hq]; rfl
  rw [htake]
  generalize T[q]'hq = f at *
  have hgw := h1.lt
  by_cases f8 : f ≤ 8
  · rw [fe_num c gr ds f f8] at hr ⊢
    have hcf := hs.2.1 f hrange.1 f8
    refine (pget_num c (cs k c (T.take q)) (gs gr (T.take q)) D n cp g mm A cb p (L - p) L C l _ w4 f (c f).toNat ⟨hrange.1, f8⟩ (by omega) h1 hL hlen hx hb ra hC (by omega) hr).mono ?_
    rintro e w' ⟨hgr, ⟨a, b, d⟩ | ⟨a, b⟩⟩
    · refine ⟨h4.grown hgr h4.size fun j hj => (Option.some.inj hj) ▸ hg, .inl ⟨a, b, D, n, cp, ?_, h2.apart hgr (fun e => hg2 (Option.some.inj e)), own_far h3 hgr hB, h4.grown hgr h4.size fun j hj => (Option.some.inj hj) ▸ hg, ?_⟩⟩
      · rw [cs_next k c _ f hrange.1] at d
        rw [gs_next gr _ f (by omega)]
        exact d
      · rcases h5 with ⟨a, b⟩ | ⟨a, b, d⟩
        · left
          exact ⟨by simp [a]; omega, b⟩
        · right
          exact ⟨by simp [a], b, own_far d hgr (Nat.lt_succ_self g)⟩
    · exact ⟨h4.grown hgr h4.size fun j hj => (Option.some.inj hj) ▸ hg, .inr ⟨a, b, h2.apart hgr (fun e => hg2 (Option.some.inj e))⟩⟩
  · by_cases f9 : f = 9
    · subst f9
      have hr' : Hid (l.drop ((p : Int)).toNat = (bit gr :: (fes c gr ds (T.drop (q + 1)) ++ [by_])).take (L - p)) := hr
      refine (pget_truth (cs k c (T.take q)) (gs gr (T.take q)) gr D n cp g mm A cb p (L - p) L C l _ w4 h1 hL hlen hx ra hC hr').mono ?_
      rintro e w' ⟨hgr, ⟨a, b, d⟩ | ⟨a, b⟩⟩
      · refine ⟨h4.grown hgr h4.size fun j hj => (Option.some.inj hj) ▸ hg, .inl ⟨a, b, D, n, cp, ?_, h2.apart hgr (fun e => hg2 (Option.some.inj e)), own_far h3 hgr hB, h4.grown hgr h4.size fun j hj => (Option.some.inj hj) ▸ hg, ?_⟩⟩
        · rw [gs_nine, cs_other k c _ 9 (by omega)]
          exact d
        · rcases h5 with ⟨a, b⟩ | ⟨a, b, d⟩
          · left
            exact ⟨by simp [a], b⟩
          · right
            exact ⟨by simp [a], b, own_far d hgr (Nat.lt_succ_self g)⟩
      · exact ⟨h4.grown hgr h4.size fun j hj => (Option.some.inj hj) ▸ hg, .inr ⟨a, b, h2.apart hgr (fun e => hg2 (Option.some.inj e))⟩⟩
    · obtain rfl : f = 10 := by omega
      have hD : D = none ∧ n = 0 ∧ cp = 0 := by
        rcases h5 with ⟨_, b⟩ | ⟨a, _⟩
        · exact b
        · exact absurd a hfresh
      obtain ⟨rfl, rfl, rfl⟩ := hD
      have e10 : fe c gr ds 10 = enc ds.length ++ ds := rfl
      have hr' : Hid (l.drop ((p : Int)).toNat = (enc ds.length ++ (ds ++ (fes c gr ds (T.drop (q + 1)) ++ [by_]))).take (L - p)) := hid (by rw [hr.out, e10, List.append_assoc])
      rw [e10, List.length_append]
      refine (pget_text (cs k c (T.take q)) (gs gr (T.take q)) g mm A cb p (L - p) L C ds.length l ds _ w4 h1 hLc hL hlen hx hb ra hC (hid rfl) hs.2.2 hr').mono ?_
      rintro e w' ⟨hgr, ⟨a, b, E, cq, d, hown⟩ | ⟨a, b⟩⟩
      · refine ⟨h4.grown hgr h4.size fun j hj => (Option.some.inj hj) ▸ hg, .inl ⟨a, by rw [b, Nat.add_assoc], E, ds.length, cq, ?_, h2.apart hgr (fun e => hg2 (Option.some.inj e)), own_far h3 hgr hB, h4.grown hgr h4.size fun j hj => (Option.some.inj hj) ▸ hg, ?_⟩⟩
        · rw [gs_next gr _ 10 (by omega), cs_other k c _ 10 (by omega)]
          exact d
        · right
          exact ⟨by simp, rfl, World.ownsRow.mono hown (by omega)⟩
      · exact ⟨h4.grown hgr h4.size fun j hj => (Option.some.inj hj) ▸ hg, .inr ⟨a, b, h2.apart hgr (fun e => hg2 (Option.some.inj e))⟩⟩
end Go.Proofs.YtihldenljddmoaaDoor
