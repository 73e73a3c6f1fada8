/-
  What is proved: msg's Right tells whether a message may be; what it writes lies in new memory. Condition: the table of the kinds' fields lies where the program lays it.
-/
import Derived.Test.YtihldenljddmoaaDoorMeas4
import Derived.Test.YtihldenljddmoaaDoorBitV
import Derived.Deep.DeepCutAuto
import Derived.Deep.CutBlock
import Derived.Deep.DeepMust
namespace Go.Proofs.YtihldenljddmoaaDoor
open Go.RowKit

/-- the table of the kinds' fields is there -/
structure Nm (w : World) : Prop where
  lt : 0 < w.heap.size
  at_ : ∀ k, k < 15 → w.cell? ⟨0, k, none⟩ = some (.int .u64 (mk k))
theorem Nm.next {w w' : World} (h : Nm w) (hb : Below w.heap.size w w') : Nm w' :=
  ⟨Nat.lt_of_lt_of_le h.lt hb.size, fun k hk => (hb.cell (p := ⟨0, k, none⟩) h.lt).trans (h.at_ k hk)⟩

/-- a place that is read -/
structure PAt (w : World) (a : Addr) (cs : Array Value) : Prop where
  lt : a.block < w.heap.size
  c0 : w.cell? a = cs[0]?
  c1 : w.cell? ⟨a.block, a.off + 1, none⟩ = cs[1]?
  c2 : w.cell? ⟨a.block, a.off + 2, none⟩ = cs[2]?
  c3 : w.cell? ⟨a.block, a.off + 3, none⟩ = cs[3]?
  c4 : w.cell? ⟨a.block, a.off + 4, none⟩ = cs[4]?
  c5 : w.cell? ⟨a.block, a.off + 5, none⟩ = cs[5]?
theorem own_place {w : World} {b g : Nat} {v : Value} {l : List Nat} (h : OwnV w b 55 6 v l.length (pcs g l)) (q : Nat) (hq : q < l.length) : ∃ ad c, v = .slice (some ad) l.length c ∧ PAt w (ad.add (q * 6)) (pcl g (l[q]'hq) (mo (l[q]'hq))) := by
  obtain ⟨A, c, hv, hr, _, _⟩ := OwnV.read h
  have key : ∀ j, j < 6 → ∃ ad, A = some ad ∧ ad.block < w.heap.size ∧ w.cell? (ad.add (q * 6 + j)) = (pcl g (l[q]'hq) (mo (l[q]'hq)))[j]? := fun j hj => by
    have h1 := pcs_at g l q hq j hj
    have h2 : (pcl g (l[q]'hq) (mo (l[q]'hq)))[j]? = some ((pcl g (l[q]'hq) (mo (l[q]'hq)))[j]'(by rw [pcl_size]; exact hj)) := Array.getElem?_eq_getElem _
    rw [h2] at h1
    obtain ⟨ad, e, hb, hc⟩ := hr _ _ h1
    exact ⟨ad, e, hb, by rw [h2]; exact hc⟩
  obtain ⟨ad, rfl, hb, k0⟩ := key 0 (by omega)
  have k : ∀ j, j < 6 → w.cell? (ad.add (q * 6 + j)) = (pcl g (l[q]'hq) (mo (l[q]'hq)))[j]? := fun j hj => by
    obtain ⟨ad', e, _, hc⟩ := key j hj
    injection e with e
    subst e
    exact hc
  have k1 := k 1 (by omega)
  have k2 := k 2 (by omega)
  have k3 := k 3 (by omega)
  have k4 := k 4 (by omega)
  have k5 := k 5 (by omega)
  rw [addSucc _ _ _ (by omega)] at k1 k2 k3 k4 k5
  exact ⟨ad, c, hv, by rw [addBlk]; exact hb, k0, k1, k2, k3, k4, k5⟩
theorem pcl_any (g f : Nat) : ∃ A1 A2 A3 A4, (∀ m, pcl g f m = #[.int .i64 f, A1, A2, A3, A4, .int .i64 m]) ∧ ∀ m, (#[.int .i64 f, A1, A2, A3, A4, .int .i64 m] : Array Value).all (·.oneCell') = true := ⟨_, _, _, _, fun _ => rfl, fun m => pcl_one g f m⟩

/-- a field may be -/
def okF (c : Nat → Int) (gr : Bool) (n f : Nat) : Prop := 0 ≤ me c gr n f ∧ me c gr n f ≤ if (mk (c 0).toNat).testBit f then mo f else 0
/-- a message may be -/
def RightM (c : Nat → Int) (gr : Bool) (n : Nat) : Prop := (1 ≤ c 0 ∧ c 0 ≤ 14) ∧ ∀ f, 1 ≤ f → f ≤ 10 → okF c gr n f

set_option maxRecDepth 100000 in
set_option maxHeartbeats 1000000 in
theorem right_any (c : Nat → Int) (gr : Bool) (A : Option Addr) (n cp : Nat) (w : World) (hN : Nm w) :
    Calls Tryd.prog 12 #[.agg (msgC c gr A n cp)] w fun e w' => e = .returned (.bool (dec (RightM c gr n))) ∧ Below w.heap.size w w' := by
  have X0 := Bx.new w 25 (msgC c gr A n cp)
  have K0 := below_alloc w (.cells (msgC c gr A n cp) 25)
  have HX := hid X0
  have HK := hid K0
  have HN := hid (hN.next K0)
  have c0 : (w.alloc (.cells (msgC c gr A n cp) 25)).cell? ⟨w.heap.size, 0, none⟩ = some (.int .i64 (c 0)) := by rw [X0.cell]; rfl
  clear X0 K0 hN
  go_enter Tryd.func12, Tryd.ntmps12
  go_wp2_with fail
  refine (known_any _ _).mono ?_
  rintro e w1 ⟨rfl, rfl⟩
  obtain ⟨kk, hkk⟩ : ∃ b, kn (c 0) = b := ⟨_, rfl⟩
  rw [hkk]
  cases kk
  · have HQ := hid hkk
    clear hkk
    go_wp2_with fail
    go_ret
    refine ⟨?_, HK.out⟩
    rw [dec_false]
    · rfl
    · intro h
      have := HQ.out
      unfold kn at this
      simp [h.1] at this
  · have hk0 : 1 ≤ c 0 ∧ c 0 ≤ 14 := by unfold kn at hkk; simpa using hkk
    clear hkk
    go_wp2_with fail
    refine (places_any w.heap.size 2046 (by omega) _).mono ?_
    rintro e w2 ⟨v, rfl, hown, hb2⟩
    have HX2 := hid (HX.out.next hb2)
    have HK2 := hid (on HK.out hb2)
    have HN2 := hid (HN.out.next hb2)
    have HO2 := hid hown
    obtain ⟨S, cs, rfl, -, -, -⟩ := OwnV.read hown
    clear hown hb2 HX HK HN c0
    rw [show (fl 2046 1).length = 10 by rw [fl_every]; rfl]
    generalize (w.alloc (Obj.cells (msgC c gr A n cp) 25)).heap.size = B0 at HO2
    go_wp2_with fail
    go_loopw [12] (fun i wr => ∃ q : Nat, i = .int .i64 q ∧ q ≤ 10 ∧ Below w2.heap.size w2 wr ∧ ∀ f, 1 ≤ f → f ≤ q → okF c gr n f) (fun i _ => 10 - (intOf i).toNat)
    case atStart => exact ⟨0, rfl, by omega, Below.refl _ _, fun f h1 h2 => by omega⟩
    case round =>
      obtain ⟨q, rfl, hq, hb, hok⟩ := hrel
      have HOK := hid hok
      have HB := hid hb
      have HN3 := hid (HN2.out.next hb)
      have HX3 := hid (HX2.out.next hb)
      have HO3 := hid (OwnV.below HO2.out hb)
      clear hok hb
      by_cases hlt : q < 10
      · have hq' : q < (fl 2046 1).length := by rw [fl_every]; exact hlt
        obtain ⟨ad, cx, hv, hat⟩ := own_place HO3.out q hq'
        injection hv with e1 e2 e3
        subst e1 e3
        have hfq : (fl 2046 1)[q]'hq' = q + 1 := by
          have : ∀ t : Nat, t < 10 → ∀ h : t < (fl 2046 1).length, (fl 2046 1)[t]'h = t + 1 := by decide
          exact this q hlt hq'
        rw [hfq] at hat
        obtain ⟨A1, A2, A3, A4, hA, hone⟩ := pcl_any w.heap.size (q + 1)
        obtain ⟨m, hm⟩ : ∃ m, mo (q + 1) = m := ⟨_, rfl⟩
        rw [hA, hm] at hat
        obtain ⟨_, d0, d1, d2, d3, d4, d5⟩ := hat
        simp only [List.getElem?_toArray, List.getElem?_cons_zero, List.getElem?_cons_succ] at d0 d1 d2 d3 d4 d5
        have HA := hid hA
        have HONE := hid hone
        have HM := hid hm
        clear hA hm hfq hq' e2 hone
        have hlt' : (q : Int) < 10 := by omega
        obtain ⟨k, hk⟩ : ∃ k : Nat, c 0 = k := ⟨(c 0).toNat, by omega⟩
        have hk1 : k < 15 := by omega
        have c0 : wr.cell? ⟨w.heap.size, 0, none⟩ = some (.int .i64 (k : Int)) := by rw [HX3.out.cell, ← hk]; rfl
        have n0 := HN3.out.at_ k hk1
        have HKK := hid hk
        clear hk hk0
        go_wp2_with (refine wpList_store_new rfl _ _ _ rfl rfl _ #[.int .i64 (q + 1 : Nat), A1, A2, A3, A4, .int .i64 m] rfl rfl (by kernel_rfl) rfl (HONE.out m) ?_)
        have HP4 := hid (Bx.new wr 55 #[.int .i64 (q + 1 : Nat), A1, A2, A3, A4, .int .i64 m])
        have HX4 := hid (HX3.out.alloc (.cells #[.int .i64 (q + 1 : Nat), A1, A2, A3, A4, .int .i64 m] 55))
        have HB4 := hid (on HB.out (below_alloc wr (.cells #[.int .i64 (q + 1 : Nat), A1, A2, A3, A4, .int .i64 m] 55)))
        have hgh := HX3.out.lt
        have hh2 : w2.heap.size ≤ wr.heap.size := HB.out.size
        generalize wr.alloc (.cells #[.int .i64 (q + 1 : Nat), A1, A2, A3, A4, .int .i64 m] 55) = w3 at *
        generalize wr.heap.size = h at *
        clear d0 d1 d2 d3 d4 d5 c0 n0
        have c0 : w3.cell? ⟨w.heap.size, 0, none⟩ = some (.int .i64 (k : Int)) := by rw [HX4.out.cell, ← HKK.out]; rfl
        have n0 : w3.cell? ⟨0, k, none⟩ = some (.int .u64 (mk k)) := (HN2.out.next HB4.out).at_ k hk1
        have d0 := HP4.out.cell 0
        have d1 := HP4.out.cell 1
        have d2 := HP4.out.cell 2
        have d3 := HP4.out.cell 3
        have d4 := HP4.out.cell 4
        have d5 := HP4.out.cell 5
        simp only [List.getElem?_toArray, List.getElem?_cons_zero, List.getElem?_cons_succ] at d0 d1 d2 d3 d4 d5
        have HH2 := hid hh2
        clear hh2
        go_quiet (fail)
        have hh2 := HH2.out
        have hxk : mk k < 9223372036854775808 := Nat.lt_of_le_of_lt (mk_le k) (by omega)
        rw [shl_eq (mk k) (q + 1) hxk (by omega)]
        obtain ⟨tb, htb⟩ : ∃ b, (mk k).testBit (q + 1) = b := ⟨_, rfl⟩
        rw [htb]
        have HH := hid hh2
        clear hxk
        cases tb
        · have HT := hid htb
          have d5f := HP4.out.free 5
          have HXq := hid ((HX4.out.draws nq).far ⟨h, 5, none⟩ (.int .i64 0) (by show h ≠ w.heap.size; omega))
          have HBq := hid (show Below w2.heap.size w2 ((w3.drewN nq).setCell ⟨h, 5, none⟩ (.int .i64 0)) from below_set (below_draws HB4.out nq) _ _ (by show w2.heap.size ≤ h; exact HH.out))
          have M := fun W hW => measure_any c gr A n cp w.heap.size (q + 1) 0 W (by omega) hW
          rw [HA.out] at M
          have MM := hid M
          clear M htb
          go_wp2_with fail
          refine (MM.out _ HXq.out).mono ?_
          rintro e w5 ⟨rfl, hb5⟩
          obtain ⟨x, hx⟩ : ∃ x, me c gr n (q + 1) = x := ⟨_, rfl⟩
          rw [hx]
          have HXX := hid hx
          have HB5 := hid (on HBq.out hb5)
          have d5 : w5.cell? ⟨h, 5, none⟩ = some (.int .i64 0) := (hb5.cell (p := ⟨h, 5, none⟩) (by rw [setSize]; exact HP4.out.lt)).trans (by rw [World.cell?_setCell_same _ _ _ (show (w3.drewN nq).cell? ⟨h, 5, none⟩ = _ from d5)])
          have HFF := hid (show okF c gr n (q + 1) ↔ (0 ≤ x ∧ x ≤ 0) by
            unfold okF
            rw [HKK.out, Int.toNat_natCast, HT.out, HXX.out]
            simp)
          clear hx hb5 MM d0 d1 d2 d3 d4 d5f c0 n0
          go_wp2_with fail
          all_goals
            first
              | (go_ret
                 refine ⟨?_, on HK2.out HB5.out⟩
                 rw [dec_false]
                 · rfl
                 · intro hR
                   have := HFF.out.1 (hR.2 (q + 1) (by omega) (by omega))
                   omega)
              | (go_roundw
                 case rel => exact ⟨q + 1, by go_num, by omega, HB5.out, fun f h1 h2 => by
                   by_cases e : f = q + 1
                   · rw [e]; exact HFF.out.2 (by omega)
                   · exact HOK.out f h1 (by omega)⟩
                 case measure => simp [intOf]; omega)
        · have HT := hid htb
          have d5f := HP4.out.free 5
          have HXq := hid (HX4.out.draws nq)
          have HBq := hid (show Below w2.heap.size w2 (w3.drewN nq) from below_draws HB4.out nq)
          have M := fun W hW => measure_any c gr A n cp w.heap.size (q + 1) m W (by omega) hW
          rw [HA.out] at M
          have MM := hid M
          clear M htb
          go_wp2_with fail
          refine (MM.out _ HXq.out).mono ?_
          rintro e w5 ⟨rfl, hb5⟩
          obtain ⟨x, hx⟩ : ∃ x, me c gr n (q + 1) = x := ⟨_, rfl⟩
          rw [hx]
          have HXX := hid hx
          have HB5 := hid (on HBq.out hb5)
          have d5 : w5.cell? ⟨h, 5, none⟩ = some (.int .i64 m) := (hb5.cell (p := ⟨h, 5, none⟩) (by exact HP4.out.lt)).trans (by exact d5)
          have HFF := hid (show okF c gr n (q + 1) ↔ (0 ≤ x ∧ x ≤ m) by
            unfold okF
            rw [HKK.out, Int.toNat_natCast, HT.out, HXX.out]
            rw [if_pos rfl, HM.out])
          clear hx hb5 MM d0 d1 d2 d3 d4 d5f c0 n0
          go_wp2_with fail
          all_goals
            first
              | (go_ret
                 refine ⟨?_, on HK2.out HB5.out⟩
                 rw [dec_false]
                 · rfl
                 · intro hR
                   have := HFF.out.1 (hR.2 (q + 1) (by omega) (by omega))
                   omega)
              | (go_roundw
                 case rel => exact ⟨q + 1, by go_num, by omega, HB5.out, fun f h1 h2 => by
                   by_cases e : f = q + 1
                   · rw [e]; exact HFF.out.2 (by omega)
                   · exact HOK.out f h1 (by omega)⟩
                 case measure => simp [intOf]; omega)
      · have hlt' : ¬ (q : Int) < 10 := by omega
        obtain rfl : q = 10 := by omega
        go_wp2_with fail
        go_ret
        refine ⟨?_, on HK2.out HB.out⟩
        rw [dec_true ⟨hk0, HOK.out⟩]
        rfl
end Go.Proofs.YtihldenljddmoaaDoor
