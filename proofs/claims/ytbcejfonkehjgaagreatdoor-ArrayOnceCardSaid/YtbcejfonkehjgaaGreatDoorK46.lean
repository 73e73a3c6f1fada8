/-
  What is proved: msg's Right tells whether a message may be; what it writes lies in new memory. Condition: the table of the kinds' fields lies where the program lays it.
-/
import Derived.Test.YtbcejfonkehjgaaGreatDoorK44
import Derived.Test.YtbcejfonkehjgaaGreatDoorK45
import Derived.Deep.DeepCutAuto
import Derived.Deep.CutBlock
import Derived.Deep.DeepMust
import Derived.Laws.EntriesVeiled
import Derived.Deep.Onto
namespace Go.Proofs.YtbcejfonkehjgaaGreatDoor
open Go.RowKit

structure Nm (w : World) : Prop where
  lt : 0 < w.heap.size
  at_ : ∀ k, k < 15 → w.cell? ⟨0, k, none⟩ = some (.int .u64 (mk k))
theorem Nm.next {w w' : World} (h : Nm w) (hb : Below w.heap.size w w') : Nm w' :=
  ⟨Nat.lt_of_lt_of_le h.lt hb.size, fun k hk => (hb.cell (p := ⟨0, k, none⟩) h.lt).trans (h.at_ k hk)⟩

structure PAtM (w : World) (a : Addr) (cs : Array Value) : Prop where
  lt : a.block < w.heap.size
  c0 : w.cell? a = cs[0]?
  c1 : w.cell? ⟨a.block, a.off + 1, none⟩ = cs[1]?
  c2 : w.cell? ⟨a.block, a.off + 2, none⟩ = cs[2]?
  c3 : w.cell? ⟨a.block, a.off + 3, none⟩ = cs[3]?
  c4 : w.cell? ⟨a.block, a.off + 4, none⟩ = cs[4]?
  c5 : w.cell? ⟨a.block, a.off + 5, none⟩ = cs[5]?
theorem own_place {w : World} {b g : Nat} {v : Value} {l : List Nat} (h : OwnV w b 124 6 v l.length (pcs g l)) (q : Nat) (hq : q < l.length) : ∃ ad c, v = .slice (some ad) l.length c ∧ PAtM w (ad.add (q * 6)) (pcl g (l[q]'hq) (mo (l[q]'hq))) := by
  obtain ⟨A, c, hv, hr, _, _⟩ := OwnV.read h
  have key : ∀ j, j < 6 → ∃ ad, A = some ad ∧ ad.block < w.heap.size ∧ w.cell? (ad.add (q * 6 + j)) = (pcl g (l[q]'hq) (mo (l[q]'hq)))[j]? := fun j hj => by
    have h1 := pcs_at g l q hq j hj
    have h2 : (pcl g (l[q]'hq) (mo (l[q]'hq)))[j]? = some ((pcl g (l[q]'hq) (mo (l[q]'hq)))[j]'(by rw [pcl_size]; exact hj)) := Array.getElem?_eq_getElem _
    rw [h2] at h1
    obtain ⟨ad, e, hb, hc⟩ := hr _ _ h1
    exact ⟨ad, e, hb, by rw [h2]; exact hc⟩
  obtain ⟨ad, rfl, hb, k0⟩ := key 0 (by omega)
  have k : ∀ j, j < 6 → w.cell? (ad.add (q * 6 + j)) = (pcl g (l[q]'hq) (mo (l[q]'hq)))[j]? := fun j hj => by
    obtain ⟨ad', e, _, hc⟩ := key j hj
    injection e with e
    subst e
    exact hc
  have k1 := k 1 (by omega)
  have k2 := k 2 (by omega)
  have k3 := k 3 (by omega)
  have k4 := k 4 (by omega)
  have k5 := k 5 (by omega)
  rw [addSucc _ _ _ (by omega)] at k1 k2 k3 k4 k5
  exact ⟨ad, c, hv, by rw [addBlk]; exact hb, k0, k1, k2, k3, k4, k5⟩
theorem pcl_any (g f : Nat) : ∃ A1 A2 A3 A4, (∀ m, pcl g f m = #[.int .i64 f, A1, A2, A3, A4, .int .i64 m]) ∧ ∀ m, (#[.int .i64 f, A1, A2, A3, A4, .int .i64 m] : Array Value).all (·.oneCell') = true := ⟨_, _, _, _, fun _ => rfl, fun m => pcl_one g f m⟩

def okFM (c : Nat → Int) (gr : Bool) (n f : Nat) : Prop := 0 ≤ me c gr n f ∧ me c gr n f ≤ if (mk (c 0).toNat).testBit f then mo f else 0
def RightM (c : Nat → Int) (gr : Bool) (n : Nat) : Prop := (1 ≤ c 0 ∧ c 0 ≤ 14) ∧ ∀ f, 1 ≤ f → f ≤ 10 → okFM c gr n f

set_option maxRecDepth 100000 in
set_option maxHeartbeats 1000000 in
theorem mright_any (c : Nat → Int) (gr : Bool) (A : Option Addr) (n cp : Nat) (w : World) (hN : Nm w) :
    Calls Tryz.prog 37 #[.agg (msgC c gr A n cp)] w fun e w' => e = .returned (.bool (dec (RightM c gr n))) ∧ Below w.heap.size w w' := by
  have X0 := Bx.new w 40 (msgC c gr A n cp)
  have K0 := below_alloc w (.cells (msgC c gr A n cp) 40)
  have HX := hid X0
  have HK := hid K0
  have HN := hid (hN.next K0)
  have c0 : (w.alloc (.cells (msgC c gr A n cp) 40)).cell? ⟨w.heap.size, 0, none⟩ = some (.int .i64 (c 0)) := by rw [X0.cell]; rfl
  clear X0 K0 hN
  go_enter Tryz.func37, Tryz.ntmps37
  go_wp2_with fail
  refine (known_any _ _).mono ?_
  rintro e w1 ⟨rfl, rfl⟩
  obtain ⟨kk, hkk⟩ : ∃ b, kn (c 0) = b := ⟨_, rfl⟩
  rw [hkk]
  cases kk
  · have HQ := hid hkk
    clear hkk
    go_wp2_with fail
    go_ret
    refine ⟨?_, HK.out⟩
    rw [dec_false]
    · rfl
    · intro h
      have := HQ.out
      unfold kn at this
      simp [h.1] at this
  · have hk0 : 1 ≤ c 0 ∧ c 0 ≤ 14 := by unfold kn at hkk; simpa using hkk
    clear hkk
    go_wp2_with fail
    refine (mplaces_any w.heap.size 2046 (by omega) _).mono ?_
    rintro e w2 ⟨v, rfl, hown, hb2⟩
    have HX2 := hid (HX.out.next hb2)
    have HK2 := hid (on HK.out hb2)
    have HN2 := hid (HN.out.next hb2)
    have HO2 := hid hown
    obtain ⟨S, cs, rfl, -, -, -⟩ := OwnV.read hown
    clear hown hb2 HX HK HN c0
    rw [show (fl 2046 1).length = 10 by rw [fl_every]; rfl]
    generalize (w.alloc (Obj.cells (msgC c gr A n cp) 40)).heap.size = B0 at HO2
    go_wp2_with fail
    go_loopw [12] (fun i wr => ∃ q : Nat, i = .int .i64 q ∧ q ≤ 10 ∧ Below w2.heap.size w2 wr ∧ ∀ f, 1 ≤ f → f ≤ q → okFM c gr n f) (fun i _ => 10 - (intOf i).toNat)
    case atStart => exact ⟨0, rfl, by omega, Below.refl _ _, fun f h1 h2 => by omega⟩
    case round =>
      obtain ⟨q, rfl, hq, hb, hok⟩ := hrel
      have HOK := hid hok
      have HB := hid hb
      have HN3 := hid (HN2.out.next hb)
      have HX3 := hid (HX2.out.next hb)
      have HO3 := hid (OwnV.below HO2.out hb)
      clear hok hb
      by_cases hlt : q < 10
      · have hq' : q < (fl 2046 1).length := by rw [fl_every]; exact hlt
        obtain ⟨ad, cx, hv, hat⟩ := own_place HO3.out q hq'
        injection hv with e1 e2 e3
        subst e1 e3
        have hfq : (fl 2046 1)[q]'hq' = q + 1 := by
          have : ∀ t : Nat, t < 10 → ∀ h : t < (fl 2046 1).length, (fl 2046 1)[t]'h = t + 1 := by decide
          exact this q hlt hq'
        rw [hfq] at hat
        obtain ⟨A1, A2, A3, A4, hA, hone⟩ := pcl_any w.heap.size (q + 1)
        obtain ⟨m, hm⟩ : ∃ m, mo (q + 1) = m := ⟨_, rfl⟩
        rw [hA, hm] at hat
        obtain ⟨_, d0, d1, d2, d3, d4, d5⟩ := hat
        simp only [List.getElem?_toArray, List.getElem?_cons_zero, List.getElem?_cons_succ] at d0 d1 d2 d3 d4 d5
        have HA := hid hA
        have HONE := hid hone
        have HM := hid hm
        clear hA hm hfq hq' e2 hone
        have hlt' : (q : Int) < 10 := by omega
        obtain ⟨k, hk⟩ : ∃ k : Nat, c 0 = k := ⟨(c 0).toNat, by omega⟩
        have hk1 : k < 15 := by omega
        have c0 : wr.cell? ⟨w.heap.size, 0, none⟩ = some (.int .i64 (k : Int)) := by rw [HX3.out.cell, ← hk]; rfl
        have n0 := HN3.out.at_ k hk1
        have HKK := hid hk
        clear hk hk0
        go_wp2_with (refine wpList_store_new rfl _ _ _ rfl rfl _ #[.int .i64 (q + 1 : Nat), A1, A2, A3, A4, .int .i64 m] rfl rfl (by kernel_rfl) rfl (HONE.out m) ?_)
        have HP4 := hid (Bx.new wr 124 #[.int .i64 (q + 1 : Nat), A1, A2, A3, A4, .int .i64 m])
        have HX4 := hid (HX3.out.alloc (.cells #[.int .i64 (q + 1 : Nat), A1, A2, A3, A4, .int .i64 m] 124))
        have HB4 := hid (on HB.out (below_alloc wr (.cells #[.int .i64 (q + 1 : Nat), A1, A2, A3, A4, .int .i64 m] 124)))
        have hgh := HX3.out.lt
        have hh2 : w2.heap.size ≤ wr.heap.size := HB.out.size
        generalize wr.alloc (.cells #[.int .i64 (q + 1 : Nat), A1, A2, A3, A4, .int .i64 m] 124) = w3 at *
        generalize wr.heap.size = h at *
        clear d0 d1 d2 d3 d4 d5 c0 n0
        have c0 : w3.cell? ⟨w.heap.size, 0, none⟩ = some (.int .i64 (k : Int)) := by rw [HX4.out.cell, ← HKK.out]; rfl
        have n0 : w3.cell? ⟨0, k, none⟩ = some (.int .u64 (mk k)) := (HN2.out.next HB4.out).at_ k hk1
        have d0 := HP4.out.cell 0
        have d1 := HP4.out.cell 1
        have d2 := HP4.out.cell 2
        have d3 := HP4.out.cell 3
        have d4 := HP4.out.cell 4
        have d5 := HP4.out.cell 5
        simp only [List.getElem?_toArray, List.getElem?_cons_zero, List.getElem?_cons_succ] at d0 d1 d2 d3 d4 d5
        have HH2 := hid hh2
        clear hh2
        go_quiet (fail)
        have hh2 := HH2.out
        have hxk : mk k < 9223372036854775808 := Nat.lt_of_le_of_lt (mk_le k) (by omega)
        rw [shl_eq (mk k) (q + 1) hxk (by omega)]
        obtain ⟨tb, htb⟩ : ∃ b, (mk k).testBit (q + 1) = b := ⟨_, rfl⟩
        rw [htb]
        have HH := hid hh2
        clear hxk
        cases tb
        · have HT := hid htb
          have d5f := HP4.out.free 5
          have HXq := hid ((HX4.out.draws nq).far ⟨h, 5, none⟩ (.int .i64 0) (by show h ≠ w.heap.size; omega))
          have HBq := hid (show Below w2.heap.size w2 ((w3.drewN nq).setCell ⟨h, 5, none⟩ (.int .i64 0)) from below_set (below_draws HB4.out nq) _ _ (by show w2.heap.size ≤ h; exact HH.out))
          have M := fun W hW => measure_any c gr A n cp w.heap.size (q + 1) 0 W (by omega) hW
          rw [HA.out] at M
          have MM := hid M
          clear M htb
          go_wp2_with fail
          refine (MM.out _ HXq.out).mono ?_
          rintro e w5 ⟨rfl, hb5⟩
          obtain ⟨x, hx⟩ : ∃ x, me c gr n (q + 1) = x := ⟨_, rfl⟩
          rw [hx]
          have HXX := hid hx
          have HB5 := hid (on HBq.out hb5)
          have d5 : w5.cell? ⟨h, 5, none⟩ = some (.int .i64 0) := (hb5.cell (p := ⟨h, 5, none⟩) (by rw [setSize]; exact HP4.out.lt)).trans (by rw [World.cell?_setCell_same _ _ _ (show (w3.drewN nq).cell? ⟨h, 5, none⟩ = _ from d5)])
          have HFF := hid (show okFM c gr n (q + 1) ↔ (0 ≤ x ∧ x ≤ 0) by
            unfold okFM
            rw [HKK.out, Int.toNat_natCast, HT.out, HXX.out]
            simp)
          clear hx hb5 MM d0 d1 d2 d3 d4 d5f c0 n0
          go_wp2_with fail
          all_goals
            first
              | (go_ret
                 refine ⟨?_, on HK2.out HB5.out⟩
                 rw [dec_false]
                 · rfl
                 · intro hR
                   have := HFF.out.1 (hR.2 (q + 1) (by omega) (by omega))
                   omega)
              | (go_roundw
                 case rel => exact ⟨q + 1, by go_num, by omega, HB5.out, fun f h1 h2 => by
                   by_cases e : f = q + 1
                   · rw [e]; exact HFF.out.2 (by omega)
                   · exact HOK.out f h1 (by omega)⟩
                 case measure => simp [intOf]; omega)
        · have HT := hid htb
          have d5f := HP4.out.free 5
          have HXq := hid (HX4.out.draws nq)
          have HBq := hid (show Below w2.heap.size w2 (w3.drewN nq) from below_draws HB4.out nq)
          have M := fun W hW => measure_any c gr A n cp w.heap.size (q + 1) m W (by omega) hW
          rw [HA.out] at M
          have MM := hid M
          clear M htb
          go_wp2_with fail
          refine (MM.out _ HXq.out).mono ?_
          rintro e w5 ⟨rfl, hb5⟩
          obtain ⟨x, hx⟩ : ∃ x, me c gr n (q + 1) = x := ⟨_, rfl⟩
          rw [hx]
          have HXX := hid hx
          have HB5 := hid (on HBq.out hb5)
          have d5 : w5.cell? ⟨h, 5, none⟩ = some (.int .i64 m) := (hb5.cell (p := ⟨h, 5, none⟩) (by exact HP4.out.lt)).trans (by exact d5)
          have HFF := hid (show okFM c gr n (q + 1) ↔ (0 ≤ x ∧ x ≤ m) by
            unfold okFM
            rw [HKK.out, Int.toNat_natCast, HT.out, HXX.out]
            rw [if_pos rfl, HM.out])
          clear hx hb5 MM d0 d1 d2 d3 d4 d5f c0 n0
          go_wp2_with fail
          all_goals
            first
              | (go_ret
                 refine ⟨?_, on HK2.out HB5.out⟩
                 rw [dec_false]
                 · rfl
                 · intro hR
                   have := HFF.out.1 (hR.2 (q + 1) (by omega) (by omega))
                   omega)
              | (go_roundw
                 case rel => exact ⟨q + 1, by go_num, by omega, HB5.out, fun f h1 h2 => by
                   by_cases e : f = q + 1
                   · rw [e]; exact HFF.out.2 (by omega)
                   · exact HOK.out f h1 (by omega)⟩
                 case measure => simp [intOf]; omega)
      · have hlt' : ¬ (q : Int) < 10 := by omega
        obtain rfl : q = 10 := by omega
        go_wp2_with fail
        go_ret
        refine ⟨?_, on HK2.out HB.out⟩
        rw [dec_true ⟨hk0, HOK.out⟩]
        rfl
end Go.Proofs.YtbcejfonkehjgaaGreatDoor
namespace Go.Proofs.YtbcejfonkehjgaaGreatDoor
open Go.RowKit

section
variable {w w' : World} {K : AC} {st : St} {o o' : Ob} {D D' : Int → List Int} {B B' : Nat} {r : Int} {dn : Bool} {mc : Nat → Int} {gr : Bool} {A : Option Addr} {n cp : Nat} {X : RS} {ml : List Int} {L : List (List Int)} {f : Int} {d : Bool}
noncomputable def hearF (c : Nat → Int) (s : S18) (m : Tm) : S18 × List Tm :=
  if dec (RightM m.c m.gr m.l.length) = false then (s, [])
  else if m.c 0 = 8 then hrR c s m else if m.c 0 = 9 then hrW c s m else if m.c 0 = 10 then hrM c s m else if m.c 0 = 11 then hrP s m else (s, [])
theorem hrR_X (c : Nat → Int) (s : S18) (m : Tm) : (hrR c s m).1.X = s.X := by
  unfold hrR
  split
  · split <;> rfl
  · rfl
theorem hrM_X (c : Nat → Int) (s : S18) (m : Tm) : (hrM c s m).1.X = s.X := by
  unfold hrM
  split <;> rfl
def RtH (R : Value → World → Prop) (e : Ending) (w' : World) : Prop := ∃ u, e = .returned u ∧ R u w'
theorem rdq_wre {m : Tm} {p : S18 × List Tm} {e : Ending} (h : RdQ w K ⟨L, f, false⟩ B false p e w') (hX : p.1.X = X) (hF : Fine (shC K.c) L X) : WrE w K L f X (rwr (shC K.c) X (wrX m)).1 o D B r p e w' := by
  obtain ⟨u, h1, h2, h3, h4⟩ := h
  exact ⟨u, L, f, h1, h3, .inl ⟨h2, by rw [hX]; exact hF, fun _ => rfl, h4⟩⟩
set_option maxRecDepth 20000 in
set_option maxHeartbeats 2000000 in
theorem adrop_any (h : Am w K st o D B r dn) (hB : B ≤ 10000000) : Calls Tryz.prog 65 #[K.ptr, .agg (msgC mc gr A n cp)] w (RdQ w K st B dn (hrP ⟨X, o, D, r⟩ ⟨mc, gr, ml⟩)) := by
  unfold hrP
  unfold AC.ptr
  have hb0 := below_alloc w (.cells (msgC mc gr A n cp) 40)
  have HX0 := hid (Bx.new w 40 (msgC mc gr A n cp))
  have HB0 := hid hb0
  have H0 := hid (h.below hb0)
  have HNP := hid (show ∀ j, K.X j → j ≠ w.heap.size from fun j hj => by have := h.cm.lt j hj; omega)
  have HBB := hid hB
  clear hb0 h hB
  go_enter Tryz.func65, Tryz.ntmps65
  go_upto_region 1 with fail
  obtain ⟨W0, hW0⟩ : ∃ x, w.alloc (.cells (msgC mc gr A n cp) 40) = x := ⟨_, rfl⟩
  obtain ⟨p, hp⟩ : ∃ x, w.heap.size = x := ⟨_, rfl⟩
  rw [hW0] at HX0 HB0 H0 ⊢
  rw [hp] at HX0 HNP ⊢
  have HW := hid hp
  clear hW0 hp
  have y5 : W0.cell? ⟨p, 5, none⟩ = some (.int .i64 (mc 5)) := HX0.out.cell 5
  have yG : W0.cell? ⟨K.g, 2, none⟩ = some (.pointer (some ⟨K.G, 0, none⟩)) := H0.out.bx.cell 2
  go_region_held3 (fun y => y.cell? ⟨p, 5, none⟩ = some (.int .i64 (mc 5)) ∧ y.cell? ⟨K.g, 2, none⟩ = some (.pointer (some ⟨K.G, 0, none⟩))) (first | exact kp | exact ⟨y5, yG⟩) ((go_at_call 93; refine (cdrop_any (H0.out.draws 1) (mc 5)).mono ?_; rintro e W1 ⟨y, rfl, ha, hc⟩; have H1 := hid ha; have HC1 := hid hc; have HX1 := hid (hc.bx (HX0.out.draws 1) (fun ho => HNP.out p (H0.out.mine_x p (.inl ho)) rfl)); have kp := And.intro (HX1.out.cell 5) (ha.bx.cell 2); clear ha hc))
  go_wp2
  go_ret
  exact ⟨_, rfl, H1.out.up (Nat.le_succ _), ((Chg.of HB0.out _).trans ((Chg.of (below_draws (Below.refl _ _) 1) _).trans HC1.out)).wide (own_mine K), tlv_nil _ _ _⟩
set_option maxRecDepth 20000 in
set_option maxHeartbeats 2000000 in
theorem ademote_any (h : Am w K st o D B r dn) (hB : B ≤ 10000000) (hd : By w K.X (.slice A n cp) ml) : Calls Tryz.prog 64 #[K.ptr, .agg (msgC mc gr A n cp)] w (RdQ w K st B dn (hrM K.c ⟨X, o, D, r⟩ ⟨mc, gr, ml⟩)) := by
  obtain rfl := by_len hd
  have HD0 := hid (hd.below (below_alloc w (.cells (msgC mc gr A ml.length cp) 40)))
  unfold hrM
  dsimp only
  clear hd
  by_cases h4 : K.c 4 = 2
  · have d4 : ((K.c 4 : Int) == 2) = true := by simpa using h4
    cases hf : forA K.c o (mc 5) (mc 6) with
    | true =>
      rw [if_pos ⟨h4, rfl⟩]
      clear h4
      unfold AC.ptr
      have hb0 := below_alloc w (.cells (msgC mc gr A ml.length cp) 40)
      have HX0 := hid (Bx.new w 40 (msgC mc gr A ml.length cp))
      have HB0 := hid hb0
      have H0 := hid (h.below hb0)
      have HNP := hid (show ∀ j, K.X j → j ≠ w.heap.size from fun j hj => by have := h.cm.lt j hj; omega)
      have HBB := hid hB
      clear hb0 h hB
      go_enter Tryz.func64, Tryz.ntmps64
      go_upto_region 1 with fail
      obtain ⟨W0, hW0⟩ : ∃ x, w.alloc (.cells (msgC mc gr A ml.length cp) 40) = x := ⟨_, rfl⟩
      obtain ⟨p, hp⟩ : ∃ x, w.heap.size = x := ⟨_, rfl⟩
      rw [hW0] at HX0 HB0 H0 HD0 ⊢
      rw [hp] at HX0 HNP ⊢
      have HW := hid hp
      clear hW0 hp
      have y0 : W0.cell? ⟨K.g, 0, none⟩ = some (.int .i64 (K.c 4)) := H0.out.bx.cell 0
      have y5 : W0.cell? ⟨p, 5, none⟩ = some (.int .i64 (mc 5)) := HX0.out.cell 5
      have y6 : W0.cell? ⟨p, 6, none⟩ = some (.int .i64 (mc 6)) := HX0.out.cell 6
      have HI := hid (isfor_any H0.out (mc 5) (mc 6))
      rw [hf] at HI
      go_upto_region 2 with (go_at_call 91; refine HI.out.mono ?_; rintro e W1 ⟨rfl, hb⟩; have HB1 := hid hb; clear hb)
      have H1 := hid (H0.out.below HB1.out)
      have HX1 := hid (HX0.out.next HB1.out)
      have HD1 := hid (HD0.out.below HB1.out)
      clear y0 y5 y6 HX0 HD0
      have y5 : W1.cell? ⟨p, 5, none⟩ = some (.int .i64 (mc 5)) := HX1.out.cell 5
      have y6 : W1.cell? ⟨p, 6, none⟩ = some (.int .i64 (mc 6)) := HX1.out.cell 6
      have y10 : W1.cell? ⟨p, 10, none⟩ = some (.slice A ml.length cp) := HX1.out.cell 10
      have yG : W1.cell? ⟨K.g, 2, none⟩ = some (.pointer (some ⟨K.G, 0, none⟩)) := H1.out.bx.cell 2
      go_region_held3 (fun y => y.cell? ⟨p, 5, none⟩ = some (.int .i64 (mc 5)) ∧ y.cell? ⟨p, 6, none⟩ = some (.int .i64 (mc 6)) ∧ y.cell? ⟨p, 10, none⟩ = some (.slice A ml.length cp) ∧ y.cell? ⟨K.g, 2, none⟩ = some (.pointer (some ⟨K.G, 0, none⟩))) (first | exact kp | exact ⟨y5, y6, y10, yG⟩) ((go_at_call 92; refine (cput_any (H1.out.draws 1) HBB.out (HD1.out.below (below_draws (Below.refl _ _) 1)) (mc 5) (mc 6)).mono ?_; rintro e W2 ⟨x, A5, k5, c5, z, rfl, ha, hc, -⟩; have H2 := hid ha; have HC2 := hid hc; have HX2 := hid (hc.bx (HX1.out.draws 1) (fun ho => HNP.out p (H1.out.mine_x p (.inl ho)) rfl)); have kp := And.intro (HX2.out.cell 5) (And.intro (HX2.out.cell 6) (And.intro (HX2.out.cell 10) (ha.bx.cell 2))); clear ha hc))
      go_wp2
      go_ret
      exact ⟨_, rfl, H2.out.up (Nat.le_succ _), ((Chg.of HB0.out _).trans ((Chg.of HB1.out _).trans ((Chg.of (below_draws (Below.refl _ _) 1) _).trans HC2.out))).wide (own_mine K), tlv_nil _ _ _⟩
    | false =>
      rw [if_neg (fun hh => by cases hh.2)]
      clear h4
      unfold AC.ptr
      have hb0 := below_alloc w (.cells (msgC mc gr A ml.length cp) 40)
      have HX0 := hid (Bx.new w 40 (msgC mc gr A ml.length cp))
      have HB0 := hid hb0
      have H0 := hid (h.below hb0)
      have HNP := hid (show ∀ j, K.X j → j ≠ w.heap.size from fun j hj => by have := h.cm.lt j hj; omega)
      have HBB := hid hB
      clear hb0 h hB
      go_enter Tryz.func64, Tryz.ntmps64
      go_upto_region 1 with fail
      obtain ⟨W0, hW0⟩ : ∃ x, w.alloc (.cells (msgC mc gr A ml.length cp) 40) = x := ⟨_, rfl⟩
      obtain ⟨p, hp⟩ : ∃ x, w.heap.size = x := ⟨_, rfl⟩
      rw [hW0] at HX0 HB0 H0 HD0 ⊢
      rw [hp] at HX0 HNP ⊢
      have HW := hid hp
      clear hW0 hp
      have y0 : W0.cell? ⟨K.g, 0, none⟩ = some (.int .i64 (K.c 4)) := H0.out.bx.cell 0
      have y5 : W0.cell? ⟨p, 5, none⟩ = some (.int .i64 (mc 5)) := HX0.out.cell 5
      have y6 : W0.cell? ⟨p, 6, none⟩ = some (.int .i64 (mc 6)) := HX0.out.cell 6
      have HI := hid (isfor_any H0.out (mc 5) (mc 6))
      rw [hf] at HI
      go_wp2_with (go_at_call 91; refine HI.out.mono ?_; rintro e W1 ⟨rfl, hb⟩; have HB1 := hid hb; clear hb)
      go_ret
      exact ⟨_, rfl, (H0.out.below HB1.out).up (by omega), (Chg.of HB0.out _).trans (Chg.of HB1.out _), tlv_nil _ _ _⟩
  · have d4 : ((K.c 4 : Int) == 2) = false := by simpa using h4
    rw [if_neg (fun hh => h4 hh.1)]
    clear h4
    unfold AC.ptr
    have hb0 := below_alloc w (.cells (msgC mc gr A ml.length cp) 40)
    have HX0 := hid (Bx.new w 40 (msgC mc gr A ml.length cp))
    have HB0 := hid hb0
    have H0 := hid (h.below hb0)
    have HNP := hid (show ∀ j, K.X j → j ≠ w.heap.size from fun j hj => by have := h.cm.lt j hj; omega)
    have HBB := hid hB
    clear hb0 h hB
    go_enter Tryz.func64, Tryz.ntmps64
    go_upto_region 1 with fail
    obtain ⟨W0, hW0⟩ : ∃ x, w.alloc (.cells (msgC mc gr A ml.length cp) 40) = x := ⟨_, rfl⟩
    obtain ⟨p, hp⟩ : ∃ x, w.heap.size = x := ⟨_, rfl⟩
    rw [hW0] at HX0 HB0 H0 HD0 ⊢
    rw [hp] at HX0 HNP ⊢
    have HW := hid hp
    clear hW0 hp
    have y0 : W0.cell? ⟨K.g, 0, none⟩ = some (.int .i64 (K.c 4)) := H0.out.bx.cell 0
    have y5 : W0.cell? ⟨p, 5, none⟩ = some (.int .i64 (mc 5)) := HX0.out.cell 5
    have y6 : W0.cell? ⟨p, 6, none⟩ = some (.int .i64 (mc 6)) := HX0.out.cell 6
    have HI := hid (isfor_any H0.out (mc 5) (mc 6))
    go_wp2
    go_ret
    exact ⟨_, rfl, H0.out.up (by omega), Chg.of HB0.out _, tlv_nil _ _ _⟩
def deedsV : Array Value := #[.nilFunc, .nilFunc, .nilFunc, .nilFunc, .nilFunc, .nilFunc, .nilFunc, .nilFunc, .func (.func 62) #[] #[], .func (.func 63) #[] #[], .func (.func 64) #[] #[], .func (.func 65) #[] #[], .nilFunc, .nilFunc, .nilFunc]
set_option maxHeartbeats 1000000 in
theorem deeds_any (w : World) : Calls Tryz.prog 38 #[] w fun e w' => e = .returned (.agg deedsV) ∧ Below w.heap.size w w' := by
  go_enter Tryz.func38, Tryz.ntmps38
  go_wp2
  refine bodyPost_ret (results_bx1 rfl _ rfl (Bx.new w 85 deedsV) Tryz.underlying85 rfl (by kernel_rfl)) rfl ⟨rfl, below_alloc _ _⟩
theorem infoDeed : (Tryz.prog.info? 84).map (fun i => (i.zero, i.size, i.bytes)) = some (some .nilFunc, 1, 8) := by kernel_rfl
theorem index15 (cs : Array Value) (q : Nat) (v : Value) (hq : q < 15) (hv : cs[q]? = some v) (w : World) : (Instr.index 85 (.agg cs) (.int .i64 q)).run Tryz.prog w = .ok v w := by
  obtain ⟨i, hi, hz, hs, hb⟩ := info_parts infoDeed
  have hagg : ∀ w, (isAgg 84).run Tryz.prog w = .ok false w := fun w => by unfold isAgg; rw [Sem.run_bind, run_underlying Tryz.underlying84 w]; rfl
  have h0 : (q : Int) < 15 := by omega
  simp [Instr.index, asIntOf, run_underlying Tryz.underlying85, part, hagg, hv, sizeOf, typeInfo, hi, hs]
  intro h
  omega
theorem eqf_in (d : Nat) (m : FuncId) (w : World) : (Op.equalIn (d + 1) 84 (.func (.func m) #[] #[]) .nilFunc).run Tryz.prog w = .ok false w := by simp [Op.equalIn, run_underlying Tryz.underlying84]
theorem eqf_in2 (d : Nat) (w : World) : (Op.equalIn (d + 1) 84 .nilFunc .nilFunc).run Tryz.prog w = .ok true w := by simp [Op.equalIn, run_underlying Tryz.underlying84]
theorem eqf_no (m : FuncId) (w : World) : (binOp .eql 84 (.func (.func m) #[] #[]) .nilFunc).run Tryz.prog w = .ok (.bool false) w := by
  simp only [binOp]
  simp [show (Op.equal 84 (.func (.func m) #[] #[]) .nilFunc).run Tryz.prog w = .ok false w from eqf_in 9999 m w]
theorem eqf_yes (w : World) : (binOp .eql 84 .nilFunc .nilFunc).run Tryz.prog w = .ok (.bool true) w := by
  simp only [binOp]
  simp [show (Op.equal 84 .nilFunc .nilFunc).run Tryz.prog w = .ok true w from eqf_in2 9999 w]
set_option maxRecDepth 20000 in
set_option maxHeartbeats 2000000 in
theorem ahear_down (h : Am w K st o D B r true) : Calls Tryz.prog 15 #[K.ptr, .agg (msgC mc gr A n cp)] w (fun e w' => e = .returned (.slice none 0 0) ∧ Below w.heap.size w w') := by
  obtain ⟨b0, hB⟩ : ∃ b : Nat, 0 ≤ b := ⟨0, Nat.le_refl _⟩
  unfold AC.ptr
  have hb0 := below_alloc w (.cells (msgC mc gr A n cp) 40)
  have HX0 := hid (Bx.new w 40 (msgC mc gr A n cp))
  have HB0 := hid hb0
  have H0 := hid (h.below hb0)
  have HNP := hid (show ∀ j, K.X j → j ≠ w.heap.size from fun j hj => by have := h.cm.lt j hj; omega)
  have HBB := hid hB
  clear hb0 h hB
  go_enter Tryz.func15, Tryz.ntmps15
  go_upto_region 1 with fail
  obtain ⟨W0, hW0⟩ : ∃ x, w.alloc (.cells (msgC mc gr A n cp) 40) = x := ⟨_, rfl⟩
  obtain ⟨p, hp⟩ : ∃ x, w.heap.size = x := ⟨_, rfl⟩
  rw [hW0] at HX0 HB0 H0 ⊢
  rw [hp] at HX0 HNP ⊢
  have HW := hid hp
  clear hW0 hp
  have HDW := hid (adown_any H0.out)
  unfold AC.ptr at HDW
  go_wp2_with (go_at_call 22; refine HDW.out.mono ?_; rintro e W1 ⟨rfl, rfl⟩)
  go_ret
  exact ⟨rfl, HB0.out⟩
set_option maxRecDepth 20000 in
set_option maxHeartbeats 2000000 in
theorem ahear_wrong (h : Am w K st o D B r false) (hN : Nm w) (hnr : dec (RightM mc gr n) = false) : Calls Tryz.prog 15 #[K.ptr, .agg (msgC mc gr A n cp)] w (fun e w' => e = .returned (.slice none 0 0) ∧ Below w.heap.size w w') := by
  obtain ⟨b0, hB⟩ : ∃ b : Nat, 0 ≤ b := ⟨0, Nat.le_refl _⟩
  have HN := hid (hN.next (below_alloc w (.cells (msgC mc gr A n cp) 40)))
  have HNR := hid hnr
  clear hN hnr
  unfold AC.ptr
  have hb0 := below_alloc w (.cells (msgC mc gr A n cp) 40)
  have HX0 := hid (Bx.new w 40 (msgC mc gr A n cp))
  have HB0 := hid hb0
  have H0 := hid (h.below hb0)
  have HNP := hid (show ∀ j, K.X j → j ≠ w.heap.size from fun j hj => by have := h.cm.lt j hj; omega)
  have HBB := hid hB
  clear hb0 h hB
  go_enter Tryz.func15, Tryz.ntmps15
  go_upto_region 1 with fail
  obtain ⟨W0, hW0⟩ : ∃ x, w.alloc (.cells (msgC mc gr A n cp) 40) = x := ⟨_, rfl⟩
  obtain ⟨p, hp⟩ : ∃ x, w.heap.size = x := ⟨_, rfl⟩
  rw [hW0] at HX0 HB0 H0 HN ⊢
  rw [hp] at HX0 HNP ⊢
  have HW := hid hp
  clear hW0 hp
  have HDW := hid (adown_any H0.out)
  unfold AC.ptr at HDW
  go_wp2_with (first | (go_at_call 22; refine HDW.out.mono ?_; rintro e W1 ⟨rfl, rfl⟩) | (refine wpList_load_bxg (by rfl) 40 (.tmp 3) rfl p _ _ _ rfl HX0.out Tryz.underlying40 rfl (by kernel_rfl) ?_) | (go_at_call 37; refine (mright_any mc gr A n cp _ HN.out).mono ?_; rintro e W2 ⟨rfl, hb⟩; rw [HNR.out]; have HB2 := hid hb; clear hb))
  go_ret
  exact ⟨rfl, on HB0.out HB2.out⟩
set_option maxRecDepth 20000 in
set_option maxHeartbeats 2000000 in
theorem ahear_read (h : Am w K st o D B r false) (hN : Nm w) (hr : dec (RightM mc gr n) = true) (hk : mc 0 = 8) {R : Value → World → Prop} (hc : ∀ y, Below w.heap.size w y → Calls Tryz.prog 62 #[K.ptr, .agg (msgC mc gr A n cp)] y (RtH R)) : Calls Tryz.prog 15 #[K.ptr, .agg (msgC mc gr A n cp)] w (RtH R) := by
  obtain ⟨b0, hB⟩ : ∃ b : Nat, 0 ≤ b := ⟨0, Nat.le_refl _⟩
  have HN := hid (hN.next (below_alloc w (.cells (msgC mc gr A n cp) 40)))
  have HNR := hid hr
  have HKK := hid hk
  have HIX := hid (show ∀ w : World, (Instr.index 85 (.agg deedsV) (.int .i64 8)).run Tryz.prog w = .ok (.func (.func 62) #[] #[]) w from fun w => index15 deedsV 8 _ (by omega) rfl w)
  have HC := hid hc
  clear hc hk
  clear hN hr
  unfold AC.ptr
  have hb0 := below_alloc w (.cells (msgC mc gr A n cp) 40)
  have HX0 := hid (Bx.new w 40 (msgC mc gr A n cp))
  have HB0 := hid hb0
  have H0 := hid (h.below hb0)
  have HNP := hid (show ∀ j, K.X j → j ≠ w.heap.size from fun j hj => by have := h.cm.lt j hj; omega)
  have HBB := hid hB
  clear hb0 h hB
  go_enter Tryz.func15, Tryz.ntmps15
  go_upto_region 1 with fail
  obtain ⟨W0, hW0⟩ : ∃ x, w.alloc (.cells (msgC mc gr A n cp) 40) = x := ⟨_, rfl⟩
  obtain ⟨p, hp⟩ : ∃ x, w.heap.size = x := ⟨_, rfl⟩
  rw [hW0] at HX0 HB0 H0 HN ⊢
  rw [hp] at HX0 HNP ⊢
  have HW := hid hp
  clear hW0 hp
  have HDW := hid (adown_any H0.out)
  unfold AC.ptr at HDW
  go_upto_region 3 with (first | (go_at_call 22; refine HDW.out.mono ?_; rintro e W1 ⟨rfl, rfl⟩) | (refine wpList_load_bxg (by rfl) 40 (.tmp 3) rfl p _ _ _ rfl HX0.out Tryz.underlying40 rfl (by kernel_rfl) ?_) | (go_at_call 37; refine (mright_any mc gr A n cp _ HN.out).mono ?_; rintro e W2 ⟨rfl, hb⟩; rw [HNR.out]; have HB2 := hid hb; clear hb))
  have HX2 := hid (HX0.out.next HB2.out)
  have H2 := hid (H0.out.below HB2.out)
  have HK0 := hid (show (msgC mc gr A n cp)[0]? = some (.int .i64 8) from congrArg (fun x => some (Value.int .i64 x)) HKK.out)
  have y0 : W2.cell? ⟨p, 0, none⟩ = some (.int .i64 8) := (HX2.out.cell 0).trans HK0.out
  have i0 := HIX.out
  go_region_held3 (fun y => y.cell? ⟨p, 0, none⟩ = some (.int .i64 8)) (first | exact kp | exact y0) ((go_at_call 38; refine (deeds_any _).mono ?_; rintro e W3 ⟨rfl, hb⟩; have HB3 := hid (below_of_drew hb); have HX3 := hid (HX2.out.next HB3.out); have kp := (HX3.out.cell 0).trans HK0.out; clear hb))
  have H3 := hid (H2.out.below HB3.out)
  clear kp y0 i0 HX2 H2 HX0 H0 HN HDW
  have eqn := eqf_no 62
  have HCQ := hid (HC.out W3 (on (on HB0.out HB2.out) HB3.out))
  unfold AC.ptr at HCQ
  go_wp2_with (first | (refine wpList_load_bx rfl 40 (.tmp 3) rfl p _ _ _ rfl HX3.out Tryz.underlying40 rfl (by kernel_rfl) ?_) | (go_at_call 62; refine HCQ.out.mono ?_; rintro e W4 ⟨u, rfl, hq⟩; have HQ4 := hid hq; clear hq))
  go_ret
  exact ⟨_, rfl, HQ4.out⟩
set_option maxRecDepth 20000 in
set_option maxHeartbeats 2000000 in
theorem ahear_write (h : Am w K st o D B r false) (hN : Nm w) (hr : dec (RightM mc gr n) = true) (hk : mc 0 = 9) {R : Value → World → Prop} (hc : ∀ y, Below w.heap.size w y → Calls Tryz.prog 63 #[K.ptr, .agg (msgC mc gr A n cp)] y (RtH R)) : Calls Tryz.prog 15 #[K.ptr, .agg (msgC mc gr A n cp)] w (RtH R) := by
  obtain ⟨b0, hB⟩ : ∃ b : Nat, 0 ≤ b := ⟨0, Nat.le_refl _⟩
  have HN := hid (hN.next (below_alloc w (.cells (msgC mc gr A n cp) 40)))
  have HNR := hid hr
  have HKK := hid hk
  have HIX := hid (show ∀ w : World, (Instr.index 85 (.agg deedsV) (.int .i64 9)).run Tryz.prog w = .ok (.func (.func 63) #[] #[]) w from fun w => index15 deedsV 9 _ (by omega) rfl w)
  have HC := hid hc
  clear hc hk
  clear hN hr
  unfold AC.ptr
  have hb0 := below_alloc w (.cells (msgC mc gr A n cp) 40)
  have HX0 := hid (Bx.new w 40 (msgC mc gr A n cp))
  have HB0 := hid hb0
  have H0 := hid (h.below hb0)
  have HNP := hid (show ∀ j, K.X j → j ≠ w.heap.size from fun j hj => by have := h.cm.lt j hj; omega)
  have HBB := hid hB
  clear hb0 h hB
  go_enter Tryz.func15, Tryz.ntmps15
  go_upto_region 1 with fail
  obtain ⟨W0, hW0⟩ : ∃ x, w.alloc (.cells (msgC mc gr A n cp) 40) = x := ⟨_, rfl⟩
  obtain ⟨p, hp⟩ : ∃ x, w.heap.size = x := ⟨_, rfl⟩
  rw [hW0] at HX0 HB0 H0 HN ⊢
  rw [hp] at HX0 HNP ⊢
  have HW := hid hp
  clear hW0 hp
  have HDW := hid (adown_any H0.out)
  unfold AC.ptr at HDW
  go_upto_region 3 with (first | (go_at_call 22; refine HDW.out.mono ?_; rintro e W1 ⟨rfl, rfl⟩) | (refine wpList_load_bxg (by rfl) 40 (.tmp 3) rfl p _ _ _ rfl HX0.out Tryz.underlying40 rfl (by kernel_rfl) ?_) | (go_at_call 37; refine (mright_any mc gr A n cp _ HN.out).mono ?_; rintro e W2 ⟨rfl, hb⟩; rw [HNR.out]; have HB2 := hid hb; clear hb))
  have HX2 := hid (HX0.out.next HB2.out)
  have H2 := hid (H0.out.below HB2.out)
  have HK0 := hid (show (msgC mc gr A n cp)[0]? = some (.int .i64 9) from congrArg (fun x => some (Value.int .i64 x)) HKK.out)
  have y0 : W2.cell? ⟨p, 0, none⟩ = some (.int .i64 9) := (HX2.out.cell 0).trans HK0.out
  have i0 := HIX.out
  go_region_held3 (fun y => y.cell? ⟨p, 0, none⟩ = some (.int .i64 9)) (first | exact kp | exact y0) ((go_at_call 38; refine (deeds_any _).mono ?_; rintro e W3 ⟨rfl, hb⟩; have HB3 := hid (below_of_drew hb); have HX3 := hid (HX2.out.next HB3.out); have kp := (HX3.out.cell 0).trans HK0.out; clear hb))
  have H3 := hid (H2.out.below HB3.out)
  clear kp y0 i0 HX2 H2 HX0 H0 HN HDW
  have eqn := eqf_no 63
  have HCQ := hid (HC.out W3 (on (on HB0.out HB2.out) HB3.out))
  unfold AC.ptr at HCQ
  go_wp2_with (first | (refine wpList_load_bx rfl 40 (.tmp 3) rfl p _ _ _ rfl HX3.out Tryz.underlying40 rfl (by kernel_rfl) ?_) | (go_at_call 63; refine HCQ.out.mono ?_; rintro e W4 ⟨u, rfl, hq⟩; have HQ4 := hid hq; clear hq))
  go_ret
  exact ⟨_, rfl, HQ4.out⟩
set_option maxRecDepth 20000 in
set_option maxHeartbeats 2000000 in
theorem ahear_demote (h : Am w K st o D B r false) (hN : Nm w) (hr : dec (RightM mc gr n) = true) (hk : mc 0 = 10) {R : Value → World → Prop} (hc : ∀ y, Below w.heap.size w y → Calls Tryz.prog 64 #[K.ptr, .agg (msgC mc gr A n cp)] y (RtH R)) : Calls Tryz.prog 15 #[K.ptr, .agg (msgC mc gr A n cp)] w (RtH R) := by
  obtain ⟨b0, hB⟩ : ∃ b : Nat, 0 ≤ b := ⟨0, Nat.le_refl _⟩
  have HN := hid (hN.next (below_alloc w (.cells (msgC mc gr A n cp) 40)))
  have HNR := hid hr
  have HKK := hid hk
  have HIX := hid (show ∀ w : World, (Instr.index 85 (.agg deedsV) (.int .i64 10)).run Tryz.prog w = .ok (.func (.func 64) #[] #[]) w from fun w => index15 deedsV 10 _ (by omega) rfl w)
  have HC := hid hc
  clear hc hk
  clear hN hr
  unfold AC.ptr
  have hb0 := below_alloc w (.cells (msgC mc gr A n cp) 40)
  have HX0 := hid (Bx.new w 40 (msgC mc gr A n cp))
  have HB0 := hid hb0
  have H0 := hid (h.below hb0)
  have HNP := hid (show ∀ j, K.X j → j ≠ w.heap.size from fun j hj => by have := h.cm.lt j hj; omega)
  have HBB := hid hB
  clear hb0 h hB
  go_enter Tryz.func15, Tryz.ntmps15
  go_upto_region 1 with fail
  obtain ⟨W0, hW0⟩ : ∃ x, w.alloc (.cells (msgC mc gr A n cp) 40) = x := ⟨_, rfl⟩
  obtain ⟨p, hp⟩ : ∃ x, w.heap.size = x := ⟨_, rfl⟩
  rw [hW0] at HX0 HB0 H0 HN ⊢
  rw [hp] at HX0 HNP ⊢
  have HW := hid hp
  clear hW0 hp
  have HDW := hid (adown_any H0.out)
  unfold AC.ptr at HDW
  go_upto_region 3 with (first | (go_at_call 22; refine HDW.out.mono ?_; rintro e W1 ⟨rfl, rfl⟩) | (refine wpList_load_bxg (by rfl) 40 (.tmp 3) rfl p _ _ _ rfl HX0.out Tryz.underlying40 rfl (by kernel_rfl) ?_) | (go_at_call 37; refine (mright_any mc gr A n cp _ HN.out).mono ?_; rintro e W2 ⟨rfl, hb⟩; rw [HNR.out]; have HB2 := hid hb; clear hb))
  have HX2 := hid (HX0.out.next HB2.out)
  have H2 := hid (H0.out.below HB2.out)
  have HK0 := hid (show (msgC mc gr A n cp)[0]? = some (.int .i64 10) from congrArg (fun x => some (Value.int .i64 x)) HKK.out)
  have y0 : W2.cell? ⟨p, 0, none⟩ = some (.int .i64 10) := (HX2.out.cell 0).trans HK0.out
  have i0 := HIX.out
  go_region_held3 (fun y => y.cell? ⟨p, 0, none⟩ = some (.int .i64 10)) (first | exact kp | exact y0) ((go_at_call 38; refine (deeds_any _).mono ?_; rintro e W3 ⟨rfl, hb⟩; have HB3 := hid (below_of_drew hb); have HX3 := hid (HX2.out.next HB3.out); have kp := (HX3.out.cell 0).trans HK0.out; clear hb))
  have H3 := hid (H2.out.below HB3.out)
  clear kp y0 i0 HX2 H2 HX0 H0 HN HDW
  have eqn := eqf_no 64
  have HCQ := hid (HC.out W3 (on (on HB0.out HB2.out) HB3.out))
  unfold AC.ptr at HCQ
  go_wp2_with (first | (refine wpList_load_bx rfl 40 (.tmp 3) rfl p _ _ _ rfl HX3.out Tryz.underlying40 rfl (by kernel_rfl) ?_) | (go_at_call 64; refine HCQ.out.mono ?_; rintro e W4 ⟨u, rfl, hq⟩; have HQ4 := hid hq; clear hq))
  go_ret
  exact ⟨_, rfl, HQ4.out⟩
set_option maxRecDepth 20000 in
set_option maxHeartbeats 2000000 in
theorem ahear_drop (h : Am w K st o D B r false) (hN : Nm w) (hr : dec (RightM mc gr n) = true) (hk : mc 0 = 11) {R : Value → World → Prop} (hc : ∀ y, Below w.heap.size w y → Calls Tryz.prog 65 #[K.ptr, .agg (msgC mc gr A n cp)] y (RtH R)) : Calls Tryz.prog 15 #[K.ptr, .agg (msgC mc gr A n cp)] w (RtH R) := by
  obtain ⟨b0, hB⟩ : ∃ b : Nat, 0 ≤ b := ⟨0, Nat.le_refl _⟩
  have HN := hid (hN.next (below_alloc w (.cells (msgC mc gr A n cp) 40)))
  have HNR := hid hr
  have HKK := hid hk
  have HIX := hid (show ∀ w : World, (Instr.index 85 (.agg deedsV) (.int .i64 11)).run Tryz.prog w = .ok (.func (.func 65) #[] #[]) w from fun w => index15 deedsV 11 _ (by omega) rfl w)
  have HC := hid hc
  clear hc hk
  clear hN hr
  unfold AC.ptr
  have hb0 := below_alloc w (.cells (msgC mc gr A n cp) 40)
  have HX0 := hid (Bx.new w 40 (msgC mc gr A n cp))
  have HB0 := hid hb0
  have H0 := hid (h.below hb0)
  have HNP := hid (show ∀ j, K.X j → j ≠ w.heap.size from fun j hj => by have := h.cm.lt j hj; omega)
  have HBB := hid hB
  clear hb0 h hB
  go_enter Tryz.func15, Tryz.ntmps15
  go_upto_region 1 with fail
  obtain ⟨W0, hW0⟩ : ∃ x, w.alloc (.cells (msgC mc gr A n cp) 40) = x := ⟨_, rfl⟩
  obtain ⟨p, hp⟩ : ∃ x, w.heap.size = x := ⟨_, rfl⟩
  rw [hW0] at HX0 HB0 H0 HN ⊢
  rw [hp] at HX0 HNP ⊢
  have HW := hid hp
  clear hW0 hp
  have HDW := hid (adown_any H0.out)
  unfold AC.ptr at HDW
  go_upto_region 3 with (first | (go_at_call 22; refine HDW.out.mono ?_; rintro e W1 ⟨rfl, rfl⟩) | (refine wpList_load_bxg (by rfl) 40 (.tmp 3) rfl p _ _ _ rfl HX0.out Tryz.underlying40 rfl (by kernel_rfl) ?_) | (go_at_call 37; refine (mright_any mc gr A n cp _ HN.out).mono ?_; rintro e W2 ⟨rfl, hb⟩; rw [HNR.out]; have HB2 := hid hb; clear hb))
  have HX2 := hid (HX0.out.next HB2.out)
  have H2 := hid (H0.out.below HB2.out)
  have HK0 := hid (show (msgC mc gr A n cp)[0]? = some (.int .i64 11) from congrArg (fun x => some (Value.int .i64 x)) HKK.out)
  have y0 : W2.cell? ⟨p, 0, none⟩ = some (.int .i64 11) := (HX2.out.cell 0).trans HK0.out
  have i0 := HIX.out
  go_region_held3 (fun y => y.cell? ⟨p, 0, none⟩ = some (.int .i64 11)) (first | exact kp | exact y0) ((go_at_call 38; refine (deeds_any _).mono ?_; rintro e W3 ⟨rfl, hb⟩; have HB3 := hid (below_of_drew hb); have HX3 := hid (HX2.out.next HB3.out); have kp := (HX3.out.cell 0).trans HK0.out; clear hb))
  have H3 := hid (H2.out.below HB3.out)
  clear kp y0 i0 HX2 H2 HX0 H0 HN HDW
  have eqn := eqf_no 65
  have HCQ := hid (HC.out W3 (on (on HB0.out HB2.out) HB3.out))
  unfold AC.ptr at HCQ
  go_wp2_with (first | (refine wpList_load_bx rfl 40 (.tmp 3) rfl p _ _ _ rfl HX3.out Tryz.underlying40 rfl (by kernel_rfl) ?_) | (go_at_call 65; refine HCQ.out.mono ?_; rintro e W4 ⟨u, rfl, hq⟩; have HQ4 := hid hq; clear hq))
  go_ret
  exact ⟨_, rfl, HQ4.out⟩
set_option maxRecDepth 20000 in
set_option maxHeartbeats 2000000 in
theorem ahear_else (h : Am w K st o D B r false) (hN : Nm w) (hr : dec (RightM mc gr n) = true) (q : Nat) (hk : mc 0 = q) (hq : q < 15) (hv : deedsV[q]? = some .nilFunc) : Calls Tryz.prog 15 #[K.ptr, .agg (msgC mc gr A n cp)] w (fun e w' => e = .returned (.slice none 0 0) ∧ Below w.heap.size w w') := by
  obtain ⟨b0, hB⟩ : ∃ b : Nat, 0 ≤ b := ⟨0, Nat.le_refl _⟩
  have HN := hid (hN.next (below_alloc w (.cells (msgC mc gr A n cp) 40)))
  have HNR := hid hr
  have HKK := hid hk
  have HIX := hid (fun w => index15 deedsV q .nilFunc hq hv w)
  clear hk hq hv
  clear hN hr
  unfold AC.ptr
  have hb0 := below_alloc w (.cells (msgC mc gr A n cp) 40)
  have HX0 := hid (Bx.new w 40 (msgC mc gr A n cp))
  have HB0 := hid hb0
  have H0 := hid (h.below hb0)
  have HNP := hid (show ∀ j, K.X j → j ≠ w.heap.size from fun j hj => by have := h.cm.lt j hj; omega)
  have HBB := hid hB
  clear hb0 h hB
  go_enter Tryz.func15, Tryz.ntmps15
  go_upto_region 1 with fail
  obtain ⟨W0, hW0⟩ : ∃ x, w.alloc (.cells (msgC mc gr A n cp) 40) = x := ⟨_, rfl⟩
  obtain ⟨p, hp⟩ : ∃ x, w.heap.size = x := ⟨_, rfl⟩
  rw [hW0] at HX0 HB0 H0 HN ⊢
  rw [hp] at HX0 HNP ⊢
  have HW := hid hp
  clear hW0 hp
  have HDW := hid (adown_any H0.out)
  unfold AC.ptr at HDW
  go_upto_region 3 with (first | (go_at_call 22; refine HDW.out.mono ?_; rintro e W1 ⟨rfl, rfl⟩) | (refine wpList_load_bxg (by rfl) 40 (.tmp 3) rfl p _ _ _ rfl HX0.out Tryz.underlying40 rfl (by kernel_rfl) ?_) | (go_at_call 37; refine (mright_any mc gr A n cp _ HN.out).mono ?_; rintro e W2 ⟨rfl, hb⟩; rw [HNR.out]; have HB2 := hid hb; clear hb))
  have HX2 := hid (HX0.out.next HB2.out)
  have H2 := hid (H0.out.below HB2.out)
  have HK0 := hid (show (msgC mc gr A n cp)[0]? = some (.int .i64 q) from congrArg (fun x => some (Value.int .i64 x)) HKK.out)
  have y0 : W2.cell? ⟨p, 0, none⟩ = some (.int .i64 q) := (HX2.out.cell 0).trans HK0.out
  have i0 := HIX.out
  go_region_held3 (fun y => y.cell? ⟨p, 0, none⟩ = some (.int .i64 q)) (first | exact kp | exact y0) ((go_at_call 38; refine (deeds_any _).mono ?_; rintro e W3 ⟨rfl, hb⟩; have HB3 := hid (below_of_drew hb); have HX3 := hid (HX2.out.next HB3.out); have kp := (HX3.out.cell 0).trans HK0.out; clear hb))
  have H3 := hid (H2.out.below HB3.out)
  clear kp y0 i0 HX2 H2 HX0 H0 HN HDW
  have eqn := eqf_yes
  go_wp2
  go_ret
  exact ⟨rfl, on (on HB0.out HB2.out) HB3.out⟩
theorem RdQ.from_ {p : S18 × List Tm} {y : World} {e : Ending} (hb : Below w.heap.size w y) (h : RdQ y K st B dn p e w') : RdQ w K st B dn p e w' := by
  obtain ⟨u, h1, h2, h3, h4⟩ := h
  exact ⟨u, h1, h2, (Chg.of hb _).trans h3, h4.low hb.size⟩
theorem WrE.from_ {Y : RS} {p : S18 × List Tm} {y : World} {e : Ending} (hb : Below w.heap.size w y) (h : WrE y K L f X Y o D B r p e w') : WrE w K L f X Y o D B r p e w' := by
  obtain ⟨u, L', f', h1, h2, h3⟩ := h
  exact ⟨u, L', f', h1, (Chg.of hb _).trans h2, h3.imp (fun ⟨a, b, c, d⟩ => ⟨a, b, c, d.low hb.size⟩) id⟩
theorem rdq_rt {p : S18 × List Tm} {e : Ending} (h : RdQ w K st B dn p e w') : RtH (fun u w' => RdQ w K st B dn p (.returned u) w') e w' := by
  obtain ⟨u, rfl, h2⟩ := id h
  exact ⟨u, rfl, h⟩
theorem wre_rt {Y : RS} {p : S18 × List Tm} {e : Ending} (h : WrE w K L f X Y o D B r p e w') : RtH (fun u w' => WrE w K L f X Y o D B r p (.returned u) w') e w' := by
  obtain ⟨u, L', f', rfl, h2⟩ := id h
  exact ⟨u, rfl, h⟩
theorem rt_rdq {p : S18 × List Tm} {e : Ending} (h : RtH (fun u w' => RdQ w K st B dn p (.returned u) w') e w') : RdQ w K st B dn p e w' := by
  obtain ⟨u, rfl, h2⟩ := h
  exact h2
theorem rt_wre {Y : RS} {p : S18 × List Tm} {e : Ending} (h : RtH (fun u w' => WrE w K L f X Y o D B r p (.returned u) w') e w') : WrE w K L f X Y o D B r p e w' := by
  obtain ⟨u, rfl, h2⟩ := h
  exact h2
theorem ahear_any (h : Am w K ⟨L, f, false⟩ o D B r false) (hN : Nm w) (hF : Fine (shC K.c) L X) (hB : B ≤ 9000000) (hr : 0 ≤ r ∧ r ≤ 1000000000) (hd : By w K.X (.slice A n cp) ml) (hby : Byt ml) : Calls Tryz.prog 15 #[K.ptr, .agg (msgC mc gr A n cp)] w (WrE w K L f X (rwr (shC K.c) X (wrX ⟨mc, gr, ml⟩)).1 o D B r (hearF K.c ⟨X, o, D, r⟩ ⟨mc, gr, ml⟩)) := by
  have hn := by_len hd
  have rest : ∀ e w', (e = .returned (.slice none 0 0) ∧ Below w.heap.size w w') → WrE w K L f X (rwr (shC K.c) X (wrX ⟨mc, gr, ml⟩)).1 o D B r (⟨X, o, D, r⟩, []) e w' := fun e w' ⟨h1, h2⟩ => ⟨_, L, f, h1, Chg.of h2 _, .inl ⟨(h.below h2).up (by omega), hF, fun _ => rfl, tlv_nil _ _ _⟩⟩
  unfold hearF
  dsimp only
  rw [← hn]
  cases hR : dec (RightM mc gr n) with
  | false =>
    rw [if_pos rfl]
    exact (ahear_wrong h hN hR).mono rest
  | true =>
    rw [if_neg (by simp)]
    have hRM : RightM mc gr n := dec_iff.1 hR
    have hb5 : 0 ≤ mc 5 := (hRM.2 5 (by omega) (by omega)).1
    have hT : ∀ b, 0 ≤ b → b < K.c 2 → rdL K.c ⟨L, f, false⟩ b = X.T b.toNat := fun b h1 h2 => (rd_fine h hF b h1 h2).1
    by_cases h8 : mc 0 = 8
    · rw [if_pos h8]
      refine (ahear_read h hN hR h8 fun y hb => (((aread_any (h.below hb) hB hr hb5 hT).mono fun e w' hq => rdq_rt (hq.from_ hb)))).mono fun e w' hq => rdq_wre (m := ⟨mc, gr, ml⟩) (rt_rdq hq) (hrR_X _ _ _) hF
    · rw [if_neg h8]
      by_cases h9 : mc 0 = 9
      · rw [if_pos h9]
        exact (ahear_write h hN hR h9 fun y hb => (((awrite_any (h.below hb) hF hB (hd.below hb) hby).mono fun e w' hq => wre_rt (WrE.from_ hb hq)))).mono fun e w' hq => rt_wre hq
      · rw [if_neg h9]
        by_cases h10 : mc 0 = 10
        · rw [if_pos h10]
          exact (ahear_demote h hN hR h10 fun y hb => (((ademote_any (h.below hb) (by omega) (hd.below hb)).mono fun e w' hq => rdq_rt (hq.from_ hb)))).mono fun e w' hq => rdq_wre (m := ⟨mc, gr, ml⟩) (rt_rdq hq) (hrM_X _ _ _) hF
        · rw [if_neg h10]
          by_cases h11 : mc 0 = 11
          · rw [if_pos h11]
            exact (ahear_drop h hN hR h11 fun y hb => (((adrop_any (h.below hb) (by omega)).mono fun e w' hq => rdq_rt (hq.from_ hb)))).mono fun e w' hq => rdq_wre (m := ⟨mc, gr, ml⟩) (rt_rdq hq) rfl hF
          · rw [if_neg h11]
            have hk := hRM.1
            obtain ⟨q, hq⟩ : ∃ q : Nat, mc 0 = q := ⟨(mc 0).toNat, by omega⟩
            have hq15 : q < 15 := by omega
            have hv : deedsV[q]? = some .nilFunc := by
              obtain h1 | h1 : q < 8 ∨ (12 ≤ q ∧ q < 15) := by omega
              · obtain rfl | rfl | rfl | rfl | rfl | rfl | rfl | rfl : q = 0 ∨ q = 1 ∨ q = 2 ∨ q = 3 ∨ q = 4 ∨ q = 5 ∨ q = 6 ∨ q = 7 := by omega
                all_goals rfl
              · obtain rfl | rfl | rfl : q = 12 ∨ q = 13 ∨ q = 14 := by omega
                all_goals rfl
            exact (ahear_else h hN hR q hq hq15 hv).mono rest
end
end Go.Proofs.YtbcejfonkehjgaaGreatDoor
namespace Go.Proofs.YtbcejfonkehjgaaGreatDoor
open Go.RowKit

section
variable {w w' : World} {c : Nat → Int} {A : Option Addr} {n cq : Nat} {hh : Nat → Hn} {bb kd : Nat} {vv : Value} {st : St}
theorem rt_nat (rt : RightP c hh n) : c 2 = ((c 2).toNat : Int) ∧ c 3 = ((c 3).toNat : Int) ∧ c 0 = ((c 0).toNat : Int) ∧ c 1 = ((c 1).toNat : Int) ∧ (shC c).ok := by
  have h0 : (1 : Int) ≤ c 0 ∧ c 0 ≤ 4 := rt.1 0 (by omega)
  have h1 : (1 : Int) ≤ c 1 ∧ c 1 ≤ 4 := rt.1 1 (by omega)
  have h2 : (1 : Int) ≤ c 2 ∧ c 2 ≤ 32 := rt.1 2 (by omega)
  have h3 : (1 : Int) ≤ c 3 ∧ c 3 ≤ 16 := rt.1 3 (by omega)
  refine ⟨by omega, by omega, by omega, by omega, ⟨?_, ?_, ?_, ?_⟩⟩
  · show 1 ≤ (c 2).toNat ∧ (c 2).toNat ≤ 32; omega
  · show 1 ≤ (c 3).toNat ∧ (c 3).toNat ≤ 16; omega
  · show 1 ≤ (c 0).toNat ∧ (c 0).toNat ≤ 4; omega
  · show 1 ≤ (c 1).toNat ∧ (c 1).toNat ≤ 4; omega
theorem sh_top (rt : RightP c hh n) : (shC c).at_ (shC c).C 0 ≤ 64 := by
  obtain ⟨-, -, -, -, ok⟩ := rt_nat rt
  have h1 := ok.b
  have h2 := ok.c
  have h3 := ok.s
  unfold Sh.at_
  have h4 : (shC c).S * (shC c).C ≤ 4 * 4 := Nat.mul_le_mul h3.2 h2.2
  omega
theorem aopen_ok (rt : RightP c hh n) (hd : Dk w 77 bb kd vv st) (hlen : (shC c).at_ (shC c).C 0 ≤ st.L.length) (hby : ∀ l ∈ st.L, Ok1 l) (hr : (rdo (shC c) st (sec st.L 0)).2 = 0) :
    Calls Tryz.prog 31 #[.pointer (some ⟨kd, 0, none⟩), .agg #[.int .i64 (c 2), .int .i64 (c 3), .int .i64 (c 0), .int .i64 (c 1)]] w fun e w' =>
      ∃ ks, e = .returned (.tuple #[.pointer (some ⟨ks, 0, none⟩), .int .i64 0]) ∧ Sx w' bb kd ks vv (rdo (shC c) st (sec st.L 0)).1 (shC c) ∧ Only w w' kd vv ∧ w.heap.size ≤ ks := by
  obtain ⟨e2, e3, e0, e1, ok⟩ := rt_nat rt
  have h := open_ok (c 2).toNat (c 3).toNat (c 0).toNat (c 1).toNat hd ok hlen hby (sec st.L 0) (sec_some (by have h1 := hlen; rw [top_eq] at h1; omega)) hr
  rw [← e2, ← e3, ← e0, ← e1] at h
  exact h
theorem Dk.text_lt {g i m c : Nat} {A : Addr} (h : Dk w 77 bb kd vv st) (hg : vv.ownBlock = some g) (hi : i < st.L.length) (h0 : w.cell? ⟨g, i, none⟩ = some (.slice (some A) m c)) (hm : 0 < m) : A.block < w.heap.size := by
  obtain ⟨us, hw, hu⟩ := h.row
  obtain ⟨u, e1, A', c', rfl, hr, _⟩ := hu i _ (List.getElem?_eq_getElem hi)
  obtain ⟨g', c2, hvv, _, _⟩ := World.ownsRow.form hw (by omega)
  rw [hvv] at hw hg
  have eg : g' = g := by simpa [Value.ownBlock] using hg
  subst eg
  have h3 := World.ownsRow.cellAt hw i (by omega)
  rw [h0, e1] at h3
  injection h3 with h3
  injection h3 with e3 e4 e5
  subst e3
  obtain ⟨ad, e6, hlt2, _⟩ := Rd.get hr (k := 0) (by omega)
  injection e6 with e6
  subst e6
  exact hlt2
set_option maxRecDepth 20000 in
set_option maxHeartbeats 2000000 in
theorem anew_no (hr : Rv w w.heap.size A (hvs hh n)) (hn : n ≤ maxLen) (h : ¬ RightP c hh n) (vd : Value) :
    Calls Tryz.prog 10 #[.agg (cfgC c A n cq), vd] w fun e w' => e = .returned (.tuple #[.pointer none, .int .i64 6]) ∧ Below w.heap.size w w' := by
  have hb0 := below_alloc w (.cells (cfgC c A n cq) 25)
  have HX0 := hid (Bx.new w 25 (cfgC c A n cq))
  have HB0 := hid hb0
  have HR0 := hid ((hr.below hb0 (Nat.le_refl _)).more hb0.size)
  have HN := hid (fun (y : World) (hy : Rv y y.heap.size A (hvs hh n)) => cm_new_no (c := c) (cq := cq) (τ := 3) hy hn fun hh => h hh.1)
  clear hr hb0 h hn
  go_enter Tryz.func10, Tryz.ntmps10
  go_wp2_with (first | (refine wpList_load_bxg (by rfl) 25 (.tmp 2) rfl _ _ _ _ rfl HX0.out Tryz.underlying25 rfl (by kernel_rfl) ?_) | (go_at_call 30; refine (HN.out _ HR0.out).mono ?_; rintro e W1 ⟨rfl, hb⟩; have HB1 := hid (on HB0.out hb); clear hb))
  go_ret2
  exact ⟨rfl, HB1.out⟩
set_option maxRecDepth 20000 in
set_option maxHeartbeats 2000000 in
theorem anew_nil (rt : RightP c hh n) (hr : Rv w w.heap.size A (hvs hh n)) (ca : A = none → cq = 0) :
    Calls Tryz.prog 10 #[.agg (cfgC c A n cq), .pointer none] w fun e w' => e = .returned (.tuple #[.pointer none, .int .i64 7]) ∧ Below w.heap.size w w' := by
  have hb0 := below_alloc w (.cells (cfgC c A n cq) 25)
  have HX0 := hid (Bx.new w 25 (cfgC c A n cq))
  have HB0 := hid hb0
  have HR0 := hid ((hr.below hb0 (Nat.le_refl _)).more hb0.size)
  have HN := hid (fun (y : World) (hy : Rv y y.heap.size A (hvs hh n)) => cm_new_yes (w := y) rt hy ca (T := 3) (by omega) (by omega))
  clear hr hb0 rt ca
  go_enter Tryz.func10, Tryz.ntmps10
  go_upto_region 4 with (first | (refine wpList_load_bxg (by rfl) 25 (.tmp 2) rfl _ _ _ _ rfl HX0.out Tryz.underlying25 rfl (by kernel_rfl) ?_) | (go_at_call 30; refine (HN.out _ HR0.out).mono ?_; rintro e W1 ⟨G, M, A5, cp5, v5, F5, rfl, hb, ho, hc⟩; have HB1 := hid (on HB0.out hb); have HX1 := hid (HX0.out.next hb); clear hb ho hc))
  have x0 : W1.cell? ⟨w.heap.size, 0, none⟩ = some (.int .i64 (c 0)) := HX1.out.cell 0
  have x1 : W1.cell? ⟨w.heap.size, 1, none⟩ = some (.int .i64 (c 1)) := HX1.out.cell 1
  have x2 : W1.cell? ⟨w.heap.size, 2, none⟩ = some (.int .i64 (c 2)) := HX1.out.cell 2
  have x3 : W1.cell? ⟨w.heap.size, 3, none⟩ = some (.int .i64 (c 3)) := HX1.out.cell 3
  go_wp2_with (go_at_call 31; refine (open_nil _ _ _ _ _).mono ?_; rintro e W2 ⟨rfl, hb⟩; have HB2 := hid (on HB1.out hb); clear hb)
  go_ret2
  exact ⟨rfl, HB2.out⟩
def AnewQ (w : World) (Z : Nat → Prop) (bb kd : Nat) (vv : Value) (st : St) (c : Nat → Int) (n : Nat) (hh : Nat → Hn) (e : Ending) (w' : World) : Prop :=
  ∃ K : AC, e = .returned (.tuple #[K.ptr, .int .i64 0]) ∧ Am w' K st (Ob.new c hh n 3) (fun _ => []) 0 0 false ∧ K.bb = bb ∧ K.kd = kd ∧ K.vv = vv ∧ K.c = c ∧ K.n = n ∧ K.hh = hh ∧ Chg w w' (fun j => j = kd ∨ vv.ownBlock = some j) (fun j => j = kd ∨ vv.ownBlock = some j) ∧ (∀ j, (K.own j ∨ j = K.g ∨ j = K.ks) → w.heap.size ≤ j) ∧ (∀ j, K.X j → K.mine j ∨ Z j) ∧ ∀ j, Z j → K.X j
set_option maxRecDepth 20000 in
set_option maxHeartbeats 2000000 in
theorem anew_ok (rt : RightP c hh n) (hr : Rv w w.heap.size A (hvs hh n)) (ca : A = none → cq = 0) (hd : Dk w 77 bb kd vv st) (hlen : (shC c).at_ (shC c).C 0 ≤ st.L.length) (hby : ∀ l ∈ st.L, Ok1 l) (hrd : (rdo (shC c) st (sec st.L 0)).2 = 0)
    (hlen2 : (rdo (shC c) st (sec st.L 0)).1.L.length = st.L.length) {Z : Nat → Prop} (hZ : ∀ j, Z j → j < w.heap.size) (ho : Offd w (fun j => (j = kd ∨ vv.ownBlock = some j) ∨ Z j) vv st.L.length) :
    Calls Tryz.prog 10 #[.agg (cfgC c A n cq), .pointer (some ⟨kd, 0, none⟩)] w (AnewQ w Z bb kd vv (rdo (shC c) st (sec st.L 0)).1 c n hh) := by
  have hb0 := below_alloc w (.cells (cfgC c A n cq) 25)
  have HX0 := hid (Bx.new w 25 (cfgC c A n cq))
  have HB0 := hid hb0
  have HR0 := hid ((hr.below hb0 (Nat.le_refl _)).more hb0.size)
  have HN := hid (fun (y : World) (hy : Rv y y.heap.size A (hvs hh n)) => cm_new_yes (w := y) rt hy ca (T := 3) (by omega) (by omega))
  have HO := hid (fun (y : World) (hb : Below w.heap.size w y) => aopen_ok rt (hd.below hb) hlen hby hrd)
  have HD := hid hd
  have HOF := hid ho
  have HZZ := hid hZ
  have HL2 := hid hlen2
  clear hr hb0 ca hd hlen hby hrd hlen2 ho hZ
  obtain ⟨st2, hst⟩ : ∃ s, (rdo (shC c) st (sec st.L 0)).1 = s := ⟨_, rfl⟩
  rw [hst] at HO HL2 ⊢
  clear hst
  go_enter Tryz.func10, Tryz.ntmps10
  go_upto_region 4 with (first | (refine wpList_load_bxg (by rfl) 25 (.tmp 2) rfl _ _ _ _ rfl HX0.out Tryz.underlying25 rfl (by kernel_rfl) ?_) | (go_at_call 30; refine (HN.out _ HR0.out).mono ?_; rintro e W1 ⟨G, M, A5, cp5, v5, F5, rfl, hb, ho, hc⟩; have HB1 := hid (on HB0.out hb); have HX1 := hid (HX0.out.next hb); have HOW := hid (fun j hj => And.intro (Nat.le_trans HB0.out.size (ho j hj).1) (ho j hj).2); have HCM := hid (hc (fun j => (j = kd ∨ vv.ownBlock = some j) ∨ Z j) (fun _ => []) fun j hj => Nat.lt_of_lt_of_le (hj.elim (fun h => HD.out.lt h) (HZZ.out j)) HB0.out.size); clear hb ho hc))
  have x0 : W1.cell? ⟨w.heap.size, 0, none⟩ = some (.int .i64 (c 0)) := HX1.out.cell 0
  have x1 : W1.cell? ⟨w.heap.size, 1, none⟩ = some (.int .i64 (c 1)) := HX1.out.cell 1
  have x2 : W1.cell? ⟨w.heap.size, 2, none⟩ = some (.int .i64 (c 2)) := HX1.out.cell 2
  have x3 : W1.cell? ⟨w.heap.size, 3, none⟩ = some (.int .i64 (c 3)) := HX1.out.cell 3
  go_upto_region 7 with (go_at_call 31; refine (HO.out W1 HB1.out).mono ?_; rintro e W2 ⟨ks, rfl, hs, hon, hks⟩; have HS2 := hid hs; have HON := hid hon; have HKS := hid hks; clear hs hon hks)
  have HX2 := hid (HON.out.chg.bx HX1.out fun hj => by have := HD.out.lt hj; omega)
  clear x0 x1 x2 x3
  have x4 : W2.cell? ⟨w.heap.size, 4, none⟩ = some (.int .i64 (c 4)) := HX2.out.cell 4
  go_wp2
  go_ret2
  have hdl := fun j hj => HD.out.lt (j := j) hj
  have hsz1 := HB1.out.size
  have hsz2 := HON.out.size
  have hlo : ∀ j, Own16 F5 G M j → w.heap.size ≤ j ∧ j < W1.heap.size := fun j hj => ⟨(HOW.out j hj).1, (HOW.out j hj).2⟩
  have hkd : ∀ j, (j = kd ∨ vv.ownBlock = some j) → ¬ Own16 F5 G M j := fun j hj ho => by have h1 := hdl j hj; have h2 := (hlo j ho).1; omega
  have hcm2 := HCM.out.chg HON.out.chg (fun j hj => .inl (.inl hj)) fun j hj => ⟨fun hf => hkd j hj (.inl hf), fun e => hkd j hj (.inr (.inl e)), fun e => hkd j hj (.inr (.inr e))⟩
  have hof1 : Offd W1 (fun j => ((j = kd ∨ vv.ownBlock = some j) ∨ Z j) ∨ Own16 F5 G M j) vv st.L.length := fun g hg i A m cc hi hcell hm => by
    have hlt := (HD.out.rowLt hg).2
    have h0 : w.cell? ⟨g, i, none⟩ = some (.slice (some A) m cc) := by rw [← hcell]; exact (HB1.out.cell (p := ⟨g, i, none⟩) hlt).symm
    have h1 := HD.out.text_lt hg hi h0 hm
    exact fun hx => hx.elim (HOF.out g hg i A m cc hi h0 hm) fun h2 => by have := (hlo _ h2).1; omega
  have hof2 : Offd W2 (fun j => ((j = kd ∨ vv.ownBlock = some j) ∨ Z j) ∨ Own16 F5 G M j) vv st2.L.length := by
    rw [HL2.out]
    exact hof1.only (HD.out.below HB1.out) HON.out HCM.out.lt
  refine ⟨⟨fun j => (((j = kd ∨ vv.ownBlock = some j) ∨ Z j) ∨ Own16 F5 G M j) ∨ j = W2.heap.size, F5, bb, kd, ks, W2.heap.size, G, M, vv, v5, c, A5, n, cp5, hh⟩, rfl, ?_, rfl, rfl, rfl, rfl, rfl, rfl, ?_, ?_, fun j hj => hj.elim (fun h => h.elim (fun h => h.elim (fun h => .inl (.inr (.inl h))) .inr) fun h => .inl (.inl h)) fun h => .inl (.inr (.inr h)), fun j hj => .inl (.inl (.inr hj))⟩
  · exact { bx := Bx.new W2 _ _, sx := HS2.out.below (below_alloc _ _), cm := Cm.with_new hcm2 _, xd := fun j hj => .inl (.inl (.inl hj)), xg := .inr rfl, nd := hkd
            ng := fun ho => by have h1 : W2.heap.size < W1.heap.size := (hlo _ ho).2; omega
            gd := fun hj => by have h1 : W2.heap.size < w.heap.size := hdl _ hj; omega
            ns := fun ho => by have h1 : ks < W1.heap.size := (hlo _ ho).2; have h2 := HKS.out; omega
            dom := fun x hx => by rw [Ob.new_all] at hx; cases hx
            off := fun g hg i A m cc hi hcell hm => by
              have hlt := (HS2.out.dk.rowLt hg).2
              have h0 : W2.cell? ⟨g, i, none⟩ = some (.slice (some A) m cc) := by rw [← hcell]; exact ((below_alloc W2 _).cell (p := ⟨g, i, none⟩) hlt).symm
              have h1 := HS2.out.dk.text_lt hg hi h0 hm
              exact fun hx => hx.elim (hof2 g hg i A m cc hi h0 hm) fun e => by omega }
  · exact (Chg.of HB1.out _).trans (HON.out.chg.trans (Chg.of (below_alloc _ _) _))
  · intro j hj
    rcases hj with hj | hj | hj
    · exact (hlo j hj).1
    · have e : j = W2.heap.size := hj
      omega
    · have e : j = ks := hj
      have := HKS.out
      omega
end
end Go.Proofs.YtbcejfonkehjgaaGreatDoor
namespace Go.Proofs.YtbcejfonkehjgaaGreatDoor
open Go.RowKit

def OwnI (w : World) (b : Nat) (v : Value) (l : List Int) : Prop := OwnV w b 3 1 v l.length (ints l)
theorem ownI_lit (w : World) (l : List Int) (cs : Array Value) (n : Nat) (hcs : cs.toList = ints l) (hn : l.length = n) (hm : n ≤ maxLen) : OwnI (w.alloc (.cells cs 3)) w.heap.size (.slice (some ⟨w.heap.size, 0, none⟩) n n) l := by
  subst hn
  have h := World.ownsRow_lit (size := 1) (e := 3) (base := w.heap.size) w cs l.length (Nat.le_refl _) hm (by rw [← Array.length_toList, hcs, ints_length, Nat.mul_one])
  rw [hcs] at h
  exact h
theorem OwnI.read {w : World} {b : Nat} {v : Value} {l : List Int} (h : OwnI w b v l) : ∃ A c, v = .slice A l.length c ∧ Rv w w.heap.size A (ints l) := by
  obtain ⟨A, c, e, hr, _⟩ := OwnV.read h
  exact ⟨A, c, e, hr⟩

def nm8 (c : Nat → Int) : List Int := [c 1, c 2, c 3, c 4, c 5, c 6, c 7, c 8]
set_option maxRecDepth 100000 in
set_option maxHeartbeats 1000000 in
theorem rnumbers4 (c : Nat → Int) (gr : Bool) (A : Option Addr) (n cp : Nat) (w : World) :
    Calls Tryz.prog 48 #[.agg (msgC c gr A n cp)] w fun e w' => ∃ v, e = .returned v ∧ OwnI w' w.heap.size v (nm8 c) ∧ Below w.heap.size w w' := by
  have X0 := Bx.new w 40 (msgC c gr A n cp)
  have K0 := below_alloc w (.cells (msgC c gr A n cp) 40)
  have hz : (w.alloc (.cells (msgC c gr A n cp) 40)).heap.size = w.heap.size + 1 := World.size_alloc _ _
  have c1 := X0.cell 1
  have c2 := X0.cell 2
  have c3 := X0.cell 3
  have c4 := X0.cell 4
  have c5 := X0.cell 5
  have c6 := X0.cell 6
  have c7 := X0.cell 7
  have c8 := X0.cell 8
  rw [show (msgC c gr A n cp)[1]? = some (.int .i64 (c 1)) from rfl] at c1
  rw [show (msgC c gr A n cp)[2]? = some (.int .i64 (c 2)) from rfl] at c2
  rw [show (msgC c gr A n cp)[3]? = some (.int .i64 (c 3)) from rfl] at c3
  rw [show (msgC c gr A n cp)[4]? = some (.int .i64 (c 4)) from rfl] at c4
  rw [show (msgC c gr A n cp)[5]? = some (.int .i64 (c 5)) from rfl] at c5
  rw [show (msgC c gr A n cp)[6]? = some (.int .i64 (c 6)) from rfl] at c6
  rw [show (msgC c gr A n cp)[7]? = some (.int .i64 (c 7)) from rfl] at c7
  rw [show (msgC c gr A n cp)[8]? = some (.int .i64 (c 8)) from rfl] at c8
  have HK := hid K0
  have HZ := hid hz
  clear X0 K0 hz
  go_enter Tryz.func48, Tryz.ntmps48
  go_upto_region 1 with fail
  generalize w.alloc (.cells (msgC c gr A n cp) 40) = w1 at *
  go_wp2
  go_ret
  refine ⟨_, rfl, ?_, on HK.out (below_alloc w1 _)⟩
  have h := ownI_lit w1 (nm8 c) _ 8 rfl rfl (by decide)
  exact World.ownsRow.mono h (by have := HZ.out; omega)

end Go.Proofs.YtbcejfonkehjgaaGreatDoor
