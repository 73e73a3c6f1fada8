/-
  What is proved: the reference's comparison of two lists of whole numbers answers true where both read as one list; it changes nothing but the count of draws. Condition: both read as that list.
-/
import Derived.Test.YtbcejfonkehjgaaGreatDoorK46
import Derived.Deep.QuietTactic
import Derived.BigQuiet
import Derived.Deep.DeepCutAuto
import Derived.Deep.CutBlock
import Derived.Test.YtbcejfonkehjgaaGreatDoorK19
namespace Go.Proofs.YtbcejfonkehjgaaGreatDoor
open Go.RowKit

set_option maxHeartbeats 400000 in
theorem sameints4 (A B : Option Addr) (n m ca cb : Nat) (l : List Int) (w : World) (C D : Nat) (hn : l.length = n) (hm : l.length = m) (hlen : n ≤ maxLen) (ra : Rv w C A (ints l)) (rb : Rv w D B (ints l)) :
    Calls Tryz.prog 18 #[.slice A n ca, .slice B m cb] w fun e w' => e = .returned (.bool true) ∧ ∃ k, w' = w.drewN k := by
  subst hn
  subst hm
  unfold maxLen at hlen
  go_enter Tryz.func18, Tryz.ntmps18
  go_wp2
  go_loopw [5] (fun i wr => ∃ k d : Nat, k ≤ l.length ∧ i = .int .i64 k ∧ wr = w.drewN d) (fun i _ => l.length - (intOf i).toNat)
  case atStart => exact ⟨0, 0, Nat.zero_le _, rfl, rfl⟩
  case round =>
    obtain ⟨k, d, hk, rfl, rfl⟩ := hrel
    by_cases hlt : k < l.length
    · obtain ⟨a, rfl, _, hca⟩ := ra.get (k := k) (by rw [ints_length]; exact hlt)
      obtain ⟨b, rfl, _, hcb⟩ := rb.get (k := k) (by rw [ints_length]; exact hlt)
      have e : (ints l)[k]'(by rw [ints_length]; exact hlt) = .int .i64 (l[k]) := by simp [ints]
      rw [e] at hca hcb
      clear e
      have hlt' : (k : Int) < (l.length : Int) := by omega
      go_wp2
      go_quiet (fail)
      go_wp2
      go_roundw
      case rel => exact ⟨k + 1, _, by omega, by go_num, rfl⟩
      case measure => simp [intOf]; omega
    · have hlt' : ¬ (k : Int) < (l.length : Int) := by omega
      go_wp2
      go_ret
      exact ⟨rfl, _, rfl⟩

end Go.Proofs.YtbcejfonkehjgaaGreatDoor
namespace Go.Proofs.YtbcejfonkehjgaaGreatDoor
open Go.RowKit

set_option maxRecDepth 100000 in
set_option maxHeartbeats 1000000 in
theorem msame_yes (A B : Option Addr) (n cp cq : Nat) (c : Nat → Int) (gr : Bool) (ds : List Int) (w : World) (hn : ds.length = n) (hm : n ≤ maxLen) (ra : Rn w A ds) (rb : Rn w B ds) :
    Calls Tryz.prog 29 #[.agg (msgC c gr A n cp), .agg (msgC c gr B n cq)] w fun e w' => e = .returned (.bool true) ∧ Below w.heap.size w w' := by
  have HA := hid ra
  have HB := hid rb
  have HNN := hid hn
  have HM := hid hm
  unfold maxLen at hm
  clear ra rb hn
  have X := Bx.new w 40 (msgC c gr A n cp)
  have b1 := below_alloc w (.cells (msgC c gr A n cp) 40)
  go_enter Tryz.func29, Tryz.ntmps29
  go_upto_region 1 with fail
  have hsz : (w.alloc (.cells (msgC c gr A n cp) 40)).heap.size = w.heap.size + 1 := World.size_alloc _ _
  obtain ⟨w1, hw1⟩ : ∃ w1, w.alloc (.cells (msgC c gr A n cp) 40) = w1 := ⟨_, rfl⟩
  rw [hw1] at X b1 hsz ⊢
  have Y := Bx.new w1 40 (msgC c gr B n cq)
  rw [hsz] at Y
  have b2 := on b1 (below_alloc w1 (.cells (msgC c gr B n cq) 40))
  replace X := X.alloc (.cells (msgC c gr B n cq) 40)
  obtain ⟨w2, hw2⟩ : ∃ w2, w1.alloc (.cells (msgC c gr B n cq) 40) = w2 := ⟨_, rfl⟩
  rw [hw2] at X Y b2 ⊢
  clear hw1 hw2 hsz b1
  have HX := hid X
  have HY := hid Y
  have HK := hid b2
  clear X Y b2
  go_wp2_with (refine wpList_load_bx rfl 40 (.tmp 2) rfl _ _ _ _ rfl HX.out Tryz.underlying40 rfl (by kernel_rfl) ?_)
  refine (rnumbers4 c gr A n cp _).mono ?_
  rintro e w3 ⟨v3, rfl, hown3, hb3⟩
  obtain ⟨S, cs, rfl, hs3⟩ := OwnI.read hown3
  have HX3 := hid (HX.out.next hb3)
  have HY3 := hid (HY.out.next hb3)
  have HK3 := hid (on HK.out hb3)
  have HS3 := hid hs3
  clear hown3 hb3 hs3 HX HY HK
  go_wp2_with (refine wpList_load_bx rfl 40 (.tmp 3) rfl _ _ _ _ rfl HY3.out Tryz.underlying40 rfl (by kernel_rfl) ?_)
  refine (rnumbers4 c gr B n cq _).mono ?_
  rintro e w4 ⟨v4, rfl, hown4, hb4⟩
  obtain ⟨U, cu, rfl, hu4⟩ := OwnI.read hown4
  rw [show (nm8 c).length = 8 from rfl]
  have HX4 := hid (HX3.out.next hb4)
  have HY4 := hid (HY3.out.next hb4)
  have HK4 := hid (on HK3.out hb4)
  have HS4 := hid (HS3.out.now hb4)
  have HU4 := hid hu4
  clear hown4 hb4 hu4 HX3 HY3 HK3 HS3
  have x0 : w4.cell? ⟨w.heap.size, 0, none⟩ = some (.int .i64 (c 0)) := by rw [HX4.out.cell]; rfl
  have y0 : w4.cell? ⟨w.heap.size + 1, 0, none⟩ = some (.int .i64 (c 0)) := by rw [HY4.out.cell]; rfl
  go_wp2_with fail
  refine (sameints4 S U 8 8 cs cu (nm8 c) _ _ _ rfl rfl (by unfold maxLen; omega) HS4.out HU4.out).mono ?_
  rintro e w5 ⟨rfl, d, rfl⟩
  have x9 : (w4.drewN d).cell? ⟨w.heap.size, 9, none⟩ = some (.bool gr) := by rw [(HX4.out.draws d).cell]; rfl
  have y9 : (w4.drewN d).cell? ⟨w.heap.size + 1, 9, none⟩ = some (.bool gr) := by rw [(HY4.out.draws d).cell]; rfl
  have x10 : (w4.drewN d).cell? ⟨w.heap.size, 10, none⟩ = some (.slice A n cp) := by rw [(HX4.out.draws d).cell]; rfl
  have y10 : (w4.drewN d).cell? ⟨w.heap.size + 1, 10, none⟩ = some (.slice B n cq) := by rw [(HY4.out.draws d).cell]; rfl
  go_wp2_with fail
  refine (same_yes A B n n cp cq ds _ _ _ HNN.out HNN.out HM.out ((HA.out.now HK4.out).drewN d) ((HB.out.now HK4.out).drewN d)).mono ?_
  rintro e w6 ⟨rfl, d2, rfl⟩
  go_wp2_with fail
  go_ret
  exact ⟨rfl, below_draws HK4.out (d + d2)⟩
end Go.Proofs.YtbcejfonkehjgaaGreatDoor
namespace Go.Proofs.YtbcejfonkehjgaaGreatDoor
open Go.RowKit

set_option maxRecDepth 20000 in
theorem least18 (w : World) : Calls Tryz.prog 28 #[] w fun e w' => e = .returned (.agg (cfgC exC none 0 0)) ∧ Below w.heap.size w w' := by
  go_enter Tryz.func28, Tryz.ntmps28
  go_wp2_with (refine wpList_store_new rfl _ _ _ rfl rfl _ (cfgC exC none 0 0) rfl rfl (by kernel_rfl) rfl (by simp [cfgC, Value.oneCell']) ?_)
  refine bodyPost_ret (results_new' rfl _ _ rfl _ _ Tryz.underlying25 rfl (by kernel_rfl)) rfl ?_
  exact ⟨rfl, below_alloc w _⟩
theorem offd_new {w : World} {bb kd n : Nat} {vv : Value} {f : Int} {d : Bool} {X : Nat → Prop} (h : Dk w 77 bb kd vv ⟨List.replicate n [], f, d⟩) : Offd w X vv n := fun g hg i A m c hi h0 hm => by
  obtain ⟨us, hw, hu⟩ := h.row
  have hl : (List.replicate n ([] : List Int)).length = n := List.length_replicate
  have hil : i < (List.replicate n ([] : List Int)).length := by omega
  obtain ⟨u, e1, A', c', rfl, hr, _⟩ := hu i [] (by show (List.replicate n ([] : List Int))[i]? = some []; rw [List.getElem?_eq_getElem hil]; simp)
  obtain ⟨g', c2, hvv, _, _⟩ := World.ownsRow.form hw (by show 0 < (List.replicate n ([] : List Int)).length; omega)
  rw [hvv] at hw hg
  have eg : g' = g := by simpa [Value.ownBlock] using hg
  subst eg
  have h3 := World.ownsRow.cellAt hw i (by show i < (List.replicate n ([] : List Int)).length * 1; omega)
  rw [h0, e1] at h3
  injection h3 with h3
  injection h3 with e3 e4 e5
  simp at e4
  omega
theorem ok1_new (n : Nat) : ∀ l ∈ List.replicate n ([] : List Int), Ok1 l := fun l hl => by
  rw [List.mem_replicate] at hl
  rw [hl.2]
  exact ⟨by simp, fun x hx => by cases hx⟩
theorem anew_new {w : World} {c : Nat → Int} {A : Option Addr} {n cq bb kd : Nat} {hh : Nat → Hn} {vv : Value} (rt : RightP c hh n) (hr : Rv w w.heap.size A (hvs hh n)) (ca : A = none → cq = 0) (hd : Dk w 77 bb kd vv ⟨List.replicate 64 [], -1, false⟩) {Z : Nat → Prop} (hZ : ∀ j, Z j → j < w.heap.size) :
    Calls Tryz.prog 10 #[.agg (cfgC c A n cq), .pointer (some ⟨kd, 0, none⟩)] w (AnewQ w Z bb kd vv ⟨List.replicate 64 [], -1, false⟩ c n hh) := by
  obtain ⟨-, -, -, -, ok⟩ := rt_nat rt
  have e := (fine_new ok).rdo (-1) false
  have h := anew_ok rt hr ca hd (by show _ ≤ (List.replicate 64 ([] : List Int)).length; rw [List.length_replicate]; exact sh_top rt) (ok1_new 64) (by show (rdo (shC c) ⟨List.replicate 64 [], -1, false⟩ (sec (List.replicate 64 []) 0)).2 = 0; rw [e]) (by show (rdo (shC c) ⟨List.replicate 64 [], -1, false⟩ (sec (List.replicate 64 []) 0)).1.L.length = (List.replicate 64 ([] : List Int)).length; rw [e]) hZ (offd_new hd)
  rw [show rdo (shC c) ⟨List.replicate 64 [], -1, false⟩ (sec (St.mk (List.replicate 64 []) (-1) false).L 0) = (⟨List.replicate 64 [], -1, false⟩, 0) from e] at h
  exact h
theorem TmAt.all {w : World} {X : Nat → Prop} {a : Addr} {t : Tm} {u : Value} (h : TmAt w X a t u) : w.cell? a = some (.int .i64 (t.c 0)) ∧ w.cell? ⟨a.block, a.off + 1, none⟩ = some (.int .i64 (t.c 1)) ∧ w.cell? ⟨a.block, a.off + 2, none⟩ = some (.int .i64 (t.c 2)) ∧ w.cell? ⟨a.block, a.off + 3, none⟩ = some (.int .i64 (t.c 3)) ∧
    w.cell? ⟨a.block, a.off + 4, none⟩ = some (.int .i64 (t.c 4)) ∧ w.cell? ⟨a.block, a.off + 5, none⟩ = some (.int .i64 (t.c 5)) ∧ w.cell? ⟨a.block, a.off + 6, none⟩ = some (.int .i64 (t.c 6)) ∧ w.cell? ⟨a.block, a.off + 7, none⟩ = some (.int .i64 (t.c 7)) ∧
    w.cell? ⟨a.block, a.off + 8, none⟩ = some (.int .i64 (t.c 8)) ∧ w.cell? ⟨a.block, a.off + 9, none⟩ = some (.bool t.gr) ∧ w.cell? ⟨a.block, a.off + 10, none⟩ = some u := by
  have key : ∀ j, 0 < j → j < 11 → w.cell? ⟨a.block, a.off + j, none⟩ = (tcl t u)[j]? := fun j h0 hj => by
    have h1 := h.c j hj
    rw [show j = 0 + j by omega, addSucc a 0 j h0] at h1
    rw [show 0 + j = j by omega] at h1
    exact h1
  exact ⟨h.c 0 (by omega), key 1 (by omega) (by omega), key 2 (by omega) (by omega), key 3 (by omega) (by omega), key 4 (by omega) (by omega), key 5 (by omega) (by omega), key 6 (by omega) (by omega), key 7 (by omega) (by omega), key 8 (by omega) (by omega), key 9 (by omega) (by omega), key 10 (by omega) (by omega)⟩
theorem AnewQ.law {w0 w w' : World} {Z : Nat → Prop} {bb kd n : Nat} {vv : Value} {st st2 : St} {c : Nat → Int} {hh : Nat → Hn} {e : Ending} (h : AnewQ w Z bb kd vv st c n hh e w') (hb : Below w0.heap.size w0 w) (hd : Dk w 77 bb kd vv st2) (hbb : w0.heap.size ≤ bb) :
    ∃ K : AC, e = .returned (.tuple #[K.ptr, .int .i64 0]) ∧ Am w' K st (Ob.new c hh n 3) (fun _ => []) 0 0 false ∧ K.kd = kd ∧ K.vv = vv ∧ K.bb = bb ∧ K.c = c ∧ K.n = n ∧ K.hh = hh ∧ Below w0.heap.size w0 w' ∧ (∀ j, K.mine j ∨ j = K.ks → w0.heap.size ≤ j) ∧ (∀ j, K.X j → K.mine j ∨ Z j) ∧ ∀ j, Z j → K.X j := by
  obtain ⟨K, h1, h2, h3, h4, h5, h6, h7, h8, h9, h10, h11, h12⟩ := h
  have hlo : ∀ j, (j = kd ∨ vv.ownBlock = some j) → w0.heap.size ≤ j := fun j hj => by
    rcases hj with rfl | e
    · exact Nat.le_trans hbb hd.low
    · exact Nat.le_trans hbb (hd.rowLt e).1
  refine ⟨K, h1, h2, h4, h5, h3, h6, h7, h8, hb.trans (h9.bel hb.size hlo), fun j hj => ?_, h11, h12⟩
  rcases hj with (hj | hj | hj) | hj
  · exact Nat.le_trans hb.size (h10 j (.inl hj))
  · unfold AC.dsk at hj
    rw [h4, h5] at hj
    exact hlo j hj
  · exact Nat.le_trans hb.size (h10 j (.inr (.inl hj)))
  · exact Nat.le_trans hb.size (h10 j (.inr (.inr hj)))
def exM (i : Nat) : Int := #[8, 0, 0, 0, 0, 1, 0, 0, 0].getD i 0
theorem exM_right : dec (RightM exM false 0) = true := by
  refine dec_true ⟨⟨by decide, by decide⟩, fun f h1 h2 => ?_⟩
  obtain rfl | rfl | rfl | rfl | rfl | rfl | rfl | rfl | rfl | rfl : f = 1 ∨ f = 2 ∨ f = 3 ∨ f = 4 ∨ f = 5 ∨ f = 6 ∨ f = 7 ∨ f = 8 ∨ f = 9 ∨ f = 10 := by omega
  all_goals exact ⟨by decide, by decide⟩
theorem ex_new3 : Ob.new exC noH 0 3 = .lru 1 [] := Ob.new_lru (T := 3) (by decide) (by decide)
theorem ex_hear (D : Int → List Int) : (hearF exC ⟨RS.zero 1, Ob.new exC noH 0 3, D, 0⟩ ⟨exM, false, []⟩).2 = [tmD 1 [0]] ∧ (hearF exC ⟨RS.zero 1, Ob.new exC noH 0 3, D, 0⟩ ⟨exM, false, []⟩).1.r = 1 := by
  rw [ex_new3]
  have hin : ¬ (1 : Int) ∈ (Ob.lru 1 []).all := by decide
  have hS : hdS exC ((Ob.lru 1 []).use (exM 5)) (exM 5) (exM 6) = true := by
    unfold hdS forA
    rw [decide_eq_false (show ¬ exM 6 = 3 by decide)]
    decide
  have hY : rdY ⟨RS.zero 1, .lru 1 [], D, 0⟩ ⟨exM, false, []⟩ = [0] := if_neg hin
  have hR : rdR ⟨RS.zero 1, .lru 1 [], D, 0⟩ ⟨exM, false, []⟩ = 1 := if_neg hin
  unfold hearF hrR
  dsimp only
  rw [if_neg (by rw [show ([] : List Int).length = 0 from rfl, exM_right]; decide), if_pos (by decide), if_pos (by decide), if_pos (.inl hin), hY, hR]
  unfold hdT
  rw [if_pos hS]
  exact ⟨rfl, rfl⟩
set_option maxRecDepth 20000 in
set_option maxHeartbeats 2000000 in
theorem wakes18 (w : World) (hN : Nm w) : Calls Tryz.prog 8 #[] w fun e w' => e = .returned (.bool true) ∧ Below w.heap.size w w' := by
  have HN := hid hN
  clear hN
  go_enter Tryz.func8, Tryz.ntmps8
  go_upto_region 4 with (first
    | (go_at_call 28; refine (least18 _).mono ?_; rintro e w1 ⟨rfl, hb⟩; have HB1 := hid hb; clear hb)
    | (go_at_call 11; refine (disknew_any 64 _).mono ?_; rintro e w2 ⟨kd, v, rfl, hk, hb⟩; have HK := hid (show Dk w2 77 w1.heap.size kd v ⟨List.replicate 64 [], -1, false⟩ from hk); have HB2 := hid (on HB1.out hb); clear hk hb)
    | (go_at_call 10; refine (anew_new (c := exC) (A := none) (n := 0) (cq := 0) (hh := noH) exC_right (Rv.nil _ _ _) (fun _ => rfl) HK.out (Z := fun _ => False) (fun _ h => h.elim)).mono ?_; rintro e w3 hq; obtain ⟨K, rfl, ha, -, -, -, hc, -, -, hb, ho, -⟩ := hq.law HB2.out HK.out HB1.out.size; have HA := hid ha; have HC := hid hc; have HB3 := hid hb; have HO := hid ho; clear ha hc hb ho hq))
  have hFN := fine_new (sh := shC exC) ⟨by decide, by decide, by decide, by decide⟩
  have HH := hid (ahear_any (mc := exM) (gr := false) (A := none) (n := 0) (cp := 0) (ml := []) (X := RS.zero 1) HA.out (HN.out.next HB3.out) (HC.out.symm ▸ hFN) (by omega) ⟨by omega, by omega⟩ (by_none _ _) (fun x hx => by cases hx))
  rw [HC.out] at HH
  have HEX := hid (ex_hear (fun _ => []))
  obtain ⟨pq, hpq⟩ : ∃ q, hearF exC ⟨RS.zero 1, Ob.new exC noH 0 3, fun _ => [], 0⟩ ⟨exM, false, []⟩ = q := ⟨_, rfl⟩
  rw [hpq] at HH HEX
  clear hFN hpq
  go_upto_region 5 with (go_at_call 15; refine HH.out.mono ?_; rintro e w4 ⟨u, L', f', rfl, hch, hq⟩; have HB4 := hid (HB3.out.trans (hch.bel HB3.out.size fun j hj => HO.out j (.inl hj))); have HQ := hid (hq.elim (fun h => And.intro h.1 h.2.2.2) (fun h => absurd h.1 (by omega))); clear hch hq)
  obtain ⟨h1, h2⟩ := HQ.out
  rw [HEX.out.1] at h2
  rw [HEX.out.2] at h1
  obtain ⟨A5, c5, rfl, -, -, -, h3⟩ := h2.at_
  obtain ⟨ad, u5, rfl, h4⟩ := h3 0 _ rfl
  have H4 := hid h1
  have HT := hid (show TmAt w4 K.X ad (tmD 1 [0]) u5 from h4)
  have HRE := hid (areads_any h1)
  clear h1 h2 h3 h4 HQ HH HEX
  have c0 : w4.cell? ad = some (.int .i64 12) := HT.out.all.1
  obtain ⟨-, c1, c2, c3, c4, c5', c6, c7, c8, c9, c10⟩ := HT.out.all
  replace c1 : w4.cell? ⟨ad.block, ad.off + 1, none⟩ = some (.int .i64 0) := c1
  replace c2 : w4.cell? ⟨ad.block, ad.off + 2, none⟩ = some (.int .i64 0) := c2
  replace c3 : w4.cell? ⟨ad.block, ad.off + 3, none⟩ = some (.int .i64 0) := c3
  replace c4 : w4.cell? ⟨ad.block, ad.off + 4, none⟩ = some (.int .i64 0) := c4
  replace c5' : w4.cell? ⟨ad.block, ad.off + 5, none⟩ = some (.int .i64 1) := c5'
  replace c6 : w4.cell? ⟨ad.block, ad.off + 6, none⟩ = some (.int .i64 0) := c6
  replace c7 : w4.cell? ⟨ad.block, ad.off + 7, none⟩ = some (.int .i64 0) := c7
  replace c8 : w4.cell? ⟨ad.block, ad.off + 8, none⟩ = some (.int .i64 0) := c8
  replace c9 : w4.cell? ⟨ad.block, ad.off + 9, none⟩ = some (.bool false) := c9
  obtain ⟨A6, c6', rfl, hr6, -⟩ := show By w4 K.X u5 [0] from HT.out.y
  have HB5 := hid (below_alloc w4 (.cells #[.int .u8 0] 5))
  have HSM := hid (show Calls Tryz.prog 29 #[.agg #[.int .i64 12, .int .i64 0, .int .i64 0, .int .i64 0, .int .i64 0, .int .i64 1, .int .i64 0, .int .i64 0, .int .i64 0, .bool false, .slice A6 1 c6'], .agg #[.int .i64 12, .int .i64 0, .int .i64 0, .int .i64 0, .int .i64 0, .int .i64 1, .int .i64 0, .int .i64 0, .int .i64 0, .bool false, .slice (some ⟨w4.heap.size, 0, none⟩) 1 1]] (w4.alloc (.cells #[.int .u8 0] 5)) (fun e w' => e = .returned (.bool true) ∧ Below (w4.alloc (.cells #[.int .u8 0] 5)).heap.size (w4.alloc (.cells #[.int .u8 0] 5)) w') from
    msame_yes A6 (some ⟨w4.heap.size, 0, none⟩) 1 c6' 1 (tmD 1 [0]).c false [0] _ rfl (by unfold maxLen; omega) (rv_rd (Rv.now hr6 HB5.out)) (rn_one w4 0))
  have hlen : (([tmD 1 [0]].length : Nat) : Int) = 1 := rfl
  clear hr6
  go_wp2_with (first | (go_at_call 29; refine HSM.out.mono ?_; rintro e w6 ⟨rfl, hb⟩; have HB6 := hid (on HB5.out hb); have HRF := hid (areads_any (H4.out.below HB6.out)); clear hb) | (go_at_call 21; refine HRF.out.mono ?_; rintro e w9 ⟨rfl, rfl⟩))
  go_ret
  exact ⟨rfl, on HB4.out HB6.out⟩
end Go.Proofs.YtbcejfonkehjgaaGreatDoor
namespace Go.Proofs.YtbcejfonkehjgaaGreatDoor
open Go.RowKit

end Go.Proofs.YtbcejfonkehjgaaGreatDoor
