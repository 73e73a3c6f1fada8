/-
  What is proved: karma's Cost answers what hints with parts cost, or what is wrong. Condition: hints and parts are read as such; there are no more than 20.
  (Left out here, as nothing of this law reaches it: pcost_any, cost_bad, cost_good.) -/
import Derived.Test.YtbcejfonkehjgaaGreatDoorK17
import Derived.Test.YtbcejfonkehjgaaGreatDoorK01
import Derived.Test.YtbcejfonkehjgaaGreatDoorK15
import Derived.Test.YtbcejfonkehjgaaGreatDoorK03
import Derived.Test.YtbcejfonkehjgaaGreatDoorK04
import Derived.Deep.RegionHeld3
import Derived.BigQuiet
import Derived.Test.YtbcejfonkehjgaaGreatDoorK05
import Derived.Test.YtbcejfonkehjgaaGreatDoorK06
namespace Go.Proofs.YtbcejfonkehjgaaGreatDoor
open Go.RowKit

end Go.Proofs.YtbcejfonkehjgaaGreatDoor
namespace Go.Proofs.YtbcejfonkehjgaaGreatDoor
open Go.RowKit

section
variable {hh : Nat → Hn} {n : Nat} {b : Int} {u : Nat → Nat}
noncomputable def KS (hh : Nat → Hn) (n : Nat) (u : Nat → Nat) (t j : Nat) : Nat := sN (fun i => KP hh n u i t) j
theorem KS_room (h : OrdH hh n (ordd hh n)) {t : Nat} (ht : t < 3) : KS hh n u t n ≤ u t ∧ (KS hh n u t n < u t → KS hh n u (t + 1) n = 0) := by
  have h1 := PP_room (z := sz hh) (c := u) h.inj h.lt ht (k := n) (Nat.le_refl n)
  refine ⟨?_, fun h2 => PP_next (z := sz hh) (c := u) h.inj h.lt ht (k := n) (Nat.le_refl n) ?_⟩
  · show sN (fun i => PP (sz hh) (ordd hh n) u n i t) n ≤ u t
    omega
  · have h3 : sN (fun i => PP (sz hh) (ordd hh n) u n i t) n < u t := h2
    omega
end





























section
variable {w0 w w' : World} {q n c s : Nat} {A B : Option Addr} {b : Int} {u f g : Nat → Nat} {hh : Nat → Hn}









end









































































































































































































































end Go.Proofs.YtbcejfonkehjgaaGreatDoor
namespace Go.Proofs.YtbcejfonkehjgaaGreatDoor
open Go.RowKit

structure Pn (w : World) (q T : Nat) (rg : Int → Option Nat) (pt : Nat → Nat) (lp : Nat → Bool) (n : Nat) : Prop where
  ex : ∃ b x hh A c B d, Pl w q b x hh n A c B d ∧ (∀ z, rgi hh z n = rg z) ∧ (∀ i, KP hh n x i (T - 1) = pt i) ∧ ∀ i, (hh i).l = lp i
  t1 : 1 ≤ T
  t3 : T ≤ 3
def ptO (pt : Nat → Nat) (o : Option Nat) : Nat := match o with | none => 0 | some i => pt i
def lpO (lp : Nat → Bool) (o : Option Nat) : Bool := match o with | none => false | some i => lp i
section
variable {w w' : World} {q T n : Nat} {rg : Int → Option Nat} {pt : Nat → Nat} {lp : Nat → Bool}
theorem Pn.below (h : Pn w q T rg pt lp n) (hb : Below w.heap.size w w') : Pn w' q T rg pt lp n := by
  obtain ⟨⟨b, x, hh, A, c, B, d, h1, h2⟩, h3, h4⟩ := h
  exact ⟨⟨b, x, hh, A, c, B, d, h1.below hb, h2⟩, h3, h4⟩
theorem Pn.draws (h : Pn w q T rg pt lp n) (m : Nat) : Pn (w.drewN m) q T rg pt lp n := h.below (below_draws (Below.refl _ _) m)
theorem Pn.n8 (h : Pn w q T rg pt lp n) : n ≤ 8 := by
  obtain ⟨⟨b, x, hh, A, c, B, d, h1, _⟩, _⟩ := h
  exact h1.ok.1
theorem Pn.rl (h : Pn w q T rg pt lp n) {z : Int} {i : Nat} (hz : rg z = some i) : i < n ∧ 0 ≤ z ∧ z < 32 := by
  obtain ⟨⟨b, x, hh, A, c, B, d, h1, h2, _⟩, _⟩ := h
  rw [← h2] at hz
  obtain ⟨h3, h4⟩ := rgi_lt hz
  have h5 := h1.ok.2.1 i h3
  unfold okH at h5
  obtain ⟨h6, h7⟩ := h4
  exact ⟨h3, by omega, by omega⟩
theorem Pn.vb (h : Pn w q T rg pt lp n) {z : Int} {i : Nat} (hz : rg z = some i) : vb z := by
  have := h.rl hz
  exact ⟨this.2.1, by omega⟩
theorem pn_range (h : Pn w q T rg pt lp n) (z : Int) : Calls Tryz.prog 168 #[.pointer (some ⟨q, 0, none⟩), .int .i64 z] w fun e w' => e = .returned (rgV (rg z)) ∧ Below w.heap.size w w' := by
  obtain ⟨⟨b, x, hh, A, c, B, d, h1, h2, _⟩, _⟩ := h
  rw [← h2]
  exact range_any h1 z
theorem pn_part (h : Pn w q T rg pt lp n) (z : Int) : Calls Tryz.prog 163 #[.pointer (some ⟨q, 0, none⟩), .int .i64 z, .int .i64 T] w fun e w' => e = .returned (.int .i64 (ptO pt (rg z) : Nat)) ∧ Below w.heap.size w w' := by
  obtain ⟨⟨b, x, hh, A, c, B, d, h1, h2, h3, _⟩, h4, h5⟩ := h
  have e : ((ptO pt (rg z) : Nat) : Int) = ptV hh n x (rgi hh z n) T := by
    rw [h2]
    cases rg z with
    | none => rfl
    | some i =>
      show ((pt i : Nat) : Int) = if 1 ≤ (T : Int) ∧ (T : Int) ≤ 3 then kps hh n x i ((T : Int) - 1).toNat else 0
      rw [if_pos ⟨by omega, by omega⟩, show ((T : Int) - 1).toNat = T - 1 from by omega, ← h3]
      rfl
  rw [e]
  exact part_any h1 z T
theorem pn_loop (h : Pn w q T rg pt lp n) (z : Int) : Calls Tryz.prog 198 #[.pointer (some ⟨q, 0, none⟩), .int .i64 z] w fun e w' => e = .returned (.bool (lpO lp (rg z))) ∧ Below w.heap.size w w' := by
  obtain ⟨⟨b, x, hh, A, c, B, d, h1, h2, _, h3⟩, _⟩ := h
  have e : lpO lp (rg z) = lpV hh (rgi hh z n) := by
    rw [h2]
    cases rg z with
    | none => rfl
    | some i => exact (h3 i).symm
  rw [e]
  exact loop_any h1 z
theorem pn_parts (h : Pn w q T rg pt lp n) : Calls Tryz.prog 113 #[.pointer (some ⟨q, 0, none⟩)] w fun e w' => ∃ A c, e = .returned (.slice A n c) ∧ Below w.heap.size w w' := by
  obtain ⟨⟨b, x, hh, A, c, B, d, h1, _⟩, _⟩ := h
  exact (parts_any h1).mono fun e w' ⟨A, c, h1, _, h2, _⟩ => ⟨A, c, h1, h2⟩
end
section
variable {rg : Int → Option Nat} {pt : Nat → Nat} {lp : Nat → Bool} {n : Nat} {S : List (List Int)}
theorem okp_out (h : Okp rg pt n S) {b : Int} {i : Nat} (hr : rg b = some i) (hb : b ∉ S.getD i []) : ¬ inS S b := fun hs => by
  obtain ⟨j, h1, h2⟩ := h.in_.1 hs
  rw [hr] at h1
  injection h1 with h1
  subst h1
  exact hb h2
theorem okp_woset (h : Okp rg pt n S) {b : Int} {i : Nat} (hr : rg b = some i) (hi : i < n) : woS b S = S.set i (wo b (S.getD i [])) := by
  have hl : i < S.length := Nat.lt_of_lt_of_le hi h.len
  by_cases hb : b ∈ S.getD i []
  · exact woS_set h.wf (gd_some hl) hb
  · rw [woS_out (okp_out h hr hb), wo_out hb]
    refine List.ext_getElem? fun j => ?_
    by_cases e : i = j
    · subst e
      rw [List.getElem?_set_self hl]
      exact gd_some hl
    · rw [List.getElem?_set_ne e]
theorem okp_front (h : Okp rg pt n S) {b : Int} {i : Nat} (hr : rg b = some i) (hi : i < n) (hv : vb b) : putE S (i : Int) b = 0 ∧ frontS S (i : Int) b = S.set i (b :: wo b (S.getD i [])) := by
  have hl : i < S.length := Nat.lt_of_lt_of_le hi h.len
  have ho : okp S (i : Int) b := ⟨⟨by omega, by omega⟩, hv⟩
  refine ⟨if_pos ho, ?_⟩
  unfold frontS
  rw [if_pos ho, Int.toNat_natCast, gd_wo, okp_woset h hr hi, List.set_set]
end
structure Pt (w0 w : World) (g k q T : Nat) (rg : Int → Option Nat) (pt : Nat → Nat) (lp : Nat → Bool) (n : Nat) (S : List (List Int)) : Prop where
  pn : Pn w0 q T rg pt lp n
  bel : Below w0.heap.size w0 w
  box : Bx w g 199 #[.pointer (some ⟨k, 0, none⟩), .pointer (some ⟨q, 0, none⟩), .int .i64 T]
  sq : Sq w k S
  ok : Okp rg pt n S
  ne : g ≠ k
  hg : w0.heap.size ≤ g
  hk : w0.heap.size ≤ k
section
variable {w0 w w' : World} {g k q T n : Nat} {rg : Int → Option Nat} {pt : Nat → Nat} {lp : Nat → Bool} {S S' : List (List Int)}
theorem Pt.below (h : Pt w0 w g k q T rg pt lp n S) (hb : Below w.heap.size w w') : Pt w0 w' g k q T rg pt lp n S := ⟨h.pn, on h.bel hb, h.box.next hb, h.sq.below hb, h.ok, h.ne, h.hg, h.hk⟩
theorem Pt.draws (h : Pt w0 w g k q T rg pt lp n S) (m : Nat) : Pt w0 (w.drewN m) g k q T rg pt lp n S := h.below (below_draws (Below.refl _ _) m)
theorem Pt.plan (h : Pt w0 w g k q T rg pt lp n S) : Pn w q T rg pt lp n := h.pn.below h.bel
theorem Pt.chg {F G : Nat → Prop} (h : Pt w0 w g k q T rg pt lp n S) (hc : Chg w w' F G) (h1 : ¬ F g) (h2 : ¬ F k) (h3 : ∀ j, F j → w0.heap.size ≤ j) : Pt w0 w' g k q T rg pt lp n S :=
  ⟨h.pn, h.bel.trans (hc.bel h.bel.size h3), hc.bx h.box h1, h.sq.same (hc.block k h.sq.lt h2), h.ok, h.ne, h.hg, h.hk⟩
theorem Pt.step (h : Pt w0 w g k q T rg pt lp n S) (hs : Sq w' k S') (hc : Chg w w' (· = k) (· = k)) (ho : Okp rg pt n S') : Pt w0 w' g k q T rg pt lp n S' :=
  ⟨h.pn, h.bel.trans (hc.bel h.bel.size fun j e => by rw [e]; exact h.hk), hc.bx h.box h.ne, hs, ho, h.ne, h.hg, h.hk⟩
theorem Pt.c0 (h : Pt w0 w g k q T rg pt lp n S) : w.cell? ⟨g, 0, none⟩ = some (.pointer (some ⟨k, 0, none⟩)) := h.box.cell 0
theorem Pt.c1 (h : Pt w0 w g k q T rg pt lp n S) : w.cell? ⟨g, 1, none⟩ = some (.pointer (some ⟨q, 0, none⟩)) := h.box.cell 1
theorem Pt.c2 (h : Pt w0 w g k q T rg pt lp n S) : w.cell? ⟨g, 2, none⟩ = some (.int .i64 T) := h.box.cell 2
set_option maxHeartbeats 400000 in
theorem pt_part (h : Pt w0 w g k q T rg pt lp n S) (z : Int) : Calls Tryz.prog 161 #[.pointer (some ⟨g, 0, none⟩), .int .i64 z] w fun e w' => e = .returned (.int .i64 (ptO pt (rg z) : Nat)) ∧ Below w.heap.size w w' := by
  have c1 := h.c1
  have c2 := h.c2
  have HPD := hid (h.plan.draws 1)
  have HBD := hid (below_draws (Below.refl w.heap.size w) 1)
  rw [show w.drewN 1 = w.drew from rfl] at HPD HBD
  have HP := hid (pn_part HPD.out z)
  generalize ptO pt (rg z) = P at *
  clear h
  go_enter Tryz.func161, Tryz.ntmps161
  go_wp2
  go_region_with (go_at_call 163; refine HP.out.mono ?_; rintro e w2 ⟨rfl, hb⟩; have HB := hid (on HBD.out hb); clear hb)
  all_goals
    go_wp2
    go_ret
    exact ⟨rfl, HB.out⟩
set_option maxHeartbeats 400000 in
theorem pt_takes (h : Pt w0 w g k q T rg pt lp n S) (z : Int) : Calls Tryz.prog 156 #[.pointer (some ⟨g, 0, none⟩), .int .i64 z] w fun e w' => e = .returned (.bool (decide (0 < ptO pt (rg z)))) ∧ Below w.heap.size w w' := by
  have HP := hid (pt_part h z)
  generalize ptO pt (rg z) = P at *
  clear h
  go_enter Tryz.func156, Tryz.ntmps156
  by_cases hp : 0 < P
  · rw [decide_eq_true hp]
    have hd : (P : Int) > 0 := by omega
    go_wp2_with (go_at_call 161; refine HP.out.mono ?_; rintro e w2 ⟨rfl, hb⟩; have HB := hid hb; clear hb)
    go_ret
    exact ⟨rfl, HB.out⟩
  · rw [decide_eq_false hp]
    have hd : ¬ (P : Int) > 0 := by omega
    go_wp2_with (go_at_call 161; refine HP.out.mono ?_; rintro e w2 ⟨rfl, hb⟩; have HB := hid hb; clear hb)
    go_ret
    exact ⟨rfl, HB.out⟩



















noncomputable def usS (rg : Int → Option Nat) (b : Int) (S : List (List Int)) : List (List Int) := if dec (inS S b) then S.set ((rg b).getD 0) (usel b (S.getD ((rg b).getD 0) [])) else S
set_option maxHeartbeats 400000 in
theorem pt_use_no (h : Pt w0 w g k q T rg pt lp n S) {b : Int} (hx : ¬ inS S b) : Calls Tryz.prog 204 #[.pointer (some ⟨g, 0, none⟩), .int .i64 b] w fun e w' => e = .returned (.bool false) ∧ w = w' := by
  have c0 := h.c0
  have HO := hid (of_no h.sq hx)
  clear h hx
  go_enter Tryz.func204, Tryz.ntmps204
  go_wp2_with (go_at_call 210; refine HO.out.mono ?_; rintro e w' ⟨rfl, rfl⟩)
  go_ret
  exact ⟨rfl, rfl⟩
set_option maxHeartbeats 400000 in
theorem pt_use_yes (h : Pt w0 w g k q T rg pt lp n S) {b : Int} {i : Nat} (hr : rg b = some i) (hb : b ∈ S.getD i []) : Calls Tryz.prog 204 #[.pointer (some ⟨g, 0, none⟩), .int .i64 b] w fun e w' =>
    e = .returned (.bool true) ∧ Pt w0 w' g k q T rg pt lp n (S.set i (usel b (S.getD i []))) ∧ Chg w w' (· = k) (· = k) := by
  have c0 := h.c0
  have hi := (h.pn.rl hr).1
  have HO := hid (of_yes h.sq (gd_mem hb).2 hb)
  have HOK := hid (h.ok.use hi hb)
  have HF := hid (front_any h.sq i b)
  obtain ⟨e1, e2⟩ := okp_front h.ok hr hi (h.pn.vb hr)
  rw [e1, e2] at HF
  have H := hid h
  unfold usel at *
  clear h hr hb hi e1 e2
  go_enter Tryz.func204, Tryz.ntmps204
  go_wp2_with (first | (go_at_call 210; refine HO.out.mono ?_; rintro e w' ⟨rfl, rfl⟩) | (go_at_call 207; refine HF.out.mono ?_; rintro e w' ⟨rfl, hs, hc⟩; have HQ := hid (H.out.step hs hc HOK.out); have HC := hid hc; clear hs hc))
  go_ret
  exact ⟨rfl, HQ.out, HC.out⟩
theorem pt_use (h : Pt w0 w g k q T rg pt lp n S) (b : Int) : Calls Tryz.prog 204 #[.pointer (some ⟨g, 0, none⟩), .int .i64 b] w fun e w' =>
    e = .returned (.bool (dec (inS S b))) ∧ Pt w0 w' g k q T rg pt lp n (usS rg b S) ∧ Chg w w' (· = k) (· = k) := by
  by_cases hx : inS S b
  · obtain ⟨i, hr, hb⟩ := h.ok.in_.1 hx
    have e : usS rg b S = S.set i (usel b (S.getD i [])) := by
      unfold usS
      rw [dec_true hx, hr]
      rfl
    rw [dec_true hx, e]
    exact pt_use_yes h hr hb
  · have e : usS rg b S = S := by
      unfold usS
      rw [dec_false hx]
      rfl
    rw [dec_false hx, e]
    exact (pt_use_no h hx).mono fun e w' ⟨h1, h2⟩ => by subst h2; exact ⟨h1, h, Chg.refl _ _⟩
theorem remE_in (S : List (List Int)) (b : Int) (hv : inS S b → vb b) : decide (remE S b = 0) = dec (inS S b) := by
  by_cases hx : inS S b
  · unfold remE
    rw [if_pos (hv hx), dec_true hx]
    rfl
  · rw [dec_false hx]
    unfold remE
    rw [dec_false hx]
    split <;> rfl
set_option maxHeartbeats 400000 in
theorem pt_remove (h : Pt w0 w g k q T rg pt lp n S) (b : Int) : Calls Tryz.prog 203 #[.pointer (some ⟨g, 0, none⟩), .int .i64 b] w fun e w' =>
    e = .returned (.bool (dec (inS S b))) ∧ Pt w0 w' g k q T rg pt lp n (woS b S) ∧ Chg w w' (· = k) (· = k) := by
  have c0 := h.c0
  have HR := hid (remove_any h.sq b)
  rw [← remE_in S b (fun hx => by obtain ⟨i, hr, _⟩ := h.ok.in_.1 hx; exact h.pn.vb hr)]
  have HOK := hid (h.ok.wo b)
  have H := hid h
  generalize remE S b = z at *
  clear h
  go_enter Tryz.func203, Tryz.ntmps203
  go_wp2_with (go_at_call 209; refine HR.out.mono ?_; rintro e w' ⟨rfl, hs, hc⟩; have HQ := hid (H.out.step hs hc HOK.out); have HC := hid hc; clear hs hc)
  go_ret
  exact ⟨rfl, HQ.out, HC.out⟩
set_option maxHeartbeats 400000 in
theorem pt_goes (h : Pt w0 w g k q T rg pt lp n S) {i : Nat} {l : List Int} (hl : S[i]? = some l) (hn : l ≠ []) (loop : Bool) : Calls Tryz.prog 206 #[.pointer (some ⟨g, 0, none⟩), .int .i64 i, .bool loop] w fun e w' =>
    e = .returned (.tuple #[.int .i64 (gone loop l), .bool true]) ∧ ∃ d, w' = w.drewN d := by
  have c0 := h.c0
  have HF := hid (first_in h.sq hl)
  have HL := hid (last_in h.sq hl)
  rw [show lastV l = .tuple #[.int .i64 (gone false l), .bool true] from by
    unfold lastV gone
    rw [dif_neg hn, if_neg (by simp), List.getLastD_eq_getLast?, List.getLast?_eq_some_getLast hn]
    rfl] at HL
  rw [show firstV l = .tuple #[.int .i64 (gone true l), .bool true] from by
    obtain ⟨x, r, rfl⟩ := List.exists_cons_of_ne_nil hn
    rfl] at HF
  clear h hl hn
  cases loop
  all_goals
    generalize gone true l = y at *
    generalize gone false l = x at *
    go_enter Tryz.func206, Tryz.ntmps206
    go_wp2_with (first | (go_at_call 211; refine HF.out.mono ?_; rintro e w' ⟨rfl, d, rfl⟩) | (go_at_call 212; refine HL.out.mono ?_; rintro e w' ⟨rfl, d, rfl⟩))
    go_ret2
    exact ⟨rfl, d, rfl⟩
end
section
variable {w0 w w' : World} {g k q T n : Nat} {rg : Int → Option Nat} {pt : Nat → Nat} {lp : Nat → Bool} {S S' : List (List Int)}
def adE (pt : Nat → Nat) (o : Option Nat) : Int := if ptO pt o = 0 then 5 else 0
def adG (pt : Nat → Nat) (o : Option Nat) (b : Int) (S : List (List Int)) : Bool := match o with
  | none => false
  | some i => !(S.getD i []).contains b && decide (0 < pt i) && decide (pt i ≤ (S.getD i []).length)
def adV (pt : Nat → Nat) (lp : Nat → Bool) (o : Option Nat) (b : Int) (S : List (List Int)) : Int := match o with
  | none => 0
  | some i => if adG pt (some i) b S then gone (lp i) (S.getD i []) else 0
def adS (pt : Nat → Nat) (lp : Nat → Bool) (o : Option Nat) (b : Int) (S : List (List Int)) : List (List Int) := match o with
  | none => S
  | some i => if pt i = 0 then S else S.set i (addl (lp i) (pt i) b (S.getD i []))
def AddQ (w0 w : World) (g k q T : Nat) (rg : Int → Option Nat) (pt : Nat → Nat) (lp : Nat → Bool) (n : Nat) (v : Int) (gn : Bool) (er : Int) (S' : List (List Int)) (e : Ending) (w' : World) : Prop :=
  e = .returned (.tuple #[.int .i64 v, .bool gn, .int .i64 er]) ∧ Pt w0 w' g k q T rg pt lp n S' ∧ Chg w w' (· = k) (· = k)
set_option maxHeartbeats 400000 in
theorem pt_add_none (h : Pt w0 w g k q T rg pt lp n S) {b : Int} (h0 : ptO pt (rg b) = 0) : Calls Tryz.prog 199 #[.pointer (some ⟨g, 0, none⟩), .int .i64 b] w (AddQ w0 w g k q T rg pt lp n 0 false 5 S) := by
  have HT := hid (pt_takes h b)
  rw [h0, decide_eq_false (Nat.lt_irrefl 0)] at HT
  have H := hid h
  clear h h0
  go_enter Tryz.func199, Tryz.ntmps199
  go_wp2_with (go_at_call 156; refine HT.out.mono ?_; rintro e w2 ⟨rfl, hb⟩; have HP := hid (H.out.below hb); have HC := hid (Chg.of hb (· = k)); clear hb)
  go_ret3
  exact ⟨rfl, HP.out, HC.out⟩
set_option maxHeartbeats 400000 in
theorem pt_add_in (h : Pt w0 w g k q T rg pt lp n S) {b : Int} {i : Nat} (hr : rg b = some i) (hp : 0 < pt i) (hb : b ∈ S.getD i []) : Calls Tryz.prog 199 #[.pointer (some ⟨g, 0, none⟩), .int .i64 b] w (AddQ w0 w g k q T rg pt lp n 0 false 0 (S.set i (usel b (S.getD i [])))) := by
  have HT := hid (pt_takes h b)
  have HU := hid (fun (y : World) (hy : Pt w0 y g k q T rg pt lp n S) => pt_use_yes hy hr hb)
  rw [hr] at HT
  rw [decide_eq_true (show 0 < ptO pt (some i) from hp)] at HT
  have H := hid h
  clear h hr hp hb
  go_enter Tryz.func199, Tryz.ntmps199
  go_wp2_with (first
    | (go_at_call 156; refine HT.out.mono ?_; rintro e w2 ⟨rfl, hb⟩; have HP := hid (H.out.below hb); have HC := hid (Chg.of hb (· = k)); clear hb)
    | (go_at_call 204; refine (HU.out _ HP.out).mono ?_; rintro e w3 ⟨rfl, hq, hc⟩; have HP3 := hid hq; have HC3 := hid (HC.out.trans hc); clear hq hc))
  go_ret3
  exact ⟨rfl, HP3.out, HC3.out⟩
set_option maxHeartbeats 1000000 in
theorem pt_add_room (h : Pt w0 w g k q T rg pt lp n S) {b : Int} {i : Nat} (hr : rg b = some i) (hb : b ∉ S.getD i []) (hl : (S.getD i []).length < pt i) : Calls Tryz.prog 199 #[.pointer (some ⟨g, 0, none⟩), .int .i64 b] w (AddQ w0 w g k q T rg pt lp n 0 false 0 (S.set i (b :: S.getD i []))) := by
  have HT := hid (pt_takes h b)
  have HU := hid (fun (y : World) (hy : Pt w0 y g k q T rg pt lp n S) => pt_use_no hy (okp_out hy.ok hr hb))
  have HR := hid (fun (y : World) (hy : Pt w0 y g k q T rg pt lp n S) => pn_range hy.plan b)
  have HPT := hid (fun (y : World) (hy : Pt w0 y g k q T rg pt lp n S) => pt_part hy b)
  have hi := (h.pn.rl hr).1
  have hv := h.pn.vb hr
  have hiS : i < S.length := Nat.lt_of_lt_of_le hi h.ok.len
  have HLN := hid (fun (y : World) (hy : Pt w0 y g k q T rg pt lp n S) => len_in hy.sq (gd_some hiS))
  have HOK := hid (h.ok.add (lp i) hi hr (b := b) hv (by omega))
  rw [show addl (lp i) (pt i) b (S.getD i []) = b :: S.getD i [] from by
    unfold addl
    rw [if_neg (by simpa using hb), if_neg (by omega)]] at HOK
  have HF := hid (fun (y : World) (hy : Pt w0 y g k q T rg pt lp n S) => front_any hy.sq i b)
  obtain ⟨e1, e2⟩ := okp_front h.ok hr hi hv
  rw [wo_out hb] at e2
  rw [e1, e2] at HF
  rw [hr] at HT HPT HR
  rw [decide_eq_true (show 0 < ptO pt (some i) from by show 0 < pt i; omega)] at HT
  rw [show ptO pt (some i) = pt i from rfl] at HPT
  rw [show rgV (some i) = .tuple #[.int .i64 (i : Nat), .bool true] from rfl] at HR
  have H := hid h
  have hd : ((S.getD i []).length : Int) ≠ (pt i : Int) := by omega
  generalize hP : pt i = P at *
  generalize hN : (S.getD i []).length = N at *
  have hd2 : ((N : Int) == (P : Int)) = false := by simpa using hd
  clear h hr hb hl e1 e2 hi hv hiS hP hN hd
  generalize S.set i (b :: S.getD i []) = S' at *
  go_enter Tryz.func199, Tryz.ntmps199
  go_wp2_with (first
    | (go_at_call 156; refine HT.out.mono ?_; rintro e w2 ⟨rfl, hb⟩; have HP := hid (H.out.below hb); have HC := hid (Chg.of hb (· = k)); clear hb)
    | (go_at_call 204; refine (HU.out _ HP.out).mono ?_; rintro e w3 ⟨rfl, rfl⟩; have c1 := HP.out.c1)
    | (go_at_call 168; refine (HR.out _ HP.out).mono ?_; rintro e w4 ⟨rfl, hb⟩; have HP4 := hid (HP.out.below hb); have HC4 := hid (HC.out.trans (Chg.of hb _)); have c0 := HP4.out.c0; clear hb)
    | (go_at_call 205; refine (HLN.out _ HP4.out).mono ?_; rintro e w5 ⟨rfl, hb⟩; have HP5 := hid (HP4.out.below hb); have HC5 := hid (HC4.out.trans (Chg.of hb _)); clear hb c0)
    | (go_at_call 161; refine (HPT.out _ HP5.out).mono ?_; rintro e w6 ⟨rfl, hb⟩; have HP6 := hid (HP5.out.below hb); have HC6 := hid (HC5.out.trans (Chg.of hb _)); have c0 := HP6.out.c0; clear hb)
    | (go_at_call 207; refine (HF.out _ HP6.out).mono ?_; rintro e w7 ⟨rfl, hs, hc⟩; have HP7 := hid (HP6.out.step hs hc HOK.out); have HC7 := hid (HC6.out.trans hc); clear hs hc c0))
  go_ret3
  exact ⟨rfl, HP7.out, HC7.out⟩
set_option maxHeartbeats 1000000 in
theorem pt_add_full (h : Pt w0 w g k q T rg pt lp n S) {b : Int} {i : Nat} (hr : rg b = some i) (hp : 0 < pt i) (hb : b ∉ S.getD i []) (hl : pt i ≤ (S.getD i []).length) : Calls Tryz.prog 199 #[.pointer (some ⟨g, 0, none⟩), .int .i64 b] w (AddQ w0 w g k q T rg pt lp n (gone (lp i) (S.getD i [])) true 0 (S.set i (b :: wo (gone (lp i) (S.getD i [])) (S.getD i [])))) := by
  have HT := hid (pt_takes h b)
  have HU := hid (fun (y : World) (hy : Pt w0 y g k q T rg pt lp n S) => pt_use_no hy (okp_out hy.ok hr hb))
  have HR := hid (fun (y : World) (hy : Pt w0 y g k q T rg pt lp n S) => pn_range hy.plan b)
  have HPT := hid (fun (y : World) (hy : Pt w0 y g k q T rg pt lp n S) => pt_part hy b)
  have HLO := hid (fun (y : World) (hy : Pt w0 y g k q T rg pt lp n S) => pn_loop hy.plan b)
  have hi := (h.pn.rl hr).1
  have hv := h.pn.vb hr
  have hiS : i < S.length := Nat.lt_of_lt_of_le hi h.ok.len
  have hne : S.getD i [] ≠ [] := fun e => by rw [e] at hl; simp at hl; omega
  have HLN := hid (fun (y : World) (hy : Pt w0 y g k q T rg pt lp n S) => len_in hy.sq (gd_some hiS))
  have HGO := hid (fun (y : World) (hy : Pt w0 y g k q T rg pt lp n S) => pt_goes hy (gd_some hiS) hne (lp i))
  have hgm := gone_mem (loop := lp i) hne
  have hgr := h.ok.own i _ hgm
  have HRM := hid (fun (y : World) (hy : Pt w0 y g k q T rg pt lp n S) => pt_remove hy (gone (lp i) (S.getD i [])))
  have hok1 := h.ok.wo (gone (lp i) (S.getD i []))
  have HOK := hid (h.ok.add (lp i) hi hr (b := b) hv (by omega))
  rw [show addl (lp i) (pt i) b (S.getD i []) = b :: wo (gone (lp i) (S.getD i [])) (S.getD i []) from by
    unfold addl
    rw [if_neg (by simpa using hb), if_pos hl]] at HOK
  rw [okp_woset h.ok hgr hi] at HRM hok1
  have HF := hid (fun (y : World) (hy : Pt w0 y g k q T rg pt lp n (S.set i (wo (gone (lp i) (S.getD i [])) (S.getD i [])))) => front_any hy.sq i b)
  obtain ⟨e1, e2⟩ := okp_front hok1 hr hi hv
  rw [gd_set _ hiS, if_pos rfl, List.set_set, wo_out (fun hm => hb (mem_wo.1 hm).1)] at e2
  rw [e1, e2] at HF
  rw [hr] at HT HPT HR HLO
  rw [decide_eq_true (show 0 < ptO pt (some i) from hp)] at HT
  rw [show ptO pt (some i) = pt i from rfl] at HPT
  rw [show rgV (some i) = .tuple #[.int .i64 (i : Nat), .bool true] from rfl] at HR
  rw [show lpO lp (some i) = lp i from rfl] at HLO
  have H := hid h
  have hd : ((S.getD i []).length : Int) = (pt i : Int) := by have := h.ok.le i hi; omega
  generalize hP : pt i = P at *
  generalize hN : (S.getD i []).length = N at *
  obtain rfl : N = P := by omega
  generalize hG : gone (lp i) (S.getD i []) = G at *
  clear h hr hb hl e1 e2 hi hv hiS hP hN hd hG hok1 hgm hgr hne hp
  generalize S.set i (b :: wo G (S.getD i [])) = S' at *
  generalize S.set i (wo G (S.getD i [])) = S1 at *
  generalize lp i = lo at *
  go_enter Tryz.func199, Tryz.ntmps199
  go_wp2_with (first
    | (go_at_call 156; refine HT.out.mono ?_; rintro e w2 ⟨rfl, hb⟩; have HP := hid (H.out.below hb); have HC := hid (Chg.of hb (· = k)); clear hb)
    | (go_at_call 204; refine (HU.out _ HP.out).mono ?_; rintro e w3 ⟨rfl, rfl⟩; have c1 := HP.out.c1)
    | (go_at_call 168; refine (HR.out _ HP.out).mono ?_; rintro e w4 ⟨rfl, hb⟩; have HP4 := hid (HP.out.below hb); have HC4 := hid (HC.out.trans (Chg.of hb _)); have c0 := HP4.out.c0; clear hb c1)
    | (go_at_call 205; refine (HLN.out _ HP4.out).mono ?_; rintro e w5 ⟨rfl, hb⟩; have HP5 := hid (HP4.out.below hb); have HC5 := hid (HC4.out.trans (Chg.of hb _)); clear hb c0)
    | (go_at_call 161; refine (HPT.out _ HP5.out).mono ?_; rintro e w6 ⟨rfl, hb⟩; have HP6 := hid (HP5.out.below hb); have HC6 := hid (HC5.out.trans (Chg.of hb _)); have c1 := HP6.out.c1; clear hb)
    | (go_at_call 198; refine (HLO.out _ HP6.out).mono ?_; rintro e w7 ⟨rfl, hb⟩; have HP7 := hid (HP6.out.below hb); have HC7 := hid (HC6.out.trans (Chg.of hb _)); clear hb c1)
    | (go_at_call 206; refine (HGO.out _ HP7.out).mono ?_; rintro e w8 ⟨rfl, d, rfl⟩; have HP8 := hid (HP7.out.draws d); have HC8 := hid (Chg.draws HC7.out d))
    | (go_at_call 203; refine (HRM.out _ HP8.out).mono ?_; rintro e w9 ⟨rfl, hq, hc⟩; have HP9 := hid hq; have HC9 := hid (HC8.out.trans hc); have c0 := HP9.out.c0; clear hq hc)
    | (go_at_call 207; refine (HF.out _ HP9.out).mono ?_; rintro e w10 ⟨rfl, hs, hc⟩; have HP10 := hid (HP9.out.step hs hc HOK.out); have HC10 := hid (HC9.out.trans hc); clear hs hc c0))
  go_ret3
  exact ⟨rfl, HP10.out, HC10.out⟩
theorem pt_add (h : Pt w0 w g k q T rg pt lp n S) (b : Int) : Calls Tryz.prog 199 #[.pointer (some ⟨g, 0, none⟩), .int .i64 b] w (AddQ w0 w g k q T rg pt lp n (adV pt lp (rg b) b S) (adG pt (rg b) b S) (adE pt (rg b)) (adS pt lp (rg b) b S)) := by
  cases hr : rg b with
  | none => exact pt_add_none h (by rw [hr]; rfl)
  | some i =>
    by_cases hp : pt i = 0
    · have e1 : adG pt (some i) b S = false := by unfold adG; simp [hp]
      have e2 : adV pt lp (some i) b S = 0 := by unfold adV; simp [e1]
      have e3 : adE pt (some i) = 5 := if_pos hp
      have e4 : adS pt lp (some i) b S = S := if_pos hp
      rw [e1, e2, e3, e4]
      exact pt_add_none h (by rw [hr]; exact hp)
    · have e3 : adE pt (some i) = 0 := if_neg hp
      have e4 : adS pt lp (some i) b S = S.set i (addl (lp i) (pt i) b (S.getD i [])) := if_neg hp
      rw [e3, e4]
      by_cases hb : b ∈ S.getD i []
      · have hc : (S.getD i []).contains b = true := by simpa using hb
        have e1 : adG pt (some i) b S = false := by unfold adG; dsimp only; rw [hc]; rfl
        have e2 : adV pt lp (some i) b S = 0 := by unfold adV; dsimp only; rw [e1]; rfl
        rw [e1, e2, show addl (lp i) (pt i) b (S.getD i []) = usel b (S.getD i []) from if_pos hc]
        exact pt_add_in h hr (by omega) hb
      · have hc : (S.getD i []).contains b = false := by simpa using hb
        by_cases hl : pt i ≤ (S.getD i []).length
        · have e1 : adG pt (some i) b S = true := by unfold adG; dsimp only; rw [hc, decide_eq_true hl, decide_eq_true (by omega)]; rfl
          have e2 : adV pt lp (some i) b S = gone (lp i) (S.getD i []) := by unfold adV; dsimp only; rw [e1]; rfl
          rw [e1, e2, show addl (lp i) (pt i) b (S.getD i []) = b :: wo (gone (lp i) (S.getD i [])) (S.getD i []) from by unfold addl; rw [if_neg (by simpa using hb), if_pos hl]]
          exact pt_add_full h hr (by omega) hb hl
        · have e1 : adG pt (some i) b S = false := by unfold adG; dsimp only; rw [decide_eq_false hl, Bool.and_false]
          have e2 : adV pt lp (some i) b S = 0 := by unfold adV; dsimp only; rw [e1]; rfl
          rw [e1, e2, show addl (lp i) (pt i) b (S.getD i []) = b :: S.getD i [] from by unfold addl; rw [if_neg (by simpa using hb), if_neg hl]]
          exact pt_add_room h hr hb (by omega)
end
end Go.Proofs.YtbcejfonkehjgaaGreatDoor
namespace Go.Proofs.YtbcejfonkehjgaaGreatDoor
open Go.RowKit

-- an MQ's blocks
section
variable {C N L H : Nat} {m : Ms}
theorem mem_pl (hl : m.S.length = 9) {q : Nat} (hq : q < 8) {b : Int} (c : Int) : c ∈ (m.pl L q b).al ↔ c = b ∨ c ∈ m.al := by
  have hq9 : q < (woS b m.S).length := by rw [woS_len]; omega
  have gd : ∀ j, (m.pl L q b).S.getD j [] = if q = j then b :: wo b (m.S.getD q []) else wo b (m.S.getD j []) := fun j => by
    show ((woS b m.S).set q (b :: (woS b m.S).getD q [])).getD j [] = _
    rw [gd_set _ hq9, gd_wo, gd_wo]
  unfold Ms.al
  rw [mem_alls, mem_alls]
  constructor
  · rintro ⟨j, hj, hc⟩
    rw [gd] at hc
    by_cases e : q = j
    · subst e
      rw [if_pos rfl] at hc
      rcases List.mem_cons.1 hc with rfl | hc
      · exact .inl rfl
      · exact .inr ⟨q, hj, (mem_wo.1 hc).1⟩
    · rw [if_neg e] at hc
      exact .inr ⟨j, hj, (mem_wo.1 hc).1⟩
  · intro h
    by_cases e : c = b
    · exact ⟨q, hq, by rw [gd, if_pos rfl, e]; exact List.mem_cons_self⟩
    · rcases h with h | ⟨j, hj, h⟩
      · exact absurd h e
      · refine ⟨j, hj, ?_⟩
        rw [gd]
        by_cases e2 : q = j
        · subst e2
          rw [if_pos rfl]
          exact List.mem_cons_of_mem _ (mem_wo.2 ⟨h, e⟩)
        · rw [if_neg e2]
          exact mem_wo.2 ⟨h, e⟩
theorem mem_ag1 (hl : m.S.length = 9) {i : Nat} (hi : i < 8) (c : Int) : c ∈ (m.ag1 L i).al ↔ c ∈ m.al := by
  unfold Ms.ag1
  split
  · exact Iff.rfl
  · rename_i b hb
    split
    · rw [mem_pl hl (by omega)]
      exact ⟨fun h => h.elim (fun e => by rw [e]; exact mem_alls.2 ⟨i, hi, last_mem hb⟩) id, .inr⟩
    · exact Iff.rfl
theorem ag1_len (hl : m.S.length = 9) (i : Nat) : (m.ag1 L i).S.length = 9 := by
  unfold Ms.ag1
  split
  · exact hl
  · split
    · show ((woS _ m.S).set _ _).length = 9
      rw [List.length_set, woS_len]
      exact hl
    · exact hl
theorem mem_ags (hl : m.S.length = 9) (c : Int) : ∀ i, i < 8 → (Ms.ags L i m).S.length = 9 ∧ (c ∈ (Ms.ags L i m).al ↔ c ∈ m.al)
  | 0, _ => ⟨hl, Iff.rfl⟩
  | i + 1, hi => by
    obtain ⟨h1, h2⟩ := mem_ags hl c i (by omega)
    exact ⟨ag1_len h1 _, (mem_ag1 h1 hi c).trans h2⟩
theorem mem_us (h : Okm C N L H m) {b : Int} (c : Int) : c ∈ (m.us N L b).al ↔ c = b ∨ c ∈ m.al := by
  have hn := h.n
  have hl : ((m.bump b).pl L (qn (m.o b + 1) N) b).S.length = 9 := by
    show ((woS b m.S).set _ _).length = 9
    rw [List.length_set, woS_len]
    exact h.len
  have h2 := qn_lt (n := m.o b + 1) hn.1
  exact (mem_ags hl c (N - 1) (by omega)).2.trans (mem_pl (m := m.bump b) h.len (by omega) c)
theorem mem_fo {b : Int} (c : Int) : c ∈ (m.fo b).al ↔ c ∈ m.al ∧ c ≠ b := by
  unfold Ms.al
  show c ∈ alls (woS b m.S) 8 ↔ _
  rw [alls_wo]
  exact mem_wo
theorem alls_set8 (S : List (List Int)) (l : List Int) : ∀ n, n ≤ 8 → alls (S.set 8 l) n = alls S n
  | 0, _ => rfl
  | n + 1, h => by
    have ih := alls_set8 S l n (by omega)
    unfold alls
    rw [ih]
    congr 1
    rw [List.getD_eq_getElem?_getD, List.getElem?_set_ne (by omega), ← List.getD_eq_getElem?_getD]
theorem mem_ha (h : Okm C N L H m) (hh : H ≤ 16) {v : Int} (hv : v ∈ m.al) (c : Int) : c ∈ (m.ha H v).al ↔ c ∈ m.al ∧ c ≠ v := by
  have key : ∃ l, (m.ha H v).S = (woS v m.S).set 8 l := by
    unfold Ms.ha
    split
    · exact ⟨_, rfl⟩
    · exact ⟨_, drop_ghost h hh hv⟩
  obtain ⟨l, e⟩ := key
  unfold Ms.al
  rw [e, alls_set8 _ _ 8 (Nat.le_refl 8), alls_wo]
  exact mem_wo
end
inductive Ob
  | lru (C : Nat) (L : List Int)
  | mq (C N L H : Nat) (m : Ms)
  | prt (rg : Int → Option Nat) (pt : Nat → Nat) (lp : Nat → Bool) (n : Nat) (S : List (List Int))
namespace Ob
def all : Ob → List Int
  | lru _ L => L
  | mq _ _ _ _ m => m.al
  | prt _ _ _ n S => allp S n
noncomputable def use (b : Int) : Ob → Ob
  | lru C L => lru C (useL b L)
  | mq C N L H m => mq C N L H (m.useM N L b)
  | prt rg pt lp n S => prt rg pt lp n (usS rg b S)
def add (b : Int) : Ob → Ob
  | lru C L => lru C (addL C b L)
  | mq C N L H m => mq C N L H (m.adM C N L H b)
  | prt rg pt lp n S => prt rg pt lp n (adS pt lp (rg b) b S)
def rem (b : Int) : Ob → Ob
  | lru C L => lru C (wo b L)
  | mq C N L H m => mq C N L H (m.remM b)
  | prt rg pt lp n S => prt rg pt lp n (woS b S)
def gn (b : Int) : Ob → Bool
  | lru C L => decide (goes C b L)
  | mq C _ _ _ m => decide (m.goes C b)
  | prt rg pt _ _ S => adG pt (rg b) b S
def vi (b : Int) : Ob → Int
  | lru C L => vict C b L
  | mq C _ _ _ m => m.adV C b
  | prt rg pt lp _ S => adV pt lp (rg b) b S
def tk (b : Int) : Ob → Prop
  | lru _ _ => vb b
  | mq _ _ _ _ _ => vb b
  | prt rg pt _ _ _ => 0 < ptO pt (rg b)
def Ok (K : Nat) : Ob → Prop
  | lru C L => C = K ∧ (1 ≤ C ∧ C ≤ 16) ∧ L.Nodup ∧ L.length ≤ C ∧ ∀ x ∈ L, vb x
  | mq C N L H m => C = K ∧ Okm C N L H m ∧ H ≤ 16
  | prt rg pt _ n S => Okp rg pt n S ∧ lsum pt n ≤ K ∧ (∀ z i, rg z = some i → i < n ∧ 0 ≤ z ∧ z < 32)
end Ob
theorem useL_mem {b c : Int} {L : List Int} : c ∈ useL b L ↔ c ∈ L := by
  unfold useL
  by_cases h : b ∈ L
  · rw [dec_true h, if_pos rfl, List.mem_cons, mem_wo]
    constructor
    · rintro (rfl | h2)
      · exact h
      · exact h2.1
    · intro h2
      by_cases e : c = b
      · exact .inl e
      · exact .inr ⟨h2, e⟩
  · rw [dec_false h, if_neg (by simp)]
theorem lru_full {C : Nat} {b : Int} {L : List Int} (h1 : 1 ≤ C) (hd : L.Nodup) (hl : L.length ≤ C) (hg : goes C b L) : b ∉ L ∧ L.length = C ∧ vict C b L ∈ L ∧ vict C b L ≠ b ∧ ∀ c, c ∈ addL C b L ↔ c = b ∨ (c ∈ L ∧ c ≠ vict C b L) := by
  have h2 := hg.2
  rw [List.length_cons] at h2
  have hb : b ∉ L := fun hb => by have := wo_less hd hb; omega
  have hw : wo b L = L := wo_out hb
  rw [hw] at h2
  have hn : (b :: L).Nodup := List.nodup_cons.2 ⟨hb, hd⟩
  have hne : L ≠ [] := fun e => by rw [e] at h2; simp at h2; omega
  have ev : vict C b L = L.getLast hne := by
    have e1 : vict C b L = (b :: wo b L).getLast (by simp) := if_pos hg
    rw [e1]
    simp only [hw]
    exact List.getLast_cons hne
  have hv : vict C b L ∈ L := by rw [ev]; exact List.getLast_mem hne
  have hvb : vict C b L ≠ b := fun e => hb (e ▸ hv)
  refine ⟨hb, by omega, hv, hvb, fun c => ?_⟩
  have ea : addL C b L = wo (vict C b L) (b :: L) := by
    have e1 : addL C b L = (b :: wo b L).dropLast := if_pos hg
    rw [e1, ev]
    simp only [hw]
    rw [show L.getLast hne = (b :: L).getLast (by simp) from (List.getLast_cons hne).symm]
    exact (wo_last (by simp) hn).symm
  rw [ea, mem_wo, List.mem_cons]
  constructor
  · rintro ⟨rfl | h3, h4⟩
    · exact .inl rfl
    · exact .inr ⟨h3, h4⟩
  · rintro (rfl | ⟨h3, h4⟩)
    · exact ⟨.inl rfl, fun e => hvb e.symm⟩
    · exact ⟨.inr h3, h4⟩
theorem lru_room {C : Nat} {b : Int} {L : List Int} (hv : vb b) (hg : ¬ goes C b L) (c : Int) : c ∈ addL C b L ↔ c = b ∨ c ∈ L := by
  have ea : addL C b L = b :: wo b L := by unfold addL; rw [if_neg hg, if_pos hv]
  rw [ea, List.mem_cons, mem_wo]
  by_cases e : c = b
  · simp [e]
  · simp [e]
-- a parted cache's blocks
section
variable {rg : Int → Option Nat} {pt : Nat → Nat} {lp : Nat → Bool} {n : Nat} {S : List (List Int)}
theorem allp_in (h : Okp rg pt n S) (hn : ∀ z i, rg z = some i → i < n ∧ 0 ≤ z ∧ z < 32) (c : Int) : c ∈ allp S n ↔ inS S c := by
  rw [mem_allp, h.in_]
  constructor
  · rintro ⟨i, _, hc⟩
    exact ⟨i, h.own i c hc, hc⟩
  · rintro ⟨i, hr, hc⟩
    exact ⟨i, (hn c i hr).1, hc⟩
theorem mem_set (h : Okp rg pt n S) {i : Nat} (hi : i < n) (l : List Int) (c : Int) : c ∈ allp (S.set i l) n ↔ c ∈ l ∨ ∃ j, j < n ∧ j ≠ i ∧ c ∈ S.getD j [] := by
  have hl : i < S.length := Nat.lt_of_lt_of_le hi h.len
  rw [mem_allp]
  constructor
  · rintro ⟨j, hj, hc⟩
    rw [gd_set _ hl] at hc
    by_cases e : i = j
    · rw [if_pos e] at hc
      exact .inl hc
    · rw [if_neg e] at hc
      exact .inr ⟨j, hj, fun e2 => e e2.symm, hc⟩
  · rintro (hc | ⟨j, hj, e, hc⟩)
    · exact ⟨i, hi, by rw [gd_set _ hl, if_pos rfl]; exact hc⟩
    · exact ⟨j, hj, by rw [gd_set _ hl, if_neg fun e2 => e e2.symm]; exact hc⟩
theorem allp_at {i : Nat} (hi : i < n) (c : Int) : c ∈ allp S n ↔ c ∈ S.getD i [] ∨ ∃ j, j < n ∧ j ≠ i ∧ c ∈ S.getD j [] := by
  rw [mem_allp]
  constructor
  · rintro ⟨j, hj, hc⟩
    by_cases e : j = i
    · rw [e] at hc; exact .inl hc
    · exact .inr ⟨j, hj, e, hc⟩
  · rintro (hc | ⟨j, hj, _, hc⟩)
    · exact ⟨i, hi, hc⟩
    · exact ⟨j, hj, hc⟩
theorem mem_usS (h : Okp rg pt n S) (hn : ∀ z i, rg z = some i → i < n ∧ 0 ≤ z ∧ z < 32) (b c : Int) : c ∈ allp (usS rg b S) n ↔ c ∈ allp S n := by
  unfold usS
  by_cases hx : inS S b
  · obtain ⟨i, hr, hb⟩ := h.in_.1 hx
    have hi := (hn b i hr).1
    rw [dec_true hx, if_pos rfl, hr, show (some i).getD 0 = i from rfl, mem_set h hi, allp_at hi]
    refine or_congr ?_ Iff.rfl
    unfold usel
    rw [List.mem_cons, mem_wo]
    constructor
    · rintro (rfl | h2)
      · exact hb
      · exact h2.1
    · intro h2
      by_cases e : c = b
      · exact .inl e
      · exact .inr ⟨h2, e⟩
  · rw [dec_false hx, if_neg (by simp)]
theorem allp_woS (b : Int) : ∀ n, allp (woS b S) n = wo b (allp S n)
  | 0 => rfl
  | n + 1 => by
    unfold allp
    rw [allp_woS b n, gd_wo]
    unfold wo
    rw [List.filter_append]
theorem okp_usS (h : Okp rg pt n S) (hn : ∀ z i, rg z = some i → i < n ∧ 0 ≤ z ∧ z < 32) (b : Int) : Okp rg pt n (usS rg b S) := by
  unfold usS
  by_cases hx : inS S b
  · obtain ⟨i, hr, hb⟩ := h.in_.1 hx
    rw [dec_true hx, if_pos rfl, hr]
    exact h.use (hn b i hr).1 hb
  · rw [dec_false hx, if_neg (by simp)]
    exact h
theorem okp_adS (h : Okp rg pt n S) (hn : ∀ z i, rg z = some i → i < n ∧ 0 ≤ z ∧ z < 32) (b : Int) : Okp rg pt n (adS pt lp (rg b) b S) := by
  cases hr : rg b with
  | none => exact h
  | some i =>
    obtain ⟨hi, hb⟩ := hn b i hr
    by_cases hp : pt i = 0
    · rw [show adS pt lp (some i) b S = S from if_pos hp]
      exact h
    · rw [show adS pt lp (some i) b S = S.set i (addl (lp i) (pt i) b (S.getD i [])) from if_neg hp]
      exact h.add (lp i) hi hr (by omega) (by omega)
theorem prt_add (h : Okp rg pt n S) (hn : ∀ z i, rg z = some i → i < n ∧ 0 ≤ z ∧ z < 32) {b : Int} (ht : 0 < ptO pt (rg b)) :
    (∀ c, c ∈ allp (adS pt lp (rg b) b S) n ↔ c = b ∨ (c ∈ allp S n ∧ ¬ (adG pt (rg b) b S = true ∧ c = adV pt lp (rg b) b S))) ∧
    (adG pt (rg b) b S = true → b ∉ allp S n ∧ adV pt lp (rg b) b S ∈ allp S n ∧ adV pt lp (rg b) b S ≠ b) := by
  cases hr : rg b with
  | none => rw [hr] at ht; exact absurd ht (Nat.lt_irrefl 0)
  | some i =>
    rw [hr] at ht
    have hp : 0 < pt i := ht
    obtain ⟨hi, hb⟩ := hn b i hr
    rw [show adS pt lp (some i) b S = S.set i (addl (lp i) (pt i) b (S.getD i [])) from if_neg (by omega)]
    have hout : ∀ j, j ≠ i → ∀ c, c ∈ S.getD j [] → c ≠ b := fun j hj c hc e => by
      have := h.own j c hc
      rw [e, hr] at this
      injection this with this
      exact hj this.symm
    by_cases hm : b ∈ S.getD i []
    · have hc : (S.getD i []).contains b = true := by simpa using hm
      have e1 : adG pt (some i) b S = false := by unfold adG; dsimp only; rw [hc]; rfl
      rw [e1]
      refine ⟨fun c => ?_, fun e => by cases e⟩
      rw [show addl (lp i) (pt i) b (S.getD i []) = b :: wo b (S.getD i []) from if_pos hc, mem_set h hi, allp_at hi, List.mem_cons, mem_wo]
      simp only [Bool.false_eq_true, false_and, not_false_eq_true, and_true]
      constructor
      · rintro ((h1 | ⟨h1, _⟩) | h1)
        · exact .inl h1
        · exact .inr (.inl h1)
        · exact .inr (.inr h1)
      · rintro (h1 | h1 | h1)
        · exact .inl (.inl h1)
        · by_cases e : c = b
          · exact .inl (.inl e)
          · exact .inl (.inr ⟨h1, e⟩)
        · exact .inr h1
    · have hc : (S.getD i []).contains b = false := by simpa using hm
      have hnall : b ∉ allp S n := fun hx => okp_out h hr hm ((allp_in h hn b).1 hx)
      by_cases hl : pt i ≤ (S.getD i []).length
      · have e1 : adG pt (some i) b S = true := by unfold adG; dsimp only; rw [hc, decide_eq_true hl, decide_eq_true hp]; rfl
        have e2 : adV pt lp (some i) b S = gone (lp i) (S.getD i []) := by unfold adV; dsimp only; rw [e1]; rfl
        have hne : S.getD i [] ≠ [] := fun e => by rw [e] at hl; simp at hl; omega
        have hg := gone_mem (loop := lp i) hne
        have hgb : gone (lp i) (S.getD i []) ≠ b := fun e => hm (e ▸ hg)
        rw [e1, e2]
        refine ⟨fun c => ?_, fun _ => ⟨hnall, mem_allp.2 ⟨i, hi, hg⟩, hgb⟩⟩
        rw [show addl (lp i) (pt i) b (S.getD i []) = b :: wo (gone (lp i) (S.getD i [])) (S.getD i []) from by unfold addl; rw [if_neg (by simpa using hm), if_pos hl], mem_set h hi, allp_at hi, List.mem_cons, mem_wo]
        have ho : ∀ j, j ≠ i → c ∈ S.getD j [] → c ≠ gone (lp i) (S.getD i []) := fun j hj hc' e => by
          have h1 := h.own j c hc'
          have h2 := h.own i _ hg
          rw [e] at h1
          rw [h1] at h2
          injection h2 with h2
          exact hj h2
        simp only [true_and]
        constructor
        · rintro ((h1 | ⟨h1, h2⟩) | ⟨j, h1, h2, h3⟩)
          · exact .inl h1
          · exact .inr ⟨.inl h1, h2⟩
          · exact .inr ⟨.inr ⟨j, h1, h2, h3⟩, ho j h2 h3⟩
        · rintro (h1 | ⟨h1 | h1, h2⟩)
          · exact .inl (.inl h1)
          · exact .inl (.inr ⟨h1, h2⟩)
          · exact .inr h1
      · have e1 : adG pt (some i) b S = false := by unfold adG; dsimp only; rw [decide_eq_false hl, Bool.and_false]
        rw [e1]
        refine ⟨fun c => ?_, fun e => by cases e⟩
        rw [show addl (lp i) (pt i) b (S.getD i []) = b :: S.getD i [] from by unfold addl; rw [if_neg (by simpa using hm), if_neg hl], mem_set h hi, allp_at hi, List.mem_cons]
        simp only [Bool.false_eq_true, false_and, not_false_eq_true, and_true, or_assoc]
end
namespace Ob
variable {K : Nat}
theorem nd : ∀ {o : Ob}, o.Ok K → o.all.Nodup
  | lru _ _, h => h.2.2.1
  | mq _ _ _ _ _, h => alls_nd h.2.1.wf 8
  | prt _ _ _ n _, h => allp_nd h.1.wf n
theorem le : ∀ {o : Ob}, o.Ok K → o.all.length ≤ K
  | lru C L, h => by
    have h1 : C = K := h.1
    have h2 : L.length ≤ C := h.2.2.2.1
    show L.length ≤ K
    omega
  | mq C _ _ _ m, h => by
    have h1 : C = K := h.1
    have h2 := h.2.1.cap
    show m.al.length ≤ K
    omega
  | prt _ _ _ _ _, h => Nat.le_trans h.1.bound h.2.1
theorem vb_of : ∀ {o : Ob}, o.Ok K → ∀ {x : Int}, x ∈ o.all → vb x
  | lru _ _, h, x, hx => h.2.2.2.2 x hx
  | mq _ _ _ _ _, h, x, hx => h.2.1.lt (h.2.1.in_al hx)
  | prt _ _ _ _ _, h, x, hx => by
    obtain ⟨i, _, hc⟩ := mem_allp.1 hx
    exact h.1.wf.ltg hc
theorem use_mem : ∀ {o : Ob}, o.Ok K → ∀ (b c : Int), c ∈ (o.use b).all ↔ c ∈ o.all
  | lru _ _, _, b, c => useL_mem
  | mq C N L H m, h, b, c => by
    show c ∈ (m.useM N L b).al ↔ c ∈ m.al
    unfold Ms.useM
    split
    · rename_i hb
      rw [mem_us h.2.1]
      exact ⟨fun h => h.elim (fun e => e ▸ hb) id, .inr⟩
    · exact Iff.rfl
  | prt _ _ _ _ _, h, b, c => mem_usS h.1 h.2.2 b c
theorem rem_mem : ∀ {o : Ob}, o.Ok K → ∀ (b c : Int), c ∈ (o.rem b).all ↔ c ∈ o.all ∧ c ≠ b
  | lru _ _, _, b, c => mem_wo
  | mq C N L H m, h, b, c => by
    show c ∈ (m.remM b).al ↔ c ∈ m.al ∧ c ≠ b
    unfold Ms.remM
    split
    · exact mem_fo c
    · rename_i hb
      exact ⟨fun hc => ⟨hc, fun e => hb (e ▸ hc)⟩, (·.1)⟩
  | prt rg pt lp n S, h, b, c => by
    show c ∈ allp (woS b S) n ↔ _
    rw [allp_woS]
    exact mem_wo
theorem add_mem : ∀ {o : Ob}, o.Ok K → ∀ {b : Int}, o.tk b → (∀ c, c ∈ (o.add b).all ↔ c = b ∨ (c ∈ o.all ∧ ¬ (o.gn b = true ∧ c = o.vi b))) ∧ (o.gn b = true → b ∉ o.all ∧ o.vi b ∈ o.all ∧ o.vi b ≠ b)
  | lru C L, h, b, ht => by
    by_cases hg : goes C b L
    · obtain ⟨h1, _, h3, h4, h5⟩ := lru_full h.2.1.1 h.2.2.1 h.2.2.2.1 hg
      refine ⟨fun c => (h5 c).trans ?_, fun _ => ⟨h1, h3, h4⟩⟩
      show _ ↔ c = b ∨ (c ∈ L ∧ ¬ (decide (goes C b L) = true ∧ c = vict C b L))
      rw [decide_eq_true hg]
      simp
    · refine ⟨fun c => (lru_room ht hg c).trans ?_, fun e => absurd (of_decide_eq_true e) hg⟩
      show _ ↔ c = b ∨ (c ∈ L ∧ ¬ (decide (goes C b L) = true ∧ c = vict C b L))
      rw [decide_eq_false hg]
      simp
  | mq C N L H m, h, b, ht => by
    obtain ⟨_, ok, hH⟩ := h
    by_cases hg : m.goes C b
    · have hp : 0 < m.al.length := by have := hg.2.2; have := ok.c; omega
      have hv := (ok.vic hp).2.2.2
      have ev : m.adV C b = m.vc := if_pos hg
      have hvb : m.vc ≠ b := fun e => hg.2.1 (e ▸ hv)
      refine ⟨fun c => ?_, fun _ => ⟨hg.2.1, by show m.adV C b ∈ m.al; rw [ev]; exact hv, by show m.adV C b ≠ b; rw [ev]; exact hvb⟩⟩
      show c ∈ (m.adM C N L H b).al ↔ c = b ∨ (c ∈ m.al ∧ ¬ (decide (m.goes C b) = true ∧ c = m.adV C b))
      rw [show m.adM C N L H b = (m.ha H m.vc).us N L b from if_pos hg, mem_us (ok.ha hH hv).1, mem_ha ok hH hv, decide_eq_true hg, ev]
      simp
    · refine ⟨fun c => ?_, fun e => absurd (of_decide_eq_true e) hg⟩
      show c ∈ (m.adM C N L H b).al ↔ c = b ∨ (c ∈ m.al ∧ ¬ (decide (m.goes C b) = true ∧ c = m.adV C b))
      rw [show m.adM C N L H b = m.us N L b from (if_neg hg).trans (if_pos ht), mem_us ok, decide_eq_false hg]
      simp
  | prt _ _ _ _ _, h, b, ht => prt_add h.1 h.2.2 ht
theorem Ok.use : ∀ {o : Ob}, o.Ok K → ∀ (b : Int), (o.use b).Ok K
  | lru C L, h, b => by
    obtain ⟨h1, h2, h3, h4, h5⟩ := h
    refine ⟨h1, h2, ?_, ?_, fun x hx => h5 x (useL_mem.1 hx)⟩
    · show (useL b L).Nodup
      unfold useL
      split
      · exact List.nodup_cons.2 ⟨fun h => (mem_wo.1 h).2 rfl, wo_nodup h3⟩
      · exact h3
    · show (useL b L).length ≤ C
      unfold useL
      split
      · rename_i hb
        have := wo_less h3 (dec_iff.1 hb)
        rw [List.length_cons]
        omega
      · exact h4
  | mq C N L H m, h, b => ⟨h.1, (h.2.1.useM b).1, h.2.2⟩
  | prt _ _ _ _ _, h, b => ⟨okp_usS h.1 h.2.2 b, h.2⟩
theorem Ok.rem : ∀ {o : Ob}, o.Ok K → ∀ (b : Int), (o.rem b).Ok K
  | lru _ _, h, _ => ⟨h.1, h.2.1, wo_nodup h.2.2.1, Nat.le_trans (List.length_filter_le _ _) h.2.2.2.1, fun x hx => h.2.2.2.2 x (mem_wo.1 hx).1⟩
  | mq _ _ _ _ _, h, b => ⟨h.1, (h.2.1.remM b).1, h.2.2⟩
  | prt _ _ _ _ _, h, b => ⟨h.1.wo b, h.2⟩
theorem Ok.add : ∀ {o : Ob}, o.Ok K → ∀ {b : Int}, o.tk b → (o.add b).Ok K
  | lru C L, h, b, ht => by
    have hm := (add_mem (o := lru C L) h ht).1
    obtain ⟨h1, h2, h3, h4, h5⟩ := h
    have hn : (b :: wo b L).Nodup := List.nodup_cons.2 ⟨fun h => (mem_wo.1 h).2 rfl, wo_nodup h3⟩
    refine ⟨h1, h2, ?_, ?_, fun x hx => ?_⟩
    · show (addL C b L).Nodup
      unfold addL
      split
      · exact hn.sublist (List.dropLast_sublist _)
      · split
        · exact hn
        · exact h3
    · show (addL C b L).length ≤ C
      unfold addL
      split
      · rw [List.length_dropLast, List.length_cons]
        have : (wo b L).length ≤ L.length := List.length_filter_le _ _
        omega
      · split
        · rename_i hg hv
          exact Nat.le_of_not_lt fun e => hg ⟨hv, e⟩
        · exact h4
    · rcases (hm x).1 hx with rfl | hx
      · exact ht
      · exact h5 x hx.1
  | mq C N L H m, h, b, _ => ⟨h.1, (h.2.1.adM h.2.2 b).1, h.2.2⟩
  | prt _ _ _ _ _, h, b, _ => ⟨okp_adS h.1 h.2.2 b, h.2⟩
theorem gn_full : ∀ {o : Ob}, o.Ok K → ∀ {b : Int}, (∀ rg pt lp n S, o ≠ prt rg pt lp n S) → o.gn b = true → o.all.length = K
  | lru C L, h, b, _, hg => by
    have h1 := (lru_full h.2.1.1 h.2.2.1 h.2.2.2.1 (of_decide_eq_true hg)).2.1
    have h2 : C = K := h.1
    show L.length = K
    omega
  | mq C N L H m, h, b, _, hg => by
    have h1 : m.goes C b := of_decide_eq_true hg
    have h2 : C = K := h.1
    have h3 := h1.2.2
    show m.al.length = K
    omega
  | prt rg pt lp n S, _, _, hp, _ => absurd rfl (hp rg pt lp n S)
end Ob
end Go.Proofs.YtbcejfonkehjgaaGreatDoor
