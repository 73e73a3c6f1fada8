/-
  What is proved: karma's Cost answers what hints with parts cost, or what is wrong. Condition: hints and parts are read as such; there are no more than 20.
  (Left out here, as nothing of this law reaches it: pcost_any, cost_bad, cost_good.) -/
import Derived.Test.YtmfdlkkligjcbaaGreatJ22
import Derived.Test.YtmfdlkkligjcbaaGreatJ21
import Derived.Test.YtmfdlkkligjcbaaGreatJ02
import Derived.Test.YtmfdlkkligjcbaaGreatJ20
import Derived.Test.YtmfdlkkligjcbaaGreatJ04
import Derived.Test.YtmfdlkkligjcbaaGreatJ05
import Derived.Deep.RegionHeld3
import Derived.BigQuiet
namespace Go.Proofs.YtmfdlkkligjcbaaGreat
open Go.RowKit

end Go.Proofs.YtmfdlkkligjcbaaGreat
namespace Go.Proofs.YtmfdlkkligjcbaaGreat
open Go.RowKit

section
variable {hh : Nat → Hn} {n : Nat} {b : Int} {u : Nat → Nat}
/-- how many of the first j are in tier t -/
noncomputable def KS (hh : Nat → Hn) (n : Nat) (u : Nat → Nat) (t j : Nat) : Nat := sN (fun i => KP hh n u i t) j
theorem KS_room (h : OrdH hh n (ordd hh n)) {t : Nat} (ht : t < 3) : KS hh n u t n ≤ u t ∧ (KS hh n u t n < u t → KS hh n u (t + 1) n = 0) := by
  have h1 := PP_room (z := sz hh) (c := u) h.inj h.lt ht (k := n) (Nat.le_refl n)
  refine ⟨?_, fun h2 => PP_next (z := sz hh) (c := u) h.inj h.lt ht (k := n) (Nat.le_refl n) ?_⟩
  · show sN (fun i => PP (sz hh) (ordd hh n) u n i t) n ≤ u t
    omega
  · have h3 : sN (fun i => PP (sz hh) (ordd hh n) u n i t) n < u t := h2
    omega
end





























section
variable {w0 w w' : World} {q n c s : Nat} {A B : Option Addr} {b : Int} {u f g : Nat → Nat} {hh : Nat → Hn}









end









































































































































































































































end Go.Proofs.YtmfdlkkligjcbaaGreat
namespace Go.Proofs.YtmfdlkkligjcbaaGreat
open Go.RowKit

/-- a plan as a parted cache sees it: a block's range, the ranges' parts of tier T, which are gone through in a circle, how many ranges -/
structure Pn (w : World) (q T : Nat) (rg : Int → Option Nat) (pt : Nat → Nat) (lp : Nat → Bool) (n : Nat) : Prop where
  ex : ∃ b x hh A c B d, Pl w q b x hh n A c B d ∧ (∀ z, rgi hh z n = rg z) ∧ (∀ i, KP hh n x i (T - 1) = pt i) ∧ ∀ i, (hh i).l = lp i
  t1 : 1 ≤ T
  t3 : T ≤ 3
def ptO (pt : Nat → Nat) (o : Option Nat) : Nat := match o with | none => 0 | some i => pt i
def lpO (lp : Nat → Bool) (o : Option Nat) : Bool := match o with | none => false | some i => lp i
section
variable {w w' : World} {q T n : Nat} {rg : Int → Option Nat} {pt : Nat → Nat} {lp : Nat → Bool}
theorem Pn.below (h : Pn w q T rg pt lp n) (hb : Below w.heap.size w w') : Pn w' q T rg pt lp n := by
  obtain ⟨⟨b, x, hh, A, c, B, d, h1, h2⟩, h3, h4⟩ := h
  exact ⟨⟨b, x, hh, A, c, B, d, h1.below hb, h2⟩, h3, h4⟩
theorem Pn.draws (h : Pn w q T rg pt lp n) (m : Nat) : Pn (w.drewN m) q T rg pt lp n := h.below (below_draws (Below.refl _ _) m)
theorem Pn.n8 (h : Pn w q T rg pt lp n) : n ≤ 8 := by
  obtain ⟨⟨b, x, hh, A, c, B, d, h1, _⟩, _⟩ := h
  exact h1.ok.1
theorem Pn.rl (h : Pn w q T rg pt lp n) {z : Int} {i : Nat} (hz : rg z = some i) : i < n ∧ 0 ≤ z ∧ z < 32 := by
  obtain ⟨⟨b, x, hh, A, c, B, d, h1, h2, _⟩, _⟩ := h
  rw [← h2] at hz
  obtain ⟨h3, h4⟩ := rgi_lt hz
  have h5 := h1.ok.2.1 i h3
  unfold okH at h5
  obtain ⟨h6, h7⟩ := h4
  exact ⟨h3, by omega, by omega⟩
theorem Pn.vb (h : Pn w q T rg pt lp n) {z : Int} {i : Nat} (hz : rg z = some i) : vb z := by
  have := h.rl hz
  exact ⟨this.2.1, by omega⟩
theorem pn_range (h : Pn w q T rg pt lp n) (z : Int) : Calls Tryz.prog 67 #[.pointer (some ⟨q, 0, none⟩), .int .i64 z] w fun e w' => e = .returned (rgV (rg z)) ∧ Below w.heap.size w w' := by
  obtain ⟨⟨b, x, hh, A, c, B, d, h1, h2, _⟩, _⟩ := h
  rw [← h2]
  exact range_any h1 z
theorem pn_part (h : Pn w q T rg pt lp n) (z : Int) : Calls Tryz.prog 53 #[.pointer (some ⟨q, 0, none⟩), .int .i64 z, .int .i64 T] w fun e w' => e = .returned (.int .i64 (ptO pt (rg z) : Nat)) ∧ Below w.heap.size w w' := by
  obtain ⟨⟨b, x, hh, A, c, B, d, h1, h2, h3, _⟩, h4, h5⟩ := h
  have e : ((ptO pt (rg z) : Nat) : Int) = ptV hh n x (rgi hh z n) T := by
    rw [h2]
    cases rg z with
    | none => rfl
    | some i =>
      show ((pt i : Nat) : Int) = if 1 ≤ (T : Int) ∧ (T : Int) ≤ 3 then kps hh n x i ((T : Int) - 1).toNat else 0
      rw [if_pos ⟨by omega, by omega⟩, show ((T : Int) - 1).toNat = T - 1 from by omega, ← h3]
      rfl
  rw [e]
  exact part_any h1 z T
theorem pn_loop (h : Pn w q T rg pt lp n) (z : Int) : Calls Tryz.prog 128 #[.pointer (some ⟨q, 0, none⟩), .int .i64 z] w fun e w' => e = .returned (.bool (lpO lp (rg z))) ∧ Below w.heap.size w w' := by
  obtain ⟨⟨b, x, hh, A, c, B, d, h1, h2, _, h3⟩, _⟩ := h
  have e : lpO lp (rg z) = lpV hh (rgi hh z n) := by
    rw [h2]
    cases rg z with
    | none => rfl
    | some i => exact (h3 i).symm
  rw [e]
  exact loop_any h1 z
theorem pn_parts (h : Pn w q T rg pt lp n) : Calls Tryz.prog 71 #[.pointer (some ⟨q, 0, none⟩)] w fun e w' => ∃ A c, e = .returned (.slice A n c) ∧ Below w.heap.size w w' := by
  obtain ⟨⟨b, x, hh, A, c, B, d, h1, _⟩, _⟩ := h
  exact (parts_any h1).mono fun e w' ⟨A, c, h1, _, h2, _⟩ => ⟨A, c, h1, h2⟩
end
section
variable {rg : Int → Option Nat} {pt : Nat → Nat} {lp : Nat → Bool} {n : Nat} {S : List (List Int)}
theorem okp_out (h : Okp rg pt n S) {b : Int} {i : Nat} (hr : rg b = some i) (hb : b ∉ S.getD i []) : ¬ inS S b := fun hs => by
  obtain ⟨j, h1, h2⟩ := h.in_.1 hs
  rw [hr] at h1
  injection h1 with h1
  subst h1
  exact hb h2
theorem okp_none (h : Okp rg pt n S) {b : Int} (hr : rg b = none) : ¬ inS S b := fun hs => by
  obtain ⟨j, h1, h2⟩ := h.in_.1 hs
  rw [hr] at h1
  cases h1
theorem okp_woset (h : Okp rg pt n S) {b : Int} {i : Nat} (hr : rg b = some i) (hi : i < n) : woS b S = S.set i (wo b (S.getD i [])) := by
  have hl : i < S.length := Nat.lt_of_lt_of_le hi h.len
  by_cases hb : b ∈ S.getD i []
  · exact woS_set h.wf (gd_some hl) hb
  · rw [woS_out (okp_out h hr hb), wo_out hb]
    refine List.ext_getElem? fun j => ?_
    by_cases e : i = j
    · subst e
      rw [List.getElem?_set_self hl]
      exact gd_some hl
    · rw [List.getElem?_set_ne e]
/-- what Front makes of it -/
theorem okp_front (h : Okp rg pt n S) {b : Int} {i : Nat} (hr : rg b = some i) (hi : i < n) (hv : vb b) : putE S (i : Int) b = 0 ∧ frontS S (i : Int) b = S.set i (b :: wo b (S.getD i [])) := by
  have hl : i < S.length := Nat.lt_of_lt_of_le hi h.len
  have ho : okp S (i : Int) b := ⟨⟨by omega, by omega⟩, hv⟩
  refine ⟨if_pos ho, ?_⟩
  unfold frontS
  rw [if_pos ho, Int.toNat_natCast, gd_wo, okp_woset h hr hi, List.set_set]
end
/-- block g is a parted cache of tier T by the plan at q, its space lies at k; these are its ranges' blocks; w0 is the world in which it was made -/
structure Pt (w0 w : World) (g k q T : Nat) (rg : Int → Option Nat) (pt : Nat → Nat) (lp : Nat → Bool) (n : Nat) (S : List (List Int)) : Prop where
  pn : Pn w0 q T rg pt lp n
  bel : Below w0.heap.size w0 w
  box : Bx w g 143 #[.pointer (some ⟨k, 0, none⟩), .pointer (some ⟨q, 0, none⟩), .int .i64 T]
  sq : Sq w k S
  ok : Okp rg pt n S
  ne : g ≠ k
  hg : w0.heap.size ≤ g
  hk : w0.heap.size ≤ k
section
variable {w0 w w' : World} {g k q T n : Nat} {rg : Int → Option Nat} {pt : Nat → Nat} {lp : Nat → Bool} {S S' : List (List Int)}
theorem Pt.below (h : Pt w0 w g k q T rg pt lp n S) (hb : Below w.heap.size w w') : Pt w0 w' g k q T rg pt lp n S := ⟨h.pn, on h.bel hb, h.box.next hb, h.sq.below hb, h.ok, h.ne, h.hg, h.hk⟩
theorem Pt.draws (h : Pt w0 w g k q T rg pt lp n S) (m : Nat) : Pt w0 (w.drewN m) g k q T rg pt lp n S := h.below (below_draws (Below.refl _ _) m)
theorem Pt.plan (h : Pt w0 w g k q T rg pt lp n S) : Pn w q T rg pt lp n := h.pn.below h.bel
theorem Pt.chg {F G : Nat → Prop} (h : Pt w0 w g k q T rg pt lp n S) (hc : Chg w w' F G) (h1 : ¬ F g) (h2 : ¬ F k) (h3 : ∀ j, F j → w0.heap.size ≤ j) : Pt w0 w' g k q T rg pt lp n S :=
  ⟨h.pn, h.bel.trans (hc.bel h.bel.size h3), hc.bx h.box h1, h.sq.same (hc.block k h.sq.lt h2), h.ok, h.ne, h.hg, h.hk⟩
theorem Pt.step (h : Pt w0 w g k q T rg pt lp n S) (hs : Sq w' k S') (hc : Chg w w' (· = k) (· = k)) (ho : Okp rg pt n S') : Pt w0 w' g k q T rg pt lp n S' :=
  ⟨h.pn, h.bel.trans (hc.bel h.bel.size fun j e => by rw [e]; exact h.hk), hc.bx h.box h.ne, hs, ho, h.ne, h.hg, h.hk⟩
theorem Pt.c0 (h : Pt w0 w g k q T rg pt lp n S) : w.cell? ⟨g, 0, none⟩ = some (.pointer (some ⟨k, 0, none⟩)) := h.box.cell 0
theorem Pt.c1 (h : Pt w0 w g k q T rg pt lp n S) : w.cell? ⟨g, 1, none⟩ = some (.pointer (some ⟨q, 0, none⟩)) := h.box.cell 1
theorem Pt.c2 (h : Pt w0 w g k q T rg pt lp n S) : w.cell? ⟨g, 2, none⟩ = some (.int .i64 T) := h.box.cell 2
set_option maxHeartbeats 400000 in
theorem pt_part (h : Pt w0 w g k q T rg pt lp n S) (z : Int) : Calls Tryz.prog 78 #[.pointer (some ⟨g, 0, none⟩), .int .i64 z] w fun e w' => e = .returned (.int .i64 (ptO pt (rg z) : Nat)) ∧ Below w.heap.size w w' := by
  have c1 := h.c1
  have c2 := h.c2
  have HPD := hid (h.plan.draws 1)
  have HBD := hid (below_draws (Below.refl w.heap.size w) 1)
  rw [show w.drewN 1 = w.drew from rfl] at HPD HBD
  have HP := hid (pn_part HPD.out z)
  generalize ptO pt (rg z) = P at *
  clear h
  go_enter Tryz.func78, Tryz.ntmps78
  go_wp2
  go_region_with (go_at_call 53; refine HP.out.mono ?_; rintro e w2 ⟨rfl, hb⟩; have HB := hid (on HBD.out hb); clear hb)
  all_goals
    go_wp2
    go_ret
    exact ⟨rfl, HB.out⟩
set_option maxHeartbeats 400000 in
theorem pt_takes (h : Pt w0 w g k q T rg pt lp n S) (z : Int) : Calls Tryz.prog 63 #[.pointer (some ⟨g, 0, none⟩), .int .i64 z] w fun e w' => e = .returned (.bool (decide (0 < ptO pt (rg z)))) ∧ Below w.heap.size w w' := by
  have HP := hid (pt_part h z)
  generalize ptO pt (rg z) = P at *
  clear h
  go_enter Tryz.func63, Tryz.ntmps63
  by_cases hp : 0 < P
  · rw [decide_eq_true hp]
    have hd : (P : Int) > 0 := by omega
    go_wp2_with (go_at_call 78; refine HP.out.mono ?_; rintro e w2 ⟨rfl, hb⟩; have HB := hid hb; clear hb)
    go_ret
    exact ⟨rfl, HB.out⟩
  · rw [decide_eq_false hp]
    have hd : ¬ (P : Int) > 0 := by omega
    go_wp2_with (go_at_call 78; refine HP.out.mono ?_; rintro e w2 ⟨rfl, hb⟩; have HB := hid hb; clear hb)
    go_ret
    exact ⟨rfl, HB.out⟩
set_option maxHeartbeats 400000 in
theorem pt_has (h : Pt w0 w g k q T rg pt lp n S) (z : Int) : Calls Tryz.prog 131 #[.pointer (some ⟨g, 0, none⟩), .int .i64 z] w fun e w' => e = .returned (.bool (dec (inS S z))) ∧ w = w' := by
  have c0 := h.c0
  by_cases hx : inS S z
  · rw [dec_true hx]
    obtain ⟨i, l, hl, hm⟩ := hx
    have HO := hid (of_yes h.sq hl hm)
    clear h hl hm
    go_enter Tryz.func131, Tryz.ntmps131
    go_wp2_with (go_at_call 139; refine HO.out.mono ?_; rintro e w' ⟨rfl, rfl⟩)
    go_ret
    exact ⟨rfl, rfl⟩
  · rw [dec_false hx]
    have HO := hid (of_no h.sq hx)
    clear h hx
    go_enter Tryz.func131, Tryz.ntmps131
    go_wp2_with (go_at_call 139; refine HO.out.mono ?_; rintro e w' ⟨rfl, rfl⟩)
    go_ret
    exact ⟨rfl, rfl⟩
/-- behind Use -/
noncomputable def usS (rg : Int → Option Nat) (b : Int) (S : List (List Int)) : List (List Int) := if dec (inS S b) then S.set ((rg b).getD 0) (usel b (S.getD ((rg b).getD 0) [])) else S
set_option maxHeartbeats 400000 in
theorem pt_use_no (h : Pt w0 w g k q T rg pt lp n S) {b : Int} (hx : ¬ inS S b) : Calls Tryz.prog 134 #[.pointer (some ⟨g, 0, none⟩), .int .i64 b] w fun e w' => e = .returned (.bool false) ∧ w = w' := by
  have c0 := h.c0
  have HO := hid (of_no h.sq hx)
  clear h hx
  go_enter Tryz.func134, Tryz.ntmps134
  go_wp2_with (go_at_call 139; refine HO.out.mono ?_; rintro e w' ⟨rfl, rfl⟩)
  go_ret
  exact ⟨rfl, rfl⟩
set_option maxHeartbeats 400000 in
theorem pt_use_yes (h : Pt w0 w g k q T rg pt lp n S) {b : Int} {i : Nat} (hr : rg b = some i) (hb : b ∈ S.getD i []) : Calls Tryz.prog 134 #[.pointer (some ⟨g, 0, none⟩), .int .i64 b] w fun e w' =>
    e = .returned (.bool true) ∧ Pt w0 w' g k q T rg pt lp n (S.set i (usel b (S.getD i []))) ∧ Chg w w' (· = k) (· = k) := by
  have c0 := h.c0
  have hi := (h.pn.rl hr).1
  have HO := hid (of_yes h.sq (gd_mem hb).2 hb)
  have HOK := hid (h.ok.use hi hb)
  have HF := hid (front_any h.sq i b)
  obtain ⟨e1, e2⟩ := okp_front h.ok hr hi (h.pn.vb hr)
  rw [e1, e2] at HF
  have H := hid h
  unfold usel at *
  clear h hr hb hi e1 e2
  go_enter Tryz.func134, Tryz.ntmps134
  go_wp2_with (first | (go_at_call 139; refine HO.out.mono ?_; rintro e w' ⟨rfl, rfl⟩) | (go_at_call 137; refine HF.out.mono ?_; rintro e w' ⟨rfl, hs, hc⟩; have HQ := hid (H.out.step hs hc HOK.out); have HC := hid hc; clear hs hc))
  go_ret
  exact ⟨rfl, HQ.out, HC.out⟩
theorem pt_use (h : Pt w0 w g k q T rg pt lp n S) (b : Int) : Calls Tryz.prog 134 #[.pointer (some ⟨g, 0, none⟩), .int .i64 b] w fun e w' =>
    e = .returned (.bool (dec (inS S b))) ∧ Pt w0 w' g k q T rg pt lp n (usS rg b S) ∧ Chg w w' (· = k) (· = k) := by
  by_cases hx : inS S b
  · obtain ⟨i, hr, hb⟩ := h.ok.in_.1 hx
    have e : usS rg b S = S.set i (usel b (S.getD i [])) := by
      unfold usS
      rw [dec_true hx, hr]
      rfl
    rw [dec_true hx, e]
    exact pt_use_yes h hr hb
  · have e : usS rg b S = S := by
      unfold usS
      rw [dec_false hx]
      rfl
    rw [dec_false hx, e]
    exact (pt_use_no h hx).mono fun e w' ⟨h1, h2⟩ => by subst h2; exact ⟨h1, h, Chg.refl _ _⟩
theorem remE_in (S : List (List Int)) (b : Int) (hv : inS S b → vb b) : decide (remE S b = 0) = dec (inS S b) := by
  by_cases hx : inS S b
  · unfold remE
    rw [if_pos (hv hx), dec_true hx]
    rfl
  · rw [dec_false hx]
    unfold remE
    rw [dec_false hx]
    split <;> rfl
set_option maxHeartbeats 400000 in
theorem pt_remove (h : Pt w0 w g k q T rg pt lp n S) (b : Int) : Calls Tryz.prog 133 #[.pointer (some ⟨g, 0, none⟩), .int .i64 b] w fun e w' =>
    e = .returned (.bool (dec (inS S b))) ∧ Pt w0 w' g k q T rg pt lp n (woS b S) ∧ Chg w w' (· = k) (· = k) := by
  have c0 := h.c0
  have HR := hid (remove_any h.sq b)
  rw [← remE_in S b (fun hx => by obtain ⟨i, hr, _⟩ := h.ok.in_.1 hx; exact h.pn.vb hr)]
  have HOK := hid (h.ok.wo b)
  have H := hid h
  generalize remE S b = z at *
  clear h
  go_enter Tryz.func133, Tryz.ntmps133
  go_wp2_with (go_at_call 140; refine HR.out.mono ?_; rintro e w' ⟨rfl, hs, hc⟩; have HQ := hid (H.out.step hs hc HOK.out); have HC := hid hc; clear hs hc)
  go_ret
  exact ⟨rfl, HQ.out, HC.out⟩
set_option maxHeartbeats 400000 in
theorem pt_goes (h : Pt w0 w g k q T rg pt lp n S) {i : Nat} {l : List Int} (hl : S[i]? = some l) (hn : l ≠ []) (loop : Bool) : Calls Tryz.prog 136 #[.pointer (some ⟨g, 0, none⟩), .int .i64 i, .bool loop] w fun e w' =>
    e = .returned (.tuple #[.int .i64 (gone loop l), .bool true]) ∧ ∃ d, w' = w.drewN d := by
  have c0 := h.c0
  have HF := hid (first_in h.sq hl)
  have HL := hid (last_in h.sq hl)
  rw [show lastV l = .tuple #[.int .i64 (gone false l), .bool true] from by
    unfold lastV gone
    rw [dif_neg hn, if_neg (by simp), List.getLastD_eq_getLast?, List.getLast?_eq_some_getLast hn]
    rfl] at HL
  rw [show firstV l = .tuple #[.int .i64 (gone true l), .bool true] from by
    obtain ⟨x, r, rfl⟩ := List.exists_cons_of_ne_nil hn
    rfl] at HF
  clear h hl hn
  cases loop
  all_goals
    generalize gone true l = y at *
    generalize gone false l = x at *
    go_enter Tryz.func136, Tryz.ntmps136
    go_wp2_with (first | (go_at_call 141; refine HF.out.mono ?_; rintro e w' ⟨rfl, d, rfl⟩) | (go_at_call 142; refine HL.out.mono ?_; rintro e w' ⟨rfl, d, rfl⟩))
    go_ret2
    exact ⟨rfl, d, rfl⟩
end
section
variable {w0 w w' : World} {g k q T n : Nat} {rg : Int → Option Nat} {pt : Nat → Nat} {lp : Nat → Bool} {S S' : List (List Int)}
/-- behind Add: what it tells, whether one goes, which one, what is there -/
def adE (pt : Nat → Nat) (o : Option Nat) : Int := if ptO pt o = 0 then 5 else 0
def adG (pt : Nat → Nat) (o : Option Nat) (b : Int) (S : List (List Int)) : Bool := match o with
  | none => false
  | some i => !(S.getD i []).contains b && decide (0 < pt i) && decide (pt i ≤ (S.getD i []).length)
def adV (pt : Nat → Nat) (lp : Nat → Bool) (o : Option Nat) (b : Int) (S : List (List Int)) : Int := match o with
  | none => 0
  | some i => if adG pt (some i) b S then gone (lp i) (S.getD i []) else 0
def adS (pt : Nat → Nat) (lp : Nat → Bool) (o : Option Nat) (b : Int) (S : List (List Int)) : List (List Int) := match o with
  | none => S
  | some i => if pt i = 0 then S else S.set i (addl (lp i) (pt i) b (S.getD i []))
/-- what Add does -/
def AddQ (w0 w : World) (g k q T : Nat) (rg : Int → Option Nat) (pt : Nat → Nat) (lp : Nat → Bool) (n : Nat) (v : Int) (gn : Bool) (er : Int) (S' : List (List Int)) (e : Ending) (w' : World) : Prop :=
  e = .returned (.tuple #[.int .i64 v, .bool gn, .int .i64 er]) ∧ Pt w0 w' g k q T rg pt lp n S' ∧ Chg w w' (· = k) (· = k)
set_option maxHeartbeats 400000 in
theorem pt_add_none (h : Pt w0 w g k q T rg pt lp n S) {b : Int} (h0 : ptO pt (rg b) = 0) : Calls Tryz.prog 129 #[.pointer (some ⟨g, 0, none⟩), .int .i64 b] w (AddQ w0 w g k q T rg pt lp n 0 false 5 S) := by
  have HT := hid (pt_takes h b)
  rw [h0, decide_eq_false (Nat.lt_irrefl 0)] at HT
  have H := hid h
  clear h h0
  go_enter Tryz.func129, Tryz.ntmps129
  go_wp2_with (go_at_call 63; refine HT.out.mono ?_; rintro e w2 ⟨rfl, hb⟩; have HP := hid (H.out.below hb); have HC := hid (Chg.of hb (· = k)); clear hb)
  go_ret3
  exact ⟨rfl, HP.out, HC.out⟩
set_option maxHeartbeats 400000 in
theorem pt_add_in (h : Pt w0 w g k q T rg pt lp n S) {b : Int} {i : Nat} (hr : rg b = some i) (hp : 0 < pt i) (hb : b ∈ S.getD i []) : Calls Tryz.prog 129 #[.pointer (some ⟨g, 0, none⟩), .int .i64 b] w (AddQ w0 w g k q T rg pt lp n 0 false 0 (S.set i (usel b (S.getD i [])))) := by
  have HT := hid (pt_takes h b)
  have HU := hid (fun (y : World) (hy : Pt w0 y g k q T rg pt lp n S) => pt_use_yes hy hr hb)
  rw [hr] at HT
  rw [decide_eq_true (show 0 < ptO pt (some i) from hp)] at HT
  have H := hid h
  clear h hr hp hb
  go_enter Tryz.func129, Tryz.ntmps129
  go_wp2_with (first
    | (go_at_call 63; refine HT.out.mono ?_; rintro e w2 ⟨rfl, hb⟩; have HP := hid (H.out.below hb); have HC := hid (Chg.of hb (· = k)); clear hb)
    | (go_at_call 134; refine (HU.out _ HP.out).mono ?_; rintro e w3 ⟨rfl, hq, hc⟩; have HP3 := hid hq; have HC3 := hid (HC.out.trans hc); clear hq hc))
  go_ret3
  exact ⟨rfl, HP3.out, HC3.out⟩
set_option maxHeartbeats 1000000 in
theorem pt_add_room (h : Pt w0 w g k q T rg pt lp n S) {b : Int} {i : Nat} (hr : rg b = some i) (hb : b ∉ S.getD i []) (hl : (S.getD i []).length < pt i) : Calls Tryz.prog 129 #[.pointer (some ⟨g, 0, none⟩), .int .i64 b] w (AddQ w0 w g k q T rg pt lp n 0 false 0 (S.set i (b :: S.getD i []))) := by
  have HT := hid (pt_takes h b)
  have HU := hid (fun (y : World) (hy : Pt w0 y g k q T rg pt lp n S) => pt_use_no hy (okp_out hy.ok hr hb))
  have HR := hid (fun (y : World) (hy : Pt w0 y g k q T rg pt lp n S) => pn_range hy.plan b)
  have HPT := hid (fun (y : World) (hy : Pt w0 y g k q T rg pt lp n S) => pt_part hy b)
  have hi := (h.pn.rl hr).1
  have hv := h.pn.vb hr
  have hiS : i < S.length := Nat.lt_of_lt_of_le hi h.ok.len
  have HLN := hid (fun (y : World) (hy : Pt w0 y g k q T rg pt lp n S) => len_in hy.sq (gd_some hiS))
  have HOK := hid (h.ok.add (lp i) hi hr (b := b) hv (by omega))
  rw [show addl (lp i) (pt i) b (S.getD i []) = b :: S.getD i [] from by
    unfold addl
    rw [if_neg (by simpa using hb), if_neg (by omega)]] at HOK
  have HF := hid (fun (y : World) (hy : Pt w0 y g k q T rg pt lp n S) => front_any hy.sq i b)
  obtain ⟨e1, e2⟩ := okp_front h.ok hr hi hv
  rw [wo_out hb] at e2
  rw [e1, e2] at HF
  rw [hr] at HT HPT HR
  rw [decide_eq_true (show 0 < ptO pt (some i) from by show 0 < pt i; omega)] at HT
  rw [show ptO pt (some i) = pt i from rfl] at HPT
  rw [show rgV (some i) = .tuple #[.int .i64 (i : Nat), .bool true] from rfl] at HR
  have H := hid h
  have hd : ((S.getD i []).length : Int) ≠ (pt i : Int) := by omega
  generalize hP : pt i = P at *
  generalize hN : (S.getD i []).length = N at *
  have hd2 : ((N : Int) == (P : Int)) = false := by simpa using hd
  clear h hr hb hl e1 e2 hi hv hiS hP hN hd
  generalize S.set i (b :: S.getD i []) = S' at *
  go_enter Tryz.func129, Tryz.ntmps129
  go_wp2_with (first
    | (go_at_call 63; refine HT.out.mono ?_; rintro e w2 ⟨rfl, hb⟩; have HP := hid (H.out.below hb); have HC := hid (Chg.of hb (· = k)); clear hb)
    | (go_at_call 134; refine (HU.out _ HP.out).mono ?_; rintro e w3 ⟨rfl, rfl⟩; have c1 := HP.out.c1)
    | (go_at_call 67; refine (HR.out _ HP.out).mono ?_; rintro e w4 ⟨rfl, hb⟩; have HP4 := hid (HP.out.below hb); have HC4 := hid (HC.out.trans (Chg.of hb _)); have c0 := HP4.out.c0; clear hb)
    | (go_at_call 135; refine (HLN.out _ HP4.out).mono ?_; rintro e w5 ⟨rfl, hb⟩; have HP5 := hid (HP4.out.below hb); have HC5 := hid (HC4.out.trans (Chg.of hb _)); clear hb c0)
    | (go_at_call 78; refine (HPT.out _ HP5.out).mono ?_; rintro e w6 ⟨rfl, hb⟩; have HP6 := hid (HP5.out.below hb); have HC6 := hid (HC5.out.trans (Chg.of hb _)); have c0 := HP6.out.c0; clear hb)
    | (go_at_call 137; refine (HF.out _ HP6.out).mono ?_; rintro e w7 ⟨rfl, hs, hc⟩; have HP7 := hid (HP6.out.step hs hc HOK.out); have HC7 := hid (HC6.out.trans hc); clear hs hc c0))
  go_ret3
  exact ⟨rfl, HP7.out, HC7.out⟩
set_option maxHeartbeats 1000000 in
theorem pt_add_full (h : Pt w0 w g k q T rg pt lp n S) {b : Int} {i : Nat} (hr : rg b = some i) (hp : 0 < pt i) (hb : b ∉ S.getD i []) (hl : pt i ≤ (S.getD i []).length) : Calls Tryz.prog 129 #[.pointer (some ⟨g, 0, none⟩), .int .i64 b] w (AddQ w0 w g k q T rg pt lp n (gone (lp i) (S.getD i [])) true 0 (S.set i (b :: wo (gone (lp i) (S.getD i [])) (S.getD i [])))) := by
  have HT := hid (pt_takes h b)
  have HU := hid (fun (y : World) (hy : Pt w0 y g k q T rg pt lp n S) => pt_use_no hy (okp_out hy.ok hr hb))
  have HR := hid (fun (y : World) (hy : Pt w0 y g k q T rg pt lp n S) => pn_range hy.plan b)
  have HPT := hid (fun (y : World) (hy : Pt w0 y g k q T rg pt lp n S) => pt_part hy b)
  have HLO := hid (fun (y : World) (hy : Pt w0 y g k q T rg pt lp n S) => pn_loop hy.plan b)
  have hi := (h.pn.rl hr).1
  have hv := h.pn.vb hr
  have hiS : i < S.length := Nat.lt_of_lt_of_le hi h.ok.len
  have hne : S.getD i [] ≠ [] := fun e => by rw [e] at hl; simp at hl; omega
  have HLN := hid (fun (y : World) (hy : Pt w0 y g k q T rg pt lp n S) => len_in hy.sq (gd_some hiS))
  have HGO := hid (fun (y : World) (hy : Pt w0 y g k q T rg pt lp n S) => pt_goes hy (gd_some hiS) hne (lp i))
  have hgm := gone_mem (loop := lp i) hne
  have hgr := h.ok.own i _ hgm
  have HRM := hid (fun (y : World) (hy : Pt w0 y g k q T rg pt lp n S) => pt_remove hy (gone (lp i) (S.getD i [])))
  have hok1 := h.ok.wo (gone (lp i) (S.getD i []))
  have HOK := hid (h.ok.add (lp i) hi hr (b := b) hv (by omega))
  rw [show addl (lp i) (pt i) b (S.getD i []) = b :: wo (gone (lp i) (S.getD i [])) (S.getD i []) from by
    unfold addl
    rw [if_neg (by simpa using hb), if_pos hl]] at HOK
  rw [okp_woset h.ok hgr hi] at HRM hok1
  have HF := hid (fun (y : World) (hy : Pt w0 y g k q T rg pt lp n (S.set i (wo (gone (lp i) (S.getD i [])) (S.getD i [])))) => front_any hy.sq i b)
  obtain ⟨e1, e2⟩ := okp_front hok1 hr hi hv
  rw [gd_set _ hiS, if_pos rfl, List.set_set, wo_out (fun hm => hb (mem_wo.1 hm).1)] at e2
  rw [e1, e2] at HF
  rw [hr] at HT HPT HR HLO
  rw [decide_eq_true (show 0 < ptO pt (some i) from hp)] at HT
  rw [show ptO pt (some i) = pt i from rfl] at HPT
  rw [show rgV (some i) = .tuple #[.int .i64 (i : Nat), .bool true] from rfl] at HR
  rw [show lpO lp (some i) = lp i from rfl] at HLO
  have H := hid h
  have hd : ((S.getD i []).length : Int) = (pt i : Int) := by have := h.ok.le i hi; omega
  generalize hP : pt i = P at *
  generalize hN : (S.getD i []).length = N at *
  obtain rfl : N = P := by omega
  generalize hG : gone (lp i) (S.getD i []) = G at *
  clear h hr hb hl e1 e2 hi hv hiS hP hN hd hG hok1 hgm hgr hne hp
  generalize S.set i (b :: wo G (S.getD i [])) = S' at *
  generalize S.set i (wo G (S.getD i [])) = S1 at *
  generalize lp i = lo at *
  go_enter Tryz.func129, Tryz.ntmps129
  go_wp2_with (first
    | (go_at_call 63; refine HT.out.mono ?_; rintro e w2 ⟨rfl, hb⟩; have HP := hid (H.out.below hb); have HC := hid (Chg.of hb (· = k)); clear hb)
    | (go_at_call 134; refine (HU.out _ HP.out).mono ?_; rintro e w3 ⟨rfl, rfl⟩; have c1 := HP.out.c1)
    | (go_at_call 67; refine (HR.out _ HP.out).mono ?_; rintro e w4 ⟨rfl, hb⟩; have HP4 := hid (HP.out.below hb); have HC4 := hid (HC.out.trans (Chg.of hb _)); have c0 := HP4.out.c0; clear hb c1)
    | (go_at_call 135; refine (HLN.out _ HP4.out).mono ?_; rintro e w5 ⟨rfl, hb⟩; have HP5 := hid (HP4.out.below hb); have HC5 := hid (HC4.out.trans (Chg.of hb _)); clear hb c0)
    | (go_at_call 78; refine (HPT.out _ HP5.out).mono ?_; rintro e w6 ⟨rfl, hb⟩; have HP6 := hid (HP5.out.below hb); have HC6 := hid (HC5.out.trans (Chg.of hb _)); have c1 := HP6.out.c1; clear hb)
    | (go_at_call 128; refine (HLO.out _ HP6.out).mono ?_; rintro e w7 ⟨rfl, hb⟩; have HP7 := hid (HP6.out.below hb); have HC7 := hid (HC6.out.trans (Chg.of hb _)); clear hb c1)
    | (go_at_call 136; refine (HGO.out _ HP7.out).mono ?_; rintro e w8 ⟨rfl, d, rfl⟩; have HP8 := hid (HP7.out.draws d); have HC8 := hid (Chg.draws HC7.out d))
    | (go_at_call 133; refine (HRM.out _ HP8.out).mono ?_; rintro e w9 ⟨rfl, hq, hc⟩; have HP9 := hid hq; have HC9 := hid (HC8.out.trans hc); have c0 := HP9.out.c0; clear hq hc)
    | (go_at_call 137; refine (HF.out _ HP9.out).mono ?_; rintro e w10 ⟨rfl, hs, hc⟩; have HP10 := hid (HP9.out.step hs hc HOK.out); have HC10 := hid (HC9.out.trans hc); clear hs hc c0))
  go_ret3
  exact ⟨rfl, HP10.out, HC10.out⟩
theorem pt_add (h : Pt w0 w g k q T rg pt lp n S) (b : Int) : Calls Tryz.prog 129 #[.pointer (some ⟨g, 0, none⟩), .int .i64 b] w (AddQ w0 w g k q T rg pt lp n (adV pt lp (rg b) b S) (adG pt (rg b) b S) (adE pt (rg b)) (adS pt lp (rg b) b S)) := by
  cases hr : rg b with
  | none => exact pt_add_none h (by rw [hr]; rfl)
  | some i =>
    by_cases hp : pt i = 0
    · have e1 : adG pt (some i) b S = false := by unfold adG; simp [hp]
      have e2 : adV pt lp (some i) b S = 0 := by unfold adV; simp [e1]
      have e3 : adE pt (some i) = 5 := if_pos hp
      have e4 : adS pt lp (some i) b S = S := if_pos hp
      rw [e1, e2, e3, e4]
      exact pt_add_none h (by rw [hr]; exact hp)
    · have e3 : adE pt (some i) = 0 := if_neg hp
      have e4 : adS pt lp (some i) b S = S.set i (addl (lp i) (pt i) b (S.getD i [])) := if_neg hp
      rw [e3, e4]
      by_cases hb : b ∈ S.getD i []
      · have hc : (S.getD i []).contains b = true := by simpa using hb
        have e1 : adG pt (some i) b S = false := by unfold adG; dsimp only; rw [hc]; rfl
        have e2 : adV pt lp (some i) b S = 0 := by unfold adV; dsimp only; rw [e1]; rfl
        rw [e1, e2, show addl (lp i) (pt i) b (S.getD i []) = usel b (S.getD i []) from if_pos hc]
        exact pt_add_in h hr (by omega) hb
      · have hc : (S.getD i []).contains b = false := by simpa using hb
        by_cases hl : pt i ≤ (S.getD i []).length
        · have e1 : adG pt (some i) b S = true := by unfold adG; dsimp only; rw [hc, decide_eq_true hl, decide_eq_true (by omega)]; rfl
          have e2 : adV pt lp (some i) b S = gone (lp i) (S.getD i []) := by unfold adV; dsimp only; rw [e1]; rfl
          rw [e1, e2, show addl (lp i) (pt i) b (S.getD i []) = b :: wo (gone (lp i) (S.getD i [])) (S.getD i []) from by unfold addl; rw [if_neg (by simpa using hb), if_pos hl]]
          exact pt_add_full h hr (by omega) hb hl
        · have e1 : adG pt (some i) b S = false := by unfold adG; dsimp only; rw [decide_eq_false hl, Bool.and_false]
          have e2 : adV pt lp (some i) b S = 0 := by unfold adV; dsimp only; rw [e1]; rfl
          rw [e1, e2, show addl (lp i) (pt i) b (S.getD i []) = b :: S.getD i [] from by unfold addl; rw [if_neg (by simpa using hb), if_neg hl]]
          exact pt_add_room h hr hb (by omega)
end
end Go.Proofs.YtmfdlkkligjcbaaGreat
