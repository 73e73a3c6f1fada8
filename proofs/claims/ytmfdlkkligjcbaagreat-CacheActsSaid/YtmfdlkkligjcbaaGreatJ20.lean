/-
  What is proved: karma's Range, Part and Loop tell of a block its range, its part of a tier and its way to go; the reference's Range. Condition: the plan lies in memory as one, the hints are read as such.
-/
import Derived.Test.YtmfdlkkligjcbaaGreatJ19
import Derived.ChangeKeysEq
import Derived.DeepKeys
namespace Go.Proofs.YtmfdlkkligjcbaaGreat
open Go.RowKit

/-- one number of a part -/
theorem pvs_cell {w : World} {B : Option Addr} {P : Nat → Nat → Int} {n i t : Nat} (h : Rv w w.heap.size B (pvs P n)) (hi : i < n) (ht : t < 4) : ∃ bd, B = some bd ∧ w.cell? ((bd.add (i * 4)).add t) = some (.int .i64 (P i t)) := by
  obtain ⟨bd, e, _, q0⟩ := h _ _ (pvs_at P hi ht)
  exact ⟨bd, e, by rw [addAdd]; exact q0⟩
/-- a block is in a hint's range -/
abbrev inR (hh : Nat → Hn) (b : Int) (i : Nat) : Prop := (hh i).f ≤ b ∧ b < (hh i).f + (hh i).s
/-- the first range of n that a block is in -/
def rgi (hh : Nat → Hn) (b : Int) : Nat → Option Nat
  | 0 => none
  | n + 1 => match rgi hh b n with
    | some i => some i
    | none => if inR hh b n then some n else none
theorem rgi_mono {hh : Nat → Hn} {b : Int} {j i : Nat} (h : rgi hh b j = some i) : ∀ {n : Nat}, j ≤ n → rgi hh b n = some i
  | 0, hn => by rw [show j = 0 by omega] at h; exact h
  | n + 1, hn => by
    by_cases e : j = n + 1
    · rw [← e]; exact h
    · unfold rgi
      rw [rgi_mono h (n := n) (by omega)]
theorem rgi_lt {hh : Nat → Hn} {b : Int} : ∀ {n i : Nat}, rgi hh b n = some i → i < n ∧ inR hh b i
  | 0, i, h => by cases h
  | n + 1, i, h => by
    unfold rgi at h
    cases hr : rgi hh b n with
    | some k =>
      rw [hr] at h
      injection h with h
      subst h
      have := rgi_lt hr
      exact ⟨by omega, this.2⟩
    | none =>
      rw [hr] at h
      dsimp only at h
      split at h
      · rename_i hc
        injection h with h
        subst h
        exact ⟨by omega, hc⟩
      · cases h
theorem rgi_yes {hh : Nat → Hn} {b : Int} {j n : Nat} (h0 : rgi hh b j = none) (h1 : inR hh b j) (hj : j < n) : rgi hh b n = some j :=
  rgi_mono (j := j + 1) (by unfold rgi; rw [h0]; exact if_pos h1) hj
theorem rgi_no {hh : Nat → Hn} {b : Int} {j : Nat} (h0 : rgi hh b j = none) (h1 : ¬ inR hh b j) : rgi hh b (j + 1) = none := by unfold rgi; rw [h0]; exact if_neg h1
section
variable {w : World} {g n c d : Nat} {b : Int} {x : Nat → Nat} {hh : Nat → Hn} {A B : Option Addr}
/-- what Range answers -/
def rgV (o : Option Nat) : Value := .tuple #[.int .i64 ((o.getD 0 : Nat) : Int), .bool o.isSome]
set_option maxHeartbeats 1000000 in
theorem range_any (h : Pl w g b x hh n A c B d) (p : Int) : Calls Tryz.prog 67 #[.pointer (some ⟨g, 0, none⟩), .int .i64 p] w fun e w' => e = .returned (rgV (rgi hh p n)) ∧ Below w.heap.size w w' := by
  have hn8 := h.ok.1
  have c4 := h.c4
  have H := hid h
  clear h
  go_enter Tryz.func67, Tryz.ntmps67
  go_wp2
  clear c4
  go_loopg [15] n (fun gk t15 wr => ∃ j : Nat, j + gk = n ∧ t15 = .int .i64 j ∧ rgi hh p j = none ∧ Below w.heap.size w wr)
  case atStart => exact ⟨0, by omega, rfl, rfl, Below.refl _ _⟩
  case round =>
    obtain ⟨j, hj, rfl, hno, hb⟩ := hrel
    have HB := hid hb
    have HNO := hid hno
    clear hb hno
    by_cases hlt : j < n
    · have hlt' : (j : Int) < (n : Int) := by omega
      obtain ⟨ad, rfl, hat⟩ := (H.out.hr.now HB.out).hint hlt
      have ho := H.out.ok.2.1 j hlt
      have HY := hid (fun h => rgi_yes (n := n) HNO.out (show inR hh p j from h) hlt)
      have HN := hid (fun h => rgi_no HNO.out (show ¬ inR hh p j from h))
      obtain ⟨⟨f, s, o, l⟩, hH⟩ : ∃ x, hh j = x := ⟨_, rfl⟩
      unfold inR at HY HN
      rw [hH] at hat ho HY HN
      have c0 := hat.f
      have c1 := hat.s
      have c2 := hat.o
      have c3 := hat.l
      dsimp only at c0 c1 c2 c3 HY HN
      unfold okH at ho
      dsimp only at ho
      have hbx := below_alloc wr (.cells #[.int .i64 f, .int .i64 s, .int .i64 o, .bool l] 65)
      have HB3 := hid (on HB.out hbx)
      have HX3 := hid (hbox_new wr ⟨f, s, o, l⟩ 65)
      clear hat hH hbx
      go_upto_region 6 with fail
      obtain ⟨k, hk⟩ : ∃ k, wr.heap.size = k := ⟨_, rfl⟩
      rw [hk] at HX3 ⊢
      clear c0 c1 c2 c3
      generalize wr.alloc (.cells #[.int .i64 f, .int .i64 s, .int .i64 o, .bool l] 65) = w3 at *
      have x0 := HX3.out.f
      have x1 := HX3.out.s
      dsimp only at x0 x1
      by_cases h1 : p ≥ f
      · by_cases h2 : p < f + s
        · have HE := hid (HY.out ⟨h1, h2⟩)
          go_wp2
          go_ret2
          exact ⟨by rw [HE.out]; rfl, HB3.out⟩
        · have HE := hid (HN.out fun h => h2 h.2)
          go_wp2
          go_roundg (gk - 1)
          case measure => omega
          case rel => exact ⟨j + 1, by omega, by go_num, HE.out, HB3.out⟩
      · have HE := hid (HN.out fun h => h1 h.1)
        go_wp2
        go_roundg (gk - 1)
        case measure => omega
        case rel => exact ⟨j + 1, by omega, by go_num, HE.out, HB3.out⟩
    · have hlt' : ¬ (j : Int) < (n : Int) := by omega
      obtain rfl : j = n := by omega
      go_wp2
      go_ret2
      exact ⟨by rw [HNO.out]; rfl, HB.out⟩
/-- what Part answers -/
noncomputable def ptV (hh : Nat → Hn) (n : Nat) (x : Nat → Nat) (o : Option Nat) (t : Int) : Int :=
  match o with
  | none => 0
  | some i => if 1 ≤ t ∧ t ≤ 3 then kps hh n x i (t - 1).toNat else 0
set_option maxHeartbeats 1000000 in
theorem part_any (h : Pl w g b x hh n A c B d) (p t : Int) : Calls Tryz.prog 53 #[.pointer (some ⟨g, 0, none⟩), .int .i64 p, .int .i64 t] w fun e w' => e = .returned (.int .i64 (ptV hh n x (rgi hh p n) t)) ∧ Below w.heap.size w w' := by
  have HRG := hid (range_any h p)
  have H := hid h
  have HLT := hid (fun i => rgi_lt (hh := hh) (b := p) (n := n) (i := i))
  clear h
  generalize rgi hh p n = o at *
  cases o with
  | none =>
    unfold rgV at HRG
    rw [show ((none : Option Nat).getD 0 : Nat) = 0 from rfl, show (none : Option Nat).isSome = false from rfl] at HRG
    go_enter Tryz.func53, Tryz.ntmps53
    go_wp2_with (go_at_call 67; refine HRG.out.mono ?_; rintro e w2 ⟨rfl, hb⟩; have HB := hid hb; clear hb)
    go_ret
    exact ⟨rfl, HB.out⟩
  | some i =>
    unfold rgV at HRG
    rw [show ((some i).getD 0 : Nat) = i from rfl, show (some i).isSome = true from rfl] at HRG
    have hin := (HLT.out i rfl).1
    have hn8 := H.out.ok.1
    have HO1 := hid (fun w p q h1 h2 => outs1_any t 1 3 p q w h1 h2)
    by_cases ht : t < 1 ∨ 3 < t
    · rw [decide_eq_true ht] at HO1
      have HE := hid (show ptV hh n x (some i) t = 0 from if_neg (by omega))
      clear ht
      go_enter Tryz.func53, Tryz.ntmps53
      go_wp2_with (first
        | (go_at_call 67; refine HRG.out.mono ?_; rintro e w2 ⟨rfl, hb⟩; have HB := hid hb; clear hb)
        | (go_at_call 79; refine HPQ.out.mono ?_; rintro e w4 ⟨rfl, rfl⟩)
        | (go_at_call 64; refine (outside_any 1 3 _).mono ?_; rintro e w3 ⟨v, rfl, hv, hb⟩; obtain ⟨q, r, rfl, h1, h2, -, -⟩ := hv; have HPQ := hid (HO1.out _ q r h1 h2); have HB3 := hid (on HB.out hb); clear hb h1 h2))
      go_ret
      exact ⟨by rw [HE.out]; rfl, HB3.out⟩
    · rw [decide_eq_false ht] at HO1
      obtain ⟨u, rfl, hu⟩ : ∃ u : Nat, t = (u : Int) + 1 ∧ u < 3 := ⟨(t - 1).toNat, by omega, by omega⟩
      have HE := hid (show ptV hh n x (some i) ((u : Int) + 1) = kps hh n x i u from by
        show (if _ then _ else _) = _
        rw [if_pos (by omega), show ((u : Int) + 1 - 1).toNat = u by omega])
      have hin' : (i : Int) < (n : Int) := by omega
      have hu4 : (u : Int) < 4 := by omega
      have hu5 : (u : Int) + 1 - 1 = (u : Int) := by omega
      clear ht
      go_enter Tryz.func53, Tryz.ntmps53
      go_upto_region 4 with (first
        | (go_at_call 67; refine HRG.out.mono ?_; rintro e w2 ⟨rfl, hb⟩; have HB := hid hb; have H2 := hid (H.out.below hb); clear hb)
        | (go_at_call 79; refine HPQ.out.mono ?_; rintro e w4 ⟨rfl, rfl⟩)
        | (go_at_call 64; refine (outside_any 1 3 _).mono ?_; rintro e w3 ⟨v, rfl, hv, hb⟩; obtain ⟨q, r, rfl, h1, h2, -, -⟩ := hv; have HPQ := hid (HO1.out _ q r h1 h2); have HB3 := hid (on HB.out hb); have H3 := hid (H2.out.below hb); clear hb h1 h2))
      have c5 := H3.out.c5
      obtain ⟨bd, rfl, q0⟩ := pvs_cell H3.out.pr hin (show u < 4 by omega)
      go_wp2
      go_ret
      exact ⟨by rw [HE.out]; rfl, HB3.out⟩
/-- what Loop answers -/
def lpV (hh : Nat → Hn) (o : Option Nat) : Bool :=
  match o with
  | none => false
  | some i => (hh i).l
set_option maxHeartbeats 1000000 in
theorem loop_any (h : Pl w g b x hh n A c B d) (p : Int) : Calls Tryz.prog 128 #[.pointer (some ⟨g, 0, none⟩), .int .i64 p] w fun e w' => e = .returned (.bool (lpV hh (rgi hh p n))) ∧ Below w.heap.size w w' := by
  have HRG := hid (range_any h p)
  have H := hid h
  have HLT := hid (fun i => rgi_lt (hh := hh) (b := p) (n := n) (i := i))
  clear h
  generalize rgi hh p n = o at *
  cases o with
  | none =>
    unfold rgV at HRG
    rw [show ((none : Option Nat).getD 0 : Nat) = 0 from rfl, show (none : Option Nat).isSome = false from rfl] at HRG
    go_enter Tryz.func128, Tryz.ntmps128
    go_wp2_with (go_at_call 67; refine HRG.out.mono ?_; rintro e w2 ⟨rfl, hb⟩; have HB := hid hb; clear hb)
    go_ret
    exact ⟨rfl, HB.out⟩
  | some i =>
    unfold rgV at HRG
    rw [show ((some i).getD 0 : Nat) = i from rfl, show (some i).isSome = true from rfl] at HRG
    have hin := (HLT.out i rfl).1
    have hn8 := H.out.ok.1
    have hin' : (i : Int) < (n : Int) := by omega
    go_enter Tryz.func128, Tryz.ntmps128
    go_upto_region 2 with (go_at_call 67; refine HRG.out.mono ?_; rintro e w2 ⟨rfl, hb⟩; have HB := hid hb; have H2 := hid (H.out.below hb); clear hb)
    have c4 := H2.out.c4
    obtain ⟨bd, rfl, hat⟩ := H2.out.hr.hint hin
    have q0 := hat.l
    clear hat
    go_wp2
    go_ret
    exact ⟨rfl, HB.out⟩
end
/-- what the reference's Range answers -/
def rrV (o : Option Nat) : Int := match o with | some i => (i : Int) | none => -1
set_option maxHeartbeats 1000000 in
theorem rrange_any (A : Option Addr) (n c : Nat) (hh : Nat → Hn) (b p : Int) (w : World) (hp0 : -9223372036854775808 ≤ p) (hp1 : p ≤ 9223372036854775807) (hP : HintsP hh n b) (hr : Rv w w.heap.size A (hvs hh n)) :
    Calls Tryz.prog 54 #[.slice A n c, .int .i64 p] w fun e w' => e = .returned (.int .i64 (rrV (rgi hh p n))) ∧ ∃ k, w' = w.drewN k := by
  have hn8 := hP.1
  have HR := hid hr
  have HP := hid hP
  clear hr hP
  go_enter Tryz.func54, Tryz.ntmps54
  go_wp2
  go_loopg [5] n (fun gk t5 wr => ∃ j k : Nat, j + gk = n ∧ t5 = .int .i64 j ∧ rgi hh p j = none ∧ wr = w.drewN k)
  case atStart => exact ⟨0, 0, by omega, rfl, rfl, rfl⟩
  case round =>
    obtain ⟨j, k, hj, rfl, hno, rfl⟩ := hrel
    have HNO := hid hno
    clear hno
    by_cases hlt : j < n
    · have hlt' : (j : Int) < (n : Int) := by omega
      obtain ⟨ad, rfl, hat⟩ := HR.out.hint hlt
      have ho := HP.out.2.1 j hlt
      have HY := hid (fun h => rgi_yes (n := n) HNO.out (show inR hh p j from h) hlt)
      have HN := hid (fun h => rgi_no HNO.out (show ¬ inR hh p j from h))
      obtain ⟨⟨f, s, o, l⟩, hH⟩ : ∃ x, hh j = x := ⟨_, rfl⟩
      unfold inR at HY HN
      rw [hH] at hat ho HY HN
      have c0 := hat.f
      have c1 := hat.s
      dsimp only at c0 c1
      dsimp only at HY HN
      unfold okH at ho
      dsimp only at ho
      clear hat hH
      go_upto_region 4 with fail
      by_cases h1 : p ≥ f
      · have d1 : decide (f ≤ p) = true := by simpa using h1
        by_cases h2 : p - f < s
        · have HE := hid (HY.out ⟨h1, by omega⟩)
          have d2 : decide (p - f < s) = true := by simpa using h2
          go_quiet (fail)
          go_wp2
          go_ret
          exact ⟨by rw [HE.out]; rfl, _, World.drewN_drewN _ _ _⟩
        · have HE := hid (HN.out fun h => h2 (by omega))
          have d2 : decide (p - f < s) = false := by simpa using h2
          go_quiet (fail)
          go_wp2
          go_roundg (gk - 1)
          case measure => omega
          case rel => exact ⟨j + 1, _, by omega, by go_num, HE.out, rfl⟩
      · have d1 : decide (f ≤ p) = false := by simpa using h1
        have HE := hid (HN.out fun h => h1 h.1)
        go_quiet (fail)
        go_wp2
        go_roundg (gk - 1)
        case measure => omega
        case rel => exact ⟨j + 1, _, by omega, by go_num, HE.out, rfl⟩
    · have hlt' : ¬ (j : Int) < (n : Int) := by omega
      obtain rfl : j = n := by omega
      go_wp2
      go_ret
      exact ⟨by rw [HNO.out]; rfl, k, rfl⟩
end Go.Proofs.YtmfdlkkligjcbaaGreat
namespace Go.Proofs.YtmfdlkkligjcbaaGreat
open Go.RowKit

/-- a plan's hints, blocks and capacities, as a law is handed them -/
def lay (A : Option Addr) (n c : Nat) (b x y z : Int) : Value := .agg #[.slice A n c, .int .i64 b, .int .i64 x, .int .i64 y, .int .i64 z]

































































end Go.Proofs.YtmfdlkkligjcbaaGreat
namespace Go.Proofs.YtmfdlkkligjcbaaGreat
open Go.RowKit

theorem den_iff {hh : Nat → Hn} (i k : Nat) : (cmpI (oft hh i * sz hh k) (oft hh k * sz hh i) > 0 ∨ (cmpI (oft hh i * sz hh k) (oft hh k * sz hh i) = 0 ∧ i < k)) ↔ LH hh i k := by
  unfold LH lOf cfOf
  rcases cmp3 (oft hh i * sz hh k) (oft hh k * sz hh i) with ⟨_, h1, h2⟩ | ⟨_, h1, h2⟩ | ⟨_, h1, h2⟩ <;> rw [h1, h2] <;> omega
set_option maxHeartbeats 1000000 in
theorem denser_any (A : Option Addr) (n c : Nat) (hh : Nat → Hn) (b : Int) (i k : Nat) (w : World) (hP : HintsP hh n b) (hi : i < n) (hk : k < n) (hr : Rv w w.heap.size A (hvs hh n)) :
    Calls Tryz.prog 68 #[.slice A n c, .int .i64 i, .int .i64 k] w fun e w' => e = .returned (.bool (dec (LH hh i k))) ∧ ∃ m, w' = w.drewN m := by
  have hn8 := hP.1
  have HD := hid (den_iff (hh := hh) i k)
  obtain ⟨ad, rfl, hat⟩ := hr.hint hi
  obtain ⟨_, e, hak⟩ := hr.hint hk
  injection e with e
  subst e
  have o1 := hP.2.1 i hi
  have o2 := hP.2.1 k hk
  unfold okH at o1 o2
  have e1 : (hh i).o = (oft hh i : Nat) := by unfold oft; omega
  have e2 : (hh i).s = (sz hh i : Nat) := by unfold sz; omega
  have e3 : (hh k).o = (oft hh k : Nat) := by unfold oft; omega
  have e4 : (hh k).s = (sz hh k : Nat) := by unfold sz; omega
  have c1 := hat.s
  have c2 := hat.o
  have d1 := hak.s
  have d2 := hak.o
  rw [e2] at c1
  rw [e1] at c2
  rw [e4] at d1
  rw [e3] at d2
  have hRC := fun w => rcompare_any w (oft hh i) (sz hh i) (oft hh k) (sz hh k) (by omega) (by omega) (by omega) (by omega)
  have HRC := hid hRC
  have hi' : (i : Int) < (n : Int) := by omega
  have hk' : (k : Int) < (n : Int) := by omega
  clear hr hat hak o1 o2 e1 e2 e3 e4 hP hRC
  generalize cmpI (oft hh i * sz hh k) (oft hh k * sz hh i) = u at *
  generalize oft hh i = oi at *
  generalize oft hh k = ok at *
  generalize sz hh i = si at *
  generalize sz hh k = sk at *
  go_enter Tryz.func68, Tryz.ntmps68
  go_upto_region 1 with fail
  go_quiet (first | (go_at_call 82; refine Calls.quiet_of_same (HRC.out _)))
  by_cases h1 : u > 0
  · go_wp2
    go_ret
    exact ⟨by rw [dec_true (HD.out.1 (.inl h1))]; rfl, _, rfl⟩
  · by_cases h2 : u = 0
    · subst h2
      by_cases h3 : i < k
      · have h3' : (i : Int) < (k : Int) := by omega
        go_wp2
        go_ret
        exact ⟨by rw [dec_true (HD.out.1 (.inr ⟨by first | rfl | trivial, h3⟩))]; rfl, _, rfl⟩
      · have h3' : ¬ (i : Int) < (k : Int) := by omega
        go_wp2
        go_ret
        exact ⟨by rw [dec_false (fun h => by
          rcases HD.out.2 h with g | g
          · omega
          · exact h3 g.2)]; rfl, _, rfl⟩
    · have h2' : (u == 0) = false := by simpa using h2
      go_wp2
      go_ret
      exact ⟨by rw [dec_false (fun h => by have := HD.out.2 h; omega)]; rfl, _, rfl⟩
end Go.Proofs.YtmfdlkkligjcbaaGreat
