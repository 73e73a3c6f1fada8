/-
  What is proved: KarmaLeast's walk. Condition: hints are read as such; the bytes are bytes.
-/
import Derived.Test.YtcibhmbneedghaaLe14
import Derived.Test.YtcibhmbneedghaaCo14
import Derived.Test.YtcibhmbneedghaaKn14
namespace Go.Proofs.Ytcibhmbneedghaa
open Go.RowKit

/-- a layout and four bytes in boxes of the call's own -/
structure Ly2 (w0 w : World) (q : Nat) (A : Option Addr) (n c : Nat) (b x y z : Int) (k : Nat → Nat) : Prop where
  x : Lx w0 w q A n c b x y z
  y : Bx w (q + 1) 49 #[.int .u8 (k 0 : Nat), .int .u8 (k 1 : Nat), .int .u8 (k 2 : Nat), .int .u8 (k 3 : Nat)]
section
variable {w0 w w' : World} {q n c : Nat} {A : Option Addr} {b x y z : Int} {k : Nat → Nat}
theorem Ly2.below (h : Ly2 w0 w q A n c b x y z k) (hb : Below w.heap.size w w') : Ly2 w0 w' q A n c b x y z k := ⟨h.x.below hb, h.y.next hb⟩
theorem Ly2.at_ (h : Ly2 w0 w q A n c b x y z k) {t : Nat} (ht : t < 4) : w.cell? ⟨q + 1, t, none⟩ = some (.int .u8 (k t : Nat)) := by
  have h4 : t = 0 ∨ t = 1 ∨ t = 2 ∨ t = 3 := by omega
  rcases h4 with rfl | rfl | rfl | rfl
  · exact h.y.cell 0
  · exact h.y.cell 1
  · exact h.y.cell 2
  · exact h.y.cell 3
end
theorem ly2_new (w : World) (A : Option Addr) (n c : Nat) (b x y z : Int) (k : Nat → Nat) :
    Ly2 w ((w.alloc (.cells #[.slice A n c, .int .i64 b, .int .i64 x, .int .i64 y, .int .i64 z] 25)).alloc (.cells #[.int .u8 (k 0 : Nat), .int .u8 (k 1 : Nat), .int .u8 (k 2 : Nat), .int .u8 (k 3 : Nat)] 49)) w.heap.size A n c b x y z k :=
  ⟨(Lx.new w A n c b x y z).below (below_alloc _ _), by
    have h := Bx.new (w.alloc (.cells #[.slice A n c, .int .i64 b, .int .i64 x, .int .i64 y, .int .i64 z] 25)) 49 #[.int .u8 (k 0 : Nat), .int .u8 (k 1 : Nat), .int .u8 (k 2 : Nat), .int .u8 (k 3 : Nat)]
    rw [World.size_alloc] at h
    exact h⟩
set_option maxRecDepth 20000 in
set_option maxHeartbeats 4000000 in
theorem least_long (A : Option Addr) (n c : Nat) (b x y z : Int) (k : Nat → Nat) (w : World) (hn : ¬ n ≤ 3) :
    Calls Try.prog 5 #[.agg #[.slice A n c, .int .i64 b, .int .i64 x, .int .i64 y, .int .i64 z], .agg #[.int .u8 (k 0 : Nat), .int .u8 (k 1 : Nat), .int .u8 (k 2 : Nat), .int .u8 (k 3 : Nat)]] w fun e w' => e = .returned (.bool true) ∧ Below w.heap.size w w' := by
  have hn3 : (n : Int) > 3 := by omega
  have HX0 := hid (ly2_new w A n c b x y z k)
  obtain ⟨q, hq⟩ : ∃ q, w.heap.size = q := ⟨_, rfl⟩
  have HQ := hid hq
  rw [hq] at HX0
  clear hq hn
  go_enter Try.func5, Try.ntmps5
  go_upto_region 1 with fail
  rw [HQ.out]
  generalize (w.alloc (.cells #[.slice A n c, .int .i64 b, .int .i64 x, .int .i64 y, .int .i64 z] 25)).alloc (.cells #[.int .u8 (k 0 : Nat), .int .u8 (k 1 : Nat), .int .u8 (k 2 : Nat), .int .u8 (k 3 : Nat)] 49) = w1 at *
  go_wp2_with (go_at_call 10; refine (wakes_any _).mono ?_; rintro e w2 ⟨rfl, hb⟩; have HX2 := hid (HX0.out.below hb); obtain ⟨p0, p1, p2, p3, p4⟩ := HX2.out.x.all; clear hb)
  go_ret
  exact ⟨rfl, HX2.out.x.bel⟩
set_option maxRecDepth 20000 in
set_option maxHeartbeats 4000000 in
theorem least_bad (A : Option Addr) (n c : Nat) (hh : Nat → Hn) (b x y z : Int) (k : Nat → Nat) (w : World) (hn : n ≤ 3) (hcA : A = none → c = 0) (hr : Rv w w.heap.size A (hvs hh n)) (hok : ¬ (CapP b x y z ∧ HintsP hh n b)) :
    Calls Try.prog 5 #[.agg #[.slice A n c, .int .i64 b, .int .i64 x, .int .i64 y, .int .i64 z], .agg #[.int .u8 (k 0 : Nat), .int .u8 (k 1 : Nat), .int .u8 (k 2 : Nat), .int .u8 (k 3 : Nat)]] w fun e w' => e = .returned (.bool true) ∧ Below w.heap.size w w' := by
  have hn3 : ¬ (n : Int) > 3 := by omega
  have HR := hid hr
  have HX0 := hid (ly2_new w A n c b x y z k)
  obtain ⟨q, hq⟩ : ∃ q, w.heap.size = q := ⟨_, rfl⟩
  have HQ := hid hq
  rw [hq] at HX0
  have HN := hid (fun w (hr : Rv w w.heap.size A (hvs hh n)) => new_bad (w := w) (c := c) (b := b) (x := x) (y := y) (z := z) (by omega) hcA hr hok)
  clear hr hq hok hcA hn
  go_enter Try.func5, Try.ntmps5
  go_upto_region 1 with fail
  rw [HQ.out]
  generalize (w.alloc (.cells #[.slice A n c, .int .i64 b, .int .i64 x, .int .i64 y, .int .i64 z] 25)).alloc (.cells #[.int .u8 (k 0 : Nat), .int .u8 (k 1 : Nat), .int .u8 (k 2 : Nat), .int .u8 (k 3 : Nat)] 49) = w1 at *
  go_wp2_with (first
    | (go_at_call 10; refine (wakes_any _).mono ?_; rintro e w2 ⟨rfl, hb⟩; have HX2 := hid (HX0.out.below hb); obtain ⟨p0, p1, p2, p3, p4⟩ := HX2.out.x.all; clear hb)
    | (go_at_call 12; refine (HN.out _ (HR.out.now HX2.out.x.bel)).mono ?_; rintro e w4 ⟨r, rfl, -, hr0, hb⟩; have HX4 := hid (HX2.out.below hb); clear hb))
  go_ret
  exact ⟨rfl, HX4.out.x.bel⟩
/-- the costs while they are summed up -/
def cl (k : Nat → Nat) (t i : Nat) : Nat := if i < t then sN k (i + 1) else 0
/-- what the call's own memory holds once the costs are summed up -/
structure Ls (w0 w : World) (q : Nat) (A : Option Addr) (n c : Nat) (b : Int) (u : Nat → Nat) (hh : Nat → Hn) (g : Nat) (A1 : Option Addr) (c1 : Nat) (B1 : Option Addr) (d1 s : Nat) (kk : Nat → Nat) : Prop where
  x : Lx w0 w q A n c b (u 0 : Nat) (u 1 : Nat) (u 2 : Nat)
  p : Pl w g b u hh n A1 c1 B1 d1
  s : Arr w s 4 (fun i => .int .i64 (kk i : Nat))
section
variable {w0 w w' : World} {q n c g s c1 d1 : Nat} {A A1 B1 : Option Addr} {b : Int} {u kk : Nat → Nat} {hh : Nat → Hn}
theorem Ls.below (h : Ls w0 w q A n c b u hh g A1 c1 B1 d1 s kk) (hb : Below w.heap.size w w') : Ls w0 w' q A n c b u hh g A1 c1 B1 d1 s kk := ⟨h.x.below hb, h.p.below hb, h.s.below hb⟩
theorem Ls.all (h : Ls w0 w q A n c b u hh g A1 c1 B1 d1 s kk) : w.cell? ⟨q, 0, none⟩ = some (.slice A n c) ∧ w.cell? ⟨s, 0, none⟩ = some (.int .i64 (kk 0 : Nat)) ∧ w.cell? ⟨s, 1, none⟩ = some (.int .i64 (kk 1 : Nat)) ∧ w.cell? ⟨s, 2, none⟩ = some (.int .i64 (kk 2 : Nat)) ∧ w.cell? ⟨s, 3, none⟩ = some (.int .i64 (kk 3 : Nat)) :=
  ⟨h.x.all.1, h.s.cell 0 (by omega), h.s.cell 1 (by omega), h.s.cell 2 (by omega), h.s.cell 3 (by omega)⟩
end
theorem hints32 {hh : Nat → Hn} {n : Nat} {b : Int} (h : HintsP hh n b) : HintsP hh n 32 := ⟨h.1, fun i hi => by have := h.2.1 i hi; unfold okH at *; omega, h.2.2⟩
theorem least_cost {hh : Nat → Hn} {n : Nat} {b : Int} {u kk : Nat → Nat} {T Bo E : Int} (hP : HintsP hh n b) (h : OrdH hh n (ordd hh n)) (ho : ∀ i, i < n → (hh i).o ≤ 100000) (hk : ∀ t, t < 4 → kk t ≤ kk 3) (hv : CostV hh n (kps hh n u) n (fun t => (kk t : Nat)) T Bo E) :
    (1000 < kk 3 → E = 6) ∧ (kk 3 ≤ 1000 → T = (sN (ct hh (KP hh n u) kk (cml (szs hh n))) n : Nat) ∧ Bo = (cml (szs hh n) : Nat) ∧ E = 0) := by
  have h32 := hints32 hP
  constructor
  · intro h3
    have hc : CBad n (kps hh n u) n (fun t => (kk t : Nat)) := .inr (.inr ⟨3, by omega, .inr (by show (1000 : Int) < (kk 3 : Nat); omega)⟩)
    rcases hv with hv | hv | hv | hv
    · exact absurd h32 hv.1
    · exact hv.2.2.2.2
    · exact absurd hc hv.2.1
    · exact absurd hc hv.2.1
  · intro h3
    have hc : ¬ CBad n (kps hh n u) n (fun t => (kk t : Nat)) := by
      rintro (h1 | ⟨i, hi, t, ht, h2⟩ | ⟨t, ht, h2⟩)
      · exact h1 rfl
      · have := KP_le (u := u) (t := t) h hP hi
        unfold kps at h2
        omega
      · have := hk t ht
        have h2' : ((kk t : Nat) : Int) < 0 ∨ (1000 : Int) < ((kk t : Nat) : Int) := h2
        omega
    have hob : ¬ OBad hh n := by
      rintro ⟨i, hi, h2⟩
      have := ho i hi
      have h3 := hP.2.1 i hi
      unfold okH at h3
      omega
    rcases hv with hv | hv | hv | hv
    · exact absurd h32 hv.1
    · exact absurd hv.2.1 hc
    · exact absurd hv.2.2.1 hob
    · exact ⟨hv.2.2.2.1, hv.2.2.2.2.1, hv.2.2.2.2.2⟩
set_option maxRecDepth 20000 in
set_option maxHeartbeats 8000000 in
theorem least_ok (A : Option Addr) (n c : Nat) (hh : Nat → Hn) (b : Int) (u k : Nat → Nat) (w : World) (hn : n ≤ 3) (hcA : A = none → c = 0) (hr : Rv w w.heap.size A (hvs hh n))
    (hcp : CapP b (u 0 : Nat) (u 1 : Nat) (u 2 : Nat)) (hu : cN (u 0 : Nat) (u 1 : Nat) (u 2 : Nat) = u) (hu16 : ∀ t, t < 3 → u t ≤ 16) (hhp : HintsP hh n b) (hk : ∀ t, t < 4 → k t ≤ 255) :
    Calls Try.prog 5 #[.agg #[.slice A n c, .int .i64 b, .int .i64 (u 0 : Nat), .int .i64 (u 1 : Nat), .int .i64 (u 2 : Nat)], .agg #[.int .u8 (k 0 : Nat), .int .u8 (k 1 : Nat), .int .u8 (k 2 : Nat), .int .u8 (k 3 : Nat)]] w fun e w' => e = .returned (.bool true) ∧ Below w.heap.size w w' := by
  have hn3 : ¬ (n : Int) > 3 := by omega
  have hn8 : n ≤ 8 := by omega
  have HR := hid hr
  have HX0 := hid (ly2_new w A n c b (u 0 : Nat) (u 1 : Nat) (u 2 : Nat) k)
  obtain ⟨q, hq⟩ : ∃ q, w.heap.size = q := ⟨_, rfl⟩
  have HQ := hid hq
  rw [hq] at HX0
  have HN := hid (fun w (hr : Rv w w.heap.size A (hvs hh n)) => new_ok (u := u) (w := w) (c := c) (by omega) hcA hr hcp hu hhp)
  have HH := hid hhp
  have HU := hid hu16
  have HK := hid hk
  clear hr hq hcp hu hu16 hhp hcA hk hn
  go_enter Try.func5, Try.ntmps5
  go_upto_region 1 with fail
  rw [HQ.out]
  generalize (w.alloc (.cells #[.slice A n c, .int .i64 b, .int .i64 (u 0 : Nat), .int .i64 (u 1 : Nat), .int .i64 (u 2 : Nat)] 25)).alloc (.cells #[.int .u8 (k 0 : Nat), .int .u8 (k 1 : Nat), .int .u8 (k 2 : Nat), .int .u8 (k 3 : Nat)] 49) = w1 at *
  go_upto_region 8 with (first
    | (go_at_call 10; refine (wakes_any _).mono ?_; rintro e w2 ⟨rfl, hb⟩; have HX2 := hid (HX0.out.below hb); obtain ⟨p0, p1, p2, p3, p4⟩ := HX2.out.x.all; clear hb)
    | (go_at_call 12; refine (HN.out _ (HR.out.now HX2.out.x.bel)).mono ?_; rintro e w4 ⟨g, A1, c1, B1, d1, rfl, hp, hb, hg⟩; have HP4 := hid hp; have HX4 := hid (HX2.out.below hb); clear hp hb hg))
  clear p0 p1 p2 p3 p4 HX0 HX2 HN
  have HOD := hid HP4.out.od
  go_upto_region 9 with fail
  have HB5 := hid (below_alloc w4 (.cells #[.int .i64 0, .int .i64 0, .int .i64 0, .int .i64 0] 50))
  have hs5 : Arr (w4.alloc (.cells #[.int .i64 0, .int .i64 0, .int .i64 0, .int .i64 0] 50)) w4.heap.size 4 (fun i => .int .i64 (cl k 0 i : Nat)) := arr_new w4 _ _ 4 fun i hi => by
    have h4 : i = 0 ∨ i = 1 ∨ i = 2 ∨ i = 3 := by omega
    rcases h4 with rfl | rfl | rfl | rfl <;> rfl
  obtain ⟨s, hs⟩ : ∃ s, w4.heap.size = s := ⟨_, rfl⟩
  have HSW := hid hs
  rw [hs] at hs5 ⊢
  have HS5 := hid hs5
  generalize w4.alloc (.cells #[.int .i64 0, .int .i64 0, .int .i64 0, .int .i64 0] 50) = w5 at *
  clear hs5 hs
  go_wp2
  go_loopg [34] 4 (fun gk t34 wr => ∃ t : Nat, t + gk = 4 ∧ t34 = .int .i64 t ∧ Below w4.heap.size w4 wr ∧ Arr wr s 4 (fun i => .int .i64 (cl k t i : Nat)))
  case atStart => exact ⟨0, by omega, rfl, HB5.out, HS5.out⟩
  case round =>
    clear HB5 HS5
    obtain ⟨t, ht, rfl, hb, hs⟩ := hrel
    have HB := hid hb
    have HS := hid hs
    clear hb hs
    by_cases ht4 : t < 4
    · have ht4' : (t : Int) < 4 := by omega
      have s0 := HS.out.cell t ht4
      have s1 := HS.out.free t ht4
      have y0 := (HX4.out.below HB.out).at_ ht4
      have hkt := HK.out t ht4
      have HA6 := hid (HS.out.set ht4 (.int .i64 (k t : Nat)))
      have HB6 := hid (below_set HB.out ⟨s, t, none⟩ (.int .i64 (k t : Nat)) (show w4.heap.size ≤ s from Nat.le_of_eq HSW.out))
      by_cases t0 : t = 0
      · have t0' : ¬ (t : Int) > 0 := by omega
        have HA7 := hid (HA6.out.alike (g := fun i => .int .i64 (cl k (t + 1) i : Nat)) fun i hi => by
          subst t0
          show Value.int .i64 (cl k (0 + 1) i : Nat) = if i = 0 then .int .i64 (k 0 : Nat) else .int .i64 (cl k 0 i : Nat)
          by_cases e : i = 0
          · subst e
            show Value.int .i64 (0 + k 0 : Nat) = _
            rw [Nat.zero_add]; rfl
          · rw [if_neg e]
            unfold cl
            rw [if_neg (by omega), if_neg (by omega)])
        clear t0
        go_wp2
        go_roundg (gk - 1)
        case measure => omega
        case rel => exact ⟨t + 1, by omega, by go_num, HB6.out, HA7.out⟩
      · have t0' : (t : Int) > 0 := by omega
        obtain ⟨p, hp⟩ : ∃ p, t = p + 1 := ⟨t - 1, by omega⟩
        have hp' : (t : Int) - 1 = (p : Int) := by omega
        have hp4 : (p : Int) < 4 := by omega
        have HPT := hid hp
        have e1 : (wr.setCell ⟨s, t, none⟩ (.int .i64 (k t : Nat))).drew.cell? ⟨s, t, none⟩ = some (.int .i64 (k t : Nat)) := by
          have := HA6.out.cell t ht4
          rw [if_pos rfl] at this
          exact this
        have e2 : (wr.setCell ⟨s, t, none⟩ (.int .i64 (k t : Nat))).drew.cell? ⟨s, p, none⟩ = some (.int .i64 (sN k t : Nat)) := by
          have := HA6.out.cell p (by omega)
          rw [if_neg (by omega), show cl k t p = sN k t by unfold cl; rw [if_pos (by omega), hp]] at this
          exact this
        have e3 : (wr.setCell ⟨s, t, none⟩ (.int .i64 (k t : Nat))).drew.frozen? ⟨s, t, none⟩ = false := HA6.out.free t ht4
        have hsn : sN k t ≤ 1020 := Nat.le_trans (sN_le (B := 255) fun i hi => HK.out i (by omega)) (by omega)
        have HA7 := hid (show Arr ((wr.setCell ⟨s, t, none⟩ (.int .i64 (k t : Nat))).setCell ⟨s, t, none⟩ (.int .i64 ((k t : Nat) + (sN k t : Nat)))).drew s 4 (fun i => .int .i64 (cl k (t + 1) i : Nat)) from ((HA6.out.set ht4 (.int .i64 ((k t : Nat) + (sN k t : Nat)))).alike (g := fun i => .int .i64 (cl k (t + 1) i : Nat)) fun i hi => by
          by_cases e : i = t
          · subst e
            rw [if_pos rfl, show cl k (i + 1) i = sN k i + k i by unfold cl; rw [if_pos (by omega)]; rfl, show ((k i : Nat) : Int) + (sN k i : Nat) = ((sN k i + k i : Nat) : Int) by omega]
          · rw [if_neg e, if_neg e]
            unfold cl
            by_cases e2 : i < t
            · rw [if_pos e2, if_pos (by omega)]
            · rw [if_neg e2, if_neg (by omega)]).below (below_draws (Below.refl _ _) 1))
        have HB7 := hid (show Below w4.heap.size w4 ((wr.setCell ⟨s, t, none⟩ (.int .i64 (k t : Nat))).setCell ⟨s, t, none⟩ (.int .i64 ((k t : Nat) + (sN k t : Nat)))).drew from below_draws (below_set HB6.out ⟨s, t, none⟩ _ (show w4.heap.size ≤ s from Nat.le_of_eq HSW.out)) 1)
        generalize sN k t = Z at *
        generalize k t = X at *
        clear t0 hp
        go_upto_region 14 with fail
        clear s0 s1 y0
        go_region
        generalize ((wr.setCell ⟨s, t, none⟩ (.int .i64 (X : Nat))).setCell ⟨s, t, none⟩ (.int .i64 ((X : Nat) + (Z : Nat)))).drew = w7 at *
        clear e1 e2 e3
        go_wp2
        go_roundg (gk - 1)
        case measure => omega
        case rel => exact ⟨t + 1, by omega, by go_num, HB7.out, HA7.out⟩
    · have ht4' : ¬ (t : Int) < 4 := by omega
      have h4 : t = 4 := by omega
      subst h4
      obtain ⟨kk, hkk⟩ : ∃ kk : Nat → Nat, kk = fun i => sN k (i + 1) := ⟨_, rfl⟩
      have HL := hid (show Ls w wr q A n c b u hh g A1 c1 B1 d1 s kk from ⟨(HX4.out.below HB.out).x, HP4.out.below HB.out, HS.out.alike fun i hi => by rw [hkk]; unfold cl; rw [if_pos hi]⟩)
      have HKN := hid (show kk 0 ≤ kk 1 ∧ kk 1 ≤ kk 2 ∧ kk 2 ≤ kk 3 from by rw [hkk]; exact ⟨Nat.le_add_right _ _, Nat.le_add_right _ _, Nat.le_add_right _ _⟩)
      clear hkk HS HP4 HX4 HB
      obtain ⟨p0, p1, p2, p3, p4⟩ := HL.out.x.all
      generalize gk = K0 at *
      generalize wr = w6 at *
      go_wp2
      clear p0 p1 p2 p3 p4
      go_loopg [58] n (fun gk t58 wi => ∃ j : Nat, j + gk = n ∧ t58 = .int .i64 j ∧ Below w6.heap.size w6 wi ∧ ∀ i, i < j → (hh i).s ≤ 5 ∧ (hh i).o ≤ 100000)
      case atStart => exact ⟨0, by omega, rfl, Below.refl _ _, fun i hi => by omega⟩
      case round =>
        obtain ⟨j, hj, rfl, hb, hso⟩ := hrel
        have HB2 := hid hb
        have HSO := hid hso
        clear hb hso
        by_cases hlt : j < n
        · have hlt' : (j : Int) < (n : Int) := by omega
          obtain ⟨ad, rfl, hat⟩ := (HR.out.now (HL.out.below HB2.out).x.bel).hint hlt
          obtain ⟨⟨f, v, o, l⟩, hH⟩ : ∃ x, hh j = x := ⟨_, rfl⟩
          rw [hH] at hat
          have HJ := hid hH
          have c0 := hat.f
          have c1 := hat.s
          have c2 := hat.o
          have c3 := hat.l
          have HB3 := hid (on HB2.out (below_alloc wr (.cells #[.int .i64 f, .int .i64 v, .int .i64 o, .bool l] 45)))
          have hx := Bx.new wr 45 #[.int .i64 f, .int .i64 v, .int .i64 o, .bool l]
          obtain ⟨xb, hxb⟩ : ∃ x, wr.heap.size = x := ⟨_, rfl⟩
          rw [hxb] at hx
          have HXB := hid hxb
          have HHX := hid hx
          clear hx hxb hat hH
          go_upto_region 19 with fail
          rw [HXB.out]
          generalize wr.alloc (.cells #[.int .i64 f, .int .i64 v, .int .i64 o, .bool l] 45) = w7 at *
          clear c0 c1 c2 c3
          have x1 : w7.cell? ⟨xb, 1, none⟩ = some (.int .i64 v) := HHX.out.cell 1
          have x2 : w7.cell? ⟨xb, 2, none⟩ = some (.int .i64 o) := HHX.out.cell 2
          by_cases h5 : v > 5
          · go_wp2
            go_ret
            exact ⟨rfl, (HL.out.below HB3.out).x.bel⟩
          · by_cases ho : o > 100000
            · go_wp2
              go_ret
              exact ⟨rfl, (HL.out.below HB3.out).x.bel⟩
            · have HN := hid (show ∀ i, i < j + 1 → (hh i).s ≤ 5 ∧ (hh i).o ≤ 100000 from fun i hi => by
                by_cases e : i = j
                · subst e
                  rw [HJ.out]
                  exact ⟨by show v ≤ 5; omega, by show o ≤ 100000; omega⟩
                · exact HSO.out i (by omega))
              go_wp2
              go_roundg (gk - 1)
              case measure => omega
              case rel => exact ⟨j + 1, by omega, by go_num, HB3.out, HN.out⟩
        · have hlt' : ¬ (j : Int) < (n : Int) := by omega
          have hjn : n = j := by omega
          subst hjn
          obtain ⟨T, Bo, E, hcv, hco⟩ := cost_cases A n c n hh (kps hh n u) (fun t => (kk t : Nat)) (by omega) (by omega)
          have hE := least_cost HH.out HOD.out (fun i hi => (HSO.out i hi).2) (fun t ht => by
            have := HKN.out
            have h4 : t = 0 ∨ t = 1 ∨ t = 2 ∨ t = 3 := by omega
            rcases h4 with rfl | rfl | rfl | rfl <;> omega) hcv
          have HCO := hid hco
          have HE := hid hE
          have HLD := hid (show Ls w wr.drew q A n c b u hh g A1 c1 B1 d1 s kk from (HL.out.below HB2.out).below (below_draws (Below.refl _ _) 1))
          clear hcv hco hE
          go_upto_region 22 with fail
          -- drawn
          refine wp_region_noPanic ?_
          refine wp_region_held_drew (S := fun w' => w'.cell? ⟨q, 0, none⟩ = some (.slice A n c) ∧ w'.cell? ⟨s, 0, none⟩ = some (.int .i64 (kk 0 : Nat)) ∧ w'.cell? ⟨s, 1, none⟩ = some (.int .i64 (kk 1 : Nat)) ∧ w'.cell? ⟨s, 2, none⟩ = some (.int .i64 (kk 2 : Nat)) ∧ w'.cell? ⟨s, 3, none⟩ = some (.int .i64 (kk 3 : Nat))) (by kernel_rfl) ?_ (fun hHeld => ?_)
          · exact HLD.out.all
          refine wpAnyH_take (i := 0) (oi := ⟨some 72, _, _, _, _, _⟩) (v := ?_) rfl (by kernel_rfl) (by kernel_rfl) (by kernel_rfl) (fun _ _ _ h => h) (Or.inl ⟨by rfl, ?_⟩) (by assumption) ?_
          rotate_left 1
          · intro w0 hSw
            obtain ⟨s0, s1, s2, s3, s4⟩ := hSw
            go_simp
            try with_reducible rfl
          (try simp only [Act.put, List.setIfInBounds_toArray, List.set_cons_zero, List.set_cons_succ])
          refine wpAnyH_take (i := 1) (oi := ⟨some 73, _, _, _, _, _⟩) (v := ?_) rfl (by kernel_rfl) (by kernel_rfl) (by kernel_rfl) (fun _ _ _ h => h) (Or.inl ⟨by rfl, ?_⟩) (by assumption) ?_
          rotate_left 1
          · intro w0 hSw
            obtain ⟨s0, s1, s2, s3, s4⟩ := hSw
            go_simp
            try with_reducible rfl
          (try simp only [Act.put, List.setIfInBounds_toArray, List.set_cons_zero, List.set_cons_succ])
          refine wpAnyH_take (i := 2) (oi := ⟨some 74, _, _, _, _, _⟩) (v := ?_) rfl (by kernel_rfl) (by kernel_rfl) (by kernel_rfl) (fun _ _ _ h => h) (Or.inl ⟨by rfl, ?_⟩) (by assumption) ?_
          rotate_left 1
          · intro w0 hSw
            obtain ⟨s0, s1, s2, s3, s4⟩ := hSw
            go_simp
            try with_reducible rfl
          (try simp only [Act.put, List.setIfInBounds_toArray, List.set_cons_zero, List.set_cons_succ])
          refine wpAnyH_take (i := 4) (oi := ⟨some 76, _, _, _, _, _⟩) (v := ?_) rfl (by kernel_rfl) (by kernel_rfl) (by kernel_rfl) (fun _ _ _ h => h) (Or.inl ⟨by rfl, ?_⟩) (by assumption) ?_
          rotate_left 1
          · intro w0 hSw
            obtain ⟨s0, s1, s2, s3, s4⟩ := hSw
            go_simp
            try with_reducible rfl
          (try simp only [Act.put, List.setIfInBounds_toArray, List.set_cons_zero, List.set_cons_succ])
          refine wpAnyH_ready (rs := [3]) (by kernel_rfl) (by simp) ?_
          refine AllReadyH.cons (o := ⟨some 75, _, _, _, _, _⟩) rfl (fun K hK => ?_) AllReadyH.nil
          rw [if_pos (by rfl)]
          go_simp
          refine (parts_any HLD.out.p).mono ?_
          rintro e v6 ⟨A6, c6, rfl, h1, h2, -⟩
          have HL6 := hid (HLD.out.below h2)
          have HC6 := hid (HCO.out v6 A6 c6 (HR.out.now HL6.out.x.bel) h1)
          have kp := HL6.out.all
          clear h1 h2
          go_simp
          refine hK.out _ _ kp (fun hHeld => ?_)
          clear hK K
          (try simp only [Act.put, List.setIfInBounds_toArray, List.set_cons_zero, List.set_cons_succ])
          refine wpAnyH_ready (rs := [5]) (by kernel_rfl) (by simp) ?_
          refine AllReadyH.cons (o := ⟨some 77, _, _, _, _, _⟩) rfl (fun K hK => ?_) AllReadyH.nil
          rw [if_pos (by rfl)]
          go_simp
          refine HC6.out.mono ?_
          rintro e v7 ⟨rfl, hb⟩
          have HL7 := hid (HL6.out.below hb)
          have kq := HL7.out.all
          clear hb
          go_simp
          refine hK.out _ _ kq (fun hHeld => ?_)
          clear hK K
          (try simp only [Act.put, List.setIfInBounds_toArray, List.set_cons_zero, List.set_cons_succ])
          refine wpAnyH_take (i := 6) (oi := ⟨some 71, _, _, _, _, _⟩) (v := ?_) rfl (by kernel_rfl) (by kernel_rfl) (by kernel_rfl) (fun _ _ _ h => h) (Or.inl ⟨by rfl, ?_⟩) (by assumption) ?_
          rotate_left 1
          · intro w0 hSw
            obtain ⟨s0, s1, s2, s3, s4⟩ := hSw
            go_simp
            try with_reducible rfl
          (try simp only [Act.put, List.setIfInBounds_toArray, List.set_cons_zero, List.set_cons_succ])
          refine wpAnyH_take (i := 7) (oi := ⟨some 78, _, _, _, _, _⟩) (v := ?_) rfl (by kernel_rfl) (by kernel_rfl) (by kernel_rfl) (fun _ _ _ h => h) (Or.inl ⟨by rfl, ?_⟩) (by assumption) ?_
          rotate_left 1
          · intro w0 hSw
            obtain ⟨s0, s1, s2, s3, s4⟩ := hSw
            go_simp
            try with_reducible rfl
          (try simp only [Act.put, List.setIfInBounds_toArray, List.set_cons_zero, List.set_cons_succ])
          refine wpAnyH_take (i := 8) (oi := ⟨some 79, _, _, _, _, _⟩) (v := ?_) rfl (by kernel_rfl) (by kernel_rfl) (by kernel_rfl) (fun _ _ _ h => h) (Or.inl ⟨by rfl, ?_⟩) (by assumption) ?_
          rotate_left 1
          · intro w0 hSw
            obtain ⟨s0, s1, s2, s3, s4⟩ := hSw
            go_simp
            try with_reducible rfl
          (try simp only [Act.put, List.setIfInBounds_toArray, List.set_cons_zero, List.set_cons_succ])
          refine wpAnyH_take (i := 9) (oi := ⟨some 80, _, _, _, _, _⟩) (v := ?_) rfl (by kernel_rfl) (by kernel_rfl) (by kernel_rfl) (fun _ _ _ h => h) (Or.inl ⟨by rfl, ?_⟩) (by assumption) ?_
          rotate_left 1
          · intro w0 hSw
            obtain ⟨s0, s1, s2, s3, s4⟩ := hSw
            go_simp
            try with_reducible rfl
          (try simp only [Act.put, List.setIfInBounds_toArray, List.set_cons_zero, List.set_cons_succ])
          refine wpAnyH_take (i := 10) (oi := ⟨some 11, _, _, _, _, _⟩) (v := ?_) rfl (by kernel_rfl) (by kernel_rfl) (by kernel_rfl) (fun _ _ _ h => h) (Or.inl ⟨by rfl, ?_⟩) (by assumption) ?_
          rotate_left 1
          · intro w0 hSw
            obtain ⟨s0, s1, s2, s3, s4⟩ := hSw
            go_simp
            try with_reducible rfl
          (try simp only [Act.put, List.setIfInBounds_toArray, List.set_cons_zero, List.set_cons_succ])
          refine wpAnyH_take (i := 11) (oi := ⟨some 12, _, _, _, _, _⟩) (v := ?_) rfl (by kernel_rfl) (by kernel_rfl) (by kernel_rfl) (fun _ _ _ h => h) (Or.inl ⟨by rfl, ?_⟩) (by assumption) ?_
          rotate_left 1
          · intro w0 hSw
            obtain ⟨s0, s1, s2, s3, s4⟩ := hSw
            go_simp
            try with_reducible rfl
          (try simp only [Act.put, List.setIfInBounds_toArray, List.set_cons_zero, List.set_cons_succ])
          refine wpAnyH_take (i := 12) (oi := ⟨some 13, _, _, _, _, _⟩) (v := ?_) rfl (by kernel_rfl) (by kernel_rfl) (by kernel_rfl) (fun _ _ _ h => h) (Or.inl ⟨by rfl, ?_⟩) (by assumption) ?_
          rotate_left 1
          · intro w0 hSw
            obtain ⟨s0, s1, s2, s3, s4⟩ := hSw
            go_simp
            try with_reducible rfl
          (try simp only [Act.put, List.setIfInBounds_toArray, List.set_cons_zero, List.set_cons_succ])
          refine wpAnyH_done (by kernel_rfl) ?_ _
          refine NoPanic.normal ?_
          -- till here
          by_cases hk3 : kk 3 ≤ 1000
          · have hk3' : ¬ ((kk 3 : Nat) : Int) > 1000 := by omega
            obtain ⟨hT, hBo, hE0⟩ := HE.out.2 hk3
            have hof : ∀ i, i < n → oft hh i ≤ 100000 := fun i hi => by
              have := (HSO.out i hi).2
              unfold oft
              omega
            have hk4 : ∀ t, t < 4 → kk t ≤ 1000 := fun t ht => by
              have := HKN.out
              have h4 : t = 0 ∨ t = 1 ∨ t = 2 ∨ t = 3 := by omega
              rcases h4 with rfl | rfl | rfl | rfl <;> omega
            have hle := fun w' hr' => least_any A n c (cml (szs hh n)) hh kk (hints32 HH.out) hof hk4 (szs_cml HH.out) n 0 (by omega) (u 0) (u 1) (u 2) (by have := HU.out 0 (by omega); omega) (by have := HU.out 1 (by omega); omega) (by have := HU.out 2 (by omega); omega) w' hr'
            rw [least_kp HH.out HOD.out HKN.out.1 HKN.out.2.1 HKN.out.2.2] at hle
            have hcm := fun w' hr' => common_any A n c hh b w' HH.out hr'
            obtain ⟨TT, hTT⟩ : ∃ x, sN (ct hh (KP hh n u) kk (cml (szs hh n))) n = x := ⟨_, rfl⟩
            rw [hTT] at hle hT
            obtain ⟨MM, hMM⟩ : ∃ x, cml (szs hh n) = x := ⟨_, rfl⟩
            rw [hMM] at hle hBo hcm
            have HLE := hid hle
            have HCM := hid hcm
            subst hT hBo hE0
            clear hle hcm hTT hMM hof hk4 HE HCO HC6
            have y0 := HL7.out.x.all
            have x0 := HL7.out.all
            obtain ⟨y0, y1, y2, y3, y4⟩ := y0
            obtain ⟨-, x0, x1, x2, x3⟩ := x0
            go_wp2_with (first
              | (go_at_call 24; refine (HCM.out _ (HR.out.now HL7.out.x.bel)).mono ?_; rintro e v8 ⟨rfl, rfl⟩)
              | (go_at_call 25; refine (HLE.out _ (HR.out.now HL7.out.x.bel)).mono ?_; rintro e v9 ⟨rfl, hb⟩; have HB9 := hid (on HL7.out.x.bel hb); clear hb))
            go_ret
            exact ⟨rfl, HB9.out⟩
          · have hk3' : ((kk 3 : Nat) : Int) > 1000 := by omega
            have hE6 := HE.out.1 (by omega)
            subst hE6
            have z3 := HL7.out.all.2.2.2.2
            go_wp2
            go_ret
            exact ⟨rfl, HL7.out.x.bel⟩
/-- four numbers -/
def k4 (x y z u : Nat) : Nat → Nat
  | 0 => x
  | 1 => y
  | 2 => z
  | _ => u
theorem least_walk (A : Option Addr) (n c : Nat) (hh : Nat → Hn) (b x y z : Int) (k0 k1 k2 k3 : Nat) (w : World) (hcA : A = none → c = 0) (hr : Rv w w.heap.size A (hvs hh n)) (q0 : k0 ≤ 255) (q1 : k1 ≤ 255) (q2 : k2 ≤ 255) (q3 : k3 ≤ 255) :
    Calls Try.prog 5 #[.agg #[.slice A n c, .int .i64 b, .int .i64 x, .int .i64 y, .int .i64 z], .agg #[.int .u8 k0, .int .u8 k1, .int .u8 k2, .int .u8 k3]] w fun e w' => e = .returned (.bool true) ∧ Below w.heap.size w w' := by
  by_cases hn : n ≤ 3
  · by_cases hok : CapP b x y z ∧ HintsP hh n b
    · obtain ⟨hcp, hhp⟩ := hok
      obtain ⟨u, hu, rfl, rfl, rfl, hu16⟩ := capN hcp
      exact least_ok A n c hh b u (k4 k0 k1 k2 k3) w hn hcA hr hcp hu hu16 hhp fun t ht => by
        have h4 : t = 0 ∨ t = 1 ∨ t = 2 ∨ t = 3 := by omega
        rcases h4 with rfl | rfl | rfl | rfl
        · exact q0
        · exact q1
        · exact q2
        · exact q3
    · exact least_bad A n c hh b x y z (k4 k0 k1 k2 k3) w hn hcA hr hok
  · exact least_long A n c b x y z (k4 k0 k1 k2 k3) w hn
end Go.Proofs.Ytcibhmbneedghaa
