/-
  What is proved: what store's entries put to the journal, to a block's sector, to a slot's. Conditions: the numbers are below 2^63; the text is no longer than 16.
-/
import Derived.Test.YtincndblpbdnlaaNbs
namespace Go.Proofs.Ytincndblpbdnlaa
open Go.RowKit

theorem keep8 {w : World} {g : Nat} {a0 a1 a2 a3 a4 a5 a6 a7 : Value} {o : Obj} (h : g < w.heap.size ∧ w.cell? ⟨g, 0, none⟩ = some (a0) ∧ w.cell? ⟨g, 1, none⟩ = some (a1) ∧ w.cell? ⟨g, 2, none⟩ = some (a2) ∧ w.cell? ⟨g, 3, none⟩ = some (a3) ∧ w.cell? ⟨g, 4, none⟩ = some (a4) ∧ w.cell? ⟨g, 5, none⟩ = some (a5) ∧ w.cell? ⟨g, 6, none⟩ = some (a6) ∧ w.cell? ⟨g, 7, none⟩ = some (a7)) : g < (w.alloc o).heap.size ∧ (w.alloc o).cell? ⟨g, 0, none⟩ = some (a0) ∧ (w.alloc o).cell? ⟨g, 1, none⟩ = some (a1) ∧ (w.alloc o).cell? ⟨g, 2, none⟩ = some (a2) ∧ (w.alloc o).cell? ⟨g, 3, none⟩ = some (a3) ∧ (w.alloc o).cell? ⟨g, 4, none⟩ = some (a4) ∧ (w.alloc o).cell? ⟨g, 5, none⟩ = some (a5) ∧ (w.alloc o).cell? ⟨g, 6, none⟩ = some (a6) ∧ (w.alloc o).cell? ⟨g, 7, none⟩ = some (a7) := by
  obtain ⟨h0, h1, h2, h3, h4, h5, h6, h7, h8⟩ := h
  refine ⟨by rw [World.size_alloc]; omega, ?_, ?_, ?_, ?_, ?_, ?_, ?_, ?_⟩
  all_goals (rw [World.cell?_alloc_lt w o _ h0]; assumption)
theorem rv_ints {w : World} {g : Nat} (ns : List Nat) {cs : Array Value} (h : Bx w g 3 cs) (hcs : cs.toList = nats ns) : Rv w w.heap.size (some ⟨g, 0, none⟩) (nats ns) := fun j u hu => by
  refine ⟨_, rfl, h.lt, ?_⟩
  have hadd : (⟨g, 0, none⟩ : Addr).add j = ⟨g, j, none⟩ := by unfold Addr.add; split <;> simp_all
  rw [hadd, h.cell, ← Array.getElem?_toList, hcs]
  exact hu
theorem numbers_new (ns : List Nat) (n : Nat) (hn : ns.length = n) (hn6 : n ≤ 6) (hb : ∀ m ∈ ns, m < 9223372036854775808) (cs : Array Value) (hcs : cs.toList = nats ns) (w : World) (g : Nat) (hg : w.heap.size = g) :
    Calls Try.prog 69 #[.slice (some ⟨g, 0, none⟩) n n] (w.alloc (.cells cs 3)).drew fun e w' => ∃ u, e = .returned u ∧ Bs w' u (encs ns) ∧ Below w.heap.size w w' := by
  subst hg
  have hb1 : Bx (w.alloc (.cells cs 3)).drew w.heap.size 3 cs := Bx.new w _ cs
  refine (numbers_any ns n hn hn6 hb _ n _ (rv_ints ns hb1 hcs)).mono ?_
  rintro e w' ⟨u, rfl, h1, h2⟩
  have h3 : Below (w.alloc (.cells cs 3)).heap.size (w.alloc (.cells cs 3)) w' := ⟨h2.os, h2.tape, h2.output, h2.size, h2.block⟩
  exact ⟨u, rfl, h1, on (below_alloc _ _) h3⟩
set_option maxRecDepth 100000 in
set_option maxHeartbeats 800000 in
theorem slotBytes_any (c s b o k v x L cap : Nat) (A : Option Addr) (l : List Int) (w : World) (hL : l.length = L) (_: L ≤ 16) (_ : c < 9223372036854775808) (_ : s < 9223372036854775808) (hb : b < 9223372036854775808) (ho : o < 9223372036854775808) (_ : k < 9223372036854775808) (_ : v < 9223372036854775808) (hx : x < 9223372036854775808) (r : Rn w A l) :
    Calls Try.prog 64 #[.agg #[.int .i64 (c : Nat), .int .i64 (s : Nat), .int .i64 (b : Nat), .int .i64 (o : Nat), .int .i64 (k : Nat), .slice A L cap, .int .i64 (v : Nat), .int .i64 (x : Nat)]] w fun e w' => ∃ u, e = .returned u ∧ Bs w' u (encs [b, o, x]) ∧ Below w.heap.size w w' := by
  obtain ⟨W, hW, BV, HB, hz⟩ := below_new w 91 #[.int .i64 (c : Nat), .int .i64 (s : Nat), .int .i64 (b : Nat), .int .i64 (o : Nat), .int .i64 (k : Nat), .slice A L cap, .int .i64 (v : Nat), .int .i64 (x : Nat)]
  have HW := hid hW
  have HBel := hid HB
  have HV := hid BV
  have HR := hid (r.now HB)
  have HL := hid hL
  have kp : w.heap.size < W.heap.size ∧ W.cell? ⟨w.heap.size, 0, none⟩ = some (.int .i64 (c : Nat)) ∧ W.cell? ⟨w.heap.size, 1, none⟩ = some (.int .i64 (s : Nat)) ∧ W.cell? ⟨w.heap.size, 2, none⟩ = some (.int .i64 (b : Nat)) ∧ W.cell? ⟨w.heap.size, 3, none⟩ = some (.int .i64 (o : Nat)) ∧ W.cell? ⟨w.heap.size, 4, none⟩ = some (.int .i64 (k : Nat)) ∧ W.cell? ⟨w.heap.size, 5, none⟩ = some (.slice A L cap) ∧ W.cell? ⟨w.heap.size, 6, none⟩ = some (.int .i64 (v : Nat)) ∧ W.cell? ⟨w.heap.size, 7, none⟩ = some (.int .i64 (x : Nat)) := ⟨BV.lt, BV.all8⟩
  have HM := hid (show ∀ m ∈ [b, o, x], m < 9223372036854775808 by intro m hm; simp at hm; omega)
  obtain ⟨W2, hW2, BN, HB2, hz2⟩ := below_new W 3 #[.int .i64 (b : Nat), .int .i64 (o : Nat), .int .i64 (x : Nat)]
  have HW2 := hid hW2
  have HN := hid (numbers_any [b, o, x] 3 rfl (by omega) HM.out (some ⟨w.heap.size + 1, 0, none⟩) 3 W2 (by rw [← hz]; exact rv_ints [b, o, x] BN rfl))
  have HV2 := hid (HV.out.next HB2)
  have HR2 := hid (HR.out.now HB2)
  have HBel2 := hid (on HBel.out HB2)
  clear hW2 BN HB2
  clear hW BV HB r hL hb ho hx
  go_enter Try.func64, Try.ntmps64
  go_wp2_with fail
  rw [HW.out, HW2.out]
  refine HN.out.mono ?_
  rintro e w2 ⟨u1, rfl, hu1, hb2⟩
  go_wp2
  go_ret
  exact ⟨_, rfl, hu1, on HBel2.out hb2⟩
set_option maxRecDepth 100000 in
set_option maxHeartbeats 800000 in
theorem blockBytes_any (c s b o k v x L cap : Nat) (A : Option Addr) (l : List Int) (w : World) (hL : l.length = L) (hl : L ≤ 16) (_ : c < 9223372036854775808) (_ : s < 9223372036854775808) (_ : b < 9223372036854775808) (_ : o < 9223372036854775808) (_ : k < 9223372036854775808) (hv : v < 9223372036854775808) (_ : x < 9223372036854775808) (r : Rn w A l) :
    Calls Try.prog 63 #[.agg #[.int .i64 (c : Nat), .int .i64 (s : Nat), .int .i64 (b : Nat), .int .i64 (o : Nat), .int .i64 (k : Nat), .slice A L cap, .int .i64 (v : Nat), .int .i64 (x : Nat)]] w fun e w' => ∃ u, e = .returned u ∧ Bs w' u (encs [v] ++ enc L ++ l) ∧ Below w.heap.size w w' := by
  obtain ⟨W, hW, BV, HB, hz⟩ := below_new w 91 #[.int .i64 (c : Nat), .int .i64 (s : Nat), .int .i64 (b : Nat), .int .i64 (o : Nat), .int .i64 (k : Nat), .slice A L cap, .int .i64 (v : Nat), .int .i64 (x : Nat)]
  have HW := hid hW
  have HBel := hid HB
  have HV := hid BV
  have HR := hid (r.now HB)
  have HL := hid hL
  have kp : w.heap.size < W.heap.size ∧ W.cell? ⟨w.heap.size, 0, none⟩ = some (.int .i64 (c : Nat)) ∧ W.cell? ⟨w.heap.size, 1, none⟩ = some (.int .i64 (s : Nat)) ∧ W.cell? ⟨w.heap.size, 2, none⟩ = some (.int .i64 (b : Nat)) ∧ W.cell? ⟨w.heap.size, 3, none⟩ = some (.int .i64 (o : Nat)) ∧ W.cell? ⟨w.heap.size, 4, none⟩ = some (.int .i64 (k : Nat)) ∧ W.cell? ⟨w.heap.size, 5, none⟩ = some (.slice A L cap) ∧ W.cell? ⟨w.heap.size, 6, none⟩ = some (.int .i64 (v : Nat)) ∧ W.cell? ⟨w.heap.size, 7, none⟩ = some (.int .i64 (x : Nat)) := ⟨BV.lt, BV.all8⟩
  have HM := hid (show ∀ m ∈ [v], m < 9223372036854775808 by intro m hm; simp at hm; omega)
  obtain ⟨W2, hW2, BN, HB2, hz2⟩ := below_new W 3 #[.int .i64 (v : Nat)]
  have HW2 := hid hW2
  have HN := hid (numbers_any [v] 1 rfl (by omega) HM.out (some ⟨w.heap.size + 1, 0, none⟩) 1 W2 (by rw [← hz]; exact rv_ints [v] BN rfl))
  have HV2 := hid (HV.out.next HB2)
  have HR2 := hid (HR.out.now HB2)
  have HBel2 := hid (on HBel.out HB2)
  clear hW2 BN HB2
  clear hW BV HB r hL hv
  go_enter Try.func63, Try.ntmps63
  go_upto_region 1 with fail
  rw [HW.out]
  clear HW HW2 HN HV2 HR2 HBel2
  go_region_held3 (fun w' => w.heap.size < w'.heap.size ∧ w'.cell? ⟨w.heap.size, 0, none⟩ = some (.int .i64 (c : Nat)) ∧ w'.cell? ⟨w.heap.size, 1, none⟩ = some (.int .i64 (s : Nat)) ∧ w'.cell? ⟨w.heap.size, 2, none⟩ = some (.int .i64 (b : Nat)) ∧ w'.cell? ⟨w.heap.size, 3, none⟩ = some (.int .i64 (o : Nat)) ∧ w'.cell? ⟨w.heap.size, 4, none⟩ = some (.int .i64 (k : Nat)) ∧ w'.cell? ⟨w.heap.size, 5, none⟩ = some (.slice A L cap) ∧ w'.cell? ⟨w.heap.size, 6, none⟩ = some (.int .i64 (v : Nat)) ∧ w'.cell? ⟨w.heap.size, 7, none⟩ = some (.int .i64 (x : Nat))) (first | exact kp | (apply keep8; assumption)) (first
    | (go_at_call 69; refine (numbers_new [v] 1 rfl (by omega) HM.out #[.int .i64 (v : Nat)] rfl W (w.heap.size + 1) hz).mono ?_; rintro e w2 ⟨u1, rfl, hu1, hb2⟩; have B2 := hid hb2; clear kp; have kp : w.heap.size < w2.heap.size ∧ w2.cell? ⟨w.heap.size, 0, none⟩ = some (.int .i64 (c : Nat)) ∧ w2.cell? ⟨w.heap.size, 1, none⟩ = some (.int .i64 (s : Nat)) ∧ w2.cell? ⟨w.heap.size, 2, none⟩ = some (.int .i64 (b : Nat)) ∧ w2.cell? ⟨w.heap.size, 3, none⟩ = some (.int .i64 (o : Nat)) ∧ w2.cell? ⟨w.heap.size, 4, none⟩ = some (.int .i64 (k : Nat)) ∧ w2.cell? ⟨w.heap.size, 5, none⟩ = some (.slice A L cap) ∧ w2.cell? ⟨w.heap.size, 6, none⟩ = some (.int .i64 (v : Nat)) ∧ w2.cell? ⟨w.heap.size, 7, none⟩ = some (.int .i64 (x : Nat)) := ⟨Nat.lt_of_lt_of_le HV.out.lt B2.out.size, (HV.out.next B2.out).all8⟩; have HU1 := hid hu1; have HLE := hid (encs_len [v] HM.out); obtain ⟨A1, c1, rfl, r1, h1, h2⟩ := hu1; have R1 := hid r1; clear hb2 h1 h2 r1)
    | (go_at_call 68; refine (puttext_any A1 A _ c1 L cap (encs [v]) l _ _ _ rfl HL.out (by have h9 := HLE.out; simp only [List.length_cons, List.length_nil] at h9; omega) (by omega) R1.out (Nat.le_refl _) (HR.out.now B2.out) (Nat.le_refl _)).mono ?_; rintro e w3 ⟨u, rfl, hown, hb3⟩; have B3 := hid (on B2.out hb3); clear kp; have kp : w.heap.size < w3.heap.size ∧ w3.cell? ⟨w.heap.size, 0, none⟩ = some (.int .i64 (c : Nat)) ∧ w3.cell? ⟨w.heap.size, 1, none⟩ = some (.int .i64 (s : Nat)) ∧ w3.cell? ⟨w.heap.size, 2, none⟩ = some (.int .i64 (b : Nat)) ∧ w3.cell? ⟨w.heap.size, 3, none⟩ = some (.int .i64 (o : Nat)) ∧ w3.cell? ⟨w.heap.size, 4, none⟩ = some (.int .i64 (k : Nat)) ∧ w3.cell? ⟨w.heap.size, 5, none⟩ = some (.slice A L cap) ∧ w3.cell? ⟨w.heap.size, 6, none⟩ = some (.int .i64 (v : Nat)) ∧ w3.cell? ⟨w.heap.size, 7, none⟩ = some (.int .i64 (x : Nat)) := ⟨Nat.lt_of_lt_of_le HV.out.lt B3.out.size, (HV.out.next B3.out).all8⟩; have HU := hid hown.bs; clear hown hb3))
  all_goals
    go_wp2
    go_ret
    exact ⟨_, rfl, HU.out, on HBel.out B3.out⟩
set_option maxRecDepth 100000 in
set_option maxHeartbeats 800000 in
theorem journalBytes_any (c s b o k v x L cap : Nat) (A : Option Addr) (l : List Int) (w : World) (hL : l.length = L) (hl : L ≤ 16) (hc : c < 9223372036854775808) (hs : s < 9223372036854775808) (hb : b < 9223372036854775808) (ho : o < 9223372036854775808) (hk : k < 9223372036854775808) (hv : v < 9223372036854775808) (_ : x < 9223372036854775808) (r : Rn w A l) :
    Calls Try.prog 62 #[.agg #[.int .i64 (c : Nat), .int .i64 (s : Nat), .int .i64 (b : Nat), .int .i64 (o : Nat), .int .i64 (k : Nat), .slice A L cap, .int .i64 (v : Nat), .int .i64 (x : Nat)]] w fun e w' => ∃ u, e = .returned u ∧ Bs w' u (encs [c, s, b, o, k, v] ++ enc L ++ l) ∧ Below w.heap.size w w' := by
  obtain ⟨W, hW, BV, HB, hz⟩ := below_new w 91 #[.int .i64 (c : Nat), .int .i64 (s : Nat), .int .i64 (b : Nat), .int .i64 (o : Nat), .int .i64 (k : Nat), .slice A L cap, .int .i64 (v : Nat), .int .i64 (x : Nat)]
  have HW := hid hW
  have HBel := hid HB
  have HV := hid BV
  have HR := hid (r.now HB)
  have HL := hid hL
  have kp : w.heap.size < W.heap.size ∧ W.cell? ⟨w.heap.size, 0, none⟩ = some (.int .i64 (c : Nat)) ∧ W.cell? ⟨w.heap.size, 1, none⟩ = some (.int .i64 (s : Nat)) ∧ W.cell? ⟨w.heap.size, 2, none⟩ = some (.int .i64 (b : Nat)) ∧ W.cell? ⟨w.heap.size, 3, none⟩ = some (.int .i64 (o : Nat)) ∧ W.cell? ⟨w.heap.size, 4, none⟩ = some (.int .i64 (k : Nat)) ∧ W.cell? ⟨w.heap.size, 5, none⟩ = some (.slice A L cap) ∧ W.cell? ⟨w.heap.size, 6, none⟩ = some (.int .i64 (v : Nat)) ∧ W.cell? ⟨w.heap.size, 7, none⟩ = some (.int .i64 (x : Nat)) := ⟨BV.lt, BV.all8⟩
  have HM := hid (show ∀ m ∈ [c, s, b, o, k, v], m < 9223372036854775808 by intro m hm; simp at hm; omega)
  obtain ⟨W2, hW2, BN, HB2, hz2⟩ := below_new W 3 #[.int .i64 (c : Nat), .int .i64 (s : Nat), .int .i64 (b : Nat), .int .i64 (o : Nat), .int .i64 (k : Nat), .int .i64 (v : Nat)]
  have HW2 := hid hW2
  have HN := hid (numbers_any [c, s, b, o, k, v] 6 rfl (by omega) HM.out (some ⟨w.heap.size + 1, 0, none⟩) 6 W2 (by rw [← hz]; exact rv_ints [c, s, b, o, k, v] BN rfl))
  have HV2 := hid (HV.out.next HB2)
  have HR2 := hid (HR.out.now HB2)
  have HBel2 := hid (on HBel.out HB2)
  clear hW2 BN HB2
  clear hW BV HB r hL hc hs hb ho hk hv
  go_enter Try.func62, Try.ntmps62
  go_upto_region 1 with fail
  rw [HW.out]
  clear HW HW2 HN HV2 HR2 HBel2
  go_region_held3 (fun w' => w.heap.size < w'.heap.size ∧ w'.cell? ⟨w.heap.size, 0, none⟩ = some (.int .i64 (c : Nat)) ∧ w'.cell? ⟨w.heap.size, 1, none⟩ = some (.int .i64 (s : Nat)) ∧ w'.cell? ⟨w.heap.size, 2, none⟩ = some (.int .i64 (b : Nat)) ∧ w'.cell? ⟨w.heap.size, 3, none⟩ = some (.int .i64 (o : Nat)) ∧ w'.cell? ⟨w.heap.size, 4, none⟩ = some (.int .i64 (k : Nat)) ∧ w'.cell? ⟨w.heap.size, 5, none⟩ = some (.slice A L cap) ∧ w'.cell? ⟨w.heap.size, 6, none⟩ = some (.int .i64 (v : Nat)) ∧ w'.cell? ⟨w.heap.size, 7, none⟩ = some (.int .i64 (x : Nat))) (first | exact kp | (apply keep8; assumption)) (first
    | (go_at_call 69; refine (numbers_new [c, s, b, o, k, v] 6 rfl (by omega) HM.out #[.int .i64 (c : Nat), .int .i64 (s : Nat), .int .i64 (b : Nat), .int .i64 (o : Nat), .int .i64 (k : Nat), .int .i64 (v : Nat)] rfl W (w.heap.size + 1) hz).mono ?_; rintro e w2 ⟨u1, rfl, hu1, hb2⟩; have B2 := hid hb2; clear kp; have kp : w.heap.size < w2.heap.size ∧ w2.cell? ⟨w.heap.size, 0, none⟩ = some (.int .i64 (c : Nat)) ∧ w2.cell? ⟨w.heap.size, 1, none⟩ = some (.int .i64 (s : Nat)) ∧ w2.cell? ⟨w.heap.size, 2, none⟩ = some (.int .i64 (b : Nat)) ∧ w2.cell? ⟨w.heap.size, 3, none⟩ = some (.int .i64 (o : Nat)) ∧ w2.cell? ⟨w.heap.size, 4, none⟩ = some (.int .i64 (k : Nat)) ∧ w2.cell? ⟨w.heap.size, 5, none⟩ = some (.slice A L cap) ∧ w2.cell? ⟨w.heap.size, 6, none⟩ = some (.int .i64 (v : Nat)) ∧ w2.cell? ⟨w.heap.size, 7, none⟩ = some (.int .i64 (x : Nat)) := ⟨Nat.lt_of_lt_of_le HV.out.lt B2.out.size, (HV.out.next B2.out).all8⟩; have HU1 := hid hu1; have HLE := hid (encs_len [c, s, b, o, k, v] HM.out); obtain ⟨A1, c1, rfl, r1, h1, h2⟩ := hu1; have R1 := hid r1; clear hb2 h1 h2 r1)
    | (go_at_call 68; refine (puttext_any A1 A _ c1 L cap (encs [c, s, b, o, k, v]) l _ _ _ rfl HL.out (by have h9 := HLE.out; simp only [List.length_cons, List.length_nil] at h9; omega) (by omega) R1.out (Nat.le_refl _) (HR.out.now B2.out) (Nat.le_refl _)).mono ?_; rintro e w3 ⟨u, rfl, hown, hb3⟩; have B3 := hid (on B2.out hb3); clear kp; have kp : w.heap.size < w3.heap.size ∧ w3.cell? ⟨w.heap.size, 0, none⟩ = some (.int .i64 (c : Nat)) ∧ w3.cell? ⟨w.heap.size, 1, none⟩ = some (.int .i64 (s : Nat)) ∧ w3.cell? ⟨w.heap.size, 2, none⟩ = some (.int .i64 (b : Nat)) ∧ w3.cell? ⟨w.heap.size, 3, none⟩ = some (.int .i64 (o : Nat)) ∧ w3.cell? ⟨w.heap.size, 4, none⟩ = some (.int .i64 (k : Nat)) ∧ w3.cell? ⟨w.heap.size, 5, none⟩ = some (.slice A L cap) ∧ w3.cell? ⟨w.heap.size, 6, none⟩ = some (.int .i64 (v : Nat)) ∧ w3.cell? ⟨w.heap.size, 7, none⟩ = some (.int .i64 (x : Nat)) := ⟨Nat.lt_of_lt_of_le HV.out.lt B3.out.size, (HV.out.next B3.out).all8⟩; have HU := hid hown.bs; clear hown hb3))
  all_goals
    go_wp2
    go_ret
    exact ⟨_, rfl, HU.out, on HBel.out B3.out⟩
end Go.Proofs.Ytincndblpbdnlaa
