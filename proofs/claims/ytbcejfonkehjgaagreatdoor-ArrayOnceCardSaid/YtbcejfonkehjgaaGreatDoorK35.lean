/-
  What is proved: what store's entries put to sectors: numbers, and a text behind them. Conditions: the numbers are below 2^63; the text is no longer than a million.
-/
import Derived.Test.YtbcejfonkehjgaaGreatDoorK29
import Derived.Test.YtbcejfonkehjgaaGreatDoorK34
import Derived.Deep.RegionHeld3
namespace Go.Proofs.YtbcejfonkehjgaaGreatDoor
open Go.RowKit

theorem encs_take (ns : List Nat) (k : Nat) (h : k < ns.length) : encs (ns.take (k + 1)) = encs (ns.take k) ++ enc ns[k] := by
  rw [List.take_add_one, encs_append, List.getElem?_eq_getElem h]
  simp [encs]
theorem encs_len (ns : List Nat) (hb : ∀ m ∈ ns, m < 9223372036854775808) : (encs ns).length ≤ 9 * ns.length := by
  induction ns with
  | nil => simp [encs]
  | cons m r ih =>
    have h1 := enc_len9 m (hb m (by simp))
    have h2 := ih (fun x hx => hb x (by simp [hx]))
    simp only [encs, List.length_append, List.length_cons]
    omega
def nats6 (ns : List Nat) : List Value := ns.map fun (m : Nat) => Value.int .i64 m

set_option maxRecDepth 100000 in
set_option maxHeartbeats 800000 in
theorem numbers_any (ns : List Nat) (n : Nat) (hn : ns.length = n) (hn6 : n ≤ 6) (hb : ∀ m ∈ ns, m < 9223372036854775808) (A : Option Addr) (c : Nat) (w : World) (hr : Rv w w.heap.size A (nats6 ns)) :
    Calls Tryz.prog 149 #[.slice A n c] w fun e w' => ∃ u, e = .returned u ∧ Bs w' u (encs ns) ∧ Below w.heap.size w w' := by
  have HN := hid hn
  have HB := hid hb
  have HR := hid hr
  clear hn hb hr
  go_enter Tryz.func149, Tryz.ntmps149
  go_wp2
  go_loopw [3, 8] (fun v i wr => ∃ k : Nat, i = .int .i64 k ∧ k ≤ n ∧ Hid (Bs wr v (encs (ns.take k))) ∧ Hid (Below w.heap.size w wr)) (fun _ i _ => n - (intOf i).toNat)
  case atStart => exact ⟨0, by rfl, by omega, bs_nil _, Below.refl _ _⟩
  case round =>
    obtain ⟨k, rfl, hk, hv, hbel⟩ := hrel
    by_cases hlt : k < n
    · have hlt' : (k : Int) < (n : Int) := by omega
      have hkp : k < ns.length := by rw [HN.out]; exact hlt
      obtain ⟨ad, rfl, hbl, hc⟩ := (HR.out.below hbel.out (Nat.le_refl _)) k (.int .i64 (ns[k] : Nat)) (by unfold nats6; rw [List.getElem?_map, List.getElem?_eq_getElem hkp]; rfl)
      have HT := hid (encs_take ns k hkp)
      have hm := HB.out ns[k] (List.getElem_mem hkp)
      generalize ns[k] = m at *
      obtain ⟨A2, c2, rfl, r2, h2⟩ := hv.out
      have hlen : (encs (ns.take k)).length ≤ 9 * 6 := Nat.le_trans (encs_len _ (fun x hx => HB.out x (List.mem_of_mem_take hx))) (by rw [List.length_take]; omega)
      have HR2 := hid r2
      clear hbl r2 h2
      generalize hll : encs (ns.take k) = ll at *
      obtain ⟨L, hL⟩ : ∃ L, ll.length = L := ⟨_, rfl⟩
      have HL := hid hL
      rw [hL] at hlen ⊢
      clear hL hll hkp
      go_wp2_with (go_at_call 160; refine (put_any A2 L c2 m ll wr _ HL.out (by omega) (by omega) HR2.out (Nat.le_refl _)).mono ?_; rintro e w1 ⟨v', rfl, hown, hb1⟩; have HV1 := hid hown.bs; have HB1 := hid (on hbel.out hb1); clear hown hb1)
      go_roundw
      case rel => exact ⟨k + 1, by go_num, by omega, hid (by rw [HT.out]; have := HV1.out; rw [Int.toNat_natCast] at this; exact this), HB1⟩
      case measure => simp [intOf]; omega
    · have hkn : k = n := by omega
      subst hkn
      have HV := hid (show Bs wr _ (encs ns) from by have := hv.out; rw [← HN.out, List.take_length] at this; exact this)
      go_wp2
      go_ret
      exact ⟨_, rfl, HV.out, hbel.out⟩
end Go.Proofs.YtbcejfonkehjgaaGreatDoor
namespace Go.Proofs.YtbcejfonkehjgaaGreatDoor
open Go.RowKit

theorem keep8 {w : World} {g : Nat} {a0 a1 a2 a3 a4 a5 a6 a7 : Value} {o : Obj} (h : g < w.heap.size ∧ w.cell? ⟨g, 0, none⟩ = some (a0) ∧ w.cell? ⟨g, 1, none⟩ = some (a1) ∧ w.cell? ⟨g, 2, none⟩ = some (a2) ∧ w.cell? ⟨g, 3, none⟩ = some (a3) ∧ w.cell? ⟨g, 4, none⟩ = some (a4) ∧ w.cell? ⟨g, 5, none⟩ = some (a5) ∧ w.cell? ⟨g, 6, none⟩ = some (a6) ∧ w.cell? ⟨g, 7, none⟩ = some (a7)) : g < (w.alloc o).heap.size ∧ (w.alloc o).cell? ⟨g, 0, none⟩ = some (a0) ∧ (w.alloc o).cell? ⟨g, 1, none⟩ = some (a1) ∧ (w.alloc o).cell? ⟨g, 2, none⟩ = some (a2) ∧ (w.alloc o).cell? ⟨g, 3, none⟩ = some (a3) ∧ (w.alloc o).cell? ⟨g, 4, none⟩ = some (a4) ∧ (w.alloc o).cell? ⟨g, 5, none⟩ = some (a5) ∧ (w.alloc o).cell? ⟨g, 6, none⟩ = some (a6) ∧ (w.alloc o).cell? ⟨g, 7, none⟩ = some (a7) := by
  obtain ⟨h0, h1, h2, h3, h4, h5, h6, h7, h8⟩ := h
  refine ⟨by rw [World.size_alloc]; omega, ?_, ?_, ?_, ?_, ?_, ?_, ?_, ?_⟩
  all_goals (rw [World.cell?_alloc_lt w o _ h0]; assumption)
theorem rv_ints {w : World} {g : Nat} (ns : List Nat) {cs : Array Value} (h : Bx w g 3 cs) (hcs : cs.toList = nats6 ns) : Rv w w.heap.size (some ⟨g, 0, none⟩) (nats6 ns) := fun j u hu => by
  refine ⟨_, rfl, h.lt, ?_⟩
  have hadd : (⟨g, 0, none⟩ : Addr).add j = ⟨g, j, none⟩ := by unfold Addr.add; split <;> simp_all
  rw [hadd, h.cell, ← Array.getElem?_toList, hcs]
  exact hu
theorem numbers_new (ns : List Nat) (n : Nat) (hn : ns.length = n) (hn6 : n ≤ 6) (hb : ∀ m ∈ ns, m < 9223372036854775808) (cs : Array Value) (hcs : cs.toList = nats6 ns) (w : World) (g : Nat) (hg : w.heap.size = g) :
    Calls Tryz.prog 149 #[.slice (some ⟨g, 0, none⟩) n n] (w.alloc (.cells cs 3)).drew fun e w' => ∃ u, e = .returned u ∧ Bs w' u (encs ns) ∧ Below w.heap.size w w' := by
  subst hg
  have hb1 : Bx (w.alloc (.cells cs 3)).drew w.heap.size 3 cs := Bx.new w _ cs
  refine (numbers_any ns n hn hn6 hb _ n _ (rv_ints ns hb1 hcs)).mono ?_
  rintro e w' ⟨u, rfl, h1, h2⟩
  have h3 : Below (w.alloc (.cells cs 3)).heap.size (w.alloc (.cells cs 3)) w' := ⟨h2.os, h2.tape, h2.output, h2.size, h2.block⟩
  exact ⟨u, rfl, h1, on (below_alloc _ _) h3⟩
set_option maxRecDepth 100000 in
set_option maxHeartbeats 800000 in
theorem slotBytes_any (c s b o k v x L cap : Nat) (A : Option Addr) (l : List Int) (w : World) (hL : l.length = L) (_: L ≤ 16) (_ : c < 9223372036854775808) (_ : s < 9223372036854775808) (hb : b < 9223372036854775808) (ho : o < 9223372036854775808) (_ : k < 9223372036854775808) (_ : v < 9223372036854775808) (hx : x < 9223372036854775808) (r : Rn w A l) :
    Calls Tryz.prog 118 #[.agg #[.int .i64 (c : Nat), .int .i64 (s : Nat), .int .i64 (b : Nat), .int .i64 (o : Nat), .int .i64 (k : Nat), .slice A L cap, .int .i64 (v : Nat), .int .i64 (x : Nat)]] w fun e w' => ∃ u, e = .returned u ∧ Bs w' u (encs [b, o, x]) ∧ Below w.heap.size w w' := by
  obtain ⟨W, hW, BV, HB, hz⟩ := below_new w 167 #[.int .i64 (c : Nat), .int .i64 (s : Nat), .int .i64 (b : Nat), .int .i64 (o : Nat), .int .i64 (k : Nat), .slice A L cap, .int .i64 (v : Nat), .int .i64 (x : Nat)]
  have HW := hid hW
  have HBel := hid HB
  have HV := hid BV
  have HR := hid (r.now HB)
  have HL := hid hL
  have kp : w.heap.size < W.heap.size ∧ W.cell? ⟨w.heap.size, 0, none⟩ = some (.int .i64 (c : Nat)) ∧ W.cell? ⟨w.heap.size, 1, none⟩ = some (.int .i64 (s : Nat)) ∧ W.cell? ⟨w.heap.size, 2, none⟩ = some (.int .i64 (b : Nat)) ∧ W.cell? ⟨w.heap.size, 3, none⟩ = some (.int .i64 (o : Nat)) ∧ W.cell? ⟨w.heap.size, 4, none⟩ = some (.int .i64 (k : Nat)) ∧ W.cell? ⟨w.heap.size, 5, none⟩ = some (.slice A L cap) ∧ W.cell? ⟨w.heap.size, 6, none⟩ = some (.int .i64 (v : Nat)) ∧ W.cell? ⟨w.heap.size, 7, none⟩ = some (.int .i64 (x : Nat)) := ⟨BV.lt, BV.all8⟩
  have HM := hid (show ∀ m ∈ [b, o, x], m < 9223372036854775808 by intro m hm; simp at hm; omega)
  obtain ⟨W2, hW2, BN, HB2, hz2⟩ := below_new W 3 #[.int .i64 (b : Nat), .int .i64 (o : Nat), .int .i64 (x : Nat)]
  have HW2 := hid hW2
  have HN := hid (numbers_any [b, o, x] 3 rfl (by omega) HM.out (some ⟨w.heap.size + 1, 0, none⟩) 3 W2 (by rw [← hz]; exact rv_ints [b, o, x] BN rfl))
  have HV2 := hid (HV.out.next HB2)
  have HR2 := hid (HR.out.now HB2)
  have HBel2 := hid (on HBel.out HB2)
  clear hW2 BN HB2
  clear hW BV HB r hL hb ho hx
  go_enter Tryz.func118, Tryz.ntmps118
  go_wp2_with fail
  rw [HW.out, HW2.out]
  refine HN.out.mono ?_
  rintro e w2 ⟨u1, rfl, hu1, hb2⟩
  go_wp2
  go_ret
  exact ⟨_, rfl, hu1, on HBel2.out hb2⟩
set_option maxRecDepth 100000 in
set_option maxHeartbeats 800000 in
theorem blockBytes_any (c s b o k v x L cap : Nat) (A : Option Addr) (l : List Int) (w : World) (hL : l.length = L) (hl : L ≤ 16) (_ : c < 9223372036854775808) (_ : s < 9223372036854775808) (_ : b < 9223372036854775808) (_ : o < 9223372036854775808) (_ : k < 9223372036854775808) (hv : v < 9223372036854775808) (_ : x < 9223372036854775808) (r : Rn w A l) :
    Calls Tryz.prog 117 #[.agg #[.int .i64 (c : Nat), .int .i64 (s : Nat), .int .i64 (b : Nat), .int .i64 (o : Nat), .int .i64 (k : Nat), .slice A L cap, .int .i64 (v : Nat), .int .i64 (x : Nat)]] w fun e w' => ∃ u, e = .returned u ∧ Bs w' u (encs [v] ++ enc L ++ l) ∧ Below w.heap.size w w' := by
  obtain ⟨W, hW, BV, HB, hz⟩ := below_new w 167 #[.int .i64 (c : Nat), .int .i64 (s : Nat), .int .i64 (b : Nat), .int .i64 (o : Nat), .int .i64 (k : Nat), .slice A L cap, .int .i64 (v : Nat), .int .i64 (x : Nat)]
  have HW := hid hW
  have HBel := hid HB
  have HV := hid BV
  have HR := hid (r.now HB)
  have HL := hid hL
  have kp : w.heap.size < W.heap.size ∧ W.cell? ⟨w.heap.size, 0, none⟩ = some (.int .i64 (c : Nat)) ∧ W.cell? ⟨w.heap.size, 1, none⟩ = some (.int .i64 (s : Nat)) ∧ W.cell? ⟨w.heap.size, 2, none⟩ = some (.int .i64 (b : Nat)) ∧ W.cell? ⟨w.heap.size, 3, none⟩ = some (.int .i64 (o : Nat)) ∧ W.cell? ⟨w.heap.size, 4, none⟩ = some (.int .i64 (k : Nat)) ∧ W.cell? ⟨w.heap.size, 5, none⟩ = some (.slice A L cap) ∧ W.cell? ⟨w.heap.size, 6, none⟩ = some (.int .i64 (v : Nat)) ∧ W.cell? ⟨w.heap.size, 7, none⟩ = some (.int .i64 (x : Nat)) := ⟨BV.lt, BV.all8⟩
  have HM := hid (show ∀ m ∈ [v], m < 9223372036854775808 by intro m hm; simp at hm; omega)
  obtain ⟨W2, hW2, BN, HB2, hz2⟩ := below_new W 3 #[.int .i64 (v : Nat)]
  have HW2 := hid hW2
  have HN := hid (numbers_any [v] 1 rfl (by omega) HM.out (some ⟨w.heap.size + 1, 0, none⟩) 1 W2 (by rw [← hz]; exact rv_ints [v] BN rfl))
  have HV2 := hid (HV.out.next HB2)
  have HR2 := hid (HR.out.now HB2)
  have HBel2 := hid (on HBel.out HB2)
  clear hW2 BN HB2
  clear hW BV HB r hL hv
  go_enter Tryz.func117, Tryz.ntmps117
  go_upto_region 1 with fail
  rw [HW.out]
  clear HW HW2 HN HV2 HR2 HBel2
  go_region_held3 (fun w' => w.heap.size < w'.heap.size ∧ w'.cell? ⟨w.heap.size, 0, none⟩ = some (.int .i64 (c : Nat)) ∧ w'.cell? ⟨w.heap.size, 1, none⟩ = some (.int .i64 (s : Nat)) ∧ w'.cell? ⟨w.heap.size, 2, none⟩ = some (.int .i64 (b : Nat)) ∧ w'.cell? ⟨w.heap.size, 3, none⟩ = some (.int .i64 (o : Nat)) ∧ w'.cell? ⟨w.heap.size, 4, none⟩ = some (.int .i64 (k : Nat)) ∧ w'.cell? ⟨w.heap.size, 5, none⟩ = some (.slice A L cap) ∧ w'.cell? ⟨w.heap.size, 6, none⟩ = some (.int .i64 (v : Nat)) ∧ w'.cell? ⟨w.heap.size, 7, none⟩ = some (.int .i64 (x : Nat))) (first | exact kp | (apply keep8; assumption)) (first
    | (go_at_call 149; refine (numbers_new [v] 1 rfl (by omega) HM.out #[.int .i64 (v : Nat)] rfl W (w.heap.size + 1) hz).mono ?_; rintro e w2 ⟨u1, rfl, hu1, hb2⟩; have B2 := hid hb2; clear kp; have kp : w.heap.size < w2.heap.size ∧ w2.cell? ⟨w.heap.size, 0, none⟩ = some (.int .i64 (c : Nat)) ∧ w2.cell? ⟨w.heap.size, 1, none⟩ = some (.int .i64 (s : Nat)) ∧ w2.cell? ⟨w.heap.size, 2, none⟩ = some (.int .i64 (b : Nat)) ∧ w2.cell? ⟨w.heap.size, 3, none⟩ = some (.int .i64 (o : Nat)) ∧ w2.cell? ⟨w.heap.size, 4, none⟩ = some (.int .i64 (k : Nat)) ∧ w2.cell? ⟨w.heap.size, 5, none⟩ = some (.slice A L cap) ∧ w2.cell? ⟨w.heap.size, 6, none⟩ = some (.int .i64 (v : Nat)) ∧ w2.cell? ⟨w.heap.size, 7, none⟩ = some (.int .i64 (x : Nat)) := ⟨Nat.lt_of_lt_of_le HV.out.lt B2.out.size, (HV.out.next B2.out).all8⟩; have HU1 := hid hu1; have HLE := hid (encs_len [v] HM.out); obtain ⟨A1, c1, rfl, r1, h1, h2⟩ := hu1; have R1 := hid r1; clear hb2 h1 h2 r1)
    | (go_at_call 148; refine (puttext_any A1 A _ c1 L cap (encs [v]) l _ _ _ rfl HL.out (by have h9 := HLE.out; simp only [List.length_cons, List.length_nil] at h9; omega) (by omega) R1.out (Nat.le_refl _) (HR.out.now B2.out) (Nat.le_refl _)).mono ?_; rintro e w3 ⟨u, rfl, hown, hb3⟩; have B3 := hid (on B2.out hb3); clear kp; have kp : w.heap.size < w3.heap.size ∧ w3.cell? ⟨w.heap.size, 0, none⟩ = some (.int .i64 (c : Nat)) ∧ w3.cell? ⟨w.heap.size, 1, none⟩ = some (.int .i64 (s : Nat)) ∧ w3.cell? ⟨w.heap.size, 2, none⟩ = some (.int .i64 (b : Nat)) ∧ w3.cell? ⟨w.heap.size, 3, none⟩ = some (.int .i64 (o : Nat)) ∧ w3.cell? ⟨w.heap.size, 4, none⟩ = some (.int .i64 (k : Nat)) ∧ w3.cell? ⟨w.heap.size, 5, none⟩ = some (.slice A L cap) ∧ w3.cell? ⟨w.heap.size, 6, none⟩ = some (.int .i64 (v : Nat)) ∧ w3.cell? ⟨w.heap.size, 7, none⟩ = some (.int .i64 (x : Nat)) := ⟨Nat.lt_of_lt_of_le HV.out.lt B3.out.size, (HV.out.next B3.out).all8⟩; have HU := hid hown.bs; clear hown hb3))
  all_goals
    go_wp2
    go_ret
    exact ⟨_, rfl, HU.out, on HBel.out B3.out⟩
set_option maxRecDepth 100000 in
set_option maxHeartbeats 800000 in
theorem journalBytes_any (c s b o k v x L cap : Nat) (A : Option Addr) (l : List Int) (w : World) (hL : l.length = L) (hl : L ≤ 16) (hc : c < 9223372036854775808) (hs : s < 9223372036854775808) (hb : b < 9223372036854775808) (ho : o < 9223372036854775808) (hk : k < 9223372036854775808) (hv : v < 9223372036854775808) (_ : x < 9223372036854775808) (r : Rn w A l) :
    Calls Tryz.prog 116 #[.agg #[.int .i64 (c : Nat), .int .i64 (s : Nat), .int .i64 (b : Nat), .int .i64 (o : Nat), .int .i64 (k : Nat), .slice A L cap, .int .i64 (v : Nat), .int .i64 (x : Nat)]] w fun e w' => ∃ u, e = .returned u ∧ Bs w' u (encs [c, s, b, o, k, v] ++ enc L ++ l) ∧ Below w.heap.size w w' := by
  obtain ⟨W, hW, BV, HB, hz⟩ := below_new w 167 #[.int .i64 (c : Nat), .int .i64 (s : Nat), .int .i64 (b : Nat), .int .i64 (o : Nat), .int .i64 (k : Nat), .slice A L cap, .int .i64 (v : Nat), .int .i64 (x : Nat)]
  have HW := hid hW
  have HBel := hid HB
  have HV := hid BV
  have HR := hid (r.now HB)
  have HL := hid hL
  have kp : w.heap.size < W.heap.size ∧ W.cell? ⟨w.heap.size, 0, none⟩ = some (.int .i64 (c : Nat)) ∧ W.cell? ⟨w.heap.size, 1, none⟩ = some (.int .i64 (s : Nat)) ∧ W.cell? ⟨w.heap.size, 2, none⟩ = some (.int .i64 (b : Nat)) ∧ W.cell? ⟨w.heap.size, 3, none⟩ = some (.int .i64 (o : Nat)) ∧ W.cell? ⟨w.heap.size, 4, none⟩ = some (.int .i64 (k : Nat)) ∧ W.cell? ⟨w.heap.size, 5, none⟩ = some (.slice A L cap) ∧ W.cell? ⟨w.heap.size, 6, none⟩ = some (.int .i64 (v : Nat)) ∧ W.cell? ⟨w.heap.size, 7, none⟩ = some (.int .i64 (x : Nat)) := ⟨BV.lt, BV.all8⟩
  have HM := hid (show ∀ m ∈ [c, s, b, o, k, v], m < 9223372036854775808 by intro m hm; simp at hm; omega)
  obtain ⟨W2, hW2, BN, HB2, hz2⟩ := below_new W 3 #[.int .i64 (c : Nat), .int .i64 (s : Nat), .int .i64 (b : Nat), .int .i64 (o : Nat), .int .i64 (k : Nat), .int .i64 (v : Nat)]
  have HW2 := hid hW2
  have HN := hid (numbers_any [c, s, b, o, k, v] 6 rfl (by omega) HM.out (some ⟨w.heap.size + 1, 0, none⟩) 6 W2 (by rw [← hz]; exact rv_ints [c, s, b, o, k, v] BN rfl))
  have HV2 := hid (HV.out.next HB2)
  have HR2 := hid (HR.out.now HB2)
  have HBel2 := hid (on HBel.out HB2)
  clear hW2 BN HB2
  clear hW BV HB r hL hc hs hb ho hk hv
  go_enter Tryz.func116, Tryz.ntmps116
  go_upto_region 1 with fail
  rw [HW.out]
  clear HW HW2 HN HV2 HR2 HBel2
  go_region_held3 (fun w' => w.heap.size < w'.heap.size ∧ w'.cell? ⟨w.heap.size, 0, none⟩ = some (.int .i64 (c : Nat)) ∧ w'.cell? ⟨w.heap.size, 1, none⟩ = some (.int .i64 (s : Nat)) ∧ w'.cell? ⟨w.heap.size, 2, none⟩ = some (.int .i64 (b : Nat)) ∧ w'.cell? ⟨w.heap.size, 3, none⟩ = some (.int .i64 (o : Nat)) ∧ w'.cell? ⟨w.heap.size, 4, none⟩ = some (.int .i64 (k : Nat)) ∧ w'.cell? ⟨w.heap.size, 5, none⟩ = some (.slice A L cap) ∧ w'.cell? ⟨w.heap.size, 6, none⟩ = some (.int .i64 (v : Nat)) ∧ w'.cell? ⟨w.heap.size, 7, none⟩ = some (.int .i64 (x : Nat))) (first | exact kp | (apply keep8; assumption)) (first
    | (go_at_call 149; refine (numbers_new [c, s, b, o, k, v] 6 rfl (by omega) HM.out #[.int .i64 (c : Nat), .int .i64 (s : Nat), .int .i64 (b : Nat), .int .i64 (o : Nat), .int .i64 (k : Nat), .int .i64 (v : Nat)] rfl W (w.heap.size + 1) hz).mono ?_; rintro e w2 ⟨u1, rfl, hu1, hb2⟩; have B2 := hid hb2; clear kp; have kp : w.heap.size < w2.heap.size ∧ w2.cell? ⟨w.heap.size, 0, none⟩ = some (.int .i64 (c : Nat)) ∧ w2.cell? ⟨w.heap.size, 1, none⟩ = some (.int .i64 (s : Nat)) ∧ w2.cell? ⟨w.heap.size, 2, none⟩ = some (.int .i64 (b : Nat)) ∧ w2.cell? ⟨w.heap.size, 3, none⟩ = some (.int .i64 (o : Nat)) ∧ w2.cell? ⟨w.heap.size, 4, none⟩ = some (.int .i64 (k : Nat)) ∧ w2.cell? ⟨w.heap.size, 5, none⟩ = some (.slice A L cap) ∧ w2.cell? ⟨w.heap.size, 6, none⟩ = some (.int .i64 (v : Nat)) ∧ w2.cell? ⟨w.heap.size, 7, none⟩ = some (.int .i64 (x : Nat)) := ⟨Nat.lt_of_lt_of_le HV.out.lt B2.out.size, (HV.out.next B2.out).all8⟩; have HU1 := hid hu1; have HLE := hid (encs_len [c, s, b, o, k, v] HM.out); obtain ⟨A1, c1, rfl, r1, h1, h2⟩ := hu1; have R1 := hid r1; clear hb2 h1 h2 r1)
    | (go_at_call 148; refine (puttext_any A1 A _ c1 L cap (encs [c, s, b, o, k, v]) l _ _ _ rfl HL.out (by have h9 := HLE.out; simp only [List.length_cons, List.length_nil] at h9; omega) (by omega) R1.out (Nat.le_refl _) (HR.out.now B2.out) (Nat.le_refl _)).mono ?_; rintro e w3 ⟨u, rfl, hown, hb3⟩; have B3 := hid (on B2.out hb3); clear kp; have kp : w.heap.size < w3.heap.size ∧ w3.cell? ⟨w.heap.size, 0, none⟩ = some (.int .i64 (c : Nat)) ∧ w3.cell? ⟨w.heap.size, 1, none⟩ = some (.int .i64 (s : Nat)) ∧ w3.cell? ⟨w.heap.size, 2, none⟩ = some (.int .i64 (b : Nat)) ∧ w3.cell? ⟨w.heap.size, 3, none⟩ = some (.int .i64 (o : Nat)) ∧ w3.cell? ⟨w.heap.size, 4, none⟩ = some (.int .i64 (k : Nat)) ∧ w3.cell? ⟨w.heap.size, 5, none⟩ = some (.slice A L cap) ∧ w3.cell? ⟨w.heap.size, 6, none⟩ = some (.int .i64 (v : Nat)) ∧ w3.cell? ⟨w.heap.size, 7, none⟩ = some (.int .i64 (x : Nat)) := ⟨Nat.lt_of_lt_of_le HV.out.lt B3.out.size, (HV.out.next B3.out).all8⟩; have HU := hid hown.bs; clear hown hb3))
  all_goals
    go_wp2
    go_ret
    exact ⟨_, rfl, HU.out, on HBel.out B3.out⟩
end Go.Proofs.YtbcejfonkehjgaaGreatDoor
namespace Go.Proofs.YtbcejfonkehjgaaGreatDoor
open Go.RowKit

def pgs (c s b o k v x : Nat) (l : List Int) : Nat → List Int
  | 0 => encs [c, s, b, o, k, v] ++ enc l.length ++ l
  | 1 => encs [v] ++ enc l.length ++ l
  | 2 => encs [b, o, x]
  | _ => []
def Wtr (w : World) (ks t2 g : Nat) (a1 a2 : Nat) (f : Nat → List Int) : Prop :=
  Bx w t2 69 #[.pointer (some ⟨ks, 0, none⟩)] ∧ ∃ u0 u1 u2, Bx w g 207 #[.int .i64 0, u0, .int .i64 a1, u1, .int .i64 a2, u2, .int .i64 0, .slice none 0 0] ∧ Bs w u0 (f 0) ∧ Bs w u1 (f 1) ∧ Bs w u2 (f 2)

theorem Bs.form {w : World} {u : Value} {l : List Int} (h : Bs w u l) : ∃ A n q, u = .slice A n q := by obtain ⟨A, c, e, _⟩ := h; exact ⟨A, _, c, e⟩
theorem below_new' (w : World) (t : TypeId) (cs : Array Value) : ∃ W, w.alloc (.cells cs t) = W ∧ Bx W w.heap.size t cs ∧ Below w.heap.size w W ∧ W.heap.size = w.heap.size + 1 := below_new w t cs
theorem yieldsIf_bx {P : Program} {ops : Array Oper} {S : World → Prop} {o : Oper} {a : Act} (hw : Region.wanted o (yielded ops a.tmps) = true) (ty : TypeId) (p : Operand) (ho : o.op = .load ty p) (g : Nat) (t : TypeId) (cs : Array Value) (d : TypeDesc) (hp : a.eval p = .pointer (some ⟨g, 0, none⟩))
    (hb : ∀ w, S w → Bx w g t cs) (hu : P.underlying ty = some d) (hd : (match d with | .struct _ | .array _ _ => true | _ => false) = true) (hi : (P.info? ty).map (·.size) = some cs.size) : YieldsIf P ops S o (.agg cs) a :=
  .inl ⟨hw, fun w hS => by
    unfold execOp
    simp only [ho, hp, run_loadAt_bx (P := P) (hb w hS) hu hd hi, Sem.run_bind, Sem.run_pure, Result.andThen_ok]⟩
theorem below_rowNew {w : World} {g B : Nat} (cs' : Array Value) (hB : B ≤ g) : Below B w (w.setRow g cs') :=
  ⟨rfl, rfl, rfl, by rw [setRow_size]; exact Nat.le_refl _, fun j hj => setRow_other w g j cs' (by omega)⟩
theorem Stay.row {w : World} {g : Nat} {t : TypeId} {cs cs' : Array Value} (h : Bx w g t cs) (hc : ∀ x, Value.int .u8 x ∉ cs.toList) : Stay w (w.setRow g cs') := fun p x e => by
  by_cases hg : p.block = g
  · have hgt := h
    unfold Bx at hgt
    subst hg
    exfalso
    obtain ⟨b, o, q⟩ := p
    cases q with
    | none =>
      have h2 : w.cell? ⟨b, o, none⟩ = cs[o]? := h.cell o
      rw [h2] at e
      exact hc x (by rw [Array.mem_toList_iff]; exact Array.mem_of_getElem? e)
    | some q => simp [World.cell?, hgt] at e
  · simp only [World.cell?] at e ⊢
    rw [setRow_other w g p.block cs' hg]
    exact e
theorem wtr_end {W y : World} {k t2 g : Nat} {u0 u1 u2 : Value} {a1 a2 : Int} {f0 f1 f2 : List Int} (hB : Below W.heap.size W y) (hT : ∀ y, Below W.heap.size W y → Bx y t2 69 #[.pointer (some ⟨k, 0, none⟩)]) (hG : Bx y g 207 #[.int .i64 0, .slice none 0 0, .int .i64 0, .slice none 0 0, .int .i64 0, .slice none 0 0, .int .i64 0, .slice none 0 0]) (hg : W.heap.size ≤ g) (h0 : Bs y u0 f0) (h1 : Bs y u1 f1) (h2 : Bs y u2 f2) :
    (∀ (f : Nat → List Int) (m1 m2 : Nat), f 0 = f0 → f 1 = f1 → f 2 = f2 → a1 = m1 → a2 = m2 → Wtr (y.setRow g #[.int .i64 0, u0, .int .i64 a1, u1, .int .i64 a2, u2, .int .i64 0, .slice none 0 0]) k t2 g m1 m2 f) ∧ Below W.heap.size W (y.setRow g #[.int .i64 0, u0, .int .i64 a1, u1, .int .i64 a2, u2, .int .i64 0, .slice none 0 0]) := by
  have hb := hB.trans (below_rowNew (w := y) #[.int .i64 0, u0, .int .i64 a1, u1, .int .i64 a2, u2, .int .i64 0, .slice none 0 0] hg)
  have st : Stay y (y.setRow g #[.int .i64 0, u0, .int .i64 a1, u1, .int .i64 a2, u2, .int .i64 0, .slice none 0 0]) := Stay.row hG (by intro x hx; simp at hx)
  refine ⟨fun f m1 m2 e0 e1 e2 e3 e4 => ⟨hT _ hb, u0, u1, u2, by rw [← e3, ← e4]; exact hG.row, ?_, ?_, ?_⟩, hb⟩
  · rw [e0]; exact h0.stay st (by rw [setRow_size]; exact Nat.le_refl _)
  · rw [e1]; exact h1.stay st (by rw [setRow_size]; exact Nat.le_refl _)
  · rw [e2]; exact h2.stay st (by rw [setRow_size]; exact Nat.le_refl _)

section
variable {w : World} {bb kd ks : Nat} {vv : Value} {st : St} {sh : Sh}
set_option maxRecDepth 100000 in
set_option maxHeartbeats 3200000 in
theorem writer_any (h : Sx w bb kd ks vv st sh) (c s b o k v x L cap : Nat) (A : Option Addr) (l : List Int) (hL : l.length = L) (hl : L ≤ 16) (hc : c < 9223372036854775808) (hs : s < 9223372036854775808) (hb : b < 9223372036854775808) (ho : o < 9223372036854775808) (hk : k < 9223372036854775808) (hv : v < 9223372036854775808) (hx : x < 9223372036854775808) (r : Rn w A l) (hk1 : k < sh.B) (hc1 : c < sh.C) (hs1 : s < sh.S) :
    Calls Tryz.prog 85 #[.pointer (some ⟨ks, 0, none⟩), .agg #[.int .i64 (c : Nat), .int .i64 (s : Nat), .int .i64 (b : Nat), .int .i64 (o : Nat), .int .i64 (k : Nat), .slice A L cap, .int .i64 (v : Nat), .int .i64 (x : Nat)]] w fun e w' => ∃ t2 g, e = .returned (.func (.func 119) #[] #[.pointer (some ⟨t2, 0, none⟩), .pointer (some ⟨g, 0, none⟩)]) ∧ Wtr w' ks t2 g (1 + k) (sh.at_ c s) (pgs c s b o k v x l) ∧ Below w.heap.size w w' := by
  obtain ⟨Wa, hWa, B0, HBa, sa⟩ := below_new w 69 #[.pointer (some ⟨ks, 0, none⟩)]
  obtain ⟨W, hW, B1, HBb, sb⟩ := below_new Wa 167 #[.int .i64 (c : Nat), .int .i64 (s : Nat), .int .i64 (b : Nat), .int .i64 (o : Nat), .int .i64 (k : Nat), .slice A L cap, .int .i64 (v : Nat), .int .i64 (x : Nat)]
  rw [sa] at B1
  have HW := hid (show (w.alloc (.cells #[.pointer (some ⟨ks, 0, none⟩)] 69)).alloc (.cells #[.int .i64 (c : Nat), .int .i64 (s : Nat), .int .i64 (b : Nat), .int .i64 (o : Nat), .int .i64 (k : Nat), .slice A L cap, .int .i64 (v : Nat), .int .i64 (x : Nat)] 167) = W by rw [hWa, hW])
  have HW0 := hid (on HBa HBb)
  have hX := h.below HW0.out
  have hb64 := h.ok.b
  have HBA := hid (fun x => blockAt_any sh h.ok x k (by omega))
  have HSA := hid (fun x => slotAt_any sh h.ok x c s (by have := h.ok.c; omega) (by have := h.ok.s; omega))
  have HL := hid hL
  have HN := hid (And.intro hc (And.intro hs (And.intro hb (And.intro ho (And.intro hk (And.intro hv hx))))))
  have HR := hid (r.now HW0.out)
  obtain ⟨B, Z, C, S⟩ := sh
  have HS := hid (fun y (hy : Below W.heap.size W y) => (hX.bx.next hy).all5)
  have HE := hid (fun y (hy : Below W.heap.size W y) => B1.next hy)
  have HT := hid (fun y (hy : Below W.heap.size W y) => (B0.next HBb).next hy)
  have HTC := hid (fun y (hy : Below W.heap.size W y) => ((B0.next HBb).next hy).cell 0)
  simp only [Sh.v] at HBA HSA hk1 hc1 hs1 hb64 ⊢
  generalize Sh.at_ ⟨B, Z, C, S⟩ c s = at1 at *
  clear h hX hWa hW B0 B1 HBa HBb sa sb hL hc hs hb ho hk hv hx r hk1 hc1 hs1 hb64
  go_enter Tryz.func85, Tryz.ntmps85
  go_upto_region 1 with fail
  rw [HW.out]
  clear HW
  refine wp_region_noPanic ?_
  refine wp_region_held_drew (S := fun y => Below W.heap.size W y) (by kernel_rfl) ?_ (fun hHeld => ?_)
  · exact (Below.refl _ _).drew
  have HB0 := hid hHeld
  obtain ⟨y0, hy0⟩ : ∃ y, W.drew = y := ⟨_, rfl⟩
  rw [hy0] at HB0 hHeld ⊢
  clear hy0
  refine wpAnyH_take (i := 0) (oi := ⟨some 6, _, _, _, _, _⟩) (v := _) rfl (by kernel_rfl) (by kernel_rfl) (by kernel_rfl) (fun _ _ _ h => h) (yieldsIf_bx (by rfl) 167 (.tmp 3) rfl _ _ _ _ rfl HE.out Tryz.underlying167 rfl (by kernel_rfl)) (by assumption) ?_
  (try simp only [Act.put, List.setIfInBounds_toArray, List.set_cons_zero, List.set_cons_succ])
  refine wpAnyH_take (i := 3) (oi := ⟨some 9, _, _, _, _, _⟩) (v := ?_) rfl (by kernel_rfl) (by kernel_rfl) (by kernel_rfl) (fun _ _ _ h => h) (Or.inl ⟨by rfl, ?_⟩) (by assumption) ?_
  rotate_left 1
  · intro w0 hSw
    have k0 := HTC.out _ hSw; clear hSw
    go_simp
    try with_reducible rfl
  (try simp only [Act.put, List.setIfInBounds_toArray, List.set_cons_zero, List.set_cons_succ])
  refine wpAnyH_take (i := 4) (oi := ⟨some 10, _, _, _, _, _⟩) (v := ?_) rfl (by kernel_rfl) (by kernel_rfl) (by kernel_rfl) (fun _ _ _ h => h) (Or.inl ⟨by rfl, ?_⟩) (by assumption) ?_
  rotate_left 1
  · intro w0 hSw
    clear hSw
    go_simp
    try with_reducible rfl
  (try simp only [Act.put, List.setIfInBounds_toArray, List.set_cons_zero, List.set_cons_succ])
  refine wpAnyH_take (i := 5) (oi := ⟨some 11, _, _, _, _, _⟩) (v := ?_) rfl (by kernel_rfl) (by kernel_rfl) (by kernel_rfl) (fun _ _ _ h => h) (Or.inl ⟨by rfl, ?_⟩) (by assumption) ?_
  rotate_left 1
  · intro w0 hSw
    clear hSw
    go_simp
    try with_reducible rfl
  (try simp only [Act.put, List.setIfInBounds_toArray, List.set_cons_zero, List.set_cons_succ])
  refine wpAnyH_take (i := 6) (oi := ⟨some 12, _, _, _, _, _⟩) (v := ?_) rfl (by kernel_rfl) (by kernel_rfl) (by kernel_rfl) (fun _ _ _ h => h) (Or.inl ⟨by rfl, ?_⟩) (by assumption) ?_
  rotate_left 1
  · intro w0 hSw
    obtain ⟨k0, k1, k2, k3, k4⟩ := HS.out _ hSw; clear hSw
    go_simp
    try with_reducible rfl
  (try simp only [Act.put, List.setIfInBounds_toArray, List.set_cons_zero, List.set_cons_succ])
  refine wpAnyH_take (i := 7) (oi := ⟨some 13, _, _, _, _, _⟩) (v := ?_) rfl (by kernel_rfl) (by kernel_rfl) (by kernel_rfl) (fun _ _ _ h => h) (Or.inl ⟨by rfl, ?_⟩) (by assumption) ?_
  rotate_left 1
  · intro w0 hSw
    clear hSw
    go_simp
    try with_reducible rfl
  (try simp only [Act.put, List.setIfInBounds_toArray, List.set_cons_zero, List.set_cons_succ])
  refine wpAnyH_take (i := 8) (oi := ⟨some 14, _, _, _, _, _⟩) (v := ?_) rfl (by kernel_rfl) (by kernel_rfl) (by kernel_rfl) (fun _ _ _ h => h) (Or.inl ⟨by rfl, ?_⟩) (by assumption) ?_
  rotate_left 1
  · intro w0 hSw
    clear hSw
    go_simp
    try with_reducible rfl
  (try simp only [Act.put, List.setIfInBounds_toArray, List.set_cons_zero, List.set_cons_succ])
  refine wpAnyH_take (i := 9) (oi := ⟨some 15, _, _, _, _, _⟩) (v := ?_) rfl (by kernel_rfl) (by kernel_rfl) (by kernel_rfl) (fun _ _ _ h => h) (Or.inl ⟨by rfl, ?_⟩) (by assumption) ?_
  rotate_left 1
  · intro w0 hSw
    obtain ⟨k0, k1, k2, k3, k4, k5, k6, k7⟩ := (HE.out _ hSw).all8; clear hSw k5 k6 k7
    go_simp
    try with_reducible rfl
  (try simp only [Act.put, List.setIfInBounds_toArray, List.set_cons_zero, List.set_cons_succ])
  refine wpAnyH_take (i := 11) (oi := ⟨some 17, _, _, _, _, _⟩) (v := _) rfl (by kernel_rfl) (by kernel_rfl) (by kernel_rfl) (fun _ _ _ h => h) (yieldsIf_bx (by rfl) 167 (.tmp 3) rfl _ _ _ _ rfl HE.out Tryz.underlying167 rfl (by kernel_rfl)) (by assumption) ?_
  (try simp only [Act.put, List.setIfInBounds_toArray, List.set_cons_zero, List.set_cons_succ])
  refine wpAnyH_take (i := 14) (oi := ⟨some 20, _, _, _, _, _⟩) (v := ?_) rfl (by kernel_rfl) (by kernel_rfl) (by kernel_rfl) (fun _ _ _ h => h) (Or.inl ⟨by rfl, ?_⟩) (by assumption) ?_
  rotate_left 1
  · intro w0 hSw
    have k0 := HTC.out _ hSw; clear hSw
    go_simp
    try with_reducible rfl
  (try simp only [Act.put, List.setIfInBounds_toArray, List.set_cons_zero, List.set_cons_succ])
  refine wpAnyH_take (i := 15) (oi := ⟨some 21, _, _, _, _, _⟩) (v := ?_) rfl (by kernel_rfl) (by kernel_rfl) (by kernel_rfl) (fun _ _ _ h => h) (Or.inl ⟨by rfl, ?_⟩) (by assumption) ?_
  rotate_left 1
  · intro w0 hSw
    clear hSw
    go_simp
    try with_reducible rfl
  (try simp only [Act.put, List.setIfInBounds_toArray, List.set_cons_zero, List.set_cons_succ])
  refine wpAnyH_take (i := 16) (oi := ⟨some 22, _, _, _, _, _⟩) (v := ?_) rfl (by kernel_rfl) (by kernel_rfl) (by kernel_rfl) (fun _ _ _ h => h) (Or.inl ⟨by rfl, ?_⟩) (by assumption) ?_
  rotate_left 1
  · intro w0 hSw
    clear hSw
    go_simp
    try with_reducible rfl
  (try simp only [Act.put, List.setIfInBounds_toArray, List.set_cons_zero, List.set_cons_succ])
  refine wpAnyH_take (i := 17) (oi := ⟨some 23, _, _, _, _, _⟩) (v := ?_) rfl (by kernel_rfl) (by kernel_rfl) (by kernel_rfl) (fun _ _ _ h => h) (Or.inl ⟨by rfl, ?_⟩) (by assumption) ?_
  rotate_left 1
  · intro w0 hSw
    obtain ⟨k0, k1, k2, k3, k4⟩ := HS.out _ hSw; clear hSw
    go_simp
    try with_reducible rfl
  (try simp only [Act.put, List.setIfInBounds_toArray, List.set_cons_zero, List.set_cons_succ])
  refine wpAnyH_take (i := 18) (oi := ⟨some 24, _, _, _, _, _⟩) (v := ?_) rfl (by kernel_rfl) (by kernel_rfl) (by kernel_rfl) (fun _ _ _ h => h) (Or.inl ⟨by rfl, ?_⟩) (by assumption) ?_
  rotate_left 1
  · intro w0 hSw
    clear hSw
    go_simp
    try with_reducible rfl
  (try simp only [Act.put, List.setIfInBounds_toArray, List.set_cons_zero, List.set_cons_succ])
  refine wpAnyH_take (i := 19) (oi := ⟨some 25, _, _, _, _, _⟩) (v := ?_) rfl (by kernel_rfl) (by kernel_rfl) (by kernel_rfl) (fun _ _ _ h => h) (Or.inl ⟨by rfl, ?_⟩) (by assumption) ?_
  rotate_left 1
  · intro w0 hSw
    clear hSw
    go_simp
    try with_reducible rfl
  (try simp only [Act.put, List.setIfInBounds_toArray, List.set_cons_zero, List.set_cons_succ])
  refine wpAnyH_take (i := 20) (oi := ⟨some 26, _, _, _, _, _⟩) (v := ?_) rfl (by kernel_rfl) (by kernel_rfl) (by kernel_rfl) (fun _ _ _ h => h) (Or.inl ⟨by rfl, ?_⟩) (by assumption) ?_
  rotate_left 1
  · intro w0 hSw
    obtain ⟨k0, k1, k2, k3, k4, k5, k6, k7⟩ := (HE.out _ hSw).all8; clear hSw k5 k6 k7
    go_simp
    try with_reducible rfl
  (try simp only [Act.put, List.setIfInBounds_toArray, List.set_cons_zero, List.set_cons_succ])
  refine wpAnyH_take (i := 21) (oi := ⟨some 27, _, _, _, _, _⟩) (v := ?_) rfl (by kernel_rfl) (by kernel_rfl) (by kernel_rfl) (fun _ _ _ h => h) (Or.inl ⟨by rfl, ?_⟩) (by assumption) ?_
  rotate_left 1
  · intro w0 hSw
    clear hSw
    go_simp
    try with_reducible rfl
  (try simp only [Act.put, List.setIfInBounds_toArray, List.set_cons_zero, List.set_cons_succ])
  refine wpAnyH_take (i := 22) (oi := ⟨some 28, _, _, _, _, _⟩) (v := ?_) rfl (by kernel_rfl) (by kernel_rfl) (by kernel_rfl) (fun _ _ _ h => h) (Or.inl ⟨by rfl, ?_⟩) (by assumption) ?_
  rotate_left 1
  · intro w0 hSw
    clear hSw
    go_simp
    try with_reducible rfl
  (try simp only [Act.put, List.setIfInBounds_toArray, List.set_cons_zero, List.set_cons_succ])
  refine wpAnyH_take (i := 23) (oi := ⟨some 29, _, _, _, _, _⟩) (v := ?_) rfl (by kernel_rfl) (by kernel_rfl) (by kernel_rfl) (fun _ _ _ h => h) (Or.inl ⟨by rfl, ?_⟩) (by assumption) ?_
  rotate_left 1
  · intro w0 hSw
    obtain ⟨k0, k1, k2, k3, k4, k5, k6, k7⟩ := (HE.out _ hSw).all8; clear hSw k5 k6 k7
    go_simp
    try with_reducible rfl
  (try simp only [Act.put, List.setIfInBounds_toArray, List.set_cons_zero, List.set_cons_succ])
  refine wpAnyH_take (i := 25) (oi := ⟨some 31, _, _, _, _, _⟩) (v := _) rfl (by kernel_rfl) (by kernel_rfl) (by kernel_rfl) (fun _ _ _ h => h) (yieldsIf_bx (by rfl) 167 (.tmp 3) rfl _ _ _ _ rfl HE.out Tryz.underlying167 rfl (by kernel_rfl)) (by assumption) ?_
  (try simp only [Act.put, List.setIfInBounds_toArray, List.set_cons_zero, List.set_cons_succ])
  refine wpAnyH_take (i := 28) (oi := ⟨some 34, _, _, _, _, _⟩) (v := ?_) rfl (by kernel_rfl) (by kernel_rfl) (by kernel_rfl) (fun _ _ _ h => h) (Or.inl ⟨by rfl, ?_⟩) (by assumption) ?_
  rotate_left 1
  · intro w0 hSw
    clear hSw
    go_simp
    try with_reducible rfl
  (try simp only [Act.put, List.setIfInBounds_toArray, List.set_cons_zero, List.set_cons_succ])
  refine wpAnyH_ready (rs := [1, 30]) (by kernel_rfl) (by simp) ?_
  refine AllReadyH.cons (o := ⟨some 7, _, _, _, _, _⟩) rfl (fun K hK => ?_) ?_
  · rw [if_pos (by rfl)]
    go_simp
    go_at_call 116
    refine (journalBytes_any c s b o k v x L cap A l y0 HL.out hl HN.out.1 HN.out.2.1 HN.out.2.2.1 HN.out.2.2.2.1 HN.out.2.2.2.2.1 HN.out.2.2.2.2.2.1 HN.out.2.2.2.2.2.2 (HR.out.now HB0.out)).mono ?_
    rintro e y1 ⟨u, rfl, hu, hb⟩
    obtain ⟨A0, n0, q0, rfl⟩ := hu.form
    have HU0_1 := hid hu
    clear hu
    refine hK.out _ _ (on HB0.out hb) (fun hHeld => ?_)
    clear hK K
    (try simp only [Act.put, List.setIfInBounds_toArray, List.set_cons_zero, List.set_cons_succ])
    have HB1 := hid (on HB0.out hb)
    clear hb HB0
    refine wpAnyH_take (i := 2) (oi := ⟨some 8, _, _, _, _, _⟩) (v := ?_) rfl (by kernel_rfl) (by kernel_rfl) (by kernel_rfl) (fun _ _ _ h => h) (Or.inl ⟨by rfl, ?_⟩) (by assumption) ?_
    rotate_left 1
    · intro w0 hSw
      clear hSw
      go_simp
      try with_reducible rfl
    (try simp only [Act.put, List.setIfInBounds_toArray, List.set_cons_zero, List.set_cons_succ])
    refine wpAnyH_ready (rs := [10, 30]) (by kernel_rfl) (by simp) ?_
    refine AllReadyH.cons (o := ⟨some 16, _, _, _, _, _⟩) rfl (fun K hK => ?_) ?_
    · rw [if_pos (by rfl)]
      go_simp
      go_at_call 103
      refine (HBA.out y1).mono ?_
      rintro e y2 ⟨rfl, hb⟩
      refine hK.out _ _ (on HB1.out hb) (fun hHeld => ?_)
      clear hK K
      (try simp only [Act.put, List.setIfInBounds_toArray, List.set_cons_zero, List.set_cons_succ])
      have HB2 := hid (on HB1.out hb)
      have HU0_2 := hid (HU0_1.out.below hb)
      clear hb HB1 HU0_1
      refine wpAnyH_ready (rs := [12, 30]) (by kernel_rfl) (by simp) ?_
      refine AllReadyH.cons (o := ⟨some 18, _, _, _, _, _⟩) rfl (fun K hK => ?_) ?_
      · rw [if_pos (by rfl)]
        go_simp
        go_at_call 117
        refine (blockBytes_any c s b o k v x L cap A l y2 HL.out hl HN.out.1 HN.out.2.1 HN.out.2.2.1 HN.out.2.2.2.1 HN.out.2.2.2.2.1 HN.out.2.2.2.2.2.1 HN.out.2.2.2.2.2.2 (HR.out.now HB2.out)).mono ?_
        rintro e y3 ⟨u, rfl, hu, hb⟩
        obtain ⟨A2, n2, q2, rfl⟩ := hu.form
        have HU1_3 := hid hu
        clear hu
        refine hK.out _ _ (on HB2.out hb) (fun hHeld => ?_)
        clear hK K
        (try simp only [Act.put, List.setIfInBounds_toArray, List.set_cons_zero, List.set_cons_succ])
        have HB3 := hid (on HB2.out hb)
        have HU0_3 := hid (HU0_2.out.below hb)
        clear hb HB2 HU0_2
        refine wpAnyH_take (i := 13) (oi := ⟨some 19, _, _, _, _, _⟩) (v := ?_) rfl (by kernel_rfl) (by kernel_rfl) (by kernel_rfl) (fun _ _ _ h => h) (Or.inl ⟨by rfl, ?_⟩) (by assumption) ?_
        rotate_left 1
        · intro w0 hSw
          clear hSw
          go_simp
          try with_reducible rfl
        (try simp only [Act.put, List.setIfInBounds_toArray, List.set_cons_zero, List.set_cons_succ])
        refine wpAnyH_ready (rs := [24, 30]) (by kernel_rfl) (by simp) ?_
        refine AllReadyH.cons (o := ⟨some 30, _, _, _, _, _⟩) rfl (fun K hK => ?_) ?_
        · rw [if_pos (by rfl)]
          go_simp
          go_at_call 83
          refine (HSA.out y3).mono ?_
          rintro e y4 ⟨rfl, hb⟩
          refine hK.out _ _ (on HB3.out hb) (fun hHeld => ?_)
          clear hK K
          (try simp only [Act.put, List.setIfInBounds_toArray, List.set_cons_zero, List.set_cons_succ])
          have HB4 := hid (on HB3.out hb)
          have HU0_4 := hid (HU0_3.out.below hb)
          have HU1_4 := hid (HU1_3.out.below hb)
          clear hb HB3 HU0_3 HU1_3
          refine wpAnyH_ready (rs := [26, 30]) (by kernel_rfl) (by simp) ?_
          refine AllReadyH.cons (o := ⟨some 32, _, _, _, _, _⟩) rfl (fun K hK => ?_) ?_
          · rw [if_pos (by rfl)]
            go_simp
            go_at_call 118
            refine (slotBytes_any c s b o k v x L cap A l y4 HL.out hl HN.out.1 HN.out.2.1 HN.out.2.2.1 HN.out.2.2.2.1 HN.out.2.2.2.2.1 HN.out.2.2.2.2.2.1 HN.out.2.2.2.2.2.2 (HR.out.now HB4.out)).mono ?_
            rintro e y5 ⟨u, rfl, hu, hb⟩
            obtain ⟨A4, n4, q4, rfl⟩ := hu.form
            have HU2_5 := hid hu
            clear hu
            refine hK.out _ _ (on HB4.out hb) (fun hHeld => ?_)
            clear hK K
            (try simp only [Act.put, List.setIfInBounds_toArray, List.set_cons_zero, List.set_cons_succ])
            have HB5 := hid (on HB4.out hb)
            have HU0_5 := hid (HU0_4.out.below hb)
            have HU1_5 := hid (HU1_4.out.below hb)
            clear hb HB4 HU0_4 HU1_4
            refine wpAnyH_take (i := 27) (oi := ⟨some 33, _, _, _, _, _⟩) (v := ?_) rfl (by kernel_rfl) (by kernel_rfl) (by kernel_rfl) (fun _ _ _ h => h) (Or.inl ⟨by rfl, ?_⟩) (by assumption) ?_
            rotate_left 1
            · intro w0 hSw
              clear hSw
              go_simp
              try with_reducible rfl
            (try simp only [Act.put, List.setIfInBounds_toArray, List.set_cons_zero, List.set_cons_succ])
            refine wpAnyH_take (i := 29) (oi := ⟨some 35, _, _, _, _, _⟩) (v := ?_) rfl (by kernel_rfl) (by kernel_rfl) (by kernel_rfl) (fun _ _ _ h => h) (Or.inl ⟨by rfl, ?_⟩) (by assumption) ?_
            rotate_left 1
            · intro w0 hSw
              clear hSw
              go_simp
              try with_reducible rfl
            (try simp only [Act.put, List.setIfInBounds_toArray, List.set_cons_zero, List.set_cons_succ])
            refine wpAnyH_ready (rs := [30]) (by kernel_rfl) (by simp) ?_
            refine AllReadyH.cons (o := ⟨some 5, _, _, _, _, _⟩) rfl (fun K hK => ?_) ?_
            · rw [if_pos (by rfl)]
              go_simp
              refine hK.out _ _ (on HB5.out (below_alloc _ _)) (fun hHeld => ?_)
              clear hK K
              (try simp only [Act.put, List.setIfInBounds_toArray, List.set_cons_zero, List.set_cons_succ])
              have HGL := hid HB5.out.size
              obtain ⟨y6, hy, HG6, hb, -⟩ := below_new' y5 207 #[.int .i64 0, .slice none 0 0, .int .i64 0, .slice none 0 0, .int .i64 0, .slice none 0 0, .int .i64 0, .slice none 0 0]
              have HG6 := hid HG6
              have HB6 := hid (on HB5.out hb)
              have HU0_6 := hid (HU0_5.out.below hb)
              have HU1_6 := hid (HU1_5.out.below hb)
              have HU2_6 := hid (HU2_5.out.below hb)
              rw [show y5.alloc _ = y6 from hy]
              clear hy hb HB5 HU0_5 HU1_5 HU2_5
              generalize y5.heap.size = g at *
              refine wpAnyH_ready (rs := [31]) (by kernel_rfl) (by simp) ?_
              refine AllReadyH.cons (o := ⟨none, _, _, _, _, _⟩) rfl (fun K hK => ?_) AllReadyH.nil
              rw [if_pos (by rfl)]
              refine wp_store_row 207 (.tmp 5) (.tmp 35) rfl _ _ rfl rfl _ _ HG6.out (by kernel_rfl) (by rfl) (by simp [Value.oneCell']) ?_
              have HF := hid (wtr_end (k := ks) (a1 := 1 + (k : Nat)) (a2 := (at1 : Nat)) HB6.out HT.out HG6.out HGL.out HU0_6.out HU1_6.out HU2_6.out)
              refine hK.out _ _ HF.out.2 (fun hHeld => ?_)
              clear hK K
              (try simp only [Act.put])
              refine wpAnyH_done (by kernel_rfl) ?_ _
              refine NoPanic.normal ?_
              clear hHeld HB6 HG6 HU0_6 HU1_6 HU2_6 HE HS HT
              go_wp2
              go_ret
              exact ⟨_, _, rfl, HF.out.1 (pgs c s b o k v x l) _ _ (by show _ ++ enc l.length ++ l = _; rw [HL.out]) (by show _ ++ enc l.length ++ l = _; rw [HL.out]) rfl (by simp) rfl, on HW0.out HF.out.2⟩
            exact AllReadyH.nil
          refine AllReadyH.cons (o := ⟨some 5, _, _, _, _, _⟩) rfl (fun K hK => ?_) ?_
          · rw [if_pos (by rfl)]
            go_simp
            refine hK.out _ _ (on HB4.out (below_alloc _ _)) (fun hHeld => ?_)
            clear hK K
            (try simp only [Act.put, List.setIfInBounds_toArray, List.set_cons_zero, List.set_cons_succ])
            have HGL := hid HB4.out.size
            obtain ⟨y5, hy, HG5, hb, -⟩ := below_new' y4 207 #[.int .i64 0, .slice none 0 0, .int .i64 0, .slice none 0 0, .int .i64 0, .slice none 0 0, .int .i64 0, .slice none 0 0]
            have HG5 := hid HG5
            have HB5 := hid (on HB4.out hb)
            have HU0_5 := hid (HU0_4.out.below hb)
            have HU1_5 := hid (HU1_4.out.below hb)
            rw [show y4.alloc _ = y5 from hy]
            clear hy hb HB4 HU0_4 HU1_4
            generalize y4.heap.size = g at *
            refine wpAnyH_ready (rs := [26]) (by kernel_rfl) (by simp) ?_
            refine AllReadyH.cons (o := ⟨some 32, _, _, _, _, _⟩) rfl (fun K hK => ?_) ?_
            · rw [if_pos (by rfl)]
              go_simp
              go_at_call 118
              refine (slotBytes_any c s b o k v x L cap A l y5 HL.out hl HN.out.1 HN.out.2.1 HN.out.2.2.1 HN.out.2.2.2.1 HN.out.2.2.2.2.1 HN.out.2.2.2.2.2.1 HN.out.2.2.2.2.2.2 (HR.out.now HB5.out)).mono ?_
              rintro e y6 ⟨u, rfl, hu, hb⟩
              obtain ⟨A4, n4, q4, rfl⟩ := hu.form
              have HU2_6 := hid hu
              clear hu
              refine hK.out _ _ (on HB5.out hb) (fun hHeld => ?_)
              clear hK K
              (try simp only [Act.put, List.setIfInBounds_toArray, List.set_cons_zero, List.set_cons_succ])
              have HB6 := hid (on HB5.out hb)
              have HU0_6 := hid (HU0_5.out.below hb)
              have HU1_6 := hid (HU1_5.out.below hb)
              have HG6 := hid (HG5.out.next hb)
              clear HG5
              clear hb HB5 HU0_5 HU1_5
              refine wpAnyH_take (i := 27) (oi := ⟨some 33, _, _, _, _, _⟩) (v := ?_) rfl (by kernel_rfl) (by kernel_rfl) (by kernel_rfl) (fun _ _ _ h => h) (Or.inl ⟨by rfl, ?_⟩) (by assumption) ?_
              rotate_left 1
              · intro w0 hSw
                clear hSw
                go_simp
                try with_reducible rfl
              (try simp only [Act.put, List.setIfInBounds_toArray, List.set_cons_zero, List.set_cons_succ])
              refine wpAnyH_take (i := 29) (oi := ⟨some 35, _, _, _, _, _⟩) (v := ?_) rfl (by kernel_rfl) (by kernel_rfl) (by kernel_rfl) (fun _ _ _ h => h) (Or.inl ⟨by rfl, ?_⟩) (by assumption) ?_
              rotate_left 1
              · intro w0 hSw
                clear hSw
                go_simp
                try with_reducible rfl
              (try simp only [Act.put, List.setIfInBounds_toArray, List.set_cons_zero, List.set_cons_succ])
              refine wpAnyH_ready (rs := [31]) (by kernel_rfl) (by simp) ?_
              refine AllReadyH.cons (o := ⟨none, _, _, _, _, _⟩) rfl (fun K hK => ?_) AllReadyH.nil
              rw [if_pos (by rfl)]
              refine wp_store_row 207 (.tmp 5) (.tmp 35) rfl _ _ rfl rfl _ _ HG6.out (by kernel_rfl) (by rfl) (by simp [Value.oneCell']) ?_
              have HF := hid (wtr_end (k := ks) (a1 := 1 + (k : Nat)) (a2 := (at1 : Nat)) HB6.out HT.out HG6.out HGL.out HU0_6.out HU1_6.out HU2_6.out)
              refine hK.out _ _ HF.out.2 (fun hHeld => ?_)
              clear hK K
              (try simp only [Act.put])
              refine wpAnyH_done (by kernel_rfl) ?_ _
              refine NoPanic.normal ?_
              clear hHeld HB6 HG6 HU0_6 HU1_6 HU2_6 HE HS HT
              go_wp2
              go_ret
              exact ⟨_, _, rfl, HF.out.1 (pgs c s b o k v x l) _ _ (by show _ ++ enc l.length ++ l = _; rw [HL.out]) (by show _ ++ enc l.length ++ l = _; rw [HL.out]) rfl (by simp) rfl, on HW0.out HF.out.2⟩
            exact AllReadyH.nil
          exact AllReadyH.nil
        refine AllReadyH.cons (o := ⟨some 5, _, _, _, _, _⟩) rfl (fun K hK => ?_) ?_
        · rw [if_pos (by rfl)]
          go_simp
          refine hK.out _ _ (on HB3.out (below_alloc _ _)) (fun hHeld => ?_)
          clear hK K
          (try simp only [Act.put, List.setIfInBounds_toArray, List.set_cons_zero, List.set_cons_succ])
          have HGL := hid HB3.out.size
          obtain ⟨y4, hy, HG4, hb, -⟩ := below_new' y3 207 #[.int .i64 0, .slice none 0 0, .int .i64 0, .slice none 0 0, .int .i64 0, .slice none 0 0, .int .i64 0, .slice none 0 0]
          have HG4 := hid HG4
          have HB4 := hid (on HB3.out hb)
          have HU0_4 := hid (HU0_3.out.below hb)
          have HU1_4 := hid (HU1_3.out.below hb)
          rw [show y3.alloc _ = y4 from hy]
          clear hy hb HB3 HU0_3 HU1_3
          generalize y3.heap.size = g at *
          refine wpAnyH_ready (rs := [24]) (by kernel_rfl) (by simp) ?_
          refine AllReadyH.cons (o := ⟨some 30, _, _, _, _, _⟩) rfl (fun K hK => ?_) ?_
          · rw [if_pos (by rfl)]
            go_simp
            go_at_call 83
            refine (HSA.out y4).mono ?_
            rintro e y5 ⟨rfl, hb⟩
            refine hK.out _ _ (on HB4.out hb) (fun hHeld => ?_)
            clear hK K
            (try simp only [Act.put, List.setIfInBounds_toArray, List.set_cons_zero, List.set_cons_succ])
            have HB5 := hid (on HB4.out hb)
            have HU0_5 := hid (HU0_4.out.below hb)
            have HU1_5 := hid (HU1_4.out.below hb)
            have HG5 := hid (HG4.out.next hb)
            clear HG4
            clear hb HB4 HU0_4 HU1_4
            refine wpAnyH_ready (rs := [26]) (by kernel_rfl) (by simp) ?_
            refine AllReadyH.cons (o := ⟨some 32, _, _, _, _, _⟩) rfl (fun K hK => ?_) ?_
            · rw [if_pos (by rfl)]
              go_simp
              go_at_call 118
              refine (slotBytes_any c s b o k v x L cap A l y5 HL.out hl HN.out.1 HN.out.2.1 HN.out.2.2.1 HN.out.2.2.2.1 HN.out.2.2.2.2.1 HN.out.2.2.2.2.2.1 HN.out.2.2.2.2.2.2 (HR.out.now HB5.out)).mono ?_
              rintro e y6 ⟨u, rfl, hu, hb⟩
              obtain ⟨A4, n4, q4, rfl⟩ := hu.form
              have HU2_6 := hid hu
              clear hu
              refine hK.out _ _ (on HB5.out hb) (fun hHeld => ?_)
              clear hK K
              (try simp only [Act.put, List.setIfInBounds_toArray, List.set_cons_zero, List.set_cons_succ])
              have HB6 := hid (on HB5.out hb)
              have HU0_6 := hid (HU0_5.out.below hb)
              have HU1_6 := hid (HU1_5.out.below hb)
              have HG6 := hid (HG5.out.next hb)
              clear HG5
              clear hb HB5 HU0_5 HU1_5
              refine wpAnyH_take (i := 27) (oi := ⟨some 33, _, _, _, _, _⟩) (v := ?_) rfl (by kernel_rfl) (by kernel_rfl) (by kernel_rfl) (fun _ _ _ h => h) (Or.inl ⟨by rfl, ?_⟩) (by assumption) ?_
              rotate_left 1
              · intro w0 hSw
                clear hSw
                go_simp
                try with_reducible rfl
              (try simp only [Act.put, List.setIfInBounds_toArray, List.set_cons_zero, List.set_cons_succ])
              refine wpAnyH_take (i := 29) (oi := ⟨some 35, _, _, _, _, _⟩) (v := ?_) rfl (by kernel_rfl) (by kernel_rfl) (by kernel_rfl) (fun _ _ _ h => h) (Or.inl ⟨by rfl, ?_⟩) (by assumption) ?_
              rotate_left 1
              · intro w0 hSw
                clear hSw
                go_simp
                try with_reducible rfl
              (try simp only [Act.put, List.setIfInBounds_toArray, List.set_cons_zero, List.set_cons_succ])
              refine wpAnyH_ready (rs := [31]) (by kernel_rfl) (by simp) ?_
              refine AllReadyH.cons (o := ⟨none, _, _, _, _, _⟩) rfl (fun K hK => ?_) AllReadyH.nil
              rw [if_pos (by rfl)]
              refine wp_store_row 207 (.tmp 5) (.tmp 35) rfl _ _ rfl rfl _ _ HG6.out (by kernel_rfl) (by rfl) (by simp [Value.oneCell']) ?_
              have HF := hid (wtr_end (k := ks) (a1 := 1 + (k : Nat)) (a2 := (at1 : Nat)) HB6.out HT.out HG6.out HGL.out HU0_6.out HU1_6.out HU2_6.out)
              refine hK.out _ _ HF.out.2 (fun hHeld => ?_)
              clear hK K
              (try simp only [Act.put])
              refine wpAnyH_done (by kernel_rfl) ?_ _
              refine NoPanic.normal ?_
              clear hHeld HB6 HG6 HU0_6 HU1_6 HU2_6 HE HS HT
              go_wp2
              go_ret
              exact ⟨_, _, rfl, HF.out.1 (pgs c s b o k v x l) _ _ (by show _ ++ enc l.length ++ l = _; rw [HL.out]) (by show _ ++ enc l.length ++ l = _; rw [HL.out]) rfl (by simp) rfl, on HW0.out HF.out.2⟩
            exact AllReadyH.nil
          exact AllReadyH.nil
        exact AllReadyH.nil
      refine AllReadyH.cons (o := ⟨some 5, _, _, _, _, _⟩) rfl (fun K hK => ?_) ?_
      · rw [if_pos (by rfl)]
        go_simp
        refine hK.out _ _ (on HB2.out (below_alloc _ _)) (fun hHeld => ?_)
        clear hK K
        (try simp only [Act.put, List.setIfInBounds_toArray, List.set_cons_zero, List.set_cons_succ])
        have HGL := hid HB2.out.size
        obtain ⟨y3, hy, HG3, hb, -⟩ := below_new' y2 207 #[.int .i64 0, .slice none 0 0, .int .i64 0, .slice none 0 0, .int .i64 0, .slice none 0 0, .int .i64 0, .slice none 0 0]
        have HG3 := hid HG3
        have HB3 := hid (on HB2.out hb)
        have HU0_3 := hid (HU0_2.out.below hb)
        rw [show y2.alloc _ = y3 from hy]
        clear hy hb HB2 HU0_2
        generalize y2.heap.size = g at *
        refine wpAnyH_ready (rs := [12]) (by kernel_rfl) (by simp) ?_
        refine AllReadyH.cons (o := ⟨some 18, _, _, _, _, _⟩) rfl (fun K hK => ?_) ?_
        · rw [if_pos (by rfl)]
          go_simp
          go_at_call 117
          refine (blockBytes_any c s b o k v x L cap A l y3 HL.out hl HN.out.1 HN.out.2.1 HN.out.2.2.1 HN.out.2.2.2.1 HN.out.2.2.2.2.1 HN.out.2.2.2.2.2.1 HN.out.2.2.2.2.2.2 (HR.out.now HB3.out)).mono ?_
          rintro e y4 ⟨u, rfl, hu, hb⟩
          obtain ⟨A2, n2, q2, rfl⟩ := hu.form
          have HU1_4 := hid hu
          clear hu
          refine hK.out _ _ (on HB3.out hb) (fun hHeld => ?_)
          clear hK K
          (try simp only [Act.put, List.setIfInBounds_toArray, List.set_cons_zero, List.set_cons_succ])
          have HB4 := hid (on HB3.out hb)
          have HU0_4 := hid (HU0_3.out.below hb)
          have HG4 := hid (HG3.out.next hb)
          clear HG3
          clear hb HB3 HU0_3
          refine wpAnyH_take (i := 13) (oi := ⟨some 19, _, _, _, _, _⟩) (v := ?_) rfl (by kernel_rfl) (by kernel_rfl) (by kernel_rfl) (fun _ _ _ h => h) (Or.inl ⟨by rfl, ?_⟩) (by assumption) ?_
          rotate_left 1
          · intro w0 hSw
            clear hSw
            go_simp
            try with_reducible rfl
          (try simp only [Act.put, List.setIfInBounds_toArray, List.set_cons_zero, List.set_cons_succ])
          refine wpAnyH_ready (rs := [24]) (by kernel_rfl) (by simp) ?_
          refine AllReadyH.cons (o := ⟨some 30, _, _, _, _, _⟩) rfl (fun K hK => ?_) ?_
          · rw [if_pos (by rfl)]
            go_simp
            go_at_call 83
            refine (HSA.out y4).mono ?_
            rintro e y5 ⟨rfl, hb⟩
            refine hK.out _ _ (on HB4.out hb) (fun hHeld => ?_)
            clear hK K
            (try simp only [Act.put, List.setIfInBounds_toArray, List.set_cons_zero, List.set_cons_succ])
            have HB5 := hid (on HB4.out hb)
            have HU0_5 := hid (HU0_4.out.below hb)
            have HU1_5 := hid (HU1_4.out.below hb)
            have HG5 := hid (HG4.out.next hb)
            clear HG4
            clear hb HB4 HU0_4 HU1_4
            refine wpAnyH_ready (rs := [26]) (by kernel_rfl) (by simp) ?_
            refine AllReadyH.cons (o := ⟨some 32, _, _, _, _, _⟩) rfl (fun K hK => ?_) ?_
            · rw [if_pos (by rfl)]
              go_simp
              go_at_call 118
              refine (slotBytes_any c s b o k v x L cap A l y5 HL.out hl HN.out.1 HN.out.2.1 HN.out.2.2.1 HN.out.2.2.2.1 HN.out.2.2.2.2.1 HN.out.2.2.2.2.2.1 HN.out.2.2.2.2.2.2 (HR.out.now HB5.out)).mono ?_
              rintro e y6 ⟨u, rfl, hu, hb⟩
              obtain ⟨A4, n4, q4, rfl⟩ := hu.form
              have HU2_6 := hid hu
              clear hu
              refine hK.out _ _ (on HB5.out hb) (fun hHeld => ?_)
              clear hK K
              (try simp only [Act.put, List.setIfInBounds_toArray, List.set_cons_zero, List.set_cons_succ])
              have HB6 := hid (on HB5.out hb)
              have HU0_6 := hid (HU0_5.out.below hb)
              have HU1_6 := hid (HU1_5.out.below hb)
              have HG6 := hid (HG5.out.next hb)
              clear HG5
              clear hb HB5 HU0_5 HU1_5
              refine wpAnyH_take (i := 27) (oi := ⟨some 33, _, _, _, _, _⟩) (v := ?_) rfl (by kernel_rfl) (by kernel_rfl) (by kernel_rfl) (fun _ _ _ h => h) (Or.inl ⟨by rfl, ?_⟩) (by assumption) ?_
              rotate_left 1
              · intro w0 hSw
                clear hSw
                go_simp
                try with_reducible rfl
              (try simp only [Act.put, List.setIfInBounds_toArray, List.set_cons_zero, List.set_cons_succ])
              refine wpAnyH_take (i := 29) (oi := ⟨some 35, _, _, _, _, _⟩) (v := ?_) rfl (by kernel_rfl) (by kernel_rfl) (by kernel_rfl) (fun _ _ _ h => h) (Or.inl ⟨by rfl, ?_⟩) (by assumption) ?_
              rotate_left 1
              · intro w0 hSw
                clear hSw
                go_simp
                try with_reducible rfl
              (try simp only [Act.put, List.setIfInBounds_toArray, List.set_cons_zero, List.set_cons_succ])
              refine wpAnyH_ready (rs := [31]) (by kernel_rfl) (by simp) ?_
              refine AllReadyH.cons (o := ⟨none, _, _, _, _, _⟩) rfl (fun K hK => ?_) AllReadyH.nil
              rw [if_pos (by rfl)]
              refine wp_store_row 207 (.tmp 5) (.tmp 35) rfl _ _ rfl rfl _ _ HG6.out (by kernel_rfl) (by rfl) (by simp [Value.oneCell']) ?_
              have HF := hid (wtr_end (k := ks) (a1 := 1 + (k : Nat)) (a2 := (at1 : Nat)) HB6.out HT.out HG6.out HGL.out HU0_6.out HU1_6.out HU2_6.out)
              refine hK.out _ _ HF.out.2 (fun hHeld => ?_)
              clear hK K
              (try simp only [Act.put])
              refine wpAnyH_done (by kernel_rfl) ?_ _
              refine NoPanic.normal ?_
              clear hHeld HB6 HG6 HU0_6 HU1_6 HU2_6 HE HS HT
              go_wp2
              go_ret
              exact ⟨_, _, rfl, HF.out.1 (pgs c s b o k v x l) _ _ (by show _ ++ enc l.length ++ l = _; rw [HL.out]) (by show _ ++ enc l.length ++ l = _; rw [HL.out]) rfl (by simp) rfl, on HW0.out HF.out.2⟩
            exact AllReadyH.nil
          exact AllReadyH.nil
        exact AllReadyH.nil
      exact AllReadyH.nil
    refine AllReadyH.cons (o := ⟨some 5, _, _, _, _, _⟩) rfl (fun K hK => ?_) ?_
    · rw [if_pos (by rfl)]
      go_simp
      refine hK.out _ _ (on HB1.out (below_alloc _ _)) (fun hHeld => ?_)
      clear hK K
      (try simp only [Act.put, List.setIfInBounds_toArray, List.set_cons_zero, List.set_cons_succ])
      have HGL := hid HB1.out.size
      obtain ⟨y2, hy, HG2, hb, -⟩ := below_new' y1 207 #[.int .i64 0, .slice none 0 0, .int .i64 0, .slice none 0 0, .int .i64 0, .slice none 0 0, .int .i64 0, .slice none 0 0]
      have HG2 := hid HG2
      have HB2 := hid (on HB1.out hb)
      have HU0_2 := hid (HU0_1.out.below hb)
      rw [show y1.alloc _ = y2 from hy]
      clear hy hb HB1 HU0_1
      generalize y1.heap.size = g at *
      refine wpAnyH_ready (rs := [10]) (by kernel_rfl) (by simp) ?_
      refine AllReadyH.cons (o := ⟨some 16, _, _, _, _, _⟩) rfl (fun K hK => ?_) ?_
      · rw [if_pos (by rfl)]
        go_simp
        go_at_call 103
        refine (HBA.out y2).mono ?_
        rintro e y3 ⟨rfl, hb⟩
        refine hK.out _ _ (on HB2.out hb) (fun hHeld => ?_)
        clear hK K
        (try simp only [Act.put, List.setIfInBounds_toArray, List.set_cons_zero, List.set_cons_succ])
        have HB3 := hid (on HB2.out hb)
        have HU0_3 := hid (HU0_2.out.below hb)
        have HG3 := hid (HG2.out.next hb)
        clear HG2
        clear hb HB2 HU0_2
        refine wpAnyH_ready (rs := [12]) (by kernel_rfl) (by simp) ?_
        refine AllReadyH.cons (o := ⟨some 18, _, _, _, _, _⟩) rfl (fun K hK => ?_) ?_
        · rw [if_pos (by rfl)]
          go_simp
          go_at_call 117
          refine (blockBytes_any c s b o k v x L cap A l y3 HL.out hl HN.out.1 HN.out.2.1 HN.out.2.2.1 HN.out.2.2.2.1 HN.out.2.2.2.2.1 HN.out.2.2.2.2.2.1 HN.out.2.2.2.2.2.2 (HR.out.now HB3.out)).mono ?_
          rintro e y4 ⟨u, rfl, hu, hb⟩
          obtain ⟨A2, n2, q2, rfl⟩ := hu.form
          have HU1_4 := hid hu
          clear hu
          refine hK.out _ _ (on HB3.out hb) (fun hHeld => ?_)
          clear hK K
          (try simp only [Act.put, List.setIfInBounds_toArray, List.set_cons_zero, List.set_cons_succ])
          have HB4 := hid (on HB3.out hb)
          have HU0_4 := hid (HU0_3.out.below hb)
          have HG4 := hid (HG3.out.next hb)
          clear HG3
          clear hb HB3 HU0_3
          refine wpAnyH_take (i := 13) (oi := ⟨some 19, _, _, _, _, _⟩) (v := ?_) rfl (by kernel_rfl) (by kernel_rfl) (by kernel_rfl) (fun _ _ _ h => h) (Or.inl ⟨by rfl, ?_⟩) (by assumption) ?_
          rotate_left 1
          · intro w0 hSw
            clear hSw
            go_simp
            try with_reducible rfl
          (try simp only [Act.put, List.setIfInBounds_toArray, List.set_cons_zero, List.set_cons_succ])
          refine wpAnyH_ready (rs := [24]) (by kernel_rfl) (by simp) ?_
          refine AllReadyH.cons (o := ⟨some 30, _, _, _, _, _⟩) rfl (fun K hK => ?_) ?_
          · rw [if_pos (by rfl)]
            go_simp
            go_at_call 83
            refine (HSA.out y4).mono ?_
            rintro e y5 ⟨rfl, hb⟩
            refine hK.out _ _ (on HB4.out hb) (fun hHeld => ?_)
            clear hK K
            (try simp only [Act.put, List.setIfInBounds_toArray, List.set_cons_zero, List.set_cons_succ])
            have HB5 := hid (on HB4.out hb)
            have HU0_5 := hid (HU0_4.out.below hb)
            have HU1_5 := hid (HU1_4.out.below hb)
            have HG5 := hid (HG4.out.next hb)
            clear HG4
            clear hb HB4 HU0_4 HU1_4
            refine wpAnyH_ready (rs := [26]) (by kernel_rfl) (by simp) ?_
            refine AllReadyH.cons (o := ⟨some 32, _, _, _, _, _⟩) rfl (fun K hK => ?_) ?_
            · rw [if_pos (by rfl)]
              go_simp
              go_at_call 118
              refine (slotBytes_any c s b o k v x L cap A l y5 HL.out hl HN.out.1 HN.out.2.1 HN.out.2.2.1 HN.out.2.2.2.1 HN.out.2.2.2.2.1 HN.out.2.2.2.2.2.1 HN.out.2.2.2.2.2.2 (HR.out.now HB5.out)).mono ?_
              rintro e y6 ⟨u, rfl, hu, hb⟩
              obtain ⟨A4, n4, q4, rfl⟩ := hu.form
              have HU2_6 := hid hu
              clear hu
              refine hK.out _ _ (on HB5.out hb) (fun hHeld => ?_)
              clear hK K
              (try simp only [Act.put, List.setIfInBounds_toArray, List.set_cons_zero, List.set_cons_succ])
              have HB6 := hid (on HB5.out hb)
              have HU0_6 := hid (HU0_5.out.below hb)
              have HU1_6 := hid (HU1_5.out.below hb)
              have HG6 := hid (HG5.out.next hb)
              clear HG5
              clear hb HB5 HU0_5 HU1_5
              refine wpAnyH_take (i := 27) (oi := ⟨some 33, _, _, _, _, _⟩) (v := ?_) rfl (by kernel_rfl) (by kernel_rfl) (by kernel_rfl) (fun _ _ _ h => h) (Or.inl ⟨by rfl, ?_⟩) (by assumption) ?_
              rotate_left 1
              · intro w0 hSw
                clear hSw
                go_simp
                try with_reducible rfl
              (try simp only [Act.put, List.setIfInBounds_toArray, List.set_cons_zero, List.set_cons_succ])
              refine wpAnyH_take (i := 29) (oi := ⟨some 35, _, _, _, _, _⟩) (v := ?_) rfl (by kernel_rfl) (by kernel_rfl) (by kernel_rfl) (fun _ _ _ h => h) (Or.inl ⟨by rfl, ?_⟩) (by assumption) ?_
              rotate_left 1
              · intro w0 hSw
                clear hSw
                go_simp
                try with_reducible rfl
              (try simp only [Act.put, List.setIfInBounds_toArray, List.set_cons_zero, List.set_cons_succ])
              refine wpAnyH_ready (rs := [31]) (by kernel_rfl) (by simp) ?_
              refine AllReadyH.cons (o := ⟨none, _, _, _, _, _⟩) rfl (fun K hK => ?_) AllReadyH.nil
              rw [if_pos (by rfl)]
              refine wp_store_row 207 (.tmp 5) (.tmp 35) rfl _ _ rfl rfl _ _ HG6.out (by kernel_rfl) (by rfl) (by simp [Value.oneCell']) ?_
              have HF := hid (wtr_end (k := ks) (a1 := 1 + (k : Nat)) (a2 := (at1 : Nat)) HB6.out HT.out HG6.out HGL.out HU0_6.out HU1_6.out HU2_6.out)
              refine hK.out _ _ HF.out.2 (fun hHeld => ?_)
              clear hK K
              (try simp only [Act.put])
              refine wpAnyH_done (by kernel_rfl) ?_ _
              refine NoPanic.normal ?_
              clear hHeld HB6 HG6 HU0_6 HU1_6 HU2_6 HE HS HT
              go_wp2
              go_ret
              exact ⟨_, _, rfl, HF.out.1 (pgs c s b o k v x l) _ _ (by show _ ++ enc l.length ++ l = _; rw [HL.out]) (by show _ ++ enc l.length ++ l = _; rw [HL.out]) rfl (by simp) rfl, on HW0.out HF.out.2⟩
            exact AllReadyH.nil
          exact AllReadyH.nil
        exact AllReadyH.nil
      exact AllReadyH.nil
    exact AllReadyH.nil
  refine AllReadyH.cons (o := ⟨some 5, _, _, _, _, _⟩) rfl (fun K hK => ?_) ?_
  · rw [if_pos (by rfl)]
    go_simp
    refine hK.out _ _ (on HB0.out (below_alloc _ _)) (fun hHeld => ?_)
    clear hK K
    (try simp only [Act.put, List.setIfInBounds_toArray, List.set_cons_zero, List.set_cons_succ])
    have HGL := hid HB0.out.size
    obtain ⟨y1, hy, HG1, hb, -⟩ := below_new' y0 207 #[.int .i64 0, .slice none 0 0, .int .i64 0, .slice none 0 0, .int .i64 0, .slice none 0 0, .int .i64 0, .slice none 0 0]
    have HG1 := hid HG1
    have HB1 := hid (on HB0.out hb)
    rw [show y0.alloc _ = y1 from hy]
    clear hy hb HB0
    generalize y0.heap.size = g at *
    refine wpAnyH_ready (rs := [1]) (by kernel_rfl) (by simp) ?_
    refine AllReadyH.cons (o := ⟨some 7, _, _, _, _, _⟩) rfl (fun K hK => ?_) ?_
    · rw [if_pos (by rfl)]
      go_simp
      go_at_call 116
      refine (journalBytes_any c s b o k v x L cap A l y1 HL.out hl HN.out.1 HN.out.2.1 HN.out.2.2.1 HN.out.2.2.2.1 HN.out.2.2.2.2.1 HN.out.2.2.2.2.2.1 HN.out.2.2.2.2.2.2 (HR.out.now HB1.out)).mono ?_
      rintro e y2 ⟨u, rfl, hu, hb⟩
      obtain ⟨A0, n0, q0, rfl⟩ := hu.form
      have HU0_2 := hid hu
      clear hu
      refine hK.out _ _ (on HB1.out hb) (fun hHeld => ?_)
      clear hK K
      (try simp only [Act.put, List.setIfInBounds_toArray, List.set_cons_zero, List.set_cons_succ])
      have HB2 := hid (on HB1.out hb)
      have HG2 := hid (HG1.out.next hb)
      clear HG1
      clear hb HB1
      refine wpAnyH_take (i := 2) (oi := ⟨some 8, _, _, _, _, _⟩) (v := ?_) rfl (by kernel_rfl) (by kernel_rfl) (by kernel_rfl) (fun _ _ _ h => h) (Or.inl ⟨by rfl, ?_⟩) (by assumption) ?_
      rotate_left 1
      · intro w0 hSw
        clear hSw
        go_simp
        try with_reducible rfl
      (try simp only [Act.put, List.setIfInBounds_toArray, List.set_cons_zero, List.set_cons_succ])
      refine wpAnyH_ready (rs := [10]) (by kernel_rfl) (by simp) ?_
      refine AllReadyH.cons (o := ⟨some 16, _, _, _, _, _⟩) rfl (fun K hK => ?_) ?_
      · rw [if_pos (by rfl)]
        go_simp
        go_at_call 103
        refine (HBA.out y2).mono ?_
        rintro e y3 ⟨rfl, hb⟩
        refine hK.out _ _ (on HB2.out hb) (fun hHeld => ?_)
        clear hK K
        (try simp only [Act.put, List.setIfInBounds_toArray, List.set_cons_zero, List.set_cons_succ])
        have HB3 := hid (on HB2.out hb)
        have HU0_3 := hid (HU0_2.out.below hb)
        have HG3 := hid (HG2.out.next hb)
        clear HG2
        clear hb HB2 HU0_2
        refine wpAnyH_ready (rs := [12]) (by kernel_rfl) (by simp) ?_
        refine AllReadyH.cons (o := ⟨some 18, _, _, _, _, _⟩) rfl (fun K hK => ?_) ?_
        · rw [if_pos (by rfl)]
          go_simp
          go_at_call 117
          refine (blockBytes_any c s b o k v x L cap A l y3 HL.out hl HN.out.1 HN.out.2.1 HN.out.2.2.1 HN.out.2.2.2.1 HN.out.2.2.2.2.1 HN.out.2.2.2.2.2.1 HN.out.2.2.2.2.2.2 (HR.out.now HB3.out)).mono ?_
          rintro e y4 ⟨u, rfl, hu, hb⟩
          obtain ⟨A2, n2, q2, rfl⟩ := hu.form
          have HU1_4 := hid hu
          clear hu
          refine hK.out _ _ (on HB3.out hb) (fun hHeld => ?_)
          clear hK K
          (try simp only [Act.put, List.setIfInBounds_toArray, List.set_cons_zero, List.set_cons_succ])
          have HB4 := hid (on HB3.out hb)
          have HU0_4 := hid (HU0_3.out.below hb)
          have HG4 := hid (HG3.out.next hb)
          clear HG3
          clear hb HB3 HU0_3
          refine wpAnyH_take (i := 13) (oi := ⟨some 19, _, _, _, _, _⟩) (v := ?_) rfl (by kernel_rfl) (by kernel_rfl) (by kernel_rfl) (fun _ _ _ h => h) (Or.inl ⟨by rfl, ?_⟩) (by assumption) ?_
          rotate_left 1
          · intro w0 hSw
            clear hSw
            go_simp
            try with_reducible rfl
          (try simp only [Act.put, List.setIfInBounds_toArray, List.set_cons_zero, List.set_cons_succ])
          refine wpAnyH_ready (rs := [24]) (by kernel_rfl) (by simp) ?_
          refine AllReadyH.cons (o := ⟨some 30, _, _, _, _, _⟩) rfl (fun K hK => ?_) ?_
          · rw [if_pos (by rfl)]
            go_simp
            go_at_call 83
            refine (HSA.out y4).mono ?_
            rintro e y5 ⟨rfl, hb⟩
            refine hK.out _ _ (on HB4.out hb) (fun hHeld => ?_)
            clear hK K
            (try simp only [Act.put, List.setIfInBounds_toArray, List.set_cons_zero, List.set_cons_succ])
            have HB5 := hid (on HB4.out hb)
            have HU0_5 := hid (HU0_4.out.below hb)
            have HU1_5 := hid (HU1_4.out.below hb)
            have HG5 := hid (HG4.out.next hb)
            clear HG4
            clear hb HB4 HU0_4 HU1_4
            refine wpAnyH_ready (rs := [26]) (by kernel_rfl) (by simp) ?_
            refine AllReadyH.cons (o := ⟨some 32, _, _, _, _, _⟩) rfl (fun K hK => ?_) ?_
            · rw [if_pos (by rfl)]
              go_simp
              go_at_call 118
              refine (slotBytes_any c s b o k v x L cap A l y5 HL.out hl HN.out.1 HN.out.2.1 HN.out.2.2.1 HN.out.2.2.2.1 HN.out.2.2.2.2.1 HN.out.2.2.2.2.2.1 HN.out.2.2.2.2.2.2 (HR.out.now HB5.out)).mono ?_
              rintro e y6 ⟨u, rfl, hu, hb⟩
              obtain ⟨A4, n4, q4, rfl⟩ := hu.form
              have HU2_6 := hid hu
              clear hu
              refine hK.out _ _ (on HB5.out hb) (fun hHeld => ?_)
              clear hK K
              (try simp only [Act.put, List.setIfInBounds_toArray, List.set_cons_zero, List.set_cons_succ])
              have HB6 := hid (on HB5.out hb)
              have HU0_6 := hid (HU0_5.out.below hb)
              have HU1_6 := hid (HU1_5.out.below hb)
              have HG6 := hid (HG5.out.next hb)
              clear HG5
              clear hb HB5 HU0_5 HU1_5
              refine wpAnyH_take (i := 27) (oi := ⟨some 33, _, _, _, _, _⟩) (v := ?_) rfl (by kernel_rfl) (by kernel_rfl) (by kernel_rfl) (fun _ _ _ h => h) (Or.inl ⟨by rfl, ?_⟩) (by assumption) ?_
              rotate_left 1
              · intro w0 hSw
                clear hSw
                go_simp
                try with_reducible rfl
              (try simp only [Act.put, List.setIfInBounds_toArray, List.set_cons_zero, List.set_cons_succ])
              refine wpAnyH_take (i := 29) (oi := ⟨some 35, _, _, _, _, _⟩) (v := ?_) rfl (by kernel_rfl) (by kernel_rfl) (by kernel_rfl) (fun _ _ _ h => h) (Or.inl ⟨by rfl, ?_⟩) (by assumption) ?_
              rotate_left 1
              · intro w0 hSw
                clear hSw
                go_simp
                try with_reducible rfl
              (try simp only [Act.put, List.setIfInBounds_toArray, List.set_cons_zero, List.set_cons_succ])
              refine wpAnyH_ready (rs := [31]) (by kernel_rfl) (by simp) ?_
              refine AllReadyH.cons (o := ⟨none, _, _, _, _, _⟩) rfl (fun K hK => ?_) AllReadyH.nil
              rw [if_pos (by rfl)]
              refine wp_store_row 207 (.tmp 5) (.tmp 35) rfl _ _ rfl rfl _ _ HG6.out (by kernel_rfl) (by rfl) (by simp [Value.oneCell']) ?_
              have HF := hid (wtr_end (k := ks) (a1 := 1 + (k : Nat)) (a2 := (at1 : Nat)) HB6.out HT.out HG6.out HGL.out HU0_6.out HU1_6.out HU2_6.out)
              refine hK.out _ _ HF.out.2 (fun hHeld => ?_)
              clear hK K
              (try simp only [Act.put])
              refine wpAnyH_done (by kernel_rfl) ?_ _
              refine NoPanic.normal ?_
              clear hHeld HB6 HG6 HU0_6 HU1_6 HU2_6 HE HS HT
              go_wp2
              go_ret
              exact ⟨_, _, rfl, HF.out.1 (pgs c s b o k v x l) _ _ (by show _ ++ enc l.length ++ l = _; rw [HL.out]) (by show _ ++ enc l.length ++ l = _; rw [HL.out]) rfl (by simp) rfl, on HW0.out HF.out.2⟩
            exact AllReadyH.nil
          exact AllReadyH.nil
        exact AllReadyH.nil
      exact AllReadyH.nil
    exact AllReadyH.nil
  exact AllReadyH.nil
end
end Go.Proofs.YtbcejfonkehjgaaGreatDoor
namespace Go.Proofs.YtbcejfonkehjgaaGreatDoor
open Go.RowKit

theorem OwnV.typ {w : World} {b size n : Nat} {e : TypeId} {v : Value} {us : List Value} {g : Nat} (h : OwnV w b e size v n us) (hg : v.ownBlock = some g) {t : TypeId} {cs : Array Value} (hb : Bx w g t cs) : t = e := by
  rcases h.2 with ⟨hn, _⟩ | ⟨g', cap, cur, hv, hb', hgg, rest⟩
  · rw [hn] at hg; cases hg
  · rw [hv] at hg
    injection hg with hg
    subst hg
    have := hb.symm.trans hgg
    injection this with this
    injection this with _ this
theorem Bx.dsk {w w' : World} {T t : TypeId} {b k j : Nat} {v : Value} {s : St} {cs : Array Value} (h : Bx w j t cs) (hd : Dk w T b k v s) (ho : Only w w' k v) (h1 : t ≠ T) (h2 : t ≠ 38) : Bx w' j t cs := by
  refine (ho.block j h.lt ?_ ?_).trans h
  · rintro rfl
    have := h.symm.trans hd.box
    injection this with this
    injection this with _ this
    exact h1 this
  · intro e
    obtain ⟨us, hw, _⟩ := hd.row
    exact h2 (OwnV.typ hw e.symm h)
theorem St.write_len (s : St) (i : Int) (l : List Int) : (s.write i l).L.length = s.L.length := by
  unfold St.write St.burn
  repeat' split
  all_goals simp
theorem St.write_mem (s : St) (i : Int) (l : List Int) : ∀ x ∈ (s.write i l).L, x ∈ s.L ∨ x = l := by
  unfold St.write St.burn
  intro x hx
  repeat' split at hx
  all_goals first | exact .inl hx | exact List.mem_or_eq_of_mem_set hx
section
variable {w w' : World} {b kd ks : Nat} {v : Value} {s s' : St} {sh : Sh}
theorem Sx.turn (h : Sx w b kd ks v s sh) (hd : Dk w' 77 b kd v s') (ho : Only w w' kd v) (hl : s'.L.length = s.L.length) (hb : ∀ l ∈ s'.L, Ok1 l) : Sx w' b kd ks v s' sh :=
  ⟨hd, h.bx.dsk h.dk ho (by decide) (by decide), h.ok, by rw [hl]; exact h.len, hb⟩
theorem Sx.wrote (h : Sx w b kd ks v s sh) {i : Int} {l : List Int} (hl : Ok1 l) (hd : Dk w' 77 b kd v (s.write i l)) (ho : Only w w' kd v) : Sx w' b kd ks v (s.write i l) sh :=
  h.turn hd ho (s.write_len i l) fun x hx => by
    rcases s.write_mem i l x hx with h1 | rfl
    · exact h.by_ x h1
    · exact hl
theorem Wtr.only {t2 g a1 a2 : Nat} {f : Nat → List Int} (h : Wtr w ks t2 g a1 a2 f) (hd : Dk w 77 b kd v s) (ho : Only w w' kd v) : Wtr w' ks t2 g a1 a2 f := by
  obtain ⟨h1, u0, u1, u2, h2, b0, b1, b2⟩ := h
  exact ⟨h1.dsk hd ho (by decide) (by decide), u0, u1, u2, h2.dsk hd ho (by decide) (by decide), b0.stay ho.stay ho.size, b1.stay ho.stay ho.size, b2.stay ho.stay ho.size⟩
theorem Wtr.below {t2 g a1 a2 : Nat} {f : Nat → List Int} (h : Wtr w ks t2 g a1 a2 f) (hb : Below w.heap.size w w') : Wtr w' ks t2 g a1 a2 f := by
  obtain ⟨h1, u0, u1, u2, h2, b0, b1, b2⟩ := h
  exact ⟨h1.next hb, u0, u1, u2, h2.next hb, b0.below hb, b1.below hb, b2.below hb⟩
end
def wat (a1 a2 : Nat) : Nat → Nat
  | 1 => a1
  | 2 => a2
  | _ => 0
def runs (a : Nat → Nat) (f : Nat → List Int) : St → List Nat → St × Int
  | s, [] => (s, 0)
  | s, i :: r => if s.told (a i : Nat) (f i) = 0 then runs a f (s.write (a i : Nat) (f i)) r else (s.write (a i : Nat) (f i), s.told (a i : Nat) (f i))
theorem Wtr.page {w : World} {ks t2 g a1 a2 : Nat} {f : Nat → List Int} (h : Wtr w ks t2 g a1 a2 f) (h3 : f 3 = []) {i : Nat} (hi : i < 4) :
    ∃ A q, (∀ y : World, y.heap[g]? = w.heap[g]? → y.cell? ⟨g, 2 * i, none⟩ = some (.int .i64 (wat a1 a2 i : Nat)) ∧ y.cell? ⟨g, 2 * i + 1, none⟩ = some (.slice A (f i).length q)) ∧ Rn w A (f i) := by
  obtain ⟨_, u0, u1, u2, h2, ⟨A0, q0, rfl, r0, _⟩, ⟨A1, q1, rfl, r1, _⟩, A2, q2, rfl, r2, _⟩ := h
  match i, hi with
  | 0, _ => exact ⟨A0, q0, fun y e => ⟨Bx.cell (e.trans h2) 0, Bx.cell (e.trans h2) 1⟩, r0⟩
  | 1, _ => exact ⟨A1, q1, fun y e => ⟨Bx.cell (e.trans h2) 2, Bx.cell (e.trans h2) 3⟩, r1⟩
  | 2, _ => exact ⟨A2, q2, fun y e => ⟨Bx.cell (e.trans h2) 4, Bx.cell (e.trans h2) 5⟩, r2⟩
  | 3, _ => exact ⟨none, 0, fun y e => ⟨Bx.cell (e.trans h2) 6, by rw [h3]; exact Bx.cell (e.trans h2) 7⟩, by rw [h3]; exact fun j x hx => by cases hx⟩
theorem Wtr.eqs {w w' : World} {b kd ks t2 g a1 a2 : Nat} {v : Value} {s : St} {f : Nat → List Int} (h : Wtr w ks t2 g a1 a2 f) (hd : Dk w 77 b kd v s) (ho : Only w w' kd v) : w'.heap[t2]? = w.heap[t2]? ∧ w'.heap[g]? = w.heap[g]? := by
  obtain ⟨h1, u0, u1, u2, h2, _⟩ := h
  exact ⟨(h1.dsk hd ho (by decide) (by decide)).trans h1.symm, (h2.dsk hd ho (by decide) (by decide)).trans h2.symm⟩
theorem Sx.eqs {w w' : World} {b kd ks : Nat} {v : Value} {s : St} {sh : Sh} (h : Sx w b kd ks v s sh) (ho : Only w w' kd v) : w'.heap[ks]? = w.heap[ks]? := (h.bx.dsk h.dk ho (by decide) (by decide)).trans h.bx.symm
section
variable {w : World} {b kd ks : Nat} {v : Value} {s : St} {sh : Sh}
set_option maxRecDepth 100000 in
set_option maxHeartbeats 1600000 in
theorem runs_any (h : Sx w b kd ks v s sh) {t2 g a1 a2 : Nat} {f : Nat → List Int} (hw : Wtr w ks t2 g a1 a2 f) (h3 : f 3 = []) (ns : List Nat) (n : Nat) (hn : ns.length = n) (hn4 : n ≤ 4) (hns : ∀ i ∈ ns, i < 4 ∧ Ok1 (f i)) (A : Option Addr) (c B0 : Nat) (_: B0 ≤ w.heap.size) (_ : Rv w B0 A (nats6 ns)) (hrk : ∀ w', Only w w' kd v → Rv w' w'.heap.size A (nats6 ns)) :
    Calls Tryz.prog 119 #[.slice A n c, .pointer (some ⟨t2, 0, none⟩), .pointer (some ⟨g, 0, none⟩)] w fun e w' => e = .returned (.int .i64 (runs (wat a1 a2) f s ns).2) ∧ Sx w' b kd ks v (runs (wat a1 a2) f s ns).1 sh ∧ Only w w' kd v := by
  have HN := hid hn
  have H3 := hid h3
  have HNS := hid hns
  have HRK := hid hrk
  have HX := hid h
  have HWT := hid hw
  clear hn h3 hns hrk h hw
  go_enter Tryz.func119, Tryz.ntmps119
  go_wp2
  go_loopw [10] (fun i wr => ∃ k : Nat, i = .int .i64 k ∧ k ≤ n ∧ ∃ s', Hid (Sx wr b kd ks v s' sh) ∧ Hid (Wtr wr ks t2 g a1 a2 f) ∧ Hid (Only w wr kd v) ∧ Hid (runs (wat a1 a2) f s ns = runs (wat a1 a2) f s' (ns.drop k))) (fun i _ => n - (intOf i).toNat)
  case atStart => exact ⟨0, by rfl, by omega, s, HX, HWT, Only.refl _ _ _, rfl⟩
  case round =>
    obtain ⟨k, rfl, hk, s', hx, hwt, ho, hrun⟩ := hrel
    by_cases hlt : k < n
    · have hlt' : (k : Int) < (n : Int) := by omega
      have hkp : k < ns.length := by rw [HN.out]; exact hlt
      obtain ⟨ad, rfl, hbl, hc⟩ := (HRK.out wr ho.out) k (.int .i64 (ns[k] : Nat)) (by unfold nats6; rw [List.getElem?_map, List.getElem?_eq_getElem hkp]; rfl)
      obtain ⟨hi4, hfm⟩ := HNS.out ns[k] (List.getElem_mem hkp)
      have HD := hid (List.drop_eq_getElem_cons hkp)
      generalize ns[k] = m at *
      obtain ⟨PA, PQ, hpg, hpr⟩ := hwt.out.page H3.out hi4
      have c0 : ∀ y : World, y.heap[t2]? = wr.heap[t2]? → y.cell? ⟨t2, 0, none⟩ = some (.pointer (some ⟨ks, 0, none⟩)) := fun y e => Bx.cell (e.trans hwt.out.1) 0
      have c1 : ∀ y : World, y.heap[ks]? = wr.heap[ks]? → y.cell? ⟨ks, 0, none⟩ = some (.pointer (some ⟨kd, 0, none⟩)) := fun y e => Bx.cell (e.trans hx.out.bx) 0
      have HFM := hid hfm
      obtain ⟨at1, ha1⟩ : ∃ q, wat a1 a2 m = q := ⟨_, rfl⟩
      obtain ⟨l1, hl1⟩ : ∃ q, f m = q := ⟨_, rfl⟩
      rw [ha1, hl1] at hpg
      rw [hl1] at hpr HFM
      have HST := hid (show runs (wat a1 a2) f s' (ns.drop k) = if s'.told (at1 : Nat) l1 = 0 then runs (wat a1 a2) f (s'.write (at1 : Nat) l1) (ns.drop (k + 1)) else (s'.write (at1 : Nat) l1, s'.told (at1 : Nat) l1) by rw [HD.out, ← ha1, ← hl1]; rfl)
      have HRP := hid hpr
      obtain ⟨L1, hL1⟩ : ∃ q, l1.length = q := ⟨_, rfl⟩
      have HL1 := hid hL1
      rw [hL1] at hpg
      have HWR := hid (fun w1 (d1 : Dk w1 77 b kd v s') (r1 : Rn w1 PA l1) => write_any (w := w1) d1 (at1 : Nat) PA L1 PQ l1 HL1.out (by rw [← HL1.out]; have := HFM.out.1; omega) r1)
      clear hkp HD hL1 ha1 hl1 hpr hfm
      -- BEGIN
      by_cases ht : s'.told (at1 : Nat) l1 = 0
      · have HT := hid (HST.out.trans (if_pos ht))
        have HTT := hid ht
        clear ht HST
        rcases (by omega : m = 0 ∨ m = 1 ∨ m = 2 ∨ m = 3) with rfl | rfl | rfl | rfl
        · rw [show (((0 : Nat) : Int)) = 0 from rfl] at hc
          have HKP := hid (fun (y : World) (h1 : y.heap[t2]? = wr.heap[t2]?) (h2 : y.heap[ks]? = wr.heap[ks]?) (h4 : y.heap[g]? = wr.heap[g]?) => show y.cell? ⟨t2, 0, none⟩ = some (.pointer (some ⟨ks, 0, none⟩)) ∧ y.cell? ⟨ks, 0, none⟩ = some (.pointer (some ⟨kd, 0, none⟩)) ∧ y.cell? ⟨g, 0, none⟩ = some (.int .i64 (at1 : Nat)) ∧ y.cell? ⟨g, 1, none⟩ = some (.slice PA L1 PQ) from ⟨c0 y h1, c1 y h2, (hpg y h4).1, (hpg y h4).2⟩)
          clear hpg c0 c1 hi4
          go_upto_region 4 with fail
          have kp := HKP.out wr.drew rfl rfl rfl
          go_region_held3 (fun y => y.cell? ⟨t2, 0, none⟩ = some (.pointer (some ⟨ks, 0, none⟩)) ∧ y.cell? ⟨ks, 0, none⟩ = some (.pointer (some ⟨kd, 0, none⟩)) ∧ y.cell? ⟨g, 0, none⟩ = some (.int .i64 (at1 : Nat)) ∧ y.cell? ⟨g, 1, none⟩ = some (.slice PA L1 PQ)) (exact kp) ((go_at_call 120; refine (HWR.out wr.drew (hx.out.dk.draws 1) (HRP.out.drewN 1)).mono ?_; rintro e w1 ⟨rfl, hd1, ho1⟩; have HO1 := hid (show Only wr w1 kd v from ⟨ho1.os, ho1.tape, ho1.output, ho1.size, ho1.block, ho1.stay, ho1.fr⟩); have HD1 := hid hd1; have kp := HKP.out w1 (hwt.out.eqs hx.out.dk HO1.out).1 (hx.out.eqs HO1.out) (hwt.out.eqs hx.out.dk HO1.out).2; clear hd1 ho1))
          clear kp
          have HX1 := hid (hx.out.wrote HFM.out HD1.out HO1.out)
          have HW1 := hid (hwt.out.only hx.out.dk HO1.out)
          have HO2 := hid (ho.out.trans HO1.out)
          clear HKP HD1 HO1 HRP
          rw [HTT.out]
          go_wp2
          go_roundw
          case rel => exact ⟨k + 1, by go_num, by omega, _, HX1, HW1, HO2, hid (hrun.out.trans HT.out)⟩
          case measure => simp [intOf]; omega
        · rw [show (((1 : Nat) : Int)) = 1 from rfl] at hc
          have HKP := hid (fun (y : World) (h1 : y.heap[t2]? = wr.heap[t2]?) (h2 : y.heap[ks]? = wr.heap[ks]?) (h4 : y.heap[g]? = wr.heap[g]?) => show y.cell? ⟨t2, 0, none⟩ = some (.pointer (some ⟨ks, 0, none⟩)) ∧ y.cell? ⟨ks, 0, none⟩ = some (.pointer (some ⟨kd, 0, none⟩)) ∧ y.cell? ⟨g, 2, none⟩ = some (.int .i64 (at1 : Nat)) ∧ y.cell? ⟨g, 3, none⟩ = some (.slice PA L1 PQ) from ⟨c0 y h1, c1 y h2, (hpg y h4).1, (hpg y h4).2⟩)
          clear hpg c0 c1 hi4
          go_upto_region 4 with fail
          have kp := HKP.out wr.drew rfl rfl rfl
          go_region_held3 (fun y => y.cell? ⟨t2, 0, none⟩ = some (.pointer (some ⟨ks, 0, none⟩)) ∧ y.cell? ⟨ks, 0, none⟩ = some (.pointer (some ⟨kd, 0, none⟩)) ∧ y.cell? ⟨g, 2, none⟩ = some (.int .i64 (at1 : Nat)) ∧ y.cell? ⟨g, 3, none⟩ = some (.slice PA L1 PQ)) (exact kp) ((go_at_call 120; refine (HWR.out wr.drew (hx.out.dk.draws 1) (HRP.out.drewN 1)).mono ?_; rintro e w1 ⟨rfl, hd1, ho1⟩; have HO1 := hid (show Only wr w1 kd v from ⟨ho1.os, ho1.tape, ho1.output, ho1.size, ho1.block, ho1.stay, ho1.fr⟩); have HD1 := hid hd1; have kp := HKP.out w1 (hwt.out.eqs hx.out.dk HO1.out).1 (hx.out.eqs HO1.out) (hwt.out.eqs hx.out.dk HO1.out).2; clear hd1 ho1))
          clear kp
          have HX1 := hid (hx.out.wrote HFM.out HD1.out HO1.out)
          have HW1 := hid (hwt.out.only hx.out.dk HO1.out)
          have HO2 := hid (ho.out.trans HO1.out)
          clear HKP HD1 HO1 HRP
          rw [HTT.out]
          go_wp2
          go_roundw
          case rel => exact ⟨k + 1, by go_num, by omega, _, HX1, HW1, HO2, hid (hrun.out.trans HT.out)⟩
          case measure => simp [intOf]; omega
        · rw [show (((2 : Nat) : Int)) = 2 from rfl] at hc
          have HKP := hid (fun (y : World) (h1 : y.heap[t2]? = wr.heap[t2]?) (h2 : y.heap[ks]? = wr.heap[ks]?) (h4 : y.heap[g]? = wr.heap[g]?) => show y.cell? ⟨t2, 0, none⟩ = some (.pointer (some ⟨ks, 0, none⟩)) ∧ y.cell? ⟨ks, 0, none⟩ = some (.pointer (some ⟨kd, 0, none⟩)) ∧ y.cell? ⟨g, 4, none⟩ = some (.int .i64 (at1 : Nat)) ∧ y.cell? ⟨g, 5, none⟩ = some (.slice PA L1 PQ) from ⟨c0 y h1, c1 y h2, (hpg y h4).1, (hpg y h4).2⟩)
          clear hpg c0 c1 hi4
          go_upto_region 4 with fail
          have kp := HKP.out wr.drew rfl rfl rfl
          go_region_held3 (fun y => y.cell? ⟨t2, 0, none⟩ = some (.pointer (some ⟨ks, 0, none⟩)) ∧ y.cell? ⟨ks, 0, none⟩ = some (.pointer (some ⟨kd, 0, none⟩)) ∧ y.cell? ⟨g, 4, none⟩ = some (.int .i64 (at1 : Nat)) ∧ y.cell? ⟨g, 5, none⟩ = some (.slice PA L1 PQ)) (exact kp) ((go_at_call 120; refine (HWR.out wr.drew (hx.out.dk.draws 1) (HRP.out.drewN 1)).mono ?_; rintro e w1 ⟨rfl, hd1, ho1⟩; have HO1 := hid (show Only wr w1 kd v from ⟨ho1.os, ho1.tape, ho1.output, ho1.size, ho1.block, ho1.stay, ho1.fr⟩); have HD1 := hid hd1; have kp := HKP.out w1 (hwt.out.eqs hx.out.dk HO1.out).1 (hx.out.eqs HO1.out) (hwt.out.eqs hx.out.dk HO1.out).2; clear hd1 ho1))
          clear kp
          have HX1 := hid (hx.out.wrote HFM.out HD1.out HO1.out)
          have HW1 := hid (hwt.out.only hx.out.dk HO1.out)
          have HO2 := hid (ho.out.trans HO1.out)
          clear HKP HD1 HO1 HRP
          rw [HTT.out]
          go_wp2
          go_roundw
          case rel => exact ⟨k + 1, by go_num, by omega, _, HX1, HW1, HO2, hid (hrun.out.trans HT.out)⟩
          case measure => simp [intOf]; omega
        · rw [show (((3 : Nat) : Int)) = 3 from rfl] at hc
          have HKP := hid (fun (y : World) (h1 : y.heap[t2]? = wr.heap[t2]?) (h2 : y.heap[ks]? = wr.heap[ks]?) (h4 : y.heap[g]? = wr.heap[g]?) => show y.cell? ⟨t2, 0, none⟩ = some (.pointer (some ⟨ks, 0, none⟩)) ∧ y.cell? ⟨ks, 0, none⟩ = some (.pointer (some ⟨kd, 0, none⟩)) ∧ y.cell? ⟨g, 6, none⟩ = some (.int .i64 (at1 : Nat)) ∧ y.cell? ⟨g, 7, none⟩ = some (.slice PA L1 PQ) from ⟨c0 y h1, c1 y h2, (hpg y h4).1, (hpg y h4).2⟩)
          clear hpg c0 c1 hi4
          go_upto_region 4 with fail
          have kp := HKP.out wr.drew rfl rfl rfl
          go_region_held3 (fun y => y.cell? ⟨t2, 0, none⟩ = some (.pointer (some ⟨ks, 0, none⟩)) ∧ y.cell? ⟨ks, 0, none⟩ = some (.pointer (some ⟨kd, 0, none⟩)) ∧ y.cell? ⟨g, 6, none⟩ = some (.int .i64 (at1 : Nat)) ∧ y.cell? ⟨g, 7, none⟩ = some (.slice PA L1 PQ)) (exact kp) ((go_at_call 120; refine (HWR.out wr.drew (hx.out.dk.draws 1) (HRP.out.drewN 1)).mono ?_; rintro e w1 ⟨rfl, hd1, ho1⟩; have HO1 := hid (show Only wr w1 kd v from ⟨ho1.os, ho1.tape, ho1.output, ho1.size, ho1.block, ho1.stay, ho1.fr⟩); have HD1 := hid hd1; have kp := HKP.out w1 (hwt.out.eqs hx.out.dk HO1.out).1 (hx.out.eqs HO1.out) (hwt.out.eqs hx.out.dk HO1.out).2; clear hd1 ho1))
          clear kp
          have HX1 := hid (hx.out.wrote HFM.out HD1.out HO1.out)
          have HW1 := hid (hwt.out.only hx.out.dk HO1.out)
          have HO2 := hid (ho.out.trans HO1.out)
          clear HKP HD1 HO1 HRP
          rw [HTT.out]
          go_wp2
          go_roundw
          case rel => exact ⟨k + 1, by go_num, by omega, _, HX1, HW1, HO2, hid (hrun.out.trans HT.out)⟩
          case measure => simp [intOf]; omega
      · have HT := hid (HST.out.trans (if_neg ht))
        have HTT := hid ht
        clear ht HST
        rcases (by omega : m = 0 ∨ m = 1 ∨ m = 2 ∨ m = 3) with rfl | rfl | rfl | rfl
        · rw [show (((0 : Nat) : Int)) = 0 from rfl] at hc
          have HKP := hid (fun (y : World) (h1 : y.heap[t2]? = wr.heap[t2]?) (h2 : y.heap[ks]? = wr.heap[ks]?) (h4 : y.heap[g]? = wr.heap[g]?) => show y.cell? ⟨t2, 0, none⟩ = some (.pointer (some ⟨ks, 0, none⟩)) ∧ y.cell? ⟨ks, 0, none⟩ = some (.pointer (some ⟨kd, 0, none⟩)) ∧ y.cell? ⟨g, 0, none⟩ = some (.int .i64 (at1 : Nat)) ∧ y.cell? ⟨g, 1, none⟩ = some (.slice PA L1 PQ) from ⟨c0 y h1, c1 y h2, (hpg y h4).1, (hpg y h4).2⟩)
          clear hpg c0 c1 hi4
          go_upto_region 4 with fail
          have kp := HKP.out wr.drew rfl rfl rfl
          go_region_held3 (fun y => y.cell? ⟨t2, 0, none⟩ = some (.pointer (some ⟨ks, 0, none⟩)) ∧ y.cell? ⟨ks, 0, none⟩ = some (.pointer (some ⟨kd, 0, none⟩)) ∧ y.cell? ⟨g, 0, none⟩ = some (.int .i64 (at1 : Nat)) ∧ y.cell? ⟨g, 1, none⟩ = some (.slice PA L1 PQ)) (exact kp) ((go_at_call 120; refine (HWR.out wr.drew (hx.out.dk.draws 1) (HRP.out.drewN 1)).mono ?_; rintro e w1 ⟨rfl, hd1, ho1⟩; have HO1 := hid (show Only wr w1 kd v from ⟨ho1.os, ho1.tape, ho1.output, ho1.size, ho1.block, ho1.stay, ho1.fr⟩); have HD1 := hid hd1; have kp := HKP.out w1 (hwt.out.eqs hx.out.dk HO1.out).1 (hx.out.eqs HO1.out) (hwt.out.eqs hx.out.dk HO1.out).2; clear hd1 ho1))
          clear kp
          have HX1 := hid (hx.out.wrote HFM.out HD1.out HO1.out)
          have HW1 := hid (hwt.out.only hx.out.dk HO1.out)
          have HO2 := hid (ho.out.trans HO1.out)
          clear HKP HD1 HO1 HRP
          obtain ⟨ev, hev⟩ : ∃ q, s'.told (at1 : Nat) l1 = q := ⟨_, rfl⟩
          rw [hev] at HT ⊢
          have hne : (ev == 0) = false := by simpa [hev] using HTT.out
          have hne2 : (ev != 0) = true := by simpa [hev] using HTT.out
          have HH := hid (hrun.out.trans HT.out)
          clear hev HT HTT hrun
          go_wp2
          go_ret
          rw [HH.out]
          exact ⟨rfl, HX1.out, HO2.out⟩
        · rw [show (((1 : Nat) : Int)) = 1 from rfl] at hc
          have HKP := hid (fun (y : World) (h1 : y.heap[t2]? = wr.heap[t2]?) (h2 : y.heap[ks]? = wr.heap[ks]?) (h4 : y.heap[g]? = wr.heap[g]?) => show y.cell? ⟨t2, 0, none⟩ = some (.pointer (some ⟨ks, 0, none⟩)) ∧ y.cell? ⟨ks, 0, none⟩ = some (.pointer (some ⟨kd, 0, none⟩)) ∧ y.cell? ⟨g, 2, none⟩ = some (.int .i64 (at1 : Nat)) ∧ y.cell? ⟨g, 3, none⟩ = some (.slice PA L1 PQ) from ⟨c0 y h1, c1 y h2, (hpg y h4).1, (hpg y h4).2⟩)
          clear hpg c0 c1 hi4
          go_upto_region 4 with fail
          have kp := HKP.out wr.drew rfl rfl rfl
          go_region_held3 (fun y => y.cell? ⟨t2, 0, none⟩ = some (.pointer (some ⟨ks, 0, none⟩)) ∧ y.cell? ⟨ks, 0, none⟩ = some (.pointer (some ⟨kd, 0, none⟩)) ∧ y.cell? ⟨g, 2, none⟩ = some (.int .i64 (at1 : Nat)) ∧ y.cell? ⟨g, 3, none⟩ = some (.slice PA L1 PQ)) (exact kp) ((go_at_call 120; refine (HWR.out wr.drew (hx.out.dk.draws 1) (HRP.out.drewN 1)).mono ?_; rintro e w1 ⟨rfl, hd1, ho1⟩; have HO1 := hid (show Only wr w1 kd v from ⟨ho1.os, ho1.tape, ho1.output, ho1.size, ho1.block, ho1.stay, ho1.fr⟩); have HD1 := hid hd1; have kp := HKP.out w1 (hwt.out.eqs hx.out.dk HO1.out).1 (hx.out.eqs HO1.out) (hwt.out.eqs hx.out.dk HO1.out).2; clear hd1 ho1))
          clear kp
          have HX1 := hid (hx.out.wrote HFM.out HD1.out HO1.out)
          have HW1 := hid (hwt.out.only hx.out.dk HO1.out)
          have HO2 := hid (ho.out.trans HO1.out)
          clear HKP HD1 HO1 HRP
          obtain ⟨ev, hev⟩ : ∃ q, s'.told (at1 : Nat) l1 = q := ⟨_, rfl⟩
          rw [hev] at HT ⊢
          have hne : (ev == 0) = false := by simpa [hev] using HTT.out
          have hne2 : (ev != 0) = true := by simpa [hev] using HTT.out
          have HH := hid (hrun.out.trans HT.out)
          clear hev HT HTT hrun
          go_wp2
          go_ret
          rw [HH.out]
          exact ⟨rfl, HX1.out, HO2.out⟩
        · rw [show (((2 : Nat) : Int)) = 2 from rfl] at hc
          have HKP := hid (fun (y : World) (h1 : y.heap[t2]? = wr.heap[t2]?) (h2 : y.heap[ks]? = wr.heap[ks]?) (h4 : y.heap[g]? = wr.heap[g]?) => show y.cell? ⟨t2, 0, none⟩ = some (.pointer (some ⟨ks, 0, none⟩)) ∧ y.cell? ⟨ks, 0, none⟩ = some (.pointer (some ⟨kd, 0, none⟩)) ∧ y.cell? ⟨g, 4, none⟩ = some (.int .i64 (at1 : Nat)) ∧ y.cell? ⟨g, 5, none⟩ = some (.slice PA L1 PQ) from ⟨c0 y h1, c1 y h2, (hpg y h4).1, (hpg y h4).2⟩)
          clear hpg c0 c1 hi4
          go_upto_region 4 with fail
          have kp := HKP.out wr.drew rfl rfl rfl
          go_region_held3 (fun y => y.cell? ⟨t2, 0, none⟩ = some (.pointer (some ⟨ks, 0, none⟩)) ∧ y.cell? ⟨ks, 0, none⟩ = some (.pointer (some ⟨kd, 0, none⟩)) ∧ y.cell? ⟨g, 4, none⟩ = some (.int .i64 (at1 : Nat)) ∧ y.cell? ⟨g, 5, none⟩ = some (.slice PA L1 PQ)) (exact kp) ((go_at_call 120; refine (HWR.out wr.drew (hx.out.dk.draws 1) (HRP.out.drewN 1)).mono ?_; rintro e w1 ⟨rfl, hd1, ho1⟩; have HO1 := hid (show Only wr w1 kd v from ⟨ho1.os, ho1.tape, ho1.output, ho1.size, ho1.block, ho1.stay, ho1.fr⟩); have HD1 := hid hd1; have kp := HKP.out w1 (hwt.out.eqs hx.out.dk HO1.out).1 (hx.out.eqs HO1.out) (hwt.out.eqs hx.out.dk HO1.out).2; clear hd1 ho1))
          clear kp
          have HX1 := hid (hx.out.wrote HFM.out HD1.out HO1.out)
          have HW1 := hid (hwt.out.only hx.out.dk HO1.out)
          have HO2 := hid (ho.out.trans HO1.out)
          clear HKP HD1 HO1 HRP
          obtain ⟨ev, hev⟩ : ∃ q, s'.told (at1 : Nat) l1 = q := ⟨_, rfl⟩
          rw [hev] at HT ⊢
          have hne : (ev == 0) = false := by simpa [hev] using HTT.out
          have hne2 : (ev != 0) = true := by simpa [hev] using HTT.out
          have HH := hid (hrun.out.trans HT.out)
          clear hev HT HTT hrun
          go_wp2
          go_ret
          rw [HH.out]
          exact ⟨rfl, HX1.out, HO2.out⟩
        · rw [show (((3 : Nat) : Int)) = 3 from rfl] at hc
          have HKP := hid (fun (y : World) (h1 : y.heap[t2]? = wr.heap[t2]?) (h2 : y.heap[ks]? = wr.heap[ks]?) (h4 : y.heap[g]? = wr.heap[g]?) => show y.cell? ⟨t2, 0, none⟩ = some (.pointer (some ⟨ks, 0, none⟩)) ∧ y.cell? ⟨ks, 0, none⟩ = some (.pointer (some ⟨kd, 0, none⟩)) ∧ y.cell? ⟨g, 6, none⟩ = some (.int .i64 (at1 : Nat)) ∧ y.cell? ⟨g, 7, none⟩ = some (.slice PA L1 PQ) from ⟨c0 y h1, c1 y h2, (hpg y h4).1, (hpg y h4).2⟩)
          clear hpg c0 c1 hi4
          go_upto_region 4 with fail
          have kp := HKP.out wr.drew rfl rfl rfl
          go_region_held3 (fun y => y.cell? ⟨t2, 0, none⟩ = some (.pointer (some ⟨ks, 0, none⟩)) ∧ y.cell? ⟨ks, 0, none⟩ = some (.pointer (some ⟨kd, 0, none⟩)) ∧ y.cell? ⟨g, 6, none⟩ = some (.int .i64 (at1 : Nat)) ∧ y.cell? ⟨g, 7, none⟩ = some (.slice PA L1 PQ)) (exact kp) ((go_at_call 120; refine (HWR.out wr.drew (hx.out.dk.draws 1) (HRP.out.drewN 1)).mono ?_; rintro e w1 ⟨rfl, hd1, ho1⟩; have HO1 := hid (show Only wr w1 kd v from ⟨ho1.os, ho1.tape, ho1.output, ho1.size, ho1.block, ho1.stay, ho1.fr⟩); have HD1 := hid hd1; have kp := HKP.out w1 (hwt.out.eqs hx.out.dk HO1.out).1 (hx.out.eqs HO1.out) (hwt.out.eqs hx.out.dk HO1.out).2; clear hd1 ho1))
          clear kp
          have HX1 := hid (hx.out.wrote HFM.out HD1.out HO1.out)
          have HW1 := hid (hwt.out.only hx.out.dk HO1.out)
          have HO2 := hid (ho.out.trans HO1.out)
          clear HKP HD1 HO1 HRP
          obtain ⟨ev, hev⟩ : ∃ q, s'.told (at1 : Nat) l1 = q := ⟨_, rfl⟩
          rw [hev] at HT ⊢
          have hne : (ev == 0) = false := by simpa [hev] using HTT.out
          have hne2 : (ev != 0) = true := by simpa [hev] using HTT.out
          have HH := hid (hrun.out.trans HT.out)
          clear hev HT HTT hrun
          go_wp2
          go_ret
          rw [HH.out]
          exact ⟨rfl, HX1.out, HO2.out⟩
      -- END
    · have hkn : k = n := by omega
      subst hkn
      have HE := hid (show runs (wat a1 a2) f s ns = (s', 0) by rw [hrun.out, ← HN.out, List.drop_length]; rfl)
      go_wp2
      go_ret
      rw [HE.out]
      exact ⟨rfl, hx.out, ho.out⟩
end
end Go.Proofs.YtbcejfonkehjgaaGreatDoor
