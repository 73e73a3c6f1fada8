/-
  What is proved: what store's entries put to sectors: numbers, and a text behind them. Conditions: the numbers are below 2^63; the text is no longer than a million.
-/
import Derived.Test.YtincndblpbdnlaaPtx
import Derived.Test.YtincndblpbdnlaaSx
namespace Go.Proofs.Ytincndblpbdnlaa
open Go.RowKit

theorem encs_take (ns : List Nat) (k : Nat) (h : k < ns.length) : encs (ns.take (k + 1)) = encs (ns.take k) ++ enc ns[k] := by
  rw [List.take_add_one, encs_append, List.getElem?_eq_getElem h]
  simp [encs]
theorem encs_len (ns : List Nat) (hb : ∀ m ∈ ns, m < 9223372036854775808) : (encs ns).length ≤ 9 * ns.length := by
  induction ns with
  | nil => simp [encs]
  | cons m r ih =>
    have h1 := enc_len9 m (hb m (by simp))
    have h2 := ih (fun x hx => hb x (by simp [hx]))
    simp only [encs, List.length_append, List.length_cons]
    omega
/-- whole numbers as cells -/
def nats (ns : List Nat) : List Value := ns.map fun (m : Nat) => Value.int .i64 m

set_option maxRecDepth 100000 in
set_option maxHeartbeats 800000 in
theorem numbers_any (ns : List Nat) (n : Nat) (hn : ns.length = n) (hn6 : n ≤ 6) (hb : ∀ m ∈ ns, m < 9223372036854775808) (A : Option Addr) (c : Nat) (w : World) (hr : Rv w w.heap.size A (nats ns)) :
    Calls Try.prog 69 #[.slice A n c] w fun e w' => ∃ u, e = .returned u ∧ Bs w' u (encs ns) ∧ Below w.heap.size w w' := by
  have HN := hid hn
  have HB := hid hb
  have HR := hid hr
  clear hn hb hr
  go_enter Try.func69, Try.ntmps69
  go_wp2
  go_loopw [3, 8] (fun v i wr => ∃ k : Nat, i = .int .i64 k ∧ k ≤ n ∧ Hid (Bs wr v (encs (ns.take k))) ∧ Hid (Below w.heap.size w wr)) (fun _ i _ => n - (intOf i).toNat)
  case atStart => exact ⟨0, by rfl, by omega, bs_nil _, Below.refl _ _⟩
  case round =>
    obtain ⟨k, rfl, hk, hv, hbel⟩ := hrel
    by_cases hlt : k < n
    · have hlt' : (k : Int) < (n : Int) := by omega
      have hkp : k < ns.length := by rw [HN.out]; exact hlt
      obtain ⟨ad, rfl, hbl, hc⟩ := (HR.out.below hbel.out (Nat.le_refl _)) k (.int .i64 (ns[k] : Nat)) (by unfold nats; rw [List.getElem?_map, List.getElem?_eq_getElem hkp]; rfl)
      have HT := hid (encs_take ns k hkp)
      have hm := HB.out ns[k] (List.getElem_mem hkp)
      generalize ns[k] = m at *
      obtain ⟨A2, c2, rfl, r2, h2⟩ := hv.out
      have hlen : (encs (ns.take k)).length ≤ 9 * 6 := Nat.le_trans (encs_len _ (fun x hx => HB.out x (List.mem_of_mem_take hx))) (by rw [List.length_take]; omega)
      have HR2 := hid r2
      clear hbl r2 h2
      generalize hll : encs (ns.take k) = ll at *
      obtain ⟨L, hL⟩ : ∃ L, ll.length = L := ⟨_, rfl⟩
      have HL := hid hL
      rw [hL] at hlen ⊢
      clear hL hll hkp
      go_wp2_with (go_at_call 71; refine (put_any A2 L c2 m ll wr _ HL.out (by omega) (by omega) HR2.out (Nat.le_refl _)).mono ?_; rintro e w1 ⟨v', rfl, hown, hb1⟩; have HV1 := hid hown.bs; have HB1 := hid (on hbel.out hb1); clear hown hb1)
      go_roundw
      case rel => exact ⟨k + 1, by go_num, by omega, hid (by rw [HT.out]; have := HV1.out; rw [Int.toNat_natCast] at this; exact this), HB1⟩
      case measure => simp [intOf]; omega
    · have hkn : k = n := by omega
      subst hkn
      have HV := hid (show Bs wr _ (encs ns) from by have := hv.out; rw [← HN.out, List.take_length] at this; exact this)
      go_wp2
      go_ret
      exact ⟨_, rfl, HV.out, hbel.out⟩
end Go.Proofs.Ytincndblpbdnlaa
