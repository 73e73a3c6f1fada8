/-
  What is proved: store's Read and Down. Condition: the store lies in memory as one, or there is none.
-/
import Derived.Test.YtincndblpbdnlaaBlk
namespace Go.Proofs.Ytincndblpbdnlaa
open Go.RowKit

section
variable {w : World} {b kd ks : Nat} {v : Value} {s : St} {sh : Sh}
set_option maxHeartbeats 400000 in
theorem read_nil (k : Int) (w : World) : Calls Try.prog 27 #[.pointer none, .int .i64 k] w fun e w' => e = .returned (.tuple #[.slice none 0 0, .int .i64 0, .int .i64 7]) ∧ w' = w := by
  go_enter Try.func27, Try.ntmps27
  go_wp2
  go_ret3
  exact ⟨rfl, rfl⟩
set_option maxHeartbeats 400000 in
theorem read_no (h : Sx w b kd ks v s sh) (k : Int) (hk : ¬ (0 ≤ k ∧ k < sh.B)) : Calls Try.prog 27 #[.pointer (some ⟨ks, 0, none⟩), .int .i64 k] w fun e w' => e = .returned (.tuple #[.slice none 0 0, .int .i64 0, .int .i64 9]) ∧ Below w.heap.size w w' := by
  obtain ⟨c0, c1, c2, c3, c4⟩ := h.bx.all5
  have HB := hid (fun w1 => hasBlock_no sh h.ok w1 k hk)
  clear h hk
  obtain ⟨B, Z, C, S⟩ := sh
  simp only [Sh.v] at HB c0 c1 c2 c3 c4
  go_enter Try.func27, Try.ntmps27
  go_wp2_with fail
  refine (HB.out _).mono ?_
  rintro e w1 ⟨rfl, hb1⟩
  have HB1 := hid hb1
  clear hb1
  go_wp2
  go_ret3
  exact ⟨rfl, HB1.out⟩
set_option maxHeartbeats 400000 in
theorem read_yes (h : Sx w b kd ks v s sh) (k : Nat) (hk : k < sh.B) (l : List Int) (hl : s.L[1 + k]? = some l) :
    Calls Try.prog 27 #[.pointer (some ⟨ks, 0, none⟩), .int .i64 k] w fun e w' => ∃ u, e = .returned (.tuple #[u, .int .i64 ((blk sh.Z l).1 : Nat), .int .i64 0]) ∧ Own w' w.heap.size u (blk sh.Z l).2 ∧ Below w.heap.size w w' := by
  obtain ⟨c0, c1, c2, c3, c4⟩ := h.bx.all5
  have HB := hid (fun w1 => hasBlock_yes sh h.ok w1 k ⟨by omega, by omega⟩)
  have HK := hid (fun w1 (hb : Below w.heap.size w w1) => block_own (h.below hb) k hk l hl)
  clear h hk hl
  obtain ⟨B, Z, C, S⟩ := sh
  simp only [Sh.v] at HB c0 c1 c2 c3 c4
  generalize blk Z l = vl at *
  go_enter Try.func27, Try.ntmps27
  go_wp2_with fail
  refine (HB.out _).mono ?_
  rintro e w1 ⟨rfl, hb1⟩
  have HB1 := hid hb1
  clear hb1
  go_wp2_with fail
  refine (HK.out w1 HB1.out).mono ?_
  rintro e w2 ⟨u, rfl, hu, hb2⟩
  have HB2 := hid (on HB1.out hb2)
  have HU := hid hu
  clear hu hb2
  go_wp2
  go_ret3
  exact ⟨_, rfl, HU.out.lower HB1.out.size, HB2.out⟩
set_option maxHeartbeats 400000 in
theorem sdown_nil (w : World) : Calls Try.prog 19 #[.pointer none] w fun e w' => e = .returned (.bool false) ∧ w' = w := by
  go_enter Try.func19, Try.ntmps19
  go_wp2
  go_ret
  exact ⟨rfl, rfl⟩
set_option maxHeartbeats 400000 in
theorem sdown_any (h : Sx w b kd ks v s sh) : Calls Try.prog 19 #[.pointer (some ⟨ks, 0, none⟩)] w fun e w' => e = .returned (.bool s.d) ∧ w' = w := by
  have c0 : w.cell? ⟨ks, 0, none⟩ = _ := h.bx.cell 0
  simp at c0
  have HD := hid (down_any h.dk)
  clear h
  generalize s.d = d at *
  go_enter Try.func19, Try.ntmps19
  go_wp2_with (go_at_call 39; refine HD.out.mono ?_; rintro e w' ⟨rfl, rfl⟩)
  go_ret
  exact ⟨rfl, rfl⟩
end
end Go.Proofs.Ytincndblpbdnlaa
