/-
  What is proved: sector's small functions: has, burn, Fuse, Down, Up, Len, and what they tell of no disk. Condition: the disk lies in memory as a disk.
-/
import Derived.Test.YtincndblpbdnlaaRows
import Derived.Test.YtincndblpbdnlaaDk
namespace Go.Proofs.Ytincndblpbdnlaa
open Go.RowKit

abbrev TD : TypeId := 67
def ptr (k : Nat) : Value := .pointer (some ⟨k, 0, none⟩)

section
variable {w : World} {b k : Nat} {v : Value} {s : St}
set_option maxHeartbeats 400000 in
theorem has_yes (h : Dk w 67 b k v s) (i : Nat) (hi : i < s.L.length) :
    Calls Try.prog 41 #[.pointer (some ⟨k, 0, none⟩), .int .i64 i] w fun e w' => e = .returned (.bool true) ∧ w = w' := by
  obtain ⟨A, c, rfl, _, _⟩ := h.shape
  obtain ⟨c0, _, _, _, _, _⟩ := h.cells
  have h1 : (i : Int) < (s.L.length : Int) := by omega
  clear h
  generalize s.L.length = n at *
  go_enter Try.func41, Try.ntmps41
  go_wp2
  go_ret
  exact ⟨rfl, rfl⟩
set_option maxHeartbeats 400000 in
theorem has_no (h : Dk w 67 b k v s) (i : Int) (hi : i < 0 ∨ (s.L.length : Int) ≤ i) :
    Calls Try.prog 41 #[.pointer (some ⟨k, 0, none⟩), .int .i64 i] w fun e w' => e = .returned (.bool false) ∧ w = w' := by
  obtain ⟨A, c, rfl, _, _⟩ := h.shape
  obtain ⟨c0, _, _, _, _, _⟩ := h.cells
  clear h
  generalize s.L.length = n at *
  by_cases h0 : i < 0
  · clear hi
    have hd : decide ((0 : Int) ≤ i) = false := by simpa using h0
    go_enter Try.func41, Try.ntmps41
    go_wp2
    go_ret
    exact ⟨rfl, rfl⟩
  · have h1 : (n : Int) ≤ i := by omega
    have h2 : 0 ≤ i := by omega
    have hd : decide (i < (n : Int)) = false := by simpa using h1
    clear hi h0
    go_enter Try.func41, Try.ntmps41
    go_wp2
    go_ret
    exact ⟨rfl, rfl⟩

set_option maxHeartbeats 400000 in
theorem down_any (h : Dk w 67 b k v s) : Calls Try.prog 39 #[.pointer (some ⟨k, 0, none⟩)] w fun e w' => e = .returned (.bool s.d) ∧ w = w' := by
  obtain ⟨_, _, c2, _, _, _⟩ := h.cells
  clear h
  generalize s.d = d at *
  go_enter Try.func39, Try.ntmps39
  go_wp2
  go_ret
  exact ⟨rfl, rfl⟩
set_option maxHeartbeats 400000 in
theorem len_any (h : Dk w 67 b k v s) : Calls Try.prog 30 #[.pointer (some ⟨k, 0, none⟩)] w fun e w' => e = .returned (.int .i64 s.L.length) ∧ w = w' := by
  obtain ⟨A, c, rfl, _, _⟩ := h.shape
  obtain ⟨c0, _, _, _, _, _⟩ := h.cells
  clear h
  generalize s.L.length = n at *
  go_enter Try.func30, Try.ntmps30
  go_wp2
  go_ret
  exact ⟨rfl, rfl⟩

/-- what is left of the fuse -/
def St.fuse (s : St) (n : Int) : St := if s.d then s else { s with f := n }
set_option maxHeartbeats 400000 in
theorem fuse_any (h : Dk w 67 b k v s) (n : Int) (hn : -9223372036854775808 ≤ n ∧ n ≤ 9223372036854775807) :
    Calls Try.prog 21 #[.pointer (some ⟨k, 0, none⟩), .int .i64 n] w fun e w' => e = .returned (.tuple #[]) ∧ Dk w' 67 b k v (s.fuse n) ∧ Only w w' k v := by
  obtain ⟨_, c1, c2, _, f1, _⟩ := h.cells
  have H := hid (h.setF n hn)
  have H0 := hid h
  clear h hn
  obtain ⟨L, f, d⟩ := s
  cases d
  · have c2' : w.cell? ⟨k, 2, none⟩ = some (.bool false) := c2
    have c1' : w.cell? ⟨k, 1, none⟩ = some (.int .i64 f) := c1
    clear c1 c2
    go_enter Try.func21, Try.ntmps21
    go_wp2
    exact bodyPost_end (results_none rfl _ _ _) rfl ⟨rfl, H.out⟩
  · have c2' : w.cell? ⟨k, 2, none⟩ = some (.bool true) := c2
    clear c1 c2
    go_enter Try.func21, Try.ntmps21
    go_wp2
    exact bodyPost_ret (results_none rfl _ _ _) rfl ⟨rfl, H0.out, Only.refl _ _ _⟩
set_option maxHeartbeats 400000 in
theorem up_any (h : Dk w 67 b k v s) :
    Calls Try.prog 22 #[.pointer (some ⟨k, 0, none⟩)] w fun e w' => e = .returned (.tuple #[]) ∧ Dk w' 67 b k v { s with f := -1, d := false } ∧ Only w w' k v := by
  obtain ⟨_, c1, c2, _, f1, f2⟩ := h.cells
  have h1 := h.setD false
  have h2 := h1.1.setF (-1) (by omega)
  have H := hid (show Dk _ 67 b k v { s with f := -1, d := false } ∧ Only w _ k v from ⟨h2.1, h1.2.trans h2.2⟩)
  have HN : (⟨k, 2, none⟩ : Addr) ≠ ⟨k, 1, none⟩ := by intro e; injection e with _ e; omega
  have c3 : (w.setCell ⟨k, 2, none⟩ (.bool false)).cell? ⟨k, 1, none⟩ = some (.int .i64 s.f) := by rw [World.cell?_setCell_other _ _ _ _ HN]; exact c1
  have f3 : (w.setCell ⟨k, 2, none⟩ (.bool false)).frozen? ⟨k, 1, none⟩ = false := by rw [World.frozen?_setCell]; exact f1
  clear h h1 h2 HN
  generalize s.d = d at *
  generalize s.f = f at *
  go_enter Try.func22, Try.ntmps22
  go_wp2
  exact bodyPost_end (results_none rfl _ _ _) rfl ⟨rfl, H.out⟩
/-- behind a write that is not refused -/
def St.burn (s : St) : St := if s.f = 0 then { s with d := true } else if 0 < s.f then { s with f := s.f - 1 } else s
set_option maxHeartbeats 400000 in
theorem burn_any (h : Dk w 67 b k v s) :
    Calls Try.prog 42 #[.pointer (some ⟨k, 0, none⟩)] w fun e w' => e = .returned (.tuple #[]) ∧ Dk w' 67 b k v s.burn ∧ Only w w' k v := by
  obtain ⟨_, c1, c2, _, f1, f2⟩ := h.cells
  have hb := h.bnd
  by_cases h0 : s.f = 0
  · have H := hid (show Dk (w.setCell ⟨k, 2, none⟩ (.bool true)) 67 b k v s.burn ∧ Only w (w.setCell ⟨k, 2, none⟩ (.bool true)) k v from by unfold St.burn; rw [if_pos h0]; exact h.setD true)
    rw [h0] at c1
    clear h hb h0
    generalize s.d = d at *
    go_enter Try.func42, Try.ntmps42
    go_wp2
    exact bodyPost_end (results_none rfl _ _ _) rfl ⟨rfl, H.out⟩
  · by_cases h1 : 0 < s.f
    · have H := hid (show Dk (w.setCell ⟨k, 1, none⟩ (.int .i64 (s.f - 1))) 67 b k v s.burn ∧ Only w (w.setCell ⟨k, 1, none⟩ (.int .i64 (s.f - 1))) k v from by unfold St.burn; rw [if_neg h0, if_pos h1]; exact h.setF _ (by omega))
      clear h
      generalize s.d = d at *
      generalize hf : s.f = f at *
      clear hf
      go_enter Try.func42, Try.ntmps42
      go_wp2
      exact bodyPost_end (results_none rfl _ _ _) rfl ⟨rfl, H.out⟩
    · have H := hid (show Dk w 67 b k v s.burn ∧ Only w w k v from by unfold St.burn; rw [if_neg h0, if_neg h1]; exact ⟨h, Only.refl _ _ _⟩)
      clear h
      generalize s.d = d at *
      generalize hf : s.f = f at *
      clear hf
      go_enter Try.func42, Try.ntmps42
      go_wp2
      exact bodyPost_end (results_none rfl _ _ _) rfl ⟨rfl, H.out⟩
end
end Go.Proofs.Ytincndblpbdnlaa
