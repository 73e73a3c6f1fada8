/-
  What is proved: store's small functions on shapes: whether one may be, where its sectors lie, what blocks and slots there are, what is wrong with a write. Condition: the shape may be.
-/
import Derived.Test.YtincndblpbdnlaaRows
import Derived.Test.YtincndblpbdnlaaBase
import Derived.Deep.QuietTactic
import Derived.BigQuiet
namespace Go.Proofs.Ytincndblpbdnlaa
open Go.RowKit

/-- a shape -/
structure Sh where
  B : Nat
  Z : Nat
  C : Nat
  S : Nat
/-- it may be -/
structure Sh.ok (h : Sh) : Prop where
  b : 1 ≤ h.B ∧ h.B ≤ 32
  z : 1 ≤ h.Z ∧ h.Z ≤ 16
  c : 1 ≤ h.C ∧ h.C ≤ 4
  s : 1 ≤ h.S ∧ h.S ≤ 4
def Sh.v (h : Sh) : Value := .agg #[.int .i64 h.B, .int .i64 h.Z, .int .i64 h.C, .int .i64 h.S]

set_option maxHeartbeats 400000 in
theorem within_yes (n a b : Int) (w : World) (h : a ≤ n ∧ n ≤ b) : Calls Try.prog 48 #[.int .i64 n, .int .i64 a, .int .i64 b] w fun e w' => e = .returned (.bool true) ∧ w' = w := by
  obtain ⟨h1, h2⟩ := h
  go_enter Try.func48, Try.ntmps48
  go_wp2
  go_ret
  exact ⟨rfl, rfl⟩
set_option maxHeartbeats 400000 in
theorem within_no (n a b : Int) (w : World) (h : ¬ (a ≤ n ∧ n ≤ b)) : Calls Try.prog 48 #[.int .i64 n, .int .i64 a, .int .i64 b] w fun e w' => e = .returned (.bool false) ∧ w' = w := by
  by_cases h1 : a ≤ n
  · have h2 : ¬ n ≤ b := fun e => h ⟨h1, e⟩
    have hd : decide (n ≤ b) = false := by simpa using h2
    clear h h2
    go_enter Try.func48, Try.ntmps48
    go_wp2
    go_ret
    exact ⟨rfl, rfl⟩
  · have hd : decide (a ≤ n) = false := by simpa using h1
    clear h h1
    go_enter Try.func48, Try.ntmps48
    go_wp2
    go_ret
    exact ⟨rfl, rfl⟩

/-- what is wrong with a write, whatever was written ahead of it -/
structure Wr where
  c : Int
  s : Int
  b : Int
  o : Int
  k : Int
  A : Option Addr
  cap : Nat
  l : List Int
def Wr.v (x : Wr) : Value := .agg #[.int .i64 x.c, .int .i64 x.s, .int .i64 x.b, .int .i64 x.o, .int .i64 x.k, .slice x.A x.l.length x.cap]
def Wr.slot (x : Wr) (sh : Sh) : Prop := (0 ≤ x.c ∧ x.c < sh.C) ∧ 0 ≤ x.s ∧ x.s < sh.S
instance (x : Wr) (sh : Sh) : Decidable (x.slot sh) := by unfold Wr.slot; infer_instance
def Wr.wrong (x : Wr) (sh : Sh) : Nat :=
  if ¬ (0 ≤ x.k ∧ x.k < sh.B) then 9 else if x.l.length ≠ sh.Z then 10 else if ¬ (x.slot sh ∧ (1 ≤ x.b ∧ x.b ≤ 1099511627776) ∧ 1 ≤ x.o ∧ x.o ≤ 1099511627776) then 6 else 0
/-- what a write adds to what came before -/
theorem Wr.fits (x : Wr) (sh : Sh) (h : x.wrong sh = 0) : (0 ≤ x.k ∧ x.k < sh.B) ∧ x.l.length = sh.Z ∧ x.slot sh ∧ (1 ≤ x.b ∧ x.b ≤ 1099511627776) ∧ 1 ≤ x.o ∧ x.o ≤ 1099511627776 := by
  unfold Wr.wrong at h
  split at h
  · cases h
  · split at h
    · cases h
    · split at h
      · cases h
      · rename_i h1 h2 h3
        exact ⟨Classical.not_not.1 h1, Classical.not_not.1 h2, Classical.not_not.1 h3⟩
section
variable (sh : Sh) (ok : sh.ok) (w : World)
include ok
set_option maxHeartbeats 400000 in
theorem hasBlock_yes (k : Int) (h : 0 ≤ k ∧ k < sh.B) : Calls Try.prog 46 #[sh.v, .int .i64 k] w fun e w' => e = .returned (.bool true) ∧ Below w.heap.size w w' := by
  obtain ⟨B, Z, C, S⟩ := sh
  obtain ⟨b, _, _, _⟩ := ok
  unfold Sh.v
  simp only at h b ⊢
  go_enter Try.func46, Try.ntmps46
  go_wp2_with (go_at_call 48; refine (within_yes _ _ _ _ (by omega)).mono ?_; rintro e w1 ⟨rfl, rfl⟩)
  go_ret
  exact ⟨rfl, below_alloc _ _⟩
set_option maxHeartbeats 400000 in
theorem hasBlock_no (k : Int) (h : ¬ (0 ≤ k ∧ k < sh.B)) : Calls Try.prog 46 #[sh.v, .int .i64 k] w fun e w' => e = .returned (.bool false) ∧ Below w.heap.size w w' := by
  obtain ⟨B, Z, C, S⟩ := sh
  obtain ⟨b, _, _, _⟩ := ok
  unfold Sh.v
  simp only at h b ⊢
  have H := hid h
  clear h
  go_enter Try.func46, Try.ntmps46
  go_wp2_with (go_at_call 48; refine (within_no _ _ _ _ (by have := H.out; omega)).mono ?_; rintro e w1 ⟨rfl, rfl⟩)
  go_ret
  exact ⟨rfl, below_alloc _ _⟩
set_option maxHeartbeats 400000 in
theorem hasSlot_yes (c s : Int) (h : (0 ≤ c ∧ c < sh.C) ∧ 0 ≤ s ∧ s < sh.S) : Calls Try.prog 52 #[sh.v, .int .i64 c, .int .i64 s] w fun e w' => e = .returned (.bool true) ∧ Below w.heap.size w w' := by
  obtain ⟨B, Z, C, S⟩ := sh
  obtain ⟨_, _, hc, hs⟩ := ok
  unfold Sh.v
  simp only at h hc hs ⊢
  go_enter Try.func52, Try.ntmps52
  go_wp2_with (go_at_call 48; refine (within_yes _ _ _ _ (by omega)).mono ?_; rintro e w1 ⟨rfl, rfl⟩)
  go_ret
  exact ⟨rfl, below_alloc _ _⟩
set_option maxHeartbeats 400000 in
theorem hasSlot_no (c s : Int) (h : ¬ ((0 ≤ c ∧ c < sh.C) ∧ 0 ≤ s ∧ s < sh.S)) : Calls Try.prog 52 #[sh.v, .int .i64 c, .int .i64 s] w fun e w' => e = .returned (.bool false) ∧ Below w.heap.size w w' := by
  obtain ⟨B, Z, C, S⟩ := sh
  obtain ⟨_, _, hc, hs⟩ := ok
  unfold Sh.v
  simp only at h hc hs ⊢
  have H := hid h
  clear h
  by_cases h1 : 0 ≤ c ∧ c < C
  · go_enter Try.func52, Try.ntmps52
    go_wp2_with (go_at_call 48; first | (refine (within_yes _ _ _ _ (by have := H.out; omega)).mono ?_; rintro e w1 ⟨rfl, rfl⟩) | (refine (within_no _ _ _ _ (by have := H.out; omega)).mono ?_; rintro e w1 ⟨rfl, rfl⟩))
    go_ret
    exact ⟨rfl, below_alloc _ _⟩
  · have H1 := hid h1
    clear h1
    go_enter Try.func52, Try.ntmps52
    go_wp2_with (go_at_call 48; (refine (within_no _ _ _ _ (by have := H1.out; omega)).mono ?_; rintro e w1 ⟨rfl, rfl⟩))
    go_ret
    exact ⟨rfl, below_alloc _ _⟩
set_option maxHeartbeats 400000 in
theorem blockAt_any (k : Nat) (h : k < 64) : Calls Try.prog 60 #[sh.v, .int .i64 k] w fun e w' => e = .returned (.int .i64 (1 + k : Nat)) ∧ Below w.heap.size w w' := by
  obtain ⟨B, Z, C, S⟩ := sh
  unfold Sh.v
  go_enter Try.func60, Try.ntmps60
  go_wp2
  go_ret
  exact ⟨by simp, below_alloc _ _⟩
/-- the sector of a client's slot -/
def Sh.at_ (h : Sh) (c s : Nat) : Nat := 1 + h.B + (h.S * c + s)
set_option maxHeartbeats 400000 in
theorem slotAt_any (c s : Nat) (hc : c ≤ 4) (hs : s ≤ 4) : Calls Try.prog 49 #[sh.v, .int .i64 c, .int .i64 s] w fun e w' => e = .returned (.int .i64 (sh.at_ c s : Nat)) ∧ Below w.heap.size w w' := by
  have HB := hid (fun w1 => blockAt_any sh ok w1 sh.B (by have := ok.b; omega))
  obtain ⟨B, Z, C, S⟩ := sh
  obtain ⟨b, _, _, s1⟩ := ok
  unfold Sh.v at HB ⊢
  unfold Sh.at_
  simp only at HB b s1 ⊢
  have h1 : S * c ≤ 16 := Nat.mul_le_mul s1.2 hc
  have h2 : ((S : Int) * (c : Int)) = ((S * c : Nat) : Int) := by simp
  have h3 : IntKind.i64.wrap ((S : Int) * (c : Int)) = ((S * c : Nat) : Int) := by
    rw [h2, IntKind.wrap_i64]
    omega
  generalize S * c = m at *
  have hbox := hid (Bx.new w 23 #[.int .i64 (B : Nat), .int .i64 (Z : Nat), .int .i64 (C : Nat), .int .i64 (S : Nat)])
  have hbel := hid (below_alloc w (.cells #[.int .i64 (B : Nat), .int .i64 (Z : Nat), .int .i64 (C : Nat), .int .i64 (S : Nat)] 23))
  go_enter Try.func49, Try.ntmps49
  go_wp2_with fail
  generalize w.alloc _ = W at hbox hbel ⊢
  have d0 : ∀ s : Since W, s.at_.cell? ⟨w.heap.size, 0, none⟩ = some (.int .i64 (B : Nat)) := fun s => (hbox.out.next s.bel).cell 0
  have d1 : ∀ s : Since W, s.at_.cell? ⟨w.heap.size, 1, none⟩ = some (.int .i64 (Z : Nat)) := fun s => (hbox.out.next s.bel).cell 1
  have d2 : ∀ s : Since W, s.at_.cell? ⟨w.heap.size, 2, none⟩ = some (.int .i64 (C : Nat)) := fun s => (hbox.out.next s.bel).cell 2
  have d3 : ∀ s : Since W, s.at_.cell? ⟨w.heap.size, 3, none⟩ = some (.int .i64 (S : Nat)) := fun s => (hbox.out.next s.bel).cell 3
  refine wp_region_since (by kernel_rfl) (by kernel_rfl) ?_
  repeat (quiet_step (first | (go_at_call 60; refine Calls.since _ (HB.out _))))
  refine wpQuiet_nil ?_
  rintro _ ⟨s', rfl⟩
  go_wp2
  go_ret
  refine ⟨?_, hbel.out.trans (s'.bel.mono hbel.out.size)⟩
  have e1 : IntKind.i64.wrap (m : Int) = m := by rw [IntKind.wrap_i64]; omega
  have e2 : IntKind.i64.wrap (1 + (B : Int) + m) = 1 + B + m := by rw [IntKind.wrap_i64]; omega
  have e3 : IntKind.i64.wrap (1 + (B : Int) + m + s) = 1 + B + m + s := by rw [IntKind.wrap_i64]; omega
  simp [e1, e2, e3]
  omega
set_option maxHeartbeats 400000 in
theorem sectors_any : Calls Try.prog 31 #[sh.v] w fun e w' => e = .returned (.int .i64 (sh.at_ sh.C 0 : Nat)) ∧ Below w.heap.size w w' := by
  have HB := hid (fun w1 => slotAt_any sh ok w1 sh.C 0 ok.c.2 (by omega))
  obtain ⟨B, Z, C, S⟩ := sh
  unfold Sh.v at HB ⊢
  simp only at HB ⊢
  generalize Sh.at_ ⟨B, Z, C, S⟩ C 0 = m at *
  go_enter Try.func31, Try.ntmps31
  go_wp2_with (go_at_call 49; refine (HB.out _).mono ?_; rintro e w1 ⟨rfl, hb1⟩)
  go_ret
  exact ⟨rfl, on (below_alloc _ _) hb1⟩
set_option maxHeartbeats 400000 in
theorem right_yes : Calls Try.prog 29 #[sh.v] w fun e w' => e = .returned (.bool true) ∧ Below w.heap.size w w' := by
  obtain ⟨B, Z, C, S⟩ := sh
  obtain ⟨⟨b1, b2⟩, ⟨z1, z2⟩, ⟨c1, c2⟩, s1, s2⟩ := ok
  unfold Sh.v
  simp only at b1 b2 z1 z2 c1 c2 s1 s2 ⊢
  go_enter Try.func29, Try.ntmps29
  go_wp2_with (go_at_call 48; refine (within_yes _ _ _ _ (by omega)).mono ?_; rintro e w1 ⟨rfl, rfl⟩)
  go_ret
  exact ⟨rfl, below_alloc _ _⟩
end
/-! ### refuses -/
set_option maxRecDepth 100000 in
set_option maxHeartbeats 800000 in
theorem ref_9 (c s b o k : Int) (A : Option Addr) (cap L : Nat) (B Z C S : Nat) (ok : (Sh.mk B Z C S).ok) (w : World) (hk : ¬ (0 ≤ k ∧ k < B)) :
    Calls Try.prog 33 #[.agg #[.int .i64 B, .int .i64 Z, .int .i64 C, .int .i64 S], .agg #[.int .i64 c, .int .i64 s, .int .i64 b, .int .i64 o, .int .i64 k, .slice A L cap]] w fun e w' => e = .returned (.int .i64 9) ∧ Below w.heap.size w w' := by
  obtain ⟨W, hW⟩ : ∃ W, (w.alloc (.cells #[.int .i64 B, .int .i64 Z, .int .i64 C, .int .i64 S] 23)).alloc (.cells #[.int .i64 c, .int .i64 s, .int .i64 b, .int .i64 o, .int .i64 k, .slice A L cap] 38) = W := ⟨_, rfl⟩
  have BS := hid (show Bx W w.heap.size 23 #[.int .i64 B, .int .i64 Z, .int .i64 C, .int .i64 S] by rw [← hW]; exact (Bx.new w _ _).alloc _)
  have BW := hid (show Bx W (w.heap.size + 1) 38 #[.int .i64 c, .int .i64 s, .int .i64 b, .int .i64 o, .int .i64 k, .slice A L cap] by
    rw [← hW]; have := Bx.new (w.alloc (.cells #[.int .i64 B, .int .i64 Z, .int .i64 C, .int .i64 S] 23)) 38 #[.int .i64 c, .int .i64 s, .int .i64 b, .int .i64 o, .int .i64 k, .slice A L cap]; rw [World.size_alloc] at this; exact this)
  have H0 := hid (show Below w.heap.size w W by rw [← hW]; exact on (below_alloc w _) (below_alloc _ _))
  have HW := hid hW
  clear hW
  have HB := hid (fun w1 => hasBlock_no ⟨B, Z, C, S⟩ ok w1 k hk)
  clear hk
  go_enter Try.func33, Try.ntmps33
  go_wp2_with fail
  rw [HW.out]
  refine (HB.out _).mono ?_
  rintro e w1 ⟨rfl, hb1⟩
  obtain ⟨p0, p1, p2, p3⟩ := (BS.out.next hb1).all4
  obtain ⟨q0, q1, q2, q3, q4, q5⟩ := (BW.out.next hb1).all6
  have HB1 := hid hb1
  clear hb1
  go_wp2
  go_ret
  exact ⟨rfl, on H0.out HB1.out⟩
set_option maxRecDepth 100000 in
set_option maxHeartbeats 800000 in
theorem ref_10 (c s b o k : Int) (A : Option Addr) (cap L : Nat) (B Z C S : Nat) (ok : (Sh.mk B Z C S).ok) (w : World) (hk : 0 ≤ k ∧ k < B) (hz : L ≠ Z) :
    Calls Try.prog 33 #[.agg #[.int .i64 B, .int .i64 Z, .int .i64 C, .int .i64 S], .agg #[.int .i64 c, .int .i64 s, .int .i64 b, .int .i64 o, .int .i64 k, .slice A L cap]] w fun e w' => e = .returned (.int .i64 10) ∧ Below w.heap.size w w' := by
  obtain ⟨W, hW⟩ : ∃ W, (w.alloc (.cells #[.int .i64 B, .int .i64 Z, .int .i64 C, .int .i64 S] 23)).alloc (.cells #[.int .i64 c, .int .i64 s, .int .i64 b, .int .i64 o, .int .i64 k, .slice A L cap] 38) = W := ⟨_, rfl⟩
  have BS := hid (show Bx W w.heap.size 23 #[.int .i64 B, .int .i64 Z, .int .i64 C, .int .i64 S] by rw [← hW]; exact (Bx.new w _ _).alloc _)
  have BW := hid (show Bx W (w.heap.size + 1) 38 #[.int .i64 c, .int .i64 s, .int .i64 b, .int .i64 o, .int .i64 k, .slice A L cap] by
    rw [← hW]; have := Bx.new (w.alloc (.cells #[.int .i64 B, .int .i64 Z, .int .i64 C, .int .i64 S] 23)) 38 #[.int .i64 c, .int .i64 s, .int .i64 b, .int .i64 o, .int .i64 k, .slice A L cap]; rw [World.size_alloc] at this; exact this)
  have H0 := hid (show Below w.heap.size w W by rw [← hW]; exact on (below_alloc w _) (below_alloc _ _))
  have HW := hid hW
  clear hW
  have HB := hid (fun w1 => hasBlock_yes ⟨B, Z, C, S⟩ ok w1 k hk)
  have hz1 : ((L : Int) == (Z : Int)) = false := by simpa using fun h : (L : Int) = Z => hz (by omega)
  have hz2 : ((L : Int) != (Z : Int)) = true := by simpa using fun h : (L : Int) = Z => hz (by omega)
  clear hz hk
  go_enter Try.func33, Try.ntmps33
  go_wp2_with fail
  rw [HW.out]
  refine (HB.out _).mono ?_
  rintro e w1 ⟨rfl, hb1⟩
  obtain ⟨p0, p1, p2, p3⟩ := (BS.out.next hb1).all4
  obtain ⟨q0, q1, q2, q3, q4, q5⟩ := (BW.out.next hb1).all6
  have HB1 := hid hb1
  clear hb1
  go_wp2
  go_ret
  exact ⟨rfl, on H0.out HB1.out⟩
set_option maxRecDepth 100000 in
set_option maxHeartbeats 800000 in
theorem ref_s (c s b o k : Int) (A : Option Addr) (cap L : Nat) (B Z C S : Nat) (ok : (Sh.mk B Z C S).ok) (w : World) (hk : 0 ≤ k ∧ k < B) (hz : L = Z) (hs : ¬ ((0 ≤ c ∧ c < C) ∧ 0 ≤ s ∧ s < S)) :
    Calls Try.prog 33 #[.agg #[.int .i64 B, .int .i64 Z, .int .i64 C, .int .i64 S], .agg #[.int .i64 c, .int .i64 s, .int .i64 b, .int .i64 o, .int .i64 k, .slice A L cap]] w fun e w' => e = .returned (.int .i64 6) ∧ Below w.heap.size w w' := by
  obtain ⟨W, hW⟩ : ∃ W, (w.alloc (.cells #[.int .i64 B, .int .i64 Z, .int .i64 C, .int .i64 S] 23)).alloc (.cells #[.int .i64 c, .int .i64 s, .int .i64 b, .int .i64 o, .int .i64 k, .slice A L cap] 38) = W := ⟨_, rfl⟩
  have BS := hid (show Bx W w.heap.size 23 #[.int .i64 B, .int .i64 Z, .int .i64 C, .int .i64 S] by rw [← hW]; exact (Bx.new w _ _).alloc _)
  have BW := hid (show Bx W (w.heap.size + 1) 38 #[.int .i64 c, .int .i64 s, .int .i64 b, .int .i64 o, .int .i64 k, .slice A L cap] by
    rw [← hW]; have := Bx.new (w.alloc (.cells #[.int .i64 B, .int .i64 Z, .int .i64 C, .int .i64 S] 23)) 38 #[.int .i64 c, .int .i64 s, .int .i64 b, .int .i64 o, .int .i64 k, .slice A L cap]; rw [World.size_alloc] at this; exact this)
  have H0 := hid (show Below w.heap.size w W by rw [← hW]; exact on (below_alloc w _) (below_alloc _ _))
  have HW := hid hW
  clear hW
  have HB := hid (fun w1 => hasBlock_yes ⟨B, Z, C, S⟩ ok w1 k hk)
  have HS := hid (fun w1 => hasSlot_no ⟨B, Z, C, S⟩ ok w1 c s hs)
  clear hs
  subst hz
  clear hk
  go_enter Try.func33, Try.ntmps33
  go_wp2_with fail
  rw [HW.out]
  refine (HB.out _).mono ?_
  rintro e w1 ⟨rfl, hb1⟩
  obtain ⟨p0, p1, p2, p3⟩ := (BS.out.next hb1).all4
  obtain ⟨q0, q1, q2, q3, q4, q5⟩ := (BW.out.next hb1).all6
  have HB1 := hid hb1
  clear hb1
  go_wp2_with fail
  refine (HS.out _).mono ?_
  rintro e w2 ⟨rfl, hb2⟩
  clear p0 p1 p2 p3 q0 q1 q2 q3 q4 q5
  have HB2 := hid (HB1.out.trans (hb2.mono HB1.out.size))
  obtain ⟨p0, p1, p2, p3⟩ := (BS.out.next HB2.out).all4
  obtain ⟨q0, q1, q2, q3, q4, q5⟩ := (BW.out.next HB2.out).all6
  clear hb2
  go_wp2
  go_ret
  exact ⟨rfl, on H0.out HB2.out⟩
set_option maxRecDepth 100000 in
set_option maxHeartbeats 800000 in
theorem ref_b (c s b o k : Int) (A : Option Addr) (cap L : Nat) (B Z C S : Nat) (ok : (Sh.mk B Z C S).ok) (w : World) (hk : 0 ≤ k ∧ k < B) (hz : L = Z) (hs : (0 ≤ c ∧ c < C) ∧ 0 ≤ s ∧ s < S) (hb : ¬ (1 ≤ b ∧ b ≤ 1099511627776)) :
    Calls Try.prog 33 #[.agg #[.int .i64 B, .int .i64 Z, .int .i64 C, .int .i64 S], .agg #[.int .i64 c, .int .i64 s, .int .i64 b, .int .i64 o, .int .i64 k, .slice A L cap]] w fun e w' => e = .returned (.int .i64 6) ∧ Below w.heap.size w w' := by
  obtain ⟨W, hW⟩ : ∃ W, (w.alloc (.cells #[.int .i64 B, .int .i64 Z, .int .i64 C, .int .i64 S] 23)).alloc (.cells #[.int .i64 c, .int .i64 s, .int .i64 b, .int .i64 o, .int .i64 k, .slice A L cap] 38) = W := ⟨_, rfl⟩
  have BS := hid (show Bx W w.heap.size 23 #[.int .i64 B, .int .i64 Z, .int .i64 C, .int .i64 S] by rw [← hW]; exact (Bx.new w _ _).alloc _)
  have BW := hid (show Bx W (w.heap.size + 1) 38 #[.int .i64 c, .int .i64 s, .int .i64 b, .int .i64 o, .int .i64 k, .slice A L cap] by
    rw [← hW]; have := Bx.new (w.alloc (.cells #[.int .i64 B, .int .i64 Z, .int .i64 C, .int .i64 S] 23)) 38 #[.int .i64 c, .int .i64 s, .int .i64 b, .int .i64 o, .int .i64 k, .slice A L cap]; rw [World.size_alloc] at this; exact this)
  have H0 := hid (show Below w.heap.size w W by rw [← hW]; exact on (below_alloc w _) (below_alloc _ _))
  have HW := hid hW
  clear hW
  have HB := hid (fun w1 => hasBlock_yes ⟨B, Z, C, S⟩ ok w1 k hk)
  have HS := hid (fun w1 => hasSlot_yes ⟨B, Z, C, S⟩ ok w1 c s hs)
  clear hs
  subst hz
  clear hk
  have HN := hid hb
  clear hb
  go_enter Try.func33, Try.ntmps33
  go_wp2_with fail
  rw [HW.out]
  refine (HB.out _).mono ?_
  rintro e w1 ⟨rfl, hb1⟩
  obtain ⟨p0, p1, p2, p3⟩ := (BS.out.next hb1).all4
  obtain ⟨q0, q1, q2, q3, q4, q5⟩ := (BW.out.next hb1).all6
  have HB1 := hid hb1
  clear hb1
  go_wp2_with fail
  refine (HS.out _).mono ?_
  rintro e w2 ⟨rfl, hb2⟩
  clear p0 p1 p2 p3 q0 q1 q2 q3 q4 q5
  have HB2 := hid (HB1.out.trans (hb2.mono HB1.out.size))
  obtain ⟨p0, p1, p2, p3⟩ := (BS.out.next HB2.out).all4
  obtain ⟨q0, q1, q2, q3, q4, q5⟩ := (BW.out.next HB2.out).all6
  clear hb2
  go_wp2_with (go_at_call 48; refine (within_no _ _ _ _ HN.out).mono ?_; rintro e w1 ⟨rfl, rfl⟩)
  go_ret
  exact ⟨rfl, on H0.out HB2.out⟩
set_option maxRecDepth 100000 in
set_option maxHeartbeats 800000 in
theorem ref_o (c s b o k : Int) (A : Option Addr) (cap L : Nat) (B Z C S : Nat) (ok : (Sh.mk B Z C S).ok) (w : World) (hk : 0 ≤ k ∧ k < B) (hz : L = Z) (hs : (0 ≤ c ∧ c < C) ∧ 0 ≤ s ∧ s < S) (hb : 1 ≤ b ∧ b ≤ 1099511627776) (ho : ¬ (1 ≤ o ∧ o ≤ 1099511627776)) :
    Calls Try.prog 33 #[.agg #[.int .i64 B, .int .i64 Z, .int .i64 C, .int .i64 S], .agg #[.int .i64 c, .int .i64 s, .int .i64 b, .int .i64 o, .int .i64 k, .slice A L cap]] w fun e w' => e = .returned (.int .i64 6) ∧ Below w.heap.size w w' := by
  obtain ⟨W, hW⟩ : ∃ W, (w.alloc (.cells #[.int .i64 B, .int .i64 Z, .int .i64 C, .int .i64 S] 23)).alloc (.cells #[.int .i64 c, .int .i64 s, .int .i64 b, .int .i64 o, .int .i64 k, .slice A L cap] 38) = W := ⟨_, rfl⟩
  have BS := hid (show Bx W w.heap.size 23 #[.int .i64 B, .int .i64 Z, .int .i64 C, .int .i64 S] by rw [← hW]; exact (Bx.new w _ _).alloc _)
  have BW := hid (show Bx W (w.heap.size + 1) 38 #[.int .i64 c, .int .i64 s, .int .i64 b, .int .i64 o, .int .i64 k, .slice A L cap] by
    rw [← hW]; have := Bx.new (w.alloc (.cells #[.int .i64 B, .int .i64 Z, .int .i64 C, .int .i64 S] 23)) 38 #[.int .i64 c, .int .i64 s, .int .i64 b, .int .i64 o, .int .i64 k, .slice A L cap]; rw [World.size_alloc] at this; exact this)
  have H0 := hid (show Below w.heap.size w W by rw [← hW]; exact on (below_alloc w _) (below_alloc _ _))
  have HW := hid hW
  clear hW
  have HB := hid (fun w1 => hasBlock_yes ⟨B, Z, C, S⟩ ok w1 k hk)
  have HS := hid (fun w1 => hasSlot_yes ⟨B, Z, C, S⟩ ok w1 c s hs)
  clear hs
  subst hz
  clear hk
  have HY := hid hb
  have HN := hid ho
  clear hb ho
  go_enter Try.func33, Try.ntmps33
  go_wp2_with fail
  rw [HW.out]
  refine (HB.out _).mono ?_
  rintro e w1 ⟨rfl, hb1⟩
  obtain ⟨p0, p1, p2, p3⟩ := (BS.out.next hb1).all4
  obtain ⟨q0, q1, q2, q3, q4, q5⟩ := (BW.out.next hb1).all6
  have HB1 := hid hb1
  clear hb1
  go_wp2_with fail
  refine (HS.out _).mono ?_
  rintro e w2 ⟨rfl, hb2⟩
  clear p0 p1 p2 p3 q0 q1 q2 q3 q4 q5
  have HB2 := hid (HB1.out.trans (hb2.mono HB1.out.size))
  obtain ⟨p0, p1, p2, p3⟩ := (BS.out.next HB2.out).all4
  obtain ⟨q0, q1, q2, q3, q4, q5⟩ := (BW.out.next HB2.out).all6
  clear hb2
  go_wp2_with (go_at_call 48; first | (with_reducible refine (within_yes _ _ _ _ HY.out).mono ?_; rintro e w1 ⟨rfl, rfl⟩) | (with_reducible refine (within_no _ _ _ _ HN.out).mono ?_; rintro e w1 ⟨rfl, rfl⟩))
  go_ret
  exact ⟨rfl, on H0.out HB2.out⟩
set_option maxRecDepth 100000 in
set_option maxHeartbeats 800000 in
theorem ref_0 (c s b o k : Int) (A : Option Addr) (cap L : Nat) (B Z C S : Nat) (ok : (Sh.mk B Z C S).ok) (w : World) (hk : 0 ≤ k ∧ k < B) (hz : L = Z) (hs : (0 ≤ c ∧ c < C) ∧ 0 ≤ s ∧ s < S) (hb : 1 ≤ b ∧ b ≤ 1099511627776) (ho : 1 ≤ o ∧ o ≤ 1099511627776) :
    Calls Try.prog 33 #[.agg #[.int .i64 B, .int .i64 Z, .int .i64 C, .int .i64 S], .agg #[.int .i64 c, .int .i64 s, .int .i64 b, .int .i64 o, .int .i64 k, .slice A L cap]] w fun e w' => e = .returned (.int .i64 0) ∧ Below w.heap.size w w' := by
  obtain ⟨W, hW⟩ : ∃ W, (w.alloc (.cells #[.int .i64 B, .int .i64 Z, .int .i64 C, .int .i64 S] 23)).alloc (.cells #[.int .i64 c, .int .i64 s, .int .i64 b, .int .i64 o, .int .i64 k, .slice A L cap] 38) = W := ⟨_, rfl⟩
  have BS := hid (show Bx W w.heap.size 23 #[.int .i64 B, .int .i64 Z, .int .i64 C, .int .i64 S] by rw [← hW]; exact (Bx.new w _ _).alloc _)
  have BW := hid (show Bx W (w.heap.size + 1) 38 #[.int .i64 c, .int .i64 s, .int .i64 b, .int .i64 o, .int .i64 k, .slice A L cap] by
    rw [← hW]; have := Bx.new (w.alloc (.cells #[.int .i64 B, .int .i64 Z, .int .i64 C, .int .i64 S] 23)) 38 #[.int .i64 c, .int .i64 s, .int .i64 b, .int .i64 o, .int .i64 k, .slice A L cap]; rw [World.size_alloc] at this; exact this)
  have H0 := hid (show Below w.heap.size w W by rw [← hW]; exact on (below_alloc w _) (below_alloc _ _))
  have HW := hid hW
  clear hW
  have HB := hid (fun w1 => hasBlock_yes ⟨B, Z, C, S⟩ ok w1 k hk)
  have HS := hid (fun w1 => hasSlot_yes ⟨B, Z, C, S⟩ ok w1 c s hs)
  clear hs
  subst hz
  clear hk
  have HY := hid hb
  have HN := hid ho
  clear hb ho
  go_enter Try.func33, Try.ntmps33
  go_wp2_with fail
  rw [HW.out]
  refine (HB.out _).mono ?_
  rintro e w1 ⟨rfl, hb1⟩
  obtain ⟨p0, p1, p2, p3⟩ := (BS.out.next hb1).all4
  obtain ⟨q0, q1, q2, q3, q4, q5⟩ := (BW.out.next hb1).all6
  have HB1 := hid hb1
  clear hb1
  go_wp2_with fail
  refine (HS.out _).mono ?_
  rintro e w2 ⟨rfl, hb2⟩
  clear p0 p1 p2 p3 q0 q1 q2 q3 q4 q5
  have HB2 := hid (HB1.out.trans (hb2.mono HB1.out.size))
  obtain ⟨p0, p1, p2, p3⟩ := (BS.out.next HB2.out).all4
  obtain ⟨q0, q1, q2, q3, q4, q5⟩ := (BW.out.next HB2.out).all6
  clear hb2
  go_wp2_with (go_at_call 48; first | (with_reducible refine (within_yes _ _ _ _ HY.out).mono ?_; rintro e w1 ⟨rfl, rfl⟩) | (with_reducible refine (within_yes _ _ _ _ HN.out).mono ?_; rintro e w1 ⟨rfl, rfl⟩))
  go_ret
  exact ⟨rfl, on H0.out HB2.out⟩
theorem refuses_any (sh : Sh) (ok : sh.ok) (w : World) (x : Wr) : Calls Try.prog 33 #[sh.v, x.v] w fun e w' => e = .returned (.int .i64 (x.wrong sh : Nat)) ∧ Below w.heap.size w w' := by
  have e : x.wrong sh = if ¬ (0 ≤ x.k ∧ x.k < sh.B) then 9 else if x.l.length ≠ sh.Z then 10 else if ¬ (x.slot sh ∧ (1 ≤ x.b ∧ x.b ≤ 1099511627776) ∧ 1 ≤ x.o ∧ x.o ≤ 1099511627776) then 6 else 0 := rfl
  by_cases hk : 0 ≤ x.k ∧ x.k < sh.B
  · rw [if_neg (fun h => h hk)] at e
    by_cases hz : x.l.length = sh.Z
    · rw [if_neg (fun h => h hz)] at e
      by_cases hs : x.slot sh
      · by_cases hb : 1 ≤ x.b ∧ x.b ≤ 1099511627776
        · by_cases ho : 1 ≤ x.o ∧ x.o ≤ 1099511627776
          · rw [if_neg (fun h => h ⟨hs, hb, ho⟩)] at e
            rw [e]
            exact ref_0 x.c x.s x.b x.o x.k x.A x.cap _ sh.B sh.Z sh.C sh.S ok w hk hz hs hb ho
          · rw [if_pos (fun h => ho h.2.2)] at e
            rw [e]
            exact ref_o x.c x.s x.b x.o x.k x.A x.cap _ sh.B sh.Z sh.C sh.S ok w hk hz hs hb ho
        · rw [if_pos (fun h => hb h.2.1)] at e
          rw [e]
          exact ref_b x.c x.s x.b x.o x.k x.A x.cap _ sh.B sh.Z sh.C sh.S ok w hk hz hs hb
      · rw [if_pos (fun h => hs h.1)] at e
        rw [e]
        exact ref_s x.c x.s x.b x.o x.k x.A x.cap _ sh.B sh.Z sh.C sh.S ok w hk hz hs
    · rw [if_pos hz] at e
      rw [e]
      exact ref_10 x.c x.s x.b x.o x.k x.A x.cap _ sh.B sh.Z sh.C sh.S ok w hk hz
  · rw [if_pos hk] at e
    rw [e]
    exact ref_9 x.c x.s x.b x.o x.k x.A x.cap _ sh.B sh.Z sh.C sh.S ok w hk
end Go.Proofs.Ytincndblpbdnlaa
