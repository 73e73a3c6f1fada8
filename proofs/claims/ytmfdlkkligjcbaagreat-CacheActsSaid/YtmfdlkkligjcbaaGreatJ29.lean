/-
  What is proved: the reference's Has, Cap and Do: an act on a list. Condition: the list is read.
  (Left out here, as nothing of this law reaches it: rcap_any.) -/
import Derived.Test.YtmfdlkkligjcbaaGreatJ07
import Derived.Test.YtmfdlkkligjcbaaGreatJ01
import Derived.Test.YtmfdlkkligjcbaaGreatJ06
namespace Go.Proofs.YtmfdlkkligjcbaaGreat
open Go.RowKit

set_option maxHeartbeats 400000 in
theorem rhas_any (A : Option Addr) (n cp : Nat) (l : List Int) (x : Int) (w : World) (C : Nat) (hn : l.length = n) (hlen : n ≤ maxLen) (ra : Rv w C A (ints l)) :
    Calls Tryz.prog 46 #[.slice A n cp, .int .i64 x] w fun e w' => e = .returned (.bool (dec (x ∈ l))) ∧ w = w' := by
  subst hn
  unfold maxLen at hlen
  go_enter Tryz.func46, Tryz.ntmps46
  go_wp2
  go_loop [5] (fun i => ∃ k : Nat, k ≤ l.length ∧ i = .int .i64 k ∧ x ∉ l.take k) (fun i => l.length - (intOf i).toNat)
  case atStart => exact ⟨0, Nat.zero_le _, rfl, by simp⟩
  case round =>
    obtain ⟨k, hk, rfl, hno⟩ := hrel
    have HNO := hid hno
    clear hno
    by_cases hlt : k < l.length
    · obtain ⟨a, rfl, _, hca⟩ := ra.get (k := k) (by rw [ints_length]; exact hlt)
      have e : (ints l)[k]'(by rw [ints_length]; exact hlt) = .int .i64 (l[k]) := by simp [ints]
      rw [e] at hca
      obtain ⟨y, hy⟩ : ∃ y, l[k] = y := ⟨_, rfl⟩
      rw [hy] at hca
      have HY := hid hy
      clear e hy
      have hlt' : (k : Int) < (l.length : Int) := by omega
      by_cases hxy : y = x
      · have hd : (y == x) = true := by simpa using hxy
        have hm := dec_true (show x ∈ l from by rw [← hxy, ← HY.out]; exact List.getElem_mem hlt)
        have HM := hid hm
        clear hm hxy
        go_wp2
        go_ret
        exact ⟨by rw [HM.out]; rfl, rfl⟩
      · have hd : (y == x) = false := by simpa using hxy
        have hd2 : decide (y = x) = false := by simpa using hxy
        have HM := hid (show x ∉ l.take (k + 1) from by
          rw [List.take_add_one, List.getElem?_eq_getElem hlt, HY.out]
          intro hm
          rcases List.mem_append.1 hm with h | h
          · exact HNO.out h
          · simp at h; exact hxy h.symm)
        clear hxy
        go_wp2
        go_round
        case rel => exact ⟨k + 1, by omega, by go_num, HM.out⟩
        case measure => simp [intOf]; omega
    · have hlt' : ¬ (k : Int) < (l.length : Int) := by omega
      obtain rfl : k = l.length := by omega
      go_wp2
      go_ret
      refine ⟨?_, rfl⟩
      have := HNO.out
      rw [List.take_length] at this
      rw [dec_false this]
      rfl
























/-- a row that is read, old or new -/
structure Rw (w : World) (A : Option Addr) (l : List Int) : Prop where
  rd : Rv w w.heap.size A (ints l)
  lt : ∀ ad, A = some ad → ad.block < w.heap.size
theorem Rw.below {w w' : World} {A : Option Addr} {l : List Int} (h : Rw w A l) (hb : Below w.heap.size w w') : Rw w' A l := ⟨h.rd.now hb, fun ad e => Nat.lt_of_lt_of_le (h.lt ad e) hb.size⟩
theorem Rw.chg {w w' : World} {A : Option Addr} {l : List Int} {F G : Nat → Prop} (h : Rw w A l) (hc : Chg w w' F G) (hf : ∀ ad, A = some ad → ¬ F ad.block) : Rw w' A l := ⟨hc.rv h.rd hf, fun ad e => Nat.lt_of_lt_of_le (h.lt ad e) hc.size⟩
theorem Rw.draws {w : World} {A : Option Addr} {l : List Int} (h : Rw w A l) (n : Nat) : Rw (w.drewN n) A l := h.below (below_draws (Below.refl _ _) n)
theorem rw_nil (w : World) : Rw w none [] := ⟨Rv.nil _ _ _, fun _ e => by cases e⟩
/-- a list that is told is such a row, of new memory -/
theorem rw_told {w w' : World} {A : Option Addr} {c : Nat} {l : List Int} (ho : OwnW w' 3 (.slice A l.length c) (ints l)) (hg : GrW w w' nl (.slice A l.length c)) :
    Rw w' A l ∧ (∀ ad, A = some ad → w.heap.size ≤ ad.block) ∧ l.length ≤ c ∧ c ≤ maxLen := by
  have hb : ∀ ad, A = some ad → (Value.slice A l.length c).ownBlock = some ad.block := by
    intro ad e
    subst e
    rfl
  obtain ⟨A', c', e', hr, h1, h2⟩ := ho.read
  simp only [Value.slice.injEq] at e'
  obtain ⟨rfl, -, rfl⟩ := e'
  rw [ints_length] at h1
  refine ⟨⟨hr, fun ad e => ho.lt (hb ad e)⟩, fun ad e => ?_, h1, h2⟩
  rcases hg.at_ with h | h
  · rw [hb ad e] at h; cases h
  · exact (h _ (hb ad e)).1
/-- what came of an act: the list's row is the old one or a new one -/
def Wn (w : World) (A0 : Option Addr) (l : List Int) (vi : Int) (gn was : Bool) (er : Int) (e : Ending) (w' : World) : Prop :=
  ∃ A c, e = .returned (.agg #[.slice A l.length c, .int .i64 vi, .bool gn, .bool was, .int .i64 er]) ∧ Rw w' A l ∧ l.length ≤ c ∧ c ≤ maxLen ∧ (A = A0 ∨ ∀ ad, A = some ad → w.heap.size ≤ ad.block) ∧ Below w.heap.size w w'
abbrev wz : Array Value := #[.slice none 0 0, .int .i64 0, .bool false, .bool false, .int .i64 0]
/-- while Do is at it: the act's block, the answer's, what is made ready -/
structure St11 (w W : World) (p : Nat) (κ b : Int) (cr : Array Value) : Prop where
  b0 : Bx W p 123 #[.int .i64 κ, .int .i64 b]
  b1 : Bx W (p + 1) 120 wz
  b2 : Bx W (p + 1 + 1) 120 cr
  bel : Below w.heap.size w W
  hp : w.heap.size = p
/-- a row beside them -/
structure Ro (w W : World) (p : Nat) (A0 A : Option Addr) (l : List Int) (c : Nat) : Prop where
  rw_ : Rw W A l
  cap : l.length ≤ c ∧ c ≤ maxLen
  old : A = A0 ∨ ∀ ad, A = some ad → w.heap.size ≤ ad.block
  off : ∀ ad, A = some ad → ad.block < p ∨ p + 1 + 1 < ad.block
theorem chg_row (w : World) (k : Nat) (cs : Array Value) : Chg w (w.setRow k cs) (· = k) (· = k) :=
  ⟨rfl, rfl, rfl, by rw [setRow_size]; exact Nat.le_refl _, fun j _ h2 => setRow_other w k j cs h2, fun _ e => .inl e⟩
section
variable {w W W' : World} {p : Nat} {κ b : Int} {cr : Array Value} {A0 A : Option Addr} {l : List Int} {c : Nat}
theorem St11.below (h : St11 w W p κ b cr) (hb : Below W.heap.size W W') : St11 w W' p κ b cr := ⟨h.b0.next hb, h.b1.next hb, h.b2.next hb, on h.bel hb, h.hp⟩
theorem St11.set (h : St11 w W p κ b cr) (i : Nat) (u : Value) : St11 w (W.setCell ⟨p + 1 + 1, i, none⟩ u) p κ b (cr.setIfInBounds i u) :=
  ⟨h.b0.far _ _ (by show p + 1 + 1 ≠ p; omega), h.b1.far _ _ (by show p + 1 + 1 ≠ p + 1; omega), h.b2.set i u, h.bel.setCell (by show w.heap.size ≤ p + 1 + 1; have := h.hp; omega) u, h.hp⟩
theorem Ro.below (h : Ro w W p A0 A l c) (hb : Below W.heap.size W W') : Ro w W' p A0 A l c := ⟨h.rw_.below hb, h.cap, h.old, h.off⟩
theorem Ro.set (h : Ro w W p A0 A l c) (i : Nat) (u : Value) : Ro w (W.setCell ⟨p + 1 + 1, i, none⟩ u) p A0 A l c :=
  ⟨h.rw_.chg (chg_set (Chg.refl W (· = p + 1 + 1)) i u) fun ad e e2 => by have := h.off ad e; omega, h.cap, h.old, h.off⟩
theorem Ro.new (_ : w.heap.size = p) (hs : p + 1 + 1 < W.heap.size) (hw : w.heap.size ≤ W.heap.size) (ho : OwnW W' 3 (.slice A l.length c) (ints l)) (hg : GrW W W' nl (.slice A l.length c)) : Ro w W' p A0 A l c := by
  obtain ⟨h1, h2, h3⟩ := rw_told ho hg
  exact ⟨h1, h3, .inr fun ad e => Nat.le_trans hw (h2 ad e), fun ad e => .inr (Nat.lt_of_lt_of_le hs (h2 ad e))⟩
theorem St11.size (h : St11 w W p κ b cr) : p + 1 + 1 < W.heap.size := h.b2.lt
/-- Do ends -/
theorem St11.fin {vi er : Int} {gn was : Bool} (h : St11 w W p κ b cr) (hc : cr = #[.slice A l.length c, .int .i64 vi, .bool gn, .bool was, .int .i64 er]) (hr : Ro w W p A0 A l c) :
    Wn w A0 l vi gn was er (.returned (.agg cr)) (W.setRow (p + 1) cr) := by
  subst hc
  refine ⟨A, c, rfl, hr.rw_.chg (chg_row W (p + 1) _) fun ad e e2 => by have := hr.off ad e; omega, hr.cap.1, hr.cap.2, hr.old, h.bel.trans ((chg_row W (p + 1) _).bel h.bel.size fun j e => by have := h.hp; omega)⟩
theorem st_made (w : World) (κ b : Int) (cr : Array Value) : St11 w (((w.alloc (.cells #[.int .i64 κ, .int .i64 b] 123)).alloc (.cells wz 120)).alloc (.cells cr 120)) w.heap.size κ b cr := by
  have h0 := Bx.new w 123 #[.int .i64 κ, .int .i64 b]
  have B0 := below_alloc w (.cells #[.int .i64 κ, .int .i64 b] 123)
  have s0 : (w.alloc (.cells #[.int .i64 κ, .int .i64 b] 123)).heap.size = w.heap.size + 1 := Array.size_push _
  generalize w.alloc (.cells #[.int .i64 κ, .int .i64 b] 123) = w1 at *
  have h1 := Bx.new w1 120 wz
  have B1 := below_alloc w1 (.cells wz 120)
  have s1 : (w1.alloc (.cells wz 120)).heap.size = w1.heap.size + 1 := Array.size_push _
  generalize w1.alloc (.cells wz 120) = w2 at *
  have h2 := Bx.new w2 120 cr
  have B2 := below_alloc w2 (.cells cr 120)
  rw [s0] at h1
  rw [s1, s0] at h2
  exact ⟨(h0.next B1).next B2, h1.next B2, h2, on (on B0 B1) B2, rfl⟩
end
-- walks
section
variable {w : World} {A : Option Addr} {n c : Nat} {l : List Int} {b : Int}
theorem Ro.own {w W : World} {p : Nat} {A : Option Addr} {l : List Int} {n c : Nat} (h : Rw w A l) (hp : w.heap.size = p) (hb : Below w.heap.size w W) (hn : l.length = n) (hc : n ≤ c ∧ c ≤ maxLen) : Ro w W p A A l c :=
  ⟨h.below hb, by rw [hn]; exact hc, .inl rfl, fun ad e => .inl (hp ▸ h.lt ad e)⟩
theorem ints_dropLast (l : List Int) : ints l.dropLast = (ints l).dropLast := by simp [ints, List.map_dropLast]
theorem Ro.cut {w W : World} {p : Nat} {A0 A : Option Addr} {l : List Int} {c : Nat} (h : Ro w W p A0 A l c) : Ro w W p A0 A l.dropLast c := by
  refine ⟨⟨fun j u hu => ?_, h.rw_.lt⟩, ⟨by have := h.cap.1; rw [List.length_dropLast]; omega, h.cap.2⟩, h.old, h.off⟩
  rw [ints_dropLast, List.dropLast_eq_take, List.getElem?_take] at hu
  split at hu
  · exact h.rw_.rd j u hu
  · cases hu
set_option maxRecDepth 10000 in
set_option maxHeartbeats 1000000 in
theorem rdo_rem (hr : Rw w A l) (hn : l.length = n) (h64 : n ≤ 64) (hc : n ≤ c ∧ c ≤ maxLen) (C : Nat) (hx : b ∈ l) :
    Calls Tryz.prog 74 #[.slice A n c, .int .i64 C, .agg #[.int .i64 2, .int .i64 b]] w (Wn w A (wo b l) 0 false true 0) := by
  have HN := hid hn
  have HR := hid hr
  have HX := hid hx
  have HC := hid hc
  have HM := hid (show n ≤ maxLen from by unfold maxLen; omega)
  have HST0 := hid (st_made w 2 b #[.slice A n c, .int .i64 0, .bool false, .bool true, .int .i64 0])
  have B2 := hid (below_alloc w (.cells #[.int .i64 2, .int .i64 b] 123))
  obtain ⟨p, hp⟩ : ∃ p, w.heap.size = p := ⟨_, rfl⟩
  have HP := hid hp
  clear hr hn hx hc
  go_enter Tryz.func74, Tryz.ntmps74
  go_upto_region 2 with (go_at_call 46; refine (rhas_any A n c l b _ _ HN.out HM.out ((HR.out.rd.now B2.out).now (below_alloc _ _))).mono ?_; rintro e w' ⟨rfl, rfl⟩; rw [dec_true HX.out])
  generalize ((w.alloc (.cells #[.int .i64 2, .int .i64 b] 123)).alloc (.cells wz 120)).alloc (.cells #[.slice A n c, .int .i64 0, .bool false, .bool true, .int .i64 0] 120) = W at *
  rw [hp] at HST0
  clear hp
  have a1 := HST0.out.b0.cell 1
  go_upto_region 3 with (go_at_call 87; refine (without_any W A n c l b HN.out h64 (HR.out.below HST0.out.bel).rd).mono ?_; rintro e w4 ⟨A4, c4, rfl, ho, hg⟩; have HO := hid ho; have HB := hid hg.nilBelow; have HST := hid (HST0.out.below hg.nilBelow); have HRO := hid (Ro.new (A0 := A) HP.out HST0.out.size HST0.out.bel.size ho hg); clear ho hg)
  clear a1
  have y0 := HST.out.b0.cell 0
  have y1 := HST.out.b0.cell 1
  have r0 := HST.out.b2.cell 0
  have r3 := HST.out.b2.cell 3
  have f2 := HST.out.b2.free
  go_upto_region 5 with fail
  have HS5 := hid (show St11 w (w4.setCell ⟨p + 1 + 1, 0, none⟩ (.slice A4 (wo b l).length c4)) p 2 b #[.slice A4 (wo b l).length c4, .int .i64 0, .bool false, .bool true, .int .i64 0] from HST.out.set 0 _)
  have HR5 := hid (HRO.out.set 0 (.slice A4 (wo b l).length c4))
  generalize w4.setCell ⟨p + 1 + 1, 0, none⟩ (.slice A4 (wo b l).length c4) = w5 at *
  clear y0 y1 r0 r3 f2
  go_wp2_with (first | (refine wpList_load_bx rfl 120 (.tmp 7) rfl (p + 1 + 1) _ _ _ rfl HS5.out.b2 Tryz.underlying120 rfl (by kernel_rfl) ?_) | (refine wpList_store_bx rfl 120 (.tmp 6) (.tmp 25) rfl rfl (p + 1) _ _ #[.slice A4 (wo b l).length c4, .int .i64 0, .bool false, .bool true, .int .i64 0] rfl rfl HS5.out.b1 (by kernel_rfl) rfl (by simp [Value.oneCell']) ?_))
  refine bodyPost_ret (results_bx1 rfl _ rfl (HS5.out.b1.row (cs' := #[.slice A4 (wo b l).length c4, .int .i64 0, .bool false, .bool true, .int .i64 0])) Tryz.underlying120 rfl (by kernel_rfl)) rfl ?_
  exact HS5.out.fin rfl HR5.out
set_option maxRecDepth 10000 in
set_option maxHeartbeats 1000000 in
theorem rdo_rem0 (hr : Rw w A l) (hn : l.length = n) (h64 : n ≤ 64) (hc : n ≤ c ∧ c ≤ maxLen) (C : Nat) (hx : b ∉ l) :
    Calls Tryz.prog 74 #[.slice A n c, .int .i64 C, .agg #[.int .i64 2, .int .i64 b]] w (Wn w A (wo b l) 0 false false 0) := by
  have HN := hid hn
  have HR := hid hr
  have HX := hid hx
  have HC := hid hc
  have HM := hid (show n ≤ maxLen from by unfold maxLen; omega)
  have HST0 := hid (st_made w 2 b #[.slice A n c, .int .i64 0, .bool false, .bool false, .int .i64 0])
  have B2 := hid (below_alloc w (.cells #[.int .i64 2, .int .i64 b] 123))
  obtain ⟨p, hp⟩ : ∃ p, w.heap.size = p := ⟨_, rfl⟩
  have HP := hid hp
  clear hr hn hx hc
  go_enter Tryz.func74, Tryz.ntmps74
  go_upto_region 2 with (go_at_call 46; refine (rhas_any A n c l b _ _ HN.out HM.out ((HR.out.rd.now B2.out).now (below_alloc _ _))).mono ?_; rintro e w' ⟨rfl, rfl⟩; rw [dec_false HX.out])
  generalize ((w.alloc (.cells #[.int .i64 2, .int .i64 b] 123)).alloc (.cells wz 120)).alloc (.cells #[.slice A n c, .int .i64 0, .bool false, .bool false, .int .i64 0] 120) = W at *
  rw [hp] at HST0
  clear hp
  have a1 := HST0.out.b0.cell 1
  go_upto_region 3 with (go_at_call 87; refine (without_any W A n c l b HN.out h64 (HR.out.below HST0.out.bel).rd).mono ?_; rintro e w4 ⟨A4, c4, rfl, ho, hg⟩; have HO := hid ho; have HB := hid hg.nilBelow; have HST := hid (HST0.out.below hg.nilBelow); have HRO := hid (Ro.new (A0 := A) HP.out HST0.out.size HST0.out.bel.size ho hg); clear ho hg)
  clear a1
  have y0 := HST.out.b0.cell 0
  have y1 := HST.out.b0.cell 1
  have r0 := HST.out.b2.cell 0
  have r3 := HST.out.b2.cell 3
  have f2 := HST.out.b2.free
  go_upto_region 5 with fail
  have HS5 := hid (show St11 w (w4.setCell ⟨p + 1 + 1, 0, none⟩ (.slice A4 (wo b l).length c4)) p 2 b #[.slice A4 (wo b l).length c4, .int .i64 0, .bool false, .bool false, .int .i64 0] from HST.out.set 0 _)
  have HR5 := hid (HRO.out.set 0 (.slice A4 (wo b l).length c4))
  generalize w4.setCell ⟨p + 1 + 1, 0, none⟩ (.slice A4 (wo b l).length c4) = w5 at *
  clear y0 y1 r0 r3 f2
  go_wp2_with (first | (refine wpList_load_bx rfl 120 (.tmp 7) rfl (p + 1 + 1) _ _ _ rfl HS5.out.b2 Tryz.underlying120 rfl (by kernel_rfl) ?_) | (refine wpList_store_bx rfl 120 (.tmp 6) (.tmp 25) rfl rfl (p + 1) _ _ #[.slice A4 (wo b l).length c4, .int .i64 0, .bool false, .bool false, .int .i64 0] rfl rfl HS5.out.b1 (by kernel_rfl) rfl (by simp [Value.oneCell']) ?_))
  refine bodyPost_ret (results_bx1 rfl _ rfl (HS5.out.b1.row (cs' := #[.slice A4 (wo b l).length c4, .int .i64 0, .bool false, .bool false, .int .i64 0])) Tryz.underlying120 rfl (by kernel_rfl)) rfl ?_
  exact HS5.out.fin rfl HR5.out
set_option maxRecDepth 10000 in
set_option maxHeartbeats 1000000 in
theorem rdo_was (hr : Rw w A l) (hn : l.length = n) (h64 : n ≤ 64) (hc : n ≤ c ∧ c ≤ maxLen) (C : Nat) (κ : Int) (hk : (κ == 2) = false) (hx : b ∈ l) :
    Calls Tryz.prog 74 #[.slice A n c, .int .i64 C, .agg #[.int .i64 κ, .int .i64 b]] w (Wn w A (b :: wo b l) 0 false true 0) := by
  have hk2 : decide (κ = 2) = false := by simpa using hk
  have HN := hid hn
  have HR := hid hr
  have HX := hid hx
  have HC := hid hc
  have HM := hid (show n ≤ maxLen from by unfold maxLen; omega)
  have HST0 := hid (st_made w κ b #[.slice A n c, .int .i64 0, .bool false, .bool true, .int .i64 0])
  have B2 := hid (below_alloc w (.cells #[.int .i64 κ, .int .i64 b] 123))
  obtain ⟨p, hp⟩ : ∃ p, w.heap.size = p := ⟨_, rfl⟩
  have HP := hid hp
  clear hr hn hx hc
  go_enter Tryz.func74, Tryz.ntmps74
  go_upto_region 2 with (go_at_call 46; refine (rhas_any A n c l b _ _ HN.out HM.out ((HR.out.rd.now B2.out).now (below_alloc _ _))).mono ?_; rintro e w' ⟨rfl, rfl⟩; rw [dec_true HX.out])
  generalize ((w.alloc (.cells #[.int .i64 κ, .int .i64 b] 123)).alloc (.cells wz 120)).alloc (.cells #[.slice A n c, .int .i64 0, .bool false, .bool true, .int .i64 0] 120) = W at *
  rw [hp] at HST0
  clear hp
  have a1 := HST0.out.b0.cell 1
  go_upto_region 3 with (go_at_call 87; refine (without_any W A n c l b HN.out h64 (HR.out.below HST0.out.bel).rd).mono ?_; rintro e w4 ⟨A4, c4, rfl, ho, hg⟩; have HO := hid ho; have HB := hid hg.nilBelow; have HST := hid (HST0.out.below hg.nilBelow); have HRO := hid (Ro.new (A0 := A) HP.out HST0.out.size HST0.out.bel.size ho hg); clear ho hg)
  clear a1
  have y0 := HST.out.b0.cell 0
  have y1 := HST.out.b0.cell 1
  have r0 := HST.out.b2.cell 0
  have r3 := HST.out.b2.cell 3
  have f2 := HST.out.b2.free
  go_upto_region 8 with (go_at_call 88; refine (ahead_any w4 A4 _ c4 (wo b l) b rfl (by have := wo_le b l; have := HN.out; omega) HRO.out.rw_.rd).mono ?_; rintro e w6 ⟨A5, c5, rfl, ho, hg⟩; have HS6 := hid (HST.out.below hg.nilBelow); have HR6 := hid (Ro.new (A0 := A) HP.out HST.out.size HST.out.bel.size ho hg); have r6 := HS6.out.b2.cell 0; have f6 := HS6.out.b2.free; clear ho hg)
  have HS5 := hid (show St11 w (w6.setCell ⟨p + 1 + 1, 0, none⟩ (.slice A5 (b :: wo b l).length c5)) p κ b #[.slice A5 (b :: wo b l).length c5, .int .i64 0, .bool false, .bool true, .int .i64 0] from HS6.out.set 0 _)
  have HR5 := hid (HR6.out.set 0 (.slice A5 (b :: wo b l).length c5))
  generalize w6.setCell ⟨p + 1 + 1, 0, none⟩ (.slice A5 (b :: wo b l).length c5) = w5 at *
  clear y0 y1 r0 r3 f2 r6 f6
  go_wp2_with (first | (refine wpList_load_bx rfl 120 (.tmp 7) rfl (p + 1 + 1) _ _ _ rfl HS5.out.b2 Tryz.underlying120 rfl (by kernel_rfl) ?_) | (refine wpList_store_bx rfl 120 (.tmp 6) (.tmp 33) rfl rfl (p + 1) _ _ #[.slice A5 (b :: wo b l).length c5, .int .i64 0, .bool false, .bool true, .int .i64 0] rfl rfl HS5.out.b1 (by kernel_rfl) rfl (by simp [Value.oneCell']) ?_))
  refine bodyPost_ret (results_bx1 rfl _ rfl (HS5.out.b1.row (cs' := #[.slice A5 (b :: wo b l).length c5, .int .i64 0, .bool false, .bool true, .int .i64 0])) Tryz.underlying120 rfl (by kernel_rfl)) rfl ?_
  exact HS5.out.fin rfl HR5.out
set_option maxRecDepth 10000 in
set_option maxHeartbeats 1000000 in
theorem rdo_miss (hr : Rw w A l) (hn : l.length = n) (h64 : n ≤ 64) (hc : n ≤ c ∧ c ≤ maxLen) (C : Nat) (hx : b ∉ l) :
    Calls Tryz.prog 74 #[.slice A n c, .int .i64 C, .agg #[.int .i64 0, .int .i64 b]] w (Wn w A l 0 false false 0) := by
  have HN := hid hn
  have HR := hid hr
  have HX := hid hx
  have HC := hid hc
  have HM := hid (show n ≤ maxLen from by unfold maxLen; omega)
  have HST0 := hid (st_made w 0 b #[.slice A n c, .int .i64 0, .bool false, .bool false, .int .i64 0])
  have B2 := hid (below_alloc w (.cells #[.int .i64 0, .int .i64 b] 123))
  obtain ⟨p, hp⟩ : ∃ p, w.heap.size = p := ⟨_, rfl⟩
  have HP := hid hp
  clear hr hn hx hc
  go_enter Tryz.func74, Tryz.ntmps74
  go_upto_region 2 with (go_at_call 46; refine (rhas_any A n c l b _ _ HN.out HM.out ((HR.out.rd.now B2.out).now (below_alloc _ _))).mono ?_; rintro e w' ⟨rfl, rfl⟩; rw [dec_false HX.out])
  generalize ((w.alloc (.cells #[.int .i64 0, .int .i64 b] 123)).alloc (.cells wz 120)).alloc (.cells #[.slice A n c, .int .i64 0, .bool false, .bool false, .int .i64 0] 120) = W at *
  rw [hp] at HST0
  clear hp
  have a1 := HST0.out.b0.cell 1
  go_upto_region 3 with (go_at_call 87; refine (without_any W A n c l b HN.out h64 (HR.out.below HST0.out.bel).rd).mono ?_; rintro e w4 ⟨A4, c4, rfl, ho, hg⟩; have HO := hid ho; have HB := hid hg.nilBelow; have HST := hid (HST0.out.below hg.nilBelow); have HRO := hid (Ro.new (A0 := A) HP.out HST0.out.size HST0.out.bel.size ho hg); clear ho hg)
  clear a1
  have y0 := HST.out.b0.cell 0
  have y1 := HST.out.b0.cell 1
  have r0 := HST.out.b2.cell 0
  have r3 := HST.out.b2.cell 3
  have f2 := HST.out.b2.free
  have HR5 := hid (Ro.own HR.out HP.out HST.out.bel HN.out HC.out)
  go_upto_region 10 with fail
  clear y0 y1 r0 r3 f2
  go_wp2_with (first | (refine wpList_load_bx rfl 120 (.tmp 7) rfl (p + 1 + 1) _ _ _ rfl HST.out.b2 Tryz.underlying120 rfl (by kernel_rfl) ?_) | (refine wpList_store_bx rfl 120 (.tmp 6) (.tmp 37) rfl rfl (p + 1) _ _ #[.slice A n c, .int .i64 0, .bool false, .bool false, .int .i64 0] rfl rfl HST.out.b1 (by kernel_rfl) rfl (by simp [Value.oneCell']) ?_))
  refine bodyPost_ret (results_bx1 rfl _ rfl (HST.out.b1.row (cs' := #[.slice A n c, .int .i64 0, .bool false, .bool false, .int .i64 0])) Tryz.underlying120 rfl (by kernel_rfl)) rfl ?_
  exact HST.out.fin (by rw [HN.out]) HR5.out
set_option maxRecDepth 10000 in
set_option maxHeartbeats 1000000 in
theorem rdo_bad (hr : Rw w A l) (hn : l.length = n) (h64 : n ≤ 64) (hc : n ≤ c ∧ c ≤ maxLen) (C : Nat) (hv : ¬ vb b) (hx : b ∉ l) :
    Calls Tryz.prog 74 #[.slice A n c, .int .i64 C, .agg #[.int .i64 1, .int .i64 b]] w (Wn w A l 0 false false 3) := by
  have hv2 : b < 0 ∨ (¬ b < 0 ∧ 63 < b) := by unfold vb at hv; omega
  have HN := hid hn
  have HR := hid hr
  have HX := hid hx
  have HC := hid hc
  have HM := hid (show n ≤ maxLen from by unfold maxLen; omega)
  have HST0 := hid (st_made w 1 b #[.slice A n c, .int .i64 0, .bool false, .bool false, .int .i64 0])
  have B2 := hid (below_alloc w (.cells #[.int .i64 1, .int .i64 b] 123))
  obtain ⟨p, hp⟩ : ∃ p, w.heap.size = p := ⟨_, rfl⟩
  have HP := hid hp
  clear hr hn hx hc
  go_enter Tryz.func74, Tryz.ntmps74
  go_upto_region 2 with (go_at_call 46; refine (rhas_any A n c l b _ _ HN.out HM.out ((HR.out.rd.now B2.out).now (below_alloc _ _))).mono ?_; rintro e w' ⟨rfl, rfl⟩; rw [dec_false HX.out])
  generalize ((w.alloc (.cells #[.int .i64 1, .int .i64 b] 123)).alloc (.cells wz 120)).alloc (.cells #[.slice A n c, .int .i64 0, .bool false, .bool false, .int .i64 0] 120) = W at *
  rw [hp] at HST0
  clear hp
  have a1 := HST0.out.b0.cell 1
  go_upto_region 3 with (go_at_call 87; refine (without_any W A n c l b HN.out h64 (HR.out.below HST0.out.bel).rd).mono ?_; rintro e w4 ⟨A4, c4, rfl, ho, hg⟩; have HO := hid ho; have HB := hid hg.nilBelow; have HST := hid (HST0.out.below hg.nilBelow); have HRO := hid (Ro.new (A0 := A) HP.out HST0.out.size HST0.out.bel.size ho hg); clear ho hg)
  clear a1
  have y0 := HST.out.b0.cell 0
  have y1 := HST.out.b0.cell 1
  have r0 := HST.out.b2.cell 0
  have r3 := HST.out.b2.cell 3
  have f2 := HST.out.b2.free
  have r4 := HST.out.b2.cell 4
  have HR4 := hid (Ro.own HR.out HP.out HST.out.bel HN.out HC.out)
  have HS5 := hid (show St11 w (w4.setCell ⟨p + 1 + 1, 4, none⟩ (.int .i64 3)) p 1 b #[.slice A n c, .int .i64 0, .bool false, .bool false, .int .i64 3] from HST.out.set 4 _)
  have HR5 := hid (HR4.out.set 4 (.int .i64 3))
  clear hv
  rcases hv2 with h1 | ⟨h1, h2⟩
  all_goals
    go_upto_region 13 with fail
    generalize w4.setCell ⟨p + 1 + 1, 4, none⟩ (.int .i64 3) = w5 at *
    clear y0 y1 r0 r3 f2
    go_wp2_with (first | (refine wpList_load_bx rfl 120 (.tmp 7) rfl (p + 1 + 1) _ _ _ rfl HS5.out.b2 Tryz.underlying120 rfl (by kernel_rfl) ?_) | (refine wpList_store_bx rfl 120 (.tmp 6) (.tmp 47) rfl rfl (p + 1) _ _ #[.slice A n c, .int .i64 0, .bool false, .bool false, .int .i64 3] rfl rfl HS5.out.b1 (by kernel_rfl) rfl (by simp [Value.oneCell']) ?_))
    refine bodyPost_ret (results_bx1 rfl _ rfl (HS5.out.b1.row (cs' := #[.slice A n c, .int .i64 0, .bool false, .bool false, .int .i64 3])) Tryz.underlying120 rfl (by kernel_rfl)) rfl ?_
    exact HS5.out.fin (by rw [HN.out]) HR5.out
set_option maxRecDepth 10000 in
set_option maxHeartbeats 1000000 in
theorem rdo_add (hr : Rw w A l) (hn : l.length = n) (h64 : n ≤ 64) (hc : n ≤ c ∧ c ≤ maxLen) (C : Nat) (hv : vb b) (hlt : ¬ C < n + 1) (hx : b ∉ l) :
    Calls Tryz.prog 74 #[.slice A n c, .int .i64 C, .agg #[.int .i64 1, .int .i64 b]] w (Wn w A (b :: l) 0 false false 0) := by
  have HV := hid hv
  have v0 : ¬ b < 0 := by have := hv.1; omega
  have v1 : ¬ (63 : Int) < b := by have := hv.2; omega
  clear hv
  have HN := hid hn
  have HR := hid hr
  have HX := hid hx
  have HC := hid hc
  have HM := hid (show n ≤ maxLen from by unfold maxLen; omega)
  have HST0 := hid (st_made w 1 b #[.slice A n c, .int .i64 0, .bool false, .bool false, .int .i64 0])
  have B2 := hid (below_alloc w (.cells #[.int .i64 1, .int .i64 b] 123))
  obtain ⟨p, hp⟩ : ∃ p, w.heap.size = p := ⟨_, rfl⟩
  have HP := hid hp
  clear hr hn hx hc
  go_enter Tryz.func74, Tryz.ntmps74
  go_upto_region 2 with (go_at_call 46; refine (rhas_any A n c l b _ _ HN.out HM.out ((HR.out.rd.now B2.out).now (below_alloc _ _))).mono ?_; rintro e w' ⟨rfl, rfl⟩; rw [dec_false HX.out])
  generalize ((w.alloc (.cells #[.int .i64 1, .int .i64 b] 123)).alloc (.cells wz 120)).alloc (.cells #[.slice A n c, .int .i64 0, .bool false, .bool false, .int .i64 0] 120) = W at *
  rw [hp] at HST0
  clear hp
  have a1 := HST0.out.b0.cell 1
  go_upto_region 3 with (go_at_call 87; refine (without_any W A n c l b HN.out h64 (HR.out.below HST0.out.bel).rd).mono ?_; rintro e w4 ⟨A4, c4, rfl, ho, hg⟩; have HO := hid ho; have HB := hid hg.nilBelow; have HST := hid (HST0.out.below hg.nilBelow); have HRO := hid (Ro.new (A0 := A) HP.out HST0.out.size HST0.out.bel.size ho hg); clear ho hg)
  clear a1
  have y0 := HST.out.b0.cell 0
  have y1 := HST.out.b0.cell 1
  have r0 := HST.out.b2.cell 0
  have r3 := HST.out.b2.cell 3
  have f2 := HST.out.b2.free
  go_upto_region 15 with (go_at_call 88; refine (ahead_any w4 A n c l b HN.out h64 (HR.out.below HST.out.bel).rd).mono ?_; rintro e w6 ⟨A5, c5, rfl, ho, hg⟩; have HS6 := hid (HST.out.below hg.nilBelow); have HR6 := hid (Ro.new (A0 := A) HP.out HST.out.size HST.out.bel.size ho hg); have r6 := HS6.out.b2.cell 0; have f6 := HS6.out.b2.free; clear ho hg)
  rw [HN.out]
  have HS5 := hid (show St11 w (w6.setCell ⟨p + 1 + 1, 0, none⟩ (.slice A5 (n + 1) c5)) p 1 b #[.slice A5 (n + 1) c5, .int .i64 0, .bool false, .bool false, .int .i64 0] from HS6.out.set 0 _)
  have HR5 := hid (HR6.out.set 0 (.slice A5 (n + 1) c5))
  generalize w6.setCell ⟨p + 1 + 1, 0, none⟩ (.slice A5 (n + 1) c5) = w5 at *
  clear y0 y1 r0 r3 f2 r6 f6
  have s0 := HS5.out.b2.cell 0
  have hlt2 : ¬ (C : Int) < ((n : Int) + 1) := by omega
  go_upto_region 20 with fail
  clear s0
  go_wp2_with (first | (refine wpList_load_bx rfl 120 (.tmp 7) rfl (p + 1 + 1) _ _ _ rfl HS5.out.b2 Tryz.underlying120 rfl (by kernel_rfl) ?_) | (refine wpList_store_bx rfl 120 (.tmp 6) (.tmp 73) rfl rfl (p + 1) _ _ #[.slice A5 (n + 1) c5, .int .i64 0, .bool false, .bool false, .int .i64 0] rfl rfl HS5.out.b1 (by kernel_rfl) rfl (by simp [Value.oneCell']) ?_))
  refine bodyPost_ret (results_bx1 rfl _ rfl (HS5.out.b1.row (cs' := #[.slice A5 (n + 1) c5, .int .i64 0, .bool false, .bool false, .int .i64 0])) Tryz.underlying120 rfl (by kernel_rfl)) rfl ?_
  exact HS5.out.fin (by rw [List.length_cons, HN.out]) HR5.out
set_option maxRecDepth 10000 in
set_option maxHeartbeats 1000000 in
theorem rdo_over (hr : Rw w A l) (hn : l.length = n) (h64 : n ≤ 64) (hc : n ≤ c ∧ c ≤ maxLen) (C : Nat) (hv : vb b) (hlt : C < n + 1) (v : Int) (hl : (b :: l).getLast (by simp) = v) (hx : b ∉ l) :
    Calls Tryz.prog 74 #[.slice A n c, .int .i64 C, .agg #[.int .i64 1, .int .i64 b]] w (Wn w A (b :: l).dropLast v true false 0) := by
  have HVL := hid hl
  clear hl
  have HV := hid hv
  have v0 : ¬ b < 0 := by have := hv.1; omega
  have v1 : ¬ (63 : Int) < b := by have := hv.2; omega
  clear hv
  have HN := hid hn
  have HR := hid hr
  have HX := hid hx
  have HC := hid hc
  have HM := hid (show n ≤ maxLen from by unfold maxLen; omega)
  have HST0 := hid (st_made w 1 b #[.slice A n c, .int .i64 0, .bool false, .bool false, .int .i64 0])
  have B2 := hid (below_alloc w (.cells #[.int .i64 1, .int .i64 b] 123))
  obtain ⟨p, hp⟩ : ∃ p, w.heap.size = p := ⟨_, rfl⟩
  have HP := hid hp
  clear hr hn hx hc
  go_enter Tryz.func74, Tryz.ntmps74
  go_upto_region 2 with (go_at_call 46; refine (rhas_any A n c l b _ _ HN.out HM.out ((HR.out.rd.now B2.out).now (below_alloc _ _))).mono ?_; rintro e w' ⟨rfl, rfl⟩; rw [dec_false HX.out])
  generalize ((w.alloc (.cells #[.int .i64 1, .int .i64 b] 123)).alloc (.cells wz 120)).alloc (.cells #[.slice A n c, .int .i64 0, .bool false, .bool false, .int .i64 0] 120) = W at *
  rw [hp] at HST0
  clear hp
  have a1 := HST0.out.b0.cell 1
  go_upto_region 3 with (go_at_call 87; refine (without_any W A n c l b HN.out h64 (HR.out.below HST0.out.bel).rd).mono ?_; rintro e w4 ⟨A4, c4, rfl, ho, hg⟩; have HO := hid ho; have HB := hid hg.nilBelow; have HST := hid (HST0.out.below hg.nilBelow); have HRO := hid (Ro.new (A0 := A) HP.out HST0.out.size HST0.out.bel.size ho hg); clear ho hg)
  clear a1
  have y0 := HST.out.b0.cell 0
  have y1 := HST.out.b0.cell 1
  have r0 := HST.out.b2.cell 0
  have r3 := HST.out.b2.cell 3
  have f2 := HST.out.b2.free
  go_upto_region 15 with (go_at_call 88; refine (ahead_any w4 A n c l b HN.out h64 (HR.out.below HST.out.bel).rd).mono ?_; rintro e w6 ⟨A5, c5, rfl, ho, hg⟩; have HS6 := hid (HST.out.below hg.nilBelow); have HR6 := hid (Ro.new (A0 := A) HP.out HST.out.size HST.out.bel.size ho hg); have r6 := HS6.out.b2.cell 0; have f6 := HS6.out.b2.free; clear ho hg)
  rw [HN.out]
  have HS5 := hid (show St11 w (w6.setCell ⟨p + 1 + 1, 0, none⟩ (.slice A5 (n + 1) c5)) p 1 b #[.slice A5 (n + 1) c5, .int .i64 0, .bool false, .bool false, .int .i64 0] from HS6.out.set 0 _)
  have HR5 := hid (HR6.out.set 0 (.slice A5 (n + 1) c5))
  generalize w6.setCell ⟨p + 1 + 1, 0, none⟩ (.slice A5 (n + 1) c5) = w5 at *
  clear y0 y1 r0 r3 f2 r6 f6
  have s0 := HS5.out.b2.cell 0
  have hlt2 : (C : Int) < ((n : Int) + 1) := by omega
  have HL := hid (show (b :: l).length = n + 1 from by rw [List.length_cons, HN.out])
  obtain ⟨a5, rfl, hb5, hc5⟩ := rv_at HR5.out.rw_.rd (j := n) (by rw [HL.out]; omega)
  have e5 : (b :: l)[n]'(by rw [HL.out]; omega) = (b :: l).getLast (by simp) := by
    rw [List.getLast_eq_getElem]
    congr 1
    rw [HL.out]
    omega
  rw [e5, HVL.out] at hc5
  have HO5 := hid (HR5.out.off a5 rfl)
  clear e5
  have s1 := HS5.out.b2.cell 1
  have s2 := HS5.out.b2.cell 2
  have fs := HS5.out.b2.free
  have hc5n : n + 1 ≤ c5 ∧ c5 ≤ maxLen := by have := HR5.out.cap; rw [HL.out] at this; exact this
  unfold maxLen at hc5n
  go_upto_region 19 with fail
  have HS8 := hid (show St11 w ((w5.setCell ⟨p + 1 + 1, 1, none⟩ (.int .i64 v)).setCell ⟨p + 1 + 1, 2, none⟩ (.bool true)) p 1 b #[.slice (some a5) (n + 1) c5, .int .i64 v, .bool true, .bool false, .int .i64 0] from (HS5.out.set 1 _).set 2 _)
  have HR8 := hid ((HR5.out.set 1 (.int .i64 v)).set 2 (.bool true))
  generalize (w5.setCell ⟨p + 1 + 1, 1, none⟩ (.int .i64 v)).setCell ⟨p + 1 + 1, 2, none⟩ (.bool true) = w8 at *
  clear s0 s1 s2 fs hc5 hb5
  have s0 := HS8.out.b2.cell 0
  have fs := HS8.out.b2.free
  go_upto_region 20 with fail
  have HS9 := hid (show St11 w (w8.setCell ⟨p + 1 + 1, 0, none⟩ (.slice (some a5) n c5)) p 1 b #[.slice (some a5) n c5, .int .i64 v, .bool true, .bool false, .int .i64 0] from HS8.out.set 0 _)
  have HR9 := hid ((HR8.out.set 0 (.slice (some a5) n c5)).cut)
  generalize w8.setCell ⟨p + 1 + 1, 0, none⟩ (.slice (some a5) n c5) = w9 at *
  clear s0 fs
  go_wp2_with (first | (refine wpList_load_bx rfl 120 (.tmp 7) rfl (p + 1 + 1) _ _ _ rfl HS9.out.b2 Tryz.underlying120 rfl (by kernel_rfl) ?_) | (refine wpList_store_bx rfl 120 (.tmp 6) (.tmp 73) rfl rfl (p + 1) _ _ #[.slice (some a5) n c5, .int .i64 v, .bool true, .bool false, .int .i64 0] rfl rfl HS9.out.b1 (by kernel_rfl) rfl (by simp [Value.oneCell']) ?_))
  refine bodyPost_ret (results_bx1 rfl _ rfl (HS9.out.b1.row (cs' := #[.slice (some a5) n c5, .int .i64 v, .bool true, .bool false, .int .i64 0])) Tryz.underlying120 rfl (by kernel_rfl)) rfl ?_
  exact HS9.out.fin (by rw [List.length_dropLast, HL.out]; rfl) HR9.out
end
end Go.Proofs.YtmfdlkkligjcbaaGreat
namespace Go.Proofs.YtmfdlkkligjcbaaGreat
open Go.RowKit

/-- 64 numbers -/
def nums (o : Int → Int) : Array Value := Array.ofFn (n := 64) fun i => .int .i64 (o ((i.1 : Nat) : Int))
theorem nums_at (o : Int → Int) {p : Nat} (h : p < 64) : (nums o)[p]? = some (.int .i64 (o p)) := by simp [nums, h]
theorem nums_set (o : Int → Int) {p : Nat} (v : Int) : (nums o).setIfInBounds p (.int .i64 v) = nums (upd o p v) := by
  refine Array.ext (by simp [nums]) fun j h1 h2 => ?_
  rw [Array.getElem_setIfInBounds (by simpa using h1)]
  simp only [nums, Array.getElem_ofFn, upd]
  by_cases e : p = j
  · subst e; rw [if_pos rfl, if_pos rfl]
  · rw [if_neg e, if_neg (show ¬ ((j : Nat) : Int) = p from by omega)]
theorem nums_zero : Array.replicate 64 (Value.int .i64 0) = nums fun _ => 0 := by
  refine Array.ext (by simp [nums]) fun j h1 h2 => ?_
  simp [nums]
/-- a row that is read, and lies off the blocks X -/
def Rt (w : World) (X : Nat → Prop) (u : Value) (l : List Int) : Prop := ∃ A c, u = .slice A l.length c ∧ Rw w A l ∧ l.length ≤ c ∧ c ≤ maxLen ∧ ∀ ad, A = some ad → ¬ X ad.block
section
variable {w w' : World} {X F G : Nat → Prop} {u : Value} {l : List Int}
theorem Rt.below (h : Rt w X u l) (hb : Below w.heap.size w w') : Rt w' X u l := by
  obtain ⟨A, c, e, hr, h1, h2, h3⟩ := h
  exact ⟨A, c, e, hr.below hb, h1, h2, h3⟩
theorem Rt.chg (h : Rt w X u l) (hc : Chg w w' F G) (hF : ∀ j, F j → X j) : Rt w' X u l := by
  obtain ⟨A, c, e, hr, h1, h2, h3⟩ := h
  exact ⟨A, c, e, hr.chg hc fun ad e2 hf => h3 ad e2 (hF _ hf), h1, h2, h3⟩
theorem Rt.less {u : Value} {l : List Int} {Y : Nat → Prop} (h : Rt w X u l) (hY : ∀ j, Y j → X j) : Rt w Y u l := by
  obtain ⟨A, c, e, h1, h2, h3, h4⟩ := h
  exact ⟨A, c, e, h1, h2, h3, fun ad e hy => h4 ad e (hY _ hy)⟩
theorem Rt.more {u : Value} {l : List Int} {Y : Nat → Prop} (h : Rt w X u l) (hY : ∀ j, Y j → X j ∨ w.heap.size ≤ j) : Rt w Y u l := by
  obtain ⟨A, c, e, h1, h2, h3, h4⟩ := h
  exact ⟨A, c, e, h1, h2, h3, fun ad e hy => by
    rcases hY _ hy with h5 | h5
    · exact h4 ad e h5
    · have := h1.lt ad e; omega⟩
theorem Rt.told {A : Option Addr} {c : Nat} (hX : ∀ j, X j → j < w.heap.size) (ho : OwnW w' 3 (.slice A l.length c) (ints l)) (hg : GrW w w' nl (.slice A l.length c)) : Rt w' X (.slice A l.length c) l := by
  obtain ⟨h1, h2, h3, h4⟩ := rw_told ho hg
  exact ⟨A, c, rfl, h1, h3, h4, fun ad e hx => by have := h2 ad e; have := hX _ hx; omega⟩
end
/-- the reference's MQ: the struct at h, the row of queues at a, how often at p, when they expire at e; its shape; what the row holds; the ghosts' row; the queues, the ghosts -/
structure Rm (w : World) (X : Nat → Prop) (h a p e C N L H cv : Nat) (us : List Value) (ug : Value) (R : List (List Int)) (G : List Int) (o x : Int → Int) (t : Nat) : Prop where
  box : Bx w h 118 #[.int .i64 C, .int .i64 L, .int .i64 H, .slice (some ⟨a, 0, none⟩) N cv, ug, .slice (some ⟨p, 0, none⟩) 64 64, .slice (some ⟨e, 0, none⟩) 64 64, .int .i64 t]
  row : OwnW w 43 (.slice (some ⟨a, 0, none⟩) N cv) us
  way : ∀ q u, us[q]? = some u → Rt w X u (R.getD q [])
  gh : Rt w X ug G
  oft : Bx w p 3 (nums o)
  exp : Bx w e 3 (nums x)
  rl : R.length = N
  n8 : 1 ≤ N ∧ N ≤ 8
  r64 : ∀ q, (R.getD q []).length ≤ 64
  g64 : G.length ≤ 64
  xb : ∀ j, X j → j < w.heap.size
  xh : X h
  xa : X a
  xp : X p
  xe : X e
  ha : h ≠ a
  hp : h ≠ p
  he : h ≠ e
  ap : a ≠ p
  ae : a ≠ e
  pe : p ≠ e
/-- which blocks are its own -/
def Fr (h a p e : Nat) (j : Nat) : Prop := j = h ∨ j = a ∨ j = p ∨ j = e
theorem fr_h {h a p e : Nat} : Fr h a p e h := .inl rfl
theorem fr_a {h a p e : Nat} : Fr h a p e a := .inr (.inl rfl)
theorem fr_p {h a p e : Nat} : Fr h a p e p := .inr (.inr (.inl rfl))
theorem fr_e {h a p e : Nat} : Fr h a p e e := .inr (.inr (.inr rfl))
theorem chg_in {w w1 : World} {F : Nat → Prop} (h : Chg w w1 F F) {k : Nat} (hk : F k) (i : Nat) (v : Value) : Chg w (w1.setCell ⟨k, i, none⟩ v) F F :=
  ⟨h.os, h.tape, h.output, by rw [setSize]; exact h.size, fun j h1 h2 => (Below.heap_setCell w1 ⟨k, i, none⟩ v j (fun e => h2 (e ▸ hk))).trans (h.block j h1 h2), fun _ e => .inl e⟩
section
variable {w w' : World} {X : Nat → Prop} {h a p e C N L H cv : Nat} {us : List Value} {ug : Value} {R : List (List Int)} {G : List Int} {o x : Int → Int} {t : Nat}
theorem Rm.below (m : Rm w X h a p e C N L H cv us ug R G o x t) (hb : Below w.heap.size w w') : Rm w' X h a p e C N L H cv us ug R G o x t :=
  { m with box := m.box.next hb, row := m.row.below hb, way := fun q u hu => (m.way q u hu).below hb, gh := m.gh.below hb, oft := m.oft.next hb, exp := m.exp.next hb, xb := fun j hj => Nat.lt_of_lt_of_le (m.xb j hj) hb.size }
theorem Rm.draws (m : Rm w X h a p e C N L H cv us ug R G o x t) (n : Nat) : Rm (w.drewN n) X h a p e C N L H cv us ug R G o x t := m.below (below_draws (Below.refl _ _) n)
/-- blocks of X that are not its own change -/
theorem Rm.chg {F F' : Nat → Prop} (m : Rm w X h a p e C N L H cv us ug R G o x t) (hc : Chg w w' F F') (hF : ∀ j, F j → X j) (hn : ∀ j, F j → ¬ Fr h a p e j) : Rm w' X h a p e C N L H cv us ug R G o x t :=
  { m with
    box := hc.bx m.box fun hf => hn _ hf fr_h
    row := m.row.kept fun g hg => by
      simp [Value.ownBlock] at hg
      subst hg
      exact hc.block _ (m.xb _ m.xa) fun hf => hn _ hf fr_a
    way := fun q u hu => (m.way q u hu).chg hc hF
    gh := m.gh.chg hc hF
    oft := hc.bx m.oft fun hf => hn _ hf fr_p
    exp := hc.bx m.exp fun hf => hn _ hf fr_e
    xb := fun j hj => Nat.lt_of_lt_of_le (m.xb j hj) hc.size }
theorem Rm.lu (m : Rm w X h a p e C N L H cv us ug R G o x t) : us.length = N := m.row.len.symm
theorem Rm.fr (m : Rm w X h a p e C N L H cv us ug R G o x t) (i : Nat) : w.frozen? ⟨h, i, none⟩ = false := m.box.free i
theorem Rm.c0 (m : Rm w X h a p e C N L H cv us ug R G o x t) : w.cell? ⟨h, 0, none⟩ = some (.int .i64 C) := m.box.cell 0
theorem Rm.c1 (m : Rm w X h a p e C N L H cv us ug R G o x t) : w.cell? ⟨h, 1, none⟩ = some (.int .i64 L) := m.box.cell 1
theorem Rm.c2 (m : Rm w X h a p e C N L H cv us ug R G o x t) : w.cell? ⟨h, 2, none⟩ = some (.int .i64 H) := m.box.cell 2
theorem Rm.c3 (m : Rm w X h a p e C N L H cv us ug R G o x t) : w.cell? ⟨h, 3, none⟩ = some (.slice (some ⟨a, 0, none⟩) N cv) := m.box.cell 3
theorem Rm.c4 (m : Rm w X h a p e C N L H cv us ug R G o x t) : w.cell? ⟨h, 4, none⟩ = some ug := m.box.cell 4
theorem Rm.c5 (m : Rm w X h a p e C N L H cv us ug R G o x t) : w.cell? ⟨h, 5, none⟩ = some (.slice (some ⟨p, 0, none⟩) 64 64) := m.box.cell 5
theorem Rm.c6 (m : Rm w X h a p e C N L H cv us ug R G o x t) : w.cell? ⟨h, 6, none⟩ = some (.slice (some ⟨e, 0, none⟩) 64 64) := m.box.cell 6
theorem Rm.c7 (m : Rm w X h a p e C N L H cv us ug R G o x t) : w.cell? ⟨h, 7, none⟩ = some (.int .i64 t) := m.box.cell 7
theorem Rm.cap (m : Rm w X h a p e C N L H cv us ug R G o x t) : N ≤ cv ∧ cv ≤ maxLen := by
  obtain ⟨A, c, e1, _, h1, h2⟩ := m.row.read
  injection e1 with _ _ e3
  subst e3
  exact ⟨by rw [← m.lu]; exact h1, h2⟩
/-- a queue's row -/
theorem Rm.at_ (m : Rm w X h a p e C N L H cv us ug R G o x t) {q : Nat} (hq : q < N) :
    ∃ A c, us[q]? = some (.slice A (R.getD q []).length c) ∧ w.cell? ⟨a, q, none⟩ = some (.slice A (R.getD q []).length c) ∧ w.frozen? ⟨a, q, none⟩ = false ∧ Rw w A (R.getD q []) ∧ (R.getD q []).length ≤ c ∧ c ≤ maxLen := by
  have hl : q < us.length := by rw [m.lu]; exact hq
  obtain ⟨A, c, e1, hr, h1, h2, -⟩ := m.way q _ (List.getElem?_eq_getElem hl)
  obtain ⟨k1, k2⟩ := m.row.cellAt hl
  have e2 : us[q]? = some (.slice A (R.getD q []).length c) := by rw [← e1]; exact List.getElem?_eq_getElem hl
  exact ⟨A, c, e2, k1.trans e2, k2, hr, h1, h2⟩
theorem Rm.co (m : Rm w X h a p e C N L H cv us ug R G o x t) {b : Nat} (hb : b < 64) : w.cell? ⟨p, b, none⟩ = some (.int .i64 (o b)) := (m.oft.cell b).trans (nums_at o hb)
theorem Rm.cx (m : Rm w X h a p e C N L H cv us ug R G o x t) {b : Nat} (hb : b < 64) : w.cell? ⟨e, b, none⟩ = some (.int .i64 (x b)) := (m.exp.cell b).trans (nums_at x hb)
theorem Rm.setO (m : Rm w X h a p e C N L H cv us ug R G o x t) {b : Nat} (v : Int) : Rm (w.setCell ⟨p, b, none⟩ (.int .i64 v)) X h a p e C N L H cv us ug R G (upd o b v) x t := by
  have hc := chg_set (Chg.refl w (· = p)) b (.int .i64 v)
  have ho := m.oft.set b (.int .i64 v)
  rw [nums_set] at ho
  exact { m with
    box := m.box.far _ _ m.hp.symm
    row := m.row.kept fun g hg => by
      simp [Value.ownBlock] at hg
      subst hg
      exact Below.heap_setCell w _ _ _ m.ap
    way := fun q u hu => (m.way q u hu).chg hc fun j e => by rw [e]; exact m.xp
    gh := m.gh.chg hc fun j e => by rw [e]; exact m.xp
    oft := ho
    exp := m.exp.far _ _ m.pe
    xb := fun j hj => by rw [setSize]; exact m.xb j hj }
theorem Rm.setX (m : Rm w X h a p e C N L H cv us ug R G o x t) {b : Nat} (v : Int) : Rm (w.setCell ⟨e, b, none⟩ (.int .i64 v)) X h a p e C N L H cv us ug R G o (upd x b v) t := by
  have hc := chg_set (Chg.refl w (· = e)) b (.int .i64 v)
  have ho := m.exp.set b (.int .i64 v)
  rw [nums_set] at ho
  exact { m with
    box := m.box.far _ _ m.he.symm
    row := m.row.kept fun g hg => by
      simp [Value.ownBlock] at hg
      subst hg
      exact Below.heap_setCell w _ _ _ m.ae
    way := fun q u hu => (m.way q u hu).chg hc fun j e => by rw [e]; exact m.xe
    gh := m.gh.chg hc fun j e => by rw [e]; exact m.xe
    oft := m.oft.far _ _ m.pe.symm
    exp := ho
    xb := fun j hj => by rw [setSize]; exact m.xb j hj }
theorem Rm.setT (m : Rm w X h a p e C N L H cv us ug R G o x t) (t' : Nat) : Rm (w.setCell ⟨h, 7, none⟩ (.int .i64 t')) X h a p e C N L H cv us ug R G o x t' := by
  have hc := chg_set (Chg.refl w (· = h)) 7 (.int .i64 t')
  have hb := m.box.set 7 (.int .i64 t')
  exact { m with
    box := hb
    row := m.row.kept fun g hg => by
      simp [Value.ownBlock] at hg
      subst hg
      exact Below.heap_setCell w _ _ _ m.ha.symm
    way := fun q u hu => (m.way q u hu).chg hc fun j e => by rw [e]; exact m.xh
    gh := m.gh.chg hc fun j e => by rw [e]; exact m.xh
    oft := m.oft.far _ _ m.hp
    exp := m.exp.far _ _ m.he
    xb := fun j hj => by rw [setSize]; exact m.xb j hj }
/-- the ghosts are another row -/
theorem Rm.setG (m : Rm w X h a p e C N L H cv us ug R G o x t) {u : Value} {G' : List Int} (hu : Rt w X u G') (hg : G'.length ≤ 64) : Rm (w.setCell ⟨h, 4, none⟩ u) X h a p e C N L H cv us u R G' o x t := by
  have hc := chg_set (Chg.refl w (· = h)) 4 u
  have hb := m.box.set 4 u
  exact { m with
    box := hb
    row := m.row.kept fun g hg => by
      simp [Value.ownBlock] at hg
      subst hg
      exact Below.heap_setCell w _ _ _ m.ha.symm
    way := fun q u hu => (m.way q u hu).chg hc fun j e => by rw [e]; exact m.xh
    gh := hu.chg hc fun j e => by rw [e]; exact m.xh
    g64 := hg
    oft := m.oft.far _ _ m.hp
    exp := m.exp.far _ _ m.he
    xb := fun j hj => by rw [setSize]; exact m.xb j hj }
/-- queue q is another row -/
theorem Rm.setR (m : Rm w X h a p e C N L H cv us ug R G o x t) {q : Nat} (hq : q < N) {u : Value} {l : List Int} (hu : Rt w X u l) (hl : l.length ≤ 64) : Rm (w.setCell ⟨a, q, none⟩ u) X h a p e C N L H cv (us.set q u) ug (R.set q l) G o x t := by
  have hc := chg_set (Chg.refl w (· = a)) q u
  have hql : q < us.length := by rw [m.lu]; exact hq
  have hqr : q < R.length := by rw [m.rl]; exact hq
  exact { m with
    box := m.box.far _ _ m.ha.symm
    row := (m.row.set hql).1
    rl := by rw [List.length_set]; exact m.rl
    r64 := fun i => by
      rw [gd_set _ hqr]
      split
      · exact hl
      · exact m.r64 i
    way := fun i v hv => by
      rw [gd_set _ hqr]
      by_cases e : q = i
      · subst e
        rw [List.getElem?_set_self hql] at hv
        injection hv with hv
        subst hv
        rw [if_pos rfl]
        exact hu.chg hc fun j e => by rw [e]; exact m.xa
      · rw [List.getElem?_set_ne e] at hv
        rw [if_neg e]
        exact (m.way i v hv).chg hc fun j e => by rw [e]; exact m.xa
    gh := m.gh.chg hc fun j e => by rw [e]; exact m.xa
    oft := m.oft.far _ _ m.ap
    exp := m.exp.far _ _ m.ae
    xb := fun j hj => by rw [setSize]; exact m.xb j hj }
end
/-- the same, its rows hidden -/
def Rq (w : World) (X : Nat → Prop) (h a p e C N L H : Nat) (R : List (List Int)) (G : List Int) (o x : Int → Int) (t : Nat) : Prop := ∃ cv us ug, Rm w X h a p e C N L H cv us ug R G o x t
theorem Rq.below {w w' : World} {X : Nat → Prop} {h a p e C N L H : Nat} {R : List (List Int)} {G : List Int} {o x : Int → Int} {t : Nat} (m : Rq w X h a p e C N L H R G o x t) (hb : Below w.heap.size w w') : Rq w' X h a p e C N L H R G o x t := by
  obtain ⟨cv, us, ug, m⟩ := m
  exact ⟨cv, us, ug, m.below hb⟩
end Go.Proofs.YtmfdlkkligjcbaaGreat
namespace Go.Proofs.YtmfdlkkligjcbaaGreat
open Go.RowKit






















/-- a make of a length that is known -/
theorem wpList_make12 {P : Program} {S e : TypeId} {z : Value} {bytes : Nat} (E : Elt P S e z 1 bytes) (hz1 : z.cells = #[z]) {w : World} {ops : Array Oper} {rest : List Oper} {o : Oper} {a : Act} {Q : Exit → Act → World → Prop} (hgd : o.guard = none) (x y : Operand)
    (ho : o.op = .makeSlice S x y) (n : Nat) (hx : a.eval x = .int .i64 n) (hy : a.eval y = .int .i64 n) (hbytes : bytes * n ≤ 281474976710656) (hn : n ≤ maxLen)
    (h : ∀ w1, Hid (w1 = w.alloc (.cells (List.replicate n z).toArray e)) → wpList P ops Q rest (a.put o.dst (.slice (some ⟨w.heap.size, 0, none⟩) n n)) w1) : wpList P ops Q (o :: rest) a w := by
  obtain ⟨i, hi, hz, hs, hb⟩ := info_parts E.info
  refine wpList_plain hgd fun K hK => ?_
  have hn' : (n : Int) ≤ 9223372036854775807 := by
    have := hn
    simp [maxLen] at this
    omega
  have hb' : (i.bytes : Int) * (n : Int) ≤ 281474976710656 := by
    have h : ((i.bytes * n : Nat) : Int) ≤ 281474976710656 := by rw [hb]; omega
    rwa [Int.natCast_mul] at h
  have hrun := run_make (P := P) w S e i z E.und hi hz .i64 .i64 n n (by omega) (Int.le_refl _) hb' hn'
  have hc : madeCells z.cells ((n : Int).toNat * i.size) = (List.replicate n z).toArray := by
    rw [hz1, hs, Nat.mul_one, Int.toNat_natCast]
    apply Array.toList_inj.1
    rw [toList_madeCells_one]
  rw [hc, Int.toNat_natCast] at hrun
  unfold Oper.wp execOp
  simp only [ho, hx, hy, hrun, Sem.run_bind, Sem.run_pure, Result.andThen_ok]
  exact hK _ _ (h _ rfl)
theorem nums_made : (List.replicate 64 (Value.int .i64 0)).toArray = nums fun _ => 0 := by
  rw [← nums_zero, List.toArray_replicate]
/-- while New is at it: so many rows are laid -/
structure Mk2 (w wr : World) (C L H p : Nat) (v : Value) : Prop where
  box : Bx wr w.heap.size 118 #[.int .i64 C, .int .i64 L, .int .i64 H, v, nl, nl, nl, .int .i64 0]
  row : OwnW wr 43 v (List.replicate p nl)
  bel : Below w.heap.size w wr
  ne : v.ownBlock ≠ some w.heap.size
  low : ∀ g, v.ownBlock = some g → w.heap.size ≤ g
theorem Mk2.alloc {w wr : World} {C L H p : Nat} {v : Value} (h : Mk2 w wr C L H p v) (o : Obj) : Mk2 w (wr.alloc o) C L H p v :=
  ⟨h.box.alloc o, h.row.below (below_alloc wr o), h.bel.trans ((below_alloc wr o).mono h.bel.size), h.ne, h.low⟩
theorem Mk2.more {w wr w2 : World} {C L H p : Nat} {v v2 : Value} (h : Mk2 w wr C L H p v) (ho : OwnW w2 43 v2 (List.replicate p nl ++ [nl])) (hg : GrW wr w2 v v2) :
    Bx w2 w.heap.size 118 #[.int .i64 C, .int .i64 L, .int .i64 H, v, nl, nl, nl, .int .i64 0] ∧ Mk2 w (w2.setCell ⟨w.heap.size, 3, none⟩ v2) C L H (p + 1) v2 := by
  have hx : Bx w2 w.heap.size 118 #[.int .i64 C, .int .i64 L, .int .i64 H, v, nl, nl, nl, .int .i64 0] := (hg.other h.box.lt h.ne).trans h.box
  have hlow : ∀ g, v2.ownBlock = some g → w.heap.size ≤ g ∧ g ≠ w.heap.size := fun g e => by
    rcases hg.at_ with e1 | e1
    · rw [e1] at e
      exact ⟨h.low g e, fun e2 => h.ne (by rw [e, e2])⟩
    · have := e1 g e
      have := h.box.lt
      omega
  have hb : Below w.heap.size w w2 := ⟨hg.gr.os.trans h.bel.os, hg.gr.tape.trans h.bel.tape, hg.gr.output.trans h.bel.output, Nat.le_trans h.bel.size hg.gr.size, fun j hj => (hg.gr.block j (Nat.lt_of_lt_of_le hj h.bel.size) (fun e => by have := h.low j e.symm; omega)).trans (h.bel.block j hj)⟩
  refine ⟨hx, hx.set 3 v2, ?_, hb.setCell (Nat.le_refl _) _, fun e => (hlow _ e).2 rfl, fun g e => (hlow g e).1⟩
  rw [List.replicate_succ']
  exact ho.kept fun j hj => Below.heap_setCell w2 _ _ j (fun e2 => (hlow j hj).2 e2)
/-- an MQ of the reference's that New has made; blocks X0 were there ahead -/
def RNew (w : World) (C N L H : Nat) (en : Ending) (w' : World) : Prop :=
  ∃ h a p e, en = .returned (.pointer (some ⟨h, 0, none⟩)) ∧ Below w.heap.size w w' ∧ (∀ j, Fr h a p e j → w.heap.size ≤ j) ∧
    ∀ X0 : Nat → Prop, (∀ j, X0 j → j < w.heap.size) → Rq w' (fun j => X0 j ∨ Fr h a p e j) h a p e C N L H (List.replicate N []) [] (fun _ => 0) (fun _ => 0) 0
set_option maxRecDepth 10000 in
set_option maxHeartbeats 2000000 in
theorem rmq_new (C N L H : Nat) (hN : 1 ≤ N ∧ N ≤ 8) (w : World) : Calls Tryz.prog 39 #[.int .i64 C, .int .i64 N, .int .i64 L, .int .i64 H] w (RNew w C N L H) := by
  have M0 : Mk2 w (w.alloc (.cells #[.int .i64 C, .int .i64 L, .int .i64 H, nl, nl, nl, nl, .int .i64 0] 118)) C L H 0 (.slice none 0 0) :=
    ⟨Bx.new w _ _, ownW_nil _ _, below_alloc w _, by simp [Value.ownBlock], fun g e => by simp [Value.ownBlock] at e⟩
  have HM0 := hid M0
  clear M0
  go_enter Tryz.func39, Tryz.ntmps39
  go_upto_region 2 with fail
  obtain ⟨W1, hW1⟩ : ∃ x, w.alloc (.cells #[.int .i64 C, .int .i64 L, .int .i64 H, nl, nl, nl, nl, .int .i64 0] 118) = x := ⟨_, rfl⟩
  rw [hW1] at HM0 ⊢
  clear hW1
  obtain ⟨g, hgg⟩ : ∃ g, w.heap.size = g := ⟨_, rfl⟩
  have HGG := hid hgg
  rw [hgg]
  clear hgg
  go_wp2
  go_loopg [10] N (fun gk t wr => ∃ i : Nat, i + gk = N ∧ t = .int .i64 i ∧ ∃ v, Mk2 w wr C L H i v)
  case atStart => exact ⟨0, by omega, rfl, _, HM0.out⟩
  case round =>
    obtain ⟨i, hi, rfl, v, hm⟩ := hrel
    have HM := hid hm
    obtain ⟨A, c, e, -⟩ := hm.row.read
    rw [List.length_replicate] at e
    subst e
    have HL := hid (show (List.replicate i nl).length = i from List.length_replicate)
    have c3 : wr.cell? ⟨g, 3, none⟩ = some (.slice A i c) := by rw [← HGG.out]; exact hm.box.cell 3
    have hlt1 : g < wr.heap.size := by rw [← HGG.out]; exact hm.box.lt
    clear hm HM0
    by_cases hlt : i < N
    · have h1 : (i : Int) < (N : Int) := by omega
      have HM1 := hid (HM.out.alloc (.cells #[.slice none 0 0] 43))
      have HR1 := hid (rv_new wr 43 #[.slice none 0 0])
      go_upto_region 5 with fail
      go_wp2_with (at_builtin; (refine wpList_appW elt_row rfl (.tmp 25) (.tmp 26) rfl _ _ HM1.out.row rfl _ _ 1 1 [.slice none 0 0] rfl rfl HR1.out (fun u hu => by simp at hu; subst hu; rfl) (by rw [HL.out]; unfold maxLen; omega) (by rw [HL.out]; omega) ?_); intro v2 w2 hown2 hg2; obtain ⟨X2, M2⟩ := HM1.out.more hown2 hg2; obtain ⟨AA, nn, ac, rfl⟩ : ∃ A n c, v2 = .slice A n c := (by obtain ⟨A, c, e, -⟩ := hown2.read; exact ⟨_, _, _, e⟩); have HM2 := hid M2; rw [HGG.out] at X2; have d3 : w2.cell? ⟨g, 3, none⟩ = some (.slice A i c) := X2.cell 3; have f3 := X2.free; clear X2 M2 hown2 hg2)
      go_roundg (gk - 1)
      case measure => omega
      case rel => exact ⟨i + 1, by omega, by go_num, _, by rw [← HGG.out]; exact HM2.out⟩
    · obtain rfl : i = N := by omega
      have h1 : ¬ (i : Int) < (i : Int) := by omega
      have HX := hid (show Bx wr g 118 #[.int .i64 C, .int .i64 L, .int .i64 H, .slice A i c, nl, nl, nl, .int .i64 0] from by rw [← HGG.out]; exact HM.out.box)
      obtain ⟨p, hpp⟩ : ∃ p, wr.heap.size = p := ⟨_, rfl⟩
      have HPP := hid hpp
      go_upto_region 7 with (at_make; refine wpList_make12 elt_int rfl rfl (.const (.int .i64 64)) (.const (.int .i64 64)) rfl 64 rfl rfl (by decide) (by decide) ?_; intro w3 hw3; have HB3 := hid (show Below wr.heap.size wr w3 from by rw [hw3.out]; exact below_alloc _ _); have HP3 := hid (show Bx w3 p 3 (nums fun _ => 0) from by rw [hw3.out, nums_made, ← HPP.out]; exact Bx.new _ _ _); have HX3 := hid (HX.out.next HB3.out); have c5 : w3.cell? ⟨g, 5, none⟩ = some nl := HX3.out.cell 5; have fr := HX3.out.free; clear hw3)
      have HX4 := hid (show Bx (w3.setCell ⟨g, 5, none⟩ (.slice (some ⟨p, 0, none⟩) 64 64)) g 118 #[.int .i64 C, .int .i64 L, .int .i64 H, .slice A i c, nl, .slice (some ⟨p, 0, none⟩) 64 64, nl, .int .i64 0] from HX3.out.set 5 _)
      have hgp : g ≠ p := by omega
      have HP4 := hid (show Bx (w3.setCell ⟨g, 5, none⟩ (.slice (some ⟨p, 0, none⟩) 64 64)) p 3 (nums fun _ => 0) from HP3.out.far _ _ hgp)
      have HC4 := hid (chg_set (Chg.of HB3.out (· = g)) 5 (.slice (some ⟨p, 0, none⟩) 64 64))
      generalize w3.setCell ⟨g, 5, none⟩ (.slice (some ⟨p, 0, none⟩) 64 64) = w4 at *
      clear c5 fr c3 hpp
      obtain ⟨e, hee⟩ : ∃ p, w4.heap.size = p := ⟨_, rfl⟩
      have HEE := hid hee
      go_upto_region 8 with (at_make; refine wpList_make12 elt_int rfl rfl (.const (.int .i64 64)) (.const (.int .i64 64)) rfl 64 rfl rfl (by decide) (by decide) ?_; intro w5 hw5; have HB5 := hid (show Below w4.heap.size w4 w5 from by rw [hw5.out]; exact below_alloc _ _); have HE5 := hid (show Bx w5 e 3 (nums fun _ => 0) from by rw [hw5.out, nums_made, ← HEE.out]; exact Bx.new _ _ _); have HX5 := hid (HX4.out.next HB5.out); have c6 : w5.cell? ⟨g, 6, none⟩ = some nl := HX5.out.cell 6; have fr := HX5.out.free; clear hw5)
      have HX6 := hid (show Bx (w5.setCell ⟨g, 6, none⟩ (.slice (some ⟨e, 0, none⟩) 64 64)) g 118 #[.int .i64 C, .int .i64 L, .int .i64 H, .slice A i c, nl, .slice (some ⟨p, 0, none⟩) 64 64, .slice (some ⟨e, 0, none⟩) 64 64, .int .i64 0] from HX5.out.set 6 _)
      have hpe : p ≠ e := by have := HP4.out.lt; omega
      have hge : g ≠ e := by have := HX4.out.lt; omega
      have HP6 := hid (show Bx (w5.setCell ⟨g, 6, none⟩ (.slice (some ⟨e, 0, none⟩) 64 64)) p 3 (nums fun _ => 0) from (HP4.out.next HB5.out).far _ _ hgp)
      have HE6 := hid (show Bx (w5.setCell ⟨g, 6, none⟩ (.slice (some ⟨e, 0, none⟩) 64 64)) e 3 (nums fun _ => 0) from HE5.out.far _ _ hge)
      have HC6 := hid ((HC4.out.trans (Chg.of HB5.out (· = g))).trans (chg_set (Chg.refl w5 (· = g)) 6 (.slice (some ⟨e, 0, none⟩) 64 64)))
      generalize w5.setCell ⟨g, 6, none⟩ (.slice (some ⟨e, 0, none⟩) 64 64) = w6 at *
      clear c6 fr hee
      go_wp2
      go_ret
      have hm := HM.out
      have hne := hm.ne
      rw [HGG.out] at hne
      obtain ⟨a, ca, ea⟩ := hm.row.place (by rw [HL.out]; omega)
      rw [HL.out] at ea
      simp only [Value.slice.injEq] at ea
      obtain ⟨rfl, -, rfl⟩ := ea
      have hag : a ≠ g := fun e => hne (by rw [e]; rfl)
      have hal : a < wr.heap.size := hm.row.lt rfl
      have hlow := hm.low a rfl
      have hbel : Below w.heap.size w w6 := hm.bel.trans (HC6.out.bel hm.bel.size fun j e => by rw [e]; exact Nat.le_of_eq HGG.out)
      have hpv := HPP.out
      have hev := HEE.out
      have hwp : w.heap.size ≤ p := by have := hm.bel.size; omega
      have hwe : w.heap.size ≤ e := by have := HC4.out.size; omega
      have hap : a ≠ p := by omega
      have hae : a ≠ e := by have := HC4.out.size; omega
      have hro : OwnW w6 43 (.slice (some ⟨a, 0, none⟩) i c) (List.replicate i nl) := hm.row.kept fun j e => by
        simp [Value.ownBlock] at e
        subst e
        exact HC6.out.block _ hal hag
      have hsz := hbel.size
      refine ⟨g, a, p, e, rfl, hbel, fun j hj => ?_, fun X0 hX0 => ⟨c, List.replicate i nl, nl, ?_⟩⟩
      · rcases hj with rfl | rfl | rfl | rfl
        · exact Nat.le_of_eq HGG.out
        · exact hlow
        · exact hwp
        · exact hwe
      · have hrt : Rt w6 (fun j => X0 j ∨ Fr g a p e j) nl [] := ⟨none, 0, rfl, rw_nil _, Nat.le_refl _, by unfold maxLen; omega, fun _ e => by cases e⟩
        have hrep : ∀ q, (List.replicate i ([] : List Int)).getD q [] = [] := fun q => by
          rw [List.getD_eq_getElem?_getD, List.getElem?_replicate]
          split <;> rfl
        exact {
          box := HX6.out
          row := hro
          way := fun q u hu => by rw [List.eq_of_mem_replicate (List.mem_of_getElem? hu), hrep]; exact hrt
          gh := hrt
          oft := HP6.out
          exp := HE6.out
          rl := List.length_replicate
          n8 := hN
          r64 := fun q => by rw [hrep]; exact Nat.zero_le _
          g64 := Nat.zero_le _
          xb := fun j hj => by
            rcases hj with hj | rfl | rfl | rfl | rfl
            · exact Nat.lt_of_lt_of_le (hX0 j hj) hsz
            · exact HX6.out.lt
            · exact hro.lt rfl
            · exact HP6.out.lt
            · exact HE6.out.lt
          xh := .inr fr_h
          xa := .inr fr_a
          xp := .inr fr_p
          xe := .inr fr_e
          ha := hag.symm
          hp := hgp
          he := hge
          ap := hap
          ae := hae
          pe := hpe }
end Go.Proofs.YtmfdlkkligjcbaaGreat
