/-
  What is proved: the reference's Has, Cap and Do: an act on a list. Condition: the list is read.
  (Left out here, as nothing of this law reaches it: rcap_any.) -/
import Derived.Test.YtlafhejnnilpmaaLu11
namespace Go.Proofs.Ytlafhejnnilpmaa
open Go.RowKit

set_option maxHeartbeats 400000 in
theorem rhas_any (A : Option Addr) (n cp : Nat) (l : List Int) (x : Int) (w : World) (C : Nat) (hn : l.length = n) (hlen : n ≤ maxLen) (ra : Rv w C A (ints l)) :
    Calls Try.prog 27 #[.slice A n cp, .int .i64 x] w fun e w' => e = .returned (.bool (dec (x ∈ l))) ∧ w = w' := by
  subst hn
  unfold maxLen at hlen
  go_enter Try.func27, Try.ntmps27
  go_wp2
  go_loop [5] (fun i => ∃ k : Nat, k ≤ l.length ∧ i = .int .i64 k ∧ x ∉ l.take k) (fun i => l.length - (intOf i).toNat)
  case atStart => exact ⟨0, Nat.zero_le _, rfl, by simp⟩
  case round =>
    obtain ⟨k, hk, rfl, hno⟩ := hrel
    have HNO := hid hno
    clear hno
    by_cases hlt : k < l.length
    · obtain ⟨a, rfl, _, hca⟩ := ra.get (k := k) (by rw [ints_length]; exact hlt)
      have e : (ints l)[k]'(by rw [ints_length]; exact hlt) = .int .i64 (l[k]) := by simp [ints]
      rw [e] at hca
      obtain ⟨y, hy⟩ : ∃ y, l[k] = y := ⟨_, rfl⟩
      rw [hy] at hca
      have HY := hid hy
      clear e hy
      have hlt' : (k : Int) < (l.length : Int) := by omega
      by_cases hxy : y = x
      · have hd : (y == x) = true := by simpa using hxy
        have hm := dec_true (show x ∈ l from by rw [← hxy, ← HY.out]; exact List.getElem_mem hlt)
        have HM := hid hm
        clear hm hxy
        go_wp2
        go_ret
        exact ⟨by rw [HM.out]; rfl, rfl⟩
      · have hd : (y == x) = false := by simpa using hxy
        have hd2 : decide (y = x) = false := by simpa using hxy
        have HM := hid (show x ∉ l.take (k + 1) from by
          rw [List.take_add_one, List.getElem?_eq_getElem hlt, HY.out]
          intro hm
          rcases List.mem_append.1 hm with h | h
          · exact HNO.out h
          · simp at h; exact hxy h.symm)
        clear hxy
        go_wp2
        go_round
        case rel => exact ⟨k + 1, by omega, by go_num, HM.out⟩
        case measure => simp [intOf]; omega
    · have hlt' : ¬ (k : Int) < (l.length : Int) := by omega
      obtain rfl : k = l.length := by omega
      go_wp2
      go_ret
      refine ⟨?_, rfl⟩
      have := HNO.out
      rw [List.take_length] at this
      rw [dec_false this]
      rfl
























/-- a row that is read, old or new -/
structure Rw (w : World) (A : Option Addr) (l : List Int) : Prop where
  rd : Rv w w.heap.size A (ints l)
  lt : ∀ ad, A = some ad → ad.block < w.heap.size
theorem Rw.below {w w' : World} {A : Option Addr} {l : List Int} (h : Rw w A l) (hb : Below w.heap.size w w') : Rw w' A l := ⟨h.rd.now hb, fun ad e => Nat.lt_of_lt_of_le (h.lt ad e) hb.size⟩
theorem Rw.chg {w w' : World} {A : Option Addr} {l : List Int} {F G : Nat → Prop} (h : Rw w A l) (hc : Chg w w' F G) (hf : ∀ ad, A = some ad → ¬ F ad.block) : Rw w' A l := ⟨hc.rv h.rd hf, fun ad e => Nat.lt_of_lt_of_le (h.lt ad e) hc.size⟩
theorem Rw.draws {w : World} {A : Option Addr} {l : List Int} (h : Rw w A l) (n : Nat) : Rw (w.drewN n) A l := h.below (below_draws (Below.refl _ _) n)
theorem rw_nil (w : World) : Rw w none [] := ⟨Rv.nil _ _ _, fun _ e => by cases e⟩
/-- a list that is told is such a row, of new memory -/
theorem rw_told {w w' : World} {A : Option Addr} {c : Nat} {l : List Int} (ho : OwnW w' 3 (.slice A l.length c) (ints l)) (hg : GrW w w' nl (.slice A l.length c)) :
    Rw w' A l ∧ (∀ ad, A = some ad → w.heap.size ≤ ad.block) ∧ l.length ≤ c ∧ c ≤ maxLen := by
  have hb : ∀ ad, A = some ad → (Value.slice A l.length c).ownBlock = some ad.block := by
    intro ad e
    subst e
    rfl
  obtain ⟨A', c', e', hr, h1, h2⟩ := ho.read
  simp only [Value.slice.injEq] at e'
  obtain ⟨rfl, -, rfl⟩ := e'
  rw [ints_length] at h1
  refine ⟨⟨hr, fun ad e => ho.lt (hb ad e)⟩, fun ad e => ?_, h1, h2⟩
  rcases hg.at_ with h | h
  · rw [hb ad e] at h; cases h
  · exact (h _ (hb ad e)).1
/-- what came of an act: the list's row is the old one or a new one -/
def Wn (w : World) (A0 : Option Addr) (l : List Int) (vi : Int) (gn was : Bool) (er : Int) (e : Ending) (w' : World) : Prop :=
  ∃ A c, e = .returned (.agg #[.slice A l.length c, .int .i64 vi, .bool gn, .bool was, .int .i64 er]) ∧ Rw w' A l ∧ l.length ≤ c ∧ c ≤ maxLen ∧ (A = A0 ∨ ∀ ad, A = some ad → w.heap.size ≤ ad.block) ∧ Below w.heap.size w w'
abbrev wz : Array Value := #[.slice none 0 0, .int .i64 0, .bool false, .bool false, .int .i64 0]
/-- while Do is at it: the act's block, the answer's, what is made ready -/
structure St (w W : World) (p : Nat) (κ b : Int) (cr : Array Value) : Prop where
  b0 : Bx W p 34 #[.int .i64 κ, .int .i64 b]
  b1 : Bx W (p + 1) 46 wz
  b2 : Bx W (p + 1 + 1) 46 cr
  bel : Below w.heap.size w W
  hp : w.heap.size = p
/-- a row beside them -/
structure Ro (w W : World) (p : Nat) (A0 A : Option Addr) (l : List Int) (c : Nat) : Prop where
  rw_ : Rw W A l
  cap : l.length ≤ c ∧ c ≤ maxLen
  old : A = A0 ∨ ∀ ad, A = some ad → w.heap.size ≤ ad.block
  off : ∀ ad, A = some ad → ad.block < p ∨ p + 1 + 1 < ad.block
theorem chg_row (w : World) (k : Nat) (cs : Array Value) : Chg w (w.setRow k cs) (· = k) (· = k) :=
  ⟨rfl, rfl, rfl, by rw [setRow_size]; exact Nat.le_refl _, fun j _ h2 => setRow_other w k j cs h2, fun _ e => .inl e⟩
section
variable {w W W' : World} {p : Nat} {κ b : Int} {cr : Array Value} {A0 A : Option Addr} {l : List Int} {c : Nat}
theorem St.below (h : St w W p κ b cr) (hb : Below W.heap.size W W') : St w W' p κ b cr := ⟨h.b0.next hb, h.b1.next hb, h.b2.next hb, on h.bel hb, h.hp⟩
theorem St.set (h : St w W p κ b cr) (i : Nat) (u : Value) : St w (W.setCell ⟨p + 1 + 1, i, none⟩ u) p κ b (cr.setIfInBounds i u) :=
  ⟨h.b0.far _ _ (by show p + 1 + 1 ≠ p; omega), h.b1.far _ _ (by show p + 1 + 1 ≠ p + 1; omega), h.b2.set i u, h.bel.setCell (by show w.heap.size ≤ p + 1 + 1; have := h.hp; omega) u, h.hp⟩
theorem Ro.below (h : Ro w W p A0 A l c) (hb : Below W.heap.size W W') : Ro w W' p A0 A l c := ⟨h.rw_.below hb, h.cap, h.old, h.off⟩
theorem Ro.set (h : Ro w W p A0 A l c) (i : Nat) (u : Value) : Ro w (W.setCell ⟨p + 1 + 1, i, none⟩ u) p A0 A l c :=
  ⟨h.rw_.chg (chg_set (Chg.refl W (· = p + 1 + 1)) i u) fun ad e e2 => by have := h.off ad e; omega, h.cap, h.old, h.off⟩
theorem Ro.new (_ : w.heap.size = p) (hs : p + 1 + 1 < W.heap.size) (hw : w.heap.size ≤ W.heap.size) (ho : OwnW W' 3 (.slice A l.length c) (ints l)) (hg : GrW W W' nl (.slice A l.length c)) : Ro w W' p A0 A l c := by
  obtain ⟨h1, h2, h3⟩ := rw_told ho hg
  exact ⟨h1, h3, .inr fun ad e => Nat.le_trans hw (h2 ad e), fun ad e => .inr (Nat.lt_of_lt_of_le hs (h2 ad e))⟩
theorem St.size (h : St w W p κ b cr) : p + 1 + 1 < W.heap.size := h.b2.lt
/-- Do ends -/
theorem St.fin {vi er : Int} {gn was : Bool} (h : St w W p κ b cr) (hc : cr = #[.slice A l.length c, .int .i64 vi, .bool gn, .bool was, .int .i64 er]) (hr : Ro w W p A0 A l c) :
    Wn w A0 l vi gn was er (.returned (.agg cr)) (W.setRow (p + 1) cr) := by
  subst hc
  refine ⟨A, c, rfl, hr.rw_.chg (chg_row W (p + 1) _) fun ad e e2 => by have := hr.off ad e; omega, hr.cap.1, hr.cap.2, hr.old, h.bel.trans ((chg_row W (p + 1) _).bel h.bel.size fun j e => by have := h.hp; omega)⟩
theorem st_made (w : World) (κ b : Int) (cr : Array Value) : St w (((w.alloc (.cells #[.int .i64 κ, .int .i64 b] 34)).alloc (.cells wz 46)).alloc (.cells cr 46)) w.heap.size κ b cr := by
  have h0 := Bx.new w 34 #[.int .i64 κ, .int .i64 b]
  have B0 := below_alloc w (.cells #[.int .i64 κ, .int .i64 b] 34)
  have s0 : (w.alloc (.cells #[.int .i64 κ, .int .i64 b] 34)).heap.size = w.heap.size + 1 := Array.size_push _
  generalize w.alloc (.cells #[.int .i64 κ, .int .i64 b] 34) = w1 at *
  have h1 := Bx.new w1 46 wz
  have B1 := below_alloc w1 (.cells wz 46)
  have s1 : (w1.alloc (.cells wz 46)).heap.size = w1.heap.size + 1 := Array.size_push _
  generalize w1.alloc (.cells wz 46) = w2 at *
  have h2 := Bx.new w2 46 cr
  have B2 := below_alloc w2 (.cells cr 46)
  rw [s0] at h1
  rw [s1, s0] at h2
  exact ⟨(h0.next B1).next B2, h1.next B2, h2, on (on B0 B1) B2, rfl⟩
end
-- walks
section
variable {w : World} {A : Option Addr} {n c : Nat} {l : List Int} {b : Int}
theorem Ro.own {w W : World} {p : Nat} {A : Option Addr} {l : List Int} {n c : Nat} (h : Rw w A l) (hp : w.heap.size = p) (hb : Below w.heap.size w W) (hn : l.length = n) (hc : n ≤ c ∧ c ≤ maxLen) : Ro w W p A A l c :=
  ⟨h.below hb, by rw [hn]; exact hc, .inl rfl, fun ad e => .inl (hp ▸ h.lt ad e)⟩
theorem ints_dropLast (l : List Int) : ints l.dropLast = (ints l).dropLast := by simp [ints, List.map_dropLast]
theorem Ro.cut {w W : World} {p : Nat} {A0 A : Option Addr} {l : List Int} {c : Nat} (h : Ro w W p A0 A l c) : Ro w W p A0 A l.dropLast c := by
  refine ⟨⟨fun j u hu => ?_, h.rw_.lt⟩, ⟨by have := h.cap.1; rw [List.length_dropLast]; omega, h.cap.2⟩, h.old, h.off⟩
  rw [ints_dropLast, List.dropLast_eq_take, List.getElem?_take] at hu
  split at hu
  · exact h.rw_.rd j u hu
  · cases hu
set_option maxRecDepth 10000 in
set_option maxHeartbeats 1000000 in
theorem rdo_rem (hr : Rw w A l) (hn : l.length = n) (h64 : n ≤ 64) (hc : n ≤ c ∧ c ≤ maxLen) (C : Nat) (hx : b ∈ l) :
    Calls Try.prog 23 #[.slice A n c, .int .i64 C, .agg #[.int .i64 2, .int .i64 b]] w (Wn w A (wo b l) 0 false true 0) := by
  have HN := hid hn
  have HR := hid hr
  have HX := hid hx
  have HC := hid hc
  have HM := hid (show n ≤ maxLen from by unfold maxLen; omega)
  have HST0 := hid (st_made w 2 b #[.slice A n c, .int .i64 0, .bool false, .bool true, .int .i64 0])
  have B2 := hid (below_alloc w (.cells #[.int .i64 2, .int .i64 b] 34))
  obtain ⟨p, hp⟩ : ∃ p, w.heap.size = p := ⟨_, rfl⟩
  have HP := hid hp
  clear hr hn hx hc
  go_enter Try.func23, Try.ntmps23
  go_upto_region 2 with (go_at_call 27; refine (rhas_any A n c l b _ _ HN.out HM.out ((HR.out.rd.now B2.out).now (below_alloc _ _))).mono ?_; rintro e w' ⟨rfl, rfl⟩; rw [dec_true HX.out])
  generalize ((w.alloc (.cells #[.int .i64 2, .int .i64 b] 34)).alloc (.cells wz 46)).alloc (.cells #[.slice A n c, .int .i64 0, .bool false, .bool true, .int .i64 0] 46) = W at *
  rw [hp] at HST0
  clear hp
  have a1 := HST0.out.b0.cell 1
  go_upto_region 3 with (go_at_call 35; refine (without_any W A n c l b HN.out h64 (HR.out.below HST0.out.bel).rd).mono ?_; rintro e w4 ⟨A4, c4, rfl, ho, hg⟩; have HO := hid ho; have HB := hid hg.nilBelow; have HST := hid (HST0.out.below hg.nilBelow); have HRO := hid (Ro.new (A0 := A) HP.out HST0.out.size HST0.out.bel.size ho hg); clear ho hg)
  clear a1
  have y0 := HST.out.b0.cell 0
  have y1 := HST.out.b0.cell 1
  have r0 := HST.out.b2.cell 0
  have r3 := HST.out.b2.cell 3
  have f2 := HST.out.b2.free
  go_upto_region 5 with fail
  have HS5 := hid (show St w (w4.setCell ⟨p + 1 + 1, 0, none⟩ (.slice A4 (wo b l).length c4)) p 2 b #[.slice A4 (wo b l).length c4, .int .i64 0, .bool false, .bool true, .int .i64 0] from HST.out.set 0 _)
  have HR5 := hid (HRO.out.set 0 (.slice A4 (wo b l).length c4))
  generalize w4.setCell ⟨p + 1 + 1, 0, none⟩ (.slice A4 (wo b l).length c4) = w5 at *
  clear y0 y1 r0 r3 f2
  go_wp2_with (first | (refine wpList_load_bx rfl 46 (.tmp 7) rfl (p + 1 + 1) _ _ _ rfl HS5.out.b2 Try.underlying46 rfl (by kernel_rfl) ?_) | (refine wpList_store_bx rfl 46 (.tmp 6) (.tmp 25) rfl rfl (p + 1) _ _ #[.slice A4 (wo b l).length c4, .int .i64 0, .bool false, .bool true, .int .i64 0] rfl rfl HS5.out.b1 (by kernel_rfl) rfl (by simp [Value.oneCell']) ?_))
  refine bodyPost_ret (results_bx1 rfl _ rfl (HS5.out.b1.row (cs' := #[.slice A4 (wo b l).length c4, .int .i64 0, .bool false, .bool true, .int .i64 0])) Try.underlying46 rfl (by kernel_rfl)) rfl ?_
  exact HS5.out.fin rfl HR5.out
set_option maxRecDepth 10000 in
set_option maxHeartbeats 1000000 in
theorem rdo_rem0 (hr : Rw w A l) (hn : l.length = n) (h64 : n ≤ 64) (hc : n ≤ c ∧ c ≤ maxLen) (C : Nat) (hx : b ∉ l) :
    Calls Try.prog 23 #[.slice A n c, .int .i64 C, .agg #[.int .i64 2, .int .i64 b]] w (Wn w A (wo b l) 0 false false 0) := by
  have HN := hid hn
  have HR := hid hr
  have HX := hid hx
  have HC := hid hc
  have HM := hid (show n ≤ maxLen from by unfold maxLen; omega)
  have HST0 := hid (st_made w 2 b #[.slice A n c, .int .i64 0, .bool false, .bool false, .int .i64 0])
  have B2 := hid (below_alloc w (.cells #[.int .i64 2, .int .i64 b] 34))
  obtain ⟨p, hp⟩ : ∃ p, w.heap.size = p := ⟨_, rfl⟩
  have HP := hid hp
  clear hr hn hx hc
  go_enter Try.func23, Try.ntmps23
  go_upto_region 2 with (go_at_call 27; refine (rhas_any A n c l b _ _ HN.out HM.out ((HR.out.rd.now B2.out).now (below_alloc _ _))).mono ?_; rintro e w' ⟨rfl, rfl⟩; rw [dec_false HX.out])
  generalize ((w.alloc (.cells #[.int .i64 2, .int .i64 b] 34)).alloc (.cells wz 46)).alloc (.cells #[.slice A n c, .int .i64 0, .bool false, .bool false, .int .i64 0] 46) = W at *
  rw [hp] at HST0
  clear hp
  have a1 := HST0.out.b0.cell 1
  go_upto_region 3 with (go_at_call 35; refine (without_any W A n c l b HN.out h64 (HR.out.below HST0.out.bel).rd).mono ?_; rintro e w4 ⟨A4, c4, rfl, ho, hg⟩; have HO := hid ho; have HB := hid hg.nilBelow; have HST := hid (HST0.out.below hg.nilBelow); have HRO := hid (Ro.new (A0 := A) HP.out HST0.out.size HST0.out.bel.size ho hg); clear ho hg)
  clear a1
  have y0 := HST.out.b0.cell 0
  have y1 := HST.out.b0.cell 1
  have r0 := HST.out.b2.cell 0
  have r3 := HST.out.b2.cell 3
  have f2 := HST.out.b2.free
  go_upto_region 5 with fail
  have HS5 := hid (show St w (w4.setCell ⟨p + 1 + 1, 0, none⟩ (.slice A4 (wo b l).length c4)) p 2 b #[.slice A4 (wo b l).length c4, .int .i64 0, .bool false, .bool false, .int .i64 0] from HST.out.set 0 _)
  have HR5 := hid (HRO.out.set 0 (.slice A4 (wo b l).length c4))
  generalize w4.setCell ⟨p + 1 + 1, 0, none⟩ (.slice A4 (wo b l).length c4) = w5 at *
  clear y0 y1 r0 r3 f2
  go_wp2_with (first | (refine wpList_load_bx rfl 46 (.tmp 7) rfl (p + 1 + 1) _ _ _ rfl HS5.out.b2 Try.underlying46 rfl (by kernel_rfl) ?_) | (refine wpList_store_bx rfl 46 (.tmp 6) (.tmp 25) rfl rfl (p + 1) _ _ #[.slice A4 (wo b l).length c4, .int .i64 0, .bool false, .bool false, .int .i64 0] rfl rfl HS5.out.b1 (by kernel_rfl) rfl (by simp [Value.oneCell']) ?_))
  refine bodyPost_ret (results_bx1 rfl _ rfl (HS5.out.b1.row (cs' := #[.slice A4 (wo b l).length c4, .int .i64 0, .bool false, .bool false, .int .i64 0])) Try.underlying46 rfl (by kernel_rfl)) rfl ?_
  exact HS5.out.fin rfl HR5.out
set_option maxRecDepth 10000 in
set_option maxHeartbeats 1000000 in
theorem rdo_was (hr : Rw w A l) (hn : l.length = n) (h64 : n ≤ 64) (hc : n ≤ c ∧ c ≤ maxLen) (C : Nat) (κ : Int) (hk : (κ == 2) = false) (hx : b ∈ l) :
    Calls Try.prog 23 #[.slice A n c, .int .i64 C, .agg #[.int .i64 κ, .int .i64 b]] w (Wn w A (b :: wo b l) 0 false true 0) := by
  have hk2 : decide (κ = 2) = false := by simpa using hk
  have HN := hid hn
  have HR := hid hr
  have HX := hid hx
  have HC := hid hc
  have HM := hid (show n ≤ maxLen from by unfold maxLen; omega)
  have HST0 := hid (st_made w κ b #[.slice A n c, .int .i64 0, .bool false, .bool true, .int .i64 0])
  have B2 := hid (below_alloc w (.cells #[.int .i64 κ, .int .i64 b] 34))
  obtain ⟨p, hp⟩ : ∃ p, w.heap.size = p := ⟨_, rfl⟩
  have HP := hid hp
  clear hr hn hx hc
  go_enter Try.func23, Try.ntmps23
  go_upto_region 2 with (go_at_call 27; refine (rhas_any A n c l b _ _ HN.out HM.out ((HR.out.rd.now B2.out).now (below_alloc _ _))).mono ?_; rintro e w' ⟨rfl, rfl⟩; rw [dec_true HX.out])
  generalize ((w.alloc (.cells #[.int .i64 κ, .int .i64 b] 34)).alloc (.cells wz 46)).alloc (.cells #[.slice A n c, .int .i64 0, .bool false, .bool true, .int .i64 0] 46) = W at *
  rw [hp] at HST0
  clear hp
  have a1 := HST0.out.b0.cell 1
  go_upto_region 3 with (go_at_call 35; refine (without_any W A n c l b HN.out h64 (HR.out.below HST0.out.bel).rd).mono ?_; rintro e w4 ⟨A4, c4, rfl, ho, hg⟩; have HO := hid ho; have HB := hid hg.nilBelow; have HST := hid (HST0.out.below hg.nilBelow); have HRO := hid (Ro.new (A0 := A) HP.out HST0.out.size HST0.out.bel.size ho hg); clear ho hg)
  clear a1
  have y0 := HST.out.b0.cell 0
  have y1 := HST.out.b0.cell 1
  have r0 := HST.out.b2.cell 0
  have r3 := HST.out.b2.cell 3
  have f2 := HST.out.b2.free
  go_upto_region 8 with (go_at_call 36; refine (ahead_any w4 A4 _ c4 (wo b l) b rfl (by have := wo_le b l; have := HN.out; omega) HRO.out.rw_.rd).mono ?_; rintro e w6 ⟨A5, c5, rfl, ho, hg⟩; have HS6 := hid (HST.out.below hg.nilBelow); have HR6 := hid (Ro.new (A0 := A) HP.out HST.out.size HST.out.bel.size ho hg); have r6 := HS6.out.b2.cell 0; have f6 := HS6.out.b2.free; clear ho hg)
  have HS5 := hid (show St w (w6.setCell ⟨p + 1 + 1, 0, none⟩ (.slice A5 (b :: wo b l).length c5)) p κ b #[.slice A5 (b :: wo b l).length c5, .int .i64 0, .bool false, .bool true, .int .i64 0] from HS6.out.set 0 _)
  have HR5 := hid (HR6.out.set 0 (.slice A5 (b :: wo b l).length c5))
  generalize w6.setCell ⟨p + 1 + 1, 0, none⟩ (.slice A5 (b :: wo b l).length c5) = w5 at *
  clear y0 y1 r0 r3 f2 r6 f6
  go_wp2_with (first | (refine wpList_load_bx rfl 46 (.tmp 7) rfl (p + 1 + 1) _ _ _ rfl HS5.out.b2 Try.underlying46 rfl (by kernel_rfl) ?_) | (refine wpList_store_bx rfl 46 (.tmp 6) (.tmp 33) rfl rfl (p + 1) _ _ #[.slice A5 (b :: wo b l).length c5, .int .i64 0, .bool false, .bool true, .int .i64 0] rfl rfl HS5.out.b1 (by kernel_rfl) rfl (by simp [Value.oneCell']) ?_))
  refine bodyPost_ret (results_bx1 rfl _ rfl (HS5.out.b1.row (cs' := #[.slice A5 (b :: wo b l).length c5, .int .i64 0, .bool false, .bool true, .int .i64 0])) Try.underlying46 rfl (by kernel_rfl)) rfl ?_
  exact HS5.out.fin rfl HR5.out
set_option maxRecDepth 10000 in
set_option maxHeartbeats 1000000 in
theorem rdo_miss (hr : Rw w A l) (hn : l.length = n) (h64 : n ≤ 64) (hc : n ≤ c ∧ c ≤ maxLen) (C : Nat) (hx : b ∉ l) :
    Calls Try.prog 23 #[.slice A n c, .int .i64 C, .agg #[.int .i64 0, .int .i64 b]] w (Wn w A l 0 false false 0) := by
  have HN := hid hn
  have HR := hid hr
  have HX := hid hx
  have HC := hid hc
  have HM := hid (show n ≤ maxLen from by unfold maxLen; omega)
  have HST0 := hid (st_made w 0 b #[.slice A n c, .int .i64 0, .bool false, .bool false, .int .i64 0])
  have B2 := hid (below_alloc w (.cells #[.int .i64 0, .int .i64 b] 34))
  obtain ⟨p, hp⟩ : ∃ p, w.heap.size = p := ⟨_, rfl⟩
  have HP := hid hp
  clear hr hn hx hc
  go_enter Try.func23, Try.ntmps23
  go_upto_region 2 with (go_at_call 27; refine (rhas_any A n c l b _ _ HN.out HM.out ((HR.out.rd.now B2.out).now (below_alloc _ _))).mono ?_; rintro e w' ⟨rfl, rfl⟩; rw [dec_false HX.out])
  generalize ((w.alloc (.cells #[.int .i64 0, .int .i64 b] 34)).alloc (.cells wz 46)).alloc (.cells #[.slice A n c, .int .i64 0, .bool false, .bool false, .int .i64 0] 46) = W at *
  rw [hp] at HST0
  clear hp
  have a1 := HST0.out.b0.cell 1
  go_upto_region 3 with (go_at_call 35; refine (without_any W A n c l b HN.out h64 (HR.out.below HST0.out.bel).rd).mono ?_; rintro e w4 ⟨A4, c4, rfl, ho, hg⟩; have HO := hid ho; have HB := hid hg.nilBelow; have HST := hid (HST0.out.below hg.nilBelow); have HRO := hid (Ro.new (A0 := A) HP.out HST0.out.size HST0.out.bel.size ho hg); clear ho hg)
  clear a1
  have y0 := HST.out.b0.cell 0
  have y1 := HST.out.b0.cell 1
  have r0 := HST.out.b2.cell 0
  have r3 := HST.out.b2.cell 3
  have f2 := HST.out.b2.free
  have HR5 := hid (Ro.own HR.out HP.out HST.out.bel HN.out HC.out)
  go_upto_region 10 with fail
  clear y0 y1 r0 r3 f2
  go_wp2_with (first | (refine wpList_load_bx rfl 46 (.tmp 7) rfl (p + 1 + 1) _ _ _ rfl HST.out.b2 Try.underlying46 rfl (by kernel_rfl) ?_) | (refine wpList_store_bx rfl 46 (.tmp 6) (.tmp 37) rfl rfl (p + 1) _ _ #[.slice A n c, .int .i64 0, .bool false, .bool false, .int .i64 0] rfl rfl HST.out.b1 (by kernel_rfl) rfl (by simp [Value.oneCell']) ?_))
  refine bodyPost_ret (results_bx1 rfl _ rfl (HST.out.b1.row (cs' := #[.slice A n c, .int .i64 0, .bool false, .bool false, .int .i64 0])) Try.underlying46 rfl (by kernel_rfl)) rfl ?_
  exact HST.out.fin (by rw [HN.out]) HR5.out
set_option maxRecDepth 10000 in
set_option maxHeartbeats 1000000 in
theorem rdo_bad (hr : Rw w A l) (hn : l.length = n) (h64 : n ≤ 64) (hc : n ≤ c ∧ c ≤ maxLen) (C : Nat) (hv : ¬ vb b) (hx : b ∉ l) :
    Calls Try.prog 23 #[.slice A n c, .int .i64 C, .agg #[.int .i64 1, .int .i64 b]] w (Wn w A l 0 false false 3) := by
  have hv2 : b < 0 ∨ (¬ b < 0 ∧ 63 < b) := by unfold vb at hv; omega
  have HN := hid hn
  have HR := hid hr
  have HX := hid hx
  have HC := hid hc
  have HM := hid (show n ≤ maxLen from by unfold maxLen; omega)
  have HST0 := hid (st_made w 1 b #[.slice A n c, .int .i64 0, .bool false, .bool false, .int .i64 0])
  have B2 := hid (below_alloc w (.cells #[.int .i64 1, .int .i64 b] 34))
  obtain ⟨p, hp⟩ : ∃ p, w.heap.size = p := ⟨_, rfl⟩
  have HP := hid hp
  clear hr hn hx hc
  go_enter Try.func23, Try.ntmps23
  go_upto_region 2 with (go_at_call 27; refine (rhas_any A n c l b _ _ HN.out HM.out ((HR.out.rd.now B2.out).now (below_alloc _ _))).mono ?_; rintro e w' ⟨rfl, rfl⟩; rw [dec_false HX.out])
  generalize ((w.alloc (.cells #[.int .i64 1, .int .i64 b] 34)).alloc (.cells wz 46)).alloc (.cells #[.slice A n c, .int .i64 0, .bool false, .bool false, .int .i64 0] 46) = W at *
  rw [hp] at HST0
  clear hp
  have a1 := HST0.out.b0.cell 1
  go_upto_region 3 with (go_at_call 35; refine (without_any W A n c l b HN.out h64 (HR.out.below HST0.out.bel).rd).mono ?_; rintro e w4 ⟨A4, c4, rfl, ho, hg⟩; have HO := hid ho; have HB := hid hg.nilBelow; have HST := hid (HST0.out.below hg.nilBelow); have HRO := hid (Ro.new (A0 := A) HP.out HST0.out.size HST0.out.bel.size ho hg); clear ho hg)
  clear a1
  have y0 := HST.out.b0.cell 0
  have y1 := HST.out.b0.cell 1
  have r0 := HST.out.b2.cell 0
  have r3 := HST.out.b2.cell 3
  have f2 := HST.out.b2.free
  have r4 := HST.out.b2.cell 4
  have HR4 := hid (Ro.own HR.out HP.out HST.out.bel HN.out HC.out)
  have HS5 := hid (show St w (w4.setCell ⟨p + 1 + 1, 4, none⟩ (.int .i64 3)) p 1 b #[.slice A n c, .int .i64 0, .bool false, .bool false, .int .i64 3] from HST.out.set 4 _)
  have HR5 := hid (HR4.out.set 4 (.int .i64 3))
  clear hv
  rcases hv2 with h1 | ⟨h1, h2⟩
  all_goals
    go_upto_region 13 with fail
    generalize w4.setCell ⟨p + 1 + 1, 4, none⟩ (.int .i64 3) = w5 at *
    clear y0 y1 r0 r3 f2
    go_wp2_with (first | (refine wpList_load_bx rfl 46 (.tmp 7) rfl (p + 1 + 1) _ _ _ rfl HS5.out.b2 Try.underlying46 rfl (by kernel_rfl) ?_) | (refine wpList_store_bx rfl 46 (.tmp 6) (.tmp 47) rfl rfl (p + 1) _ _ #[.slice A n c, .int .i64 0, .bool false, .bool false, .int .i64 3] rfl rfl HS5.out.b1 (by kernel_rfl) rfl (by simp [Value.oneCell']) ?_))
    refine bodyPost_ret (results_bx1 rfl _ rfl (HS5.out.b1.row (cs' := #[.slice A n c, .int .i64 0, .bool false, .bool false, .int .i64 3])) Try.underlying46 rfl (by kernel_rfl)) rfl ?_
    exact HS5.out.fin (by rw [HN.out]) HR5.out
set_option maxRecDepth 10000 in
set_option maxHeartbeats 1000000 in
theorem rdo_add (hr : Rw w A l) (hn : l.length = n) (h64 : n ≤ 64) (hc : n ≤ c ∧ c ≤ maxLen) (C : Nat) (hv : vb b) (hlt : ¬ C < n + 1) (hx : b ∉ l) :
    Calls Try.prog 23 #[.slice A n c, .int .i64 C, .agg #[.int .i64 1, .int .i64 b]] w (Wn w A (b :: l) 0 false false 0) := by
  have HV := hid hv
  have v0 : ¬ b < 0 := by have := hv.1; omega
  have v1 : ¬ (63 : Int) < b := by have := hv.2; omega
  clear hv
  have HN := hid hn
  have HR := hid hr
  have HX := hid hx
  have HC := hid hc
  have HM := hid (show n ≤ maxLen from by unfold maxLen; omega)
  have HST0 := hid (st_made w 1 b #[.slice A n c, .int .i64 0, .bool false, .bool false, .int .i64 0])
  have B2 := hid (below_alloc w (.cells #[.int .i64 1, .int .i64 b] 34))
  obtain ⟨p, hp⟩ : ∃ p, w.heap.size = p := ⟨_, rfl⟩
  have HP := hid hp
  clear hr hn hx hc
  go_enter Try.func23, Try.ntmps23
  go_upto_region 2 with (go_at_call 27; refine (rhas_any A n c l b _ _ HN.out HM.out ((HR.out.rd.now B2.out).now (below_alloc _ _))).mono ?_; rintro e w' ⟨rfl, rfl⟩; rw [dec_false HX.out])
  generalize ((w.alloc (.cells #[.int .i64 1, .int .i64 b] 34)).alloc (.cells wz 46)).alloc (.cells #[.slice A n c, .int .i64 0, .bool false, .bool false, .int .i64 0] 46) = W at *
  rw [hp] at HST0
  clear hp
  have a1 := HST0.out.b0.cell 1
  go_upto_region 3 with (go_at_call 35; refine (without_any W A n c l b HN.out h64 (HR.out.below HST0.out.bel).rd).mono ?_; rintro e w4 ⟨A4, c4, rfl, ho, hg⟩; have HO := hid ho; have HB := hid hg.nilBelow; have HST := hid (HST0.out.below hg.nilBelow); have HRO := hid (Ro.new (A0 := A) HP.out HST0.out.size HST0.out.bel.size ho hg); clear ho hg)
  clear a1
  have y0 := HST.out.b0.cell 0
  have y1 := HST.out.b0.cell 1
  have r0 := HST.out.b2.cell 0
  have r3 := HST.out.b2.cell 3
  have f2 := HST.out.b2.free
  go_upto_region 15 with (go_at_call 36; refine (ahead_any w4 A n c l b HN.out h64 (HR.out.below HST.out.bel).rd).mono ?_; rintro e w6 ⟨A5, c5, rfl, ho, hg⟩; have HS6 := hid (HST.out.below hg.nilBelow); have HR6 := hid (Ro.new (A0 := A) HP.out HST.out.size HST.out.bel.size ho hg); have r6 := HS6.out.b2.cell 0; have f6 := HS6.out.b2.free; clear ho hg)
  rw [HN.out]
  have HS5 := hid (show St w (w6.setCell ⟨p + 1 + 1, 0, none⟩ (.slice A5 (n + 1) c5)) p 1 b #[.slice A5 (n + 1) c5, .int .i64 0, .bool false, .bool false, .int .i64 0] from HS6.out.set 0 _)
  have HR5 := hid (HR6.out.set 0 (.slice A5 (n + 1) c5))
  generalize w6.setCell ⟨p + 1 + 1, 0, none⟩ (.slice A5 (n + 1) c5) = w5 at *
  clear y0 y1 r0 r3 f2 r6 f6
  have s0 := HS5.out.b2.cell 0
  have hlt2 : ¬ (C : Int) < ((n : Int) + 1) := by omega
  go_upto_region 20 with fail
  clear s0
  go_wp2_with (first | (refine wpList_load_bx rfl 46 (.tmp 7) rfl (p + 1 + 1) _ _ _ rfl HS5.out.b2 Try.underlying46 rfl (by kernel_rfl) ?_) | (refine wpList_store_bx rfl 46 (.tmp 6) (.tmp 73) rfl rfl (p + 1) _ _ #[.slice A5 (n + 1) c5, .int .i64 0, .bool false, .bool false, .int .i64 0] rfl rfl HS5.out.b1 (by kernel_rfl) rfl (by simp [Value.oneCell']) ?_))
  refine bodyPost_ret (results_bx1 rfl _ rfl (HS5.out.b1.row (cs' := #[.slice A5 (n + 1) c5, .int .i64 0, .bool false, .bool false, .int .i64 0])) Try.underlying46 rfl (by kernel_rfl)) rfl ?_
  exact HS5.out.fin (by rw [List.length_cons, HN.out]) HR5.out
set_option maxRecDepth 10000 in
set_option maxHeartbeats 1000000 in
theorem rdo_over (hr : Rw w A l) (hn : l.length = n) (h64 : n ≤ 64) (hc : n ≤ c ∧ c ≤ maxLen) (C : Nat) (hv : vb b) (hlt : C < n + 1) (v : Int) (hl : (b :: l).getLast (by simp) = v) (hx : b ∉ l) :
    Calls Try.prog 23 #[.slice A n c, .int .i64 C, .agg #[.int .i64 1, .int .i64 b]] w (Wn w A (b :: l).dropLast v true false 0) := by
  have HVL := hid hl
  clear hl
  have HV := hid hv
  have v0 : ¬ b < 0 := by have := hv.1; omega
  have v1 : ¬ (63 : Int) < b := by have := hv.2; omega
  clear hv
  have HN := hid hn
  have HR := hid hr
  have HX := hid hx
  have HC := hid hc
  have HM := hid (show n ≤ maxLen from by unfold maxLen; omega)
  have HST0 := hid (st_made w 1 b #[.slice A n c, .int .i64 0, .bool false, .bool false, .int .i64 0])
  have B2 := hid (below_alloc w (.cells #[.int .i64 1, .int .i64 b] 34))
  obtain ⟨p, hp⟩ : ∃ p, w.heap.size = p := ⟨_, rfl⟩
  have HP := hid hp
  clear hr hn hx hc
  go_enter Try.func23, Try.ntmps23
  go_upto_region 2 with (go_at_call 27; refine (rhas_any A n c l b _ _ HN.out HM.out ((HR.out.rd.now B2.out).now (below_alloc _ _))).mono ?_; rintro e w' ⟨rfl, rfl⟩; rw [dec_false HX.out])
  generalize ((w.alloc (.cells #[.int .i64 1, .int .i64 b] 34)).alloc (.cells wz 46)).alloc (.cells #[.slice A n c, .int .i64 0, .bool false, .bool false, .int .i64 0] 46) = W at *
  rw [hp] at HST0
  clear hp
  have a1 := HST0.out.b0.cell 1
  go_upto_region 3 with (go_at_call 35; refine (without_any W A n c l b HN.out h64 (HR.out.below HST0.out.bel).rd).mono ?_; rintro e w4 ⟨A4, c4, rfl, ho, hg⟩; have HO := hid ho; have HB := hid hg.nilBelow; have HST := hid (HST0.out.below hg.nilBelow); have HRO := hid (Ro.new (A0 := A) HP.out HST0.out.size HST0.out.bel.size ho hg); clear ho hg)
  clear a1
  have y0 := HST.out.b0.cell 0
  have y1 := HST.out.b0.cell 1
  have r0 := HST.out.b2.cell 0
  have r3 := HST.out.b2.cell 3
  have f2 := HST.out.b2.free
  go_upto_region 15 with (go_at_call 36; refine (ahead_any w4 A n c l b HN.out h64 (HR.out.below HST.out.bel).rd).mono ?_; rintro e w6 ⟨A5, c5, rfl, ho, hg⟩; have HS6 := hid (HST.out.below hg.nilBelow); have HR6 := hid (Ro.new (A0 := A) HP.out HST.out.size HST.out.bel.size ho hg); have r6 := HS6.out.b2.cell 0; have f6 := HS6.out.b2.free; clear ho hg)
  rw [HN.out]
  have HS5 := hid (show St w (w6.setCell ⟨p + 1 + 1, 0, none⟩ (.slice A5 (n + 1) c5)) p 1 b #[.slice A5 (n + 1) c5, .int .i64 0, .bool false, .bool false, .int .i64 0] from HS6.out.set 0 _)
  have HR5 := hid (HR6.out.set 0 (.slice A5 (n + 1) c5))
  generalize w6.setCell ⟨p + 1 + 1, 0, none⟩ (.slice A5 (n + 1) c5) = w5 at *
  clear y0 y1 r0 r3 f2 r6 f6
  have s0 := HS5.out.b2.cell 0
  have hlt2 : (C : Int) < ((n : Int) + 1) := by omega
  have HL := hid (show (b :: l).length = n + 1 from by rw [List.length_cons, HN.out])
  obtain ⟨a5, rfl, hb5, hc5⟩ := rv_at HR5.out.rw_.rd (j := n) (by rw [HL.out]; omega)
  have e5 : (b :: l)[n]'(by rw [HL.out]; omega) = (b :: l).getLast (by simp) := by
    rw [List.getLast_eq_getElem]
    congr 1
    rw [HL.out]
    omega
  rw [e5, HVL.out] at hc5
  have HO5 := hid (HR5.out.off a5 rfl)
  clear e5
  have s1 := HS5.out.b2.cell 1
  have s2 := HS5.out.b2.cell 2
  have fs := HS5.out.b2.free
  have hc5n : n + 1 ≤ c5 ∧ c5 ≤ maxLen := by have := HR5.out.cap; rw [HL.out] at this; exact this
  unfold maxLen at hc5n
  go_upto_region 19 with fail
  have HS8 := hid (show St w ((w5.setCell ⟨p + 1 + 1, 1, none⟩ (.int .i64 v)).setCell ⟨p + 1 + 1, 2, none⟩ (.bool true)) p 1 b #[.slice (some a5) (n + 1) c5, .int .i64 v, .bool true, .bool false, .int .i64 0] from (HS5.out.set 1 _).set 2 _)
  have HR8 := hid ((HR5.out.set 1 (.int .i64 v)).set 2 (.bool true))
  generalize (w5.setCell ⟨p + 1 + 1, 1, none⟩ (.int .i64 v)).setCell ⟨p + 1 + 1, 2, none⟩ (.bool true) = w8 at *
  clear s0 s1 s2 fs hc5 hb5
  have s0 := HS8.out.b2.cell 0
  have fs := HS8.out.b2.free
  go_upto_region 20 with fail
  have HS9 := hid (show St w (w8.setCell ⟨p + 1 + 1, 0, none⟩ (.slice (some a5) n c5)) p 1 b #[.slice (some a5) n c5, .int .i64 v, .bool true, .bool false, .int .i64 0] from HS8.out.set 0 _)
  have HR9 := hid ((HR8.out.set 0 (.slice (some a5) n c5)).cut)
  generalize w8.setCell ⟨p + 1 + 1, 0, none⟩ (.slice (some a5) n c5) = w9 at *
  clear s0 fs
  go_wp2_with (first | (refine wpList_load_bx rfl 46 (.tmp 7) rfl (p + 1 + 1) _ _ _ rfl HS9.out.b2 Try.underlying46 rfl (by kernel_rfl) ?_) | (refine wpList_store_bx rfl 46 (.tmp 6) (.tmp 73) rfl rfl (p + 1) _ _ #[.slice (some a5) n c5, .int .i64 v, .bool true, .bool false, .int .i64 0] rfl rfl HS9.out.b1 (by kernel_rfl) rfl (by simp [Value.oneCell']) ?_))
  refine bodyPost_ret (results_bx1 rfl _ rfl (HS9.out.b1.row (cs' := #[.slice (some a5) n c5, .int .i64 v, .bool true, .bool false, .int .i64 0])) Try.underlying46 rfl (by kernel_rfl)) rfl ?_
  exact HS9.out.fin (by rw [List.length_dropLast, HL.out]; rfl) HR9.out
end
end Go.Proofs.Ytlafhejnnilpmaa
