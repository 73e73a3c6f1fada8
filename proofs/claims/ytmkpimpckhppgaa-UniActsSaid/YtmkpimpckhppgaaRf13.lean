/-
  What is proved: what the reference's stack in memory is (a struct of two rows: blocks with levels, capacities; off the blocks X); its Place, Count, Yard. Condition: the stack lies in memory as one.
-/
import Derived.Test.YtmkpimpckhppgaaUw13
namespace Go.Proofs.Ytmkpimpckhppgaa
open Go.RowKit

/-- blocks with levels as cells -/
def itc (L : List Int) (v : Int → Int) : List Value := L.flatMap fun b => [.int .i64 b, .int .i64 (v b)]
theorem itc_app (L M : List Int) (v : Int → Int) : itc (L ++ M) v = itc L v ++ itc M v := by unfold itc; exact List.flatMap_append
theorem itc_len (L : List Int) (v : Int → Int) : (itc L v).length = L.length * 2 := by
  induction L with
  | nil => rfl
  | cons m M ih =>
    rw [show m :: M = [m] ++ M from rfl, itc_app, List.length_append, List.length_append, ih]
    show 2 + _ = (1 + _) * 2
    omega
theorem itc_congr {L : List Int} {v v' : Int → Int} (h : ∀ b ∈ L, v b = v' b) : itc L v = itc L v' := by
  induction L with
  | nil => rfl
  | cons m M ih =>
    have e : ∀ u, itc (m :: M) u = [.int .i64 m, .int .i64 (u m)] ++ itc M u := fun u => rfl
    rw [e, e, ih fun b hb => h b (List.mem_cons_of_mem _ hb), h m List.mem_cons_self]
theorem itc_one (L : List Int) (v : Int → Int) : ∀ u ∈ itc L v, u.oneCell' = true := by
  intro u hu
  unfold itc at hu
  obtain ⟨b, -, hb⟩ := List.mem_flatMap.1 hu
  simp only [List.mem_cons, List.not_mem_nil, or_false] at hb
  rcases hb with rfl | rfl <;> rfl
theorem itc_at {L : List Int} {v : Int → Int} {j : Nat} {b : Int} (h : L[j]? = some b) (r : Nat) (hr : r < 2) : (itc L v)[j * 2 + r]? = (itc [b] v)[r]? := by
  obtain ⟨hj, e⟩ := List.getElem?_eq_some_iff.1 h
  have e2 : L = L.take j ++ ([b] ++ L.drop (j + 1)) := by
    rw [← e]
    simp
  have hl : (itc (L.take j) v).length = j * 2 := by rw [itc_len, List.length_take]; rw [Nat.min_eq_left (by omega)]
  conv => lhs; rw [e2]
  rw [itc_app, itc_app, List.getElem?_append_right (by rw [hl]; omega), hl, show j * 2 + r - j * 2 = r from by omega, List.getElem?_append_left (by rw [itc_len]; show r < 1 * 2; omega)]
/-- a block with its level at an address -/
structure ItAt (w : World) (p : Addr) (b l : Int) : Prop where
  lt : p.block < w.heap.size
  c0 : w.cell? p = some (.int .i64 b)
  c1 : w.cell? ⟨p.block, p.off + 1, none⟩ = some (.int .i64 l)
theorem it_at {w : World} {B : Nat} {A : Option Addr} {L : List Int} {v : Int → Int} (hB : B ≤ w.heap.size) (h : Rv w B A (itc L v)) {j : Nat} {b : Int} (hb : L[j]? = some b) : ∃ ad, A = some ad ∧ ItAt w (ad.add (j * 2)) b (v b) := by
  obtain ⟨ad, e, h1, h2⟩ := h (j * 2 + 0) _ (itc_at hb 0 (by omega))
  obtain ⟨ad1, e1, h3, h4⟩ := h (j * 2 + 1) _ (itc_at hb 1 (by omega))
  rw [e] at e1
  injection e1 with e1
  subst e1
  refine ⟨ad, e, by rw [addBlk]; omega, h2, ?_⟩
  rw [addSucc ad (j * 2) 1 (by omega)] at h4
  exact h4
/-- the capacities as the reference holds them -/
def rcl (c : Nat → Nat) : List Int := [0, c 1, c 2, c 3]
theorem rcl_at (c : Nat → Nat) {l : Nat} (h1 : 1 ≤ l) (h3 : l ≤ 3) : (ints (rcl c))[l]? = some (.int .i64 (c l)) := by
  have h : l = 1 ∨ l = 2 ∨ l = 3 := by omega
  rcases h with rfl | rfl | rfl <;> rfl
/-- the reference's stack: the struct at h, the row of blocks with levels at A, the capacities at E; all of it off X -/
structure Ur (w : World) (X : Nat → Prop) (h : Nat) (A : Option Addr) (cp : Nat) (E : Option Addr) (ce : Nat) (c : Nat → Nat) (s : Us) : Prop where
  box : Bx w h 60 #[.slice A s.L.length cp, .slice E 4 ce]
  row : Rv w w.heap.size A (itc s.L s.v)
  cps : Rv w w.heap.size E (ints (rcl c))
  cpl : s.L.length ≤ cp ∧ cp ≤ maxLen
  rof : ∀ ad, A = some ad → ad.block ≠ h ∧ ¬ X ad.block
  cof : ∀ ad, E = some ad → ad.block ≠ h ∧ ¬ X ad.block
  hX : ¬ X h
  xlt : ∀ j, X j → j < w.heap.size
section
variable {w w' : World} {X : Nat → Prop} {h : Nat} {A E : Option Addr} {cp ce : Nat} {c : Nat → Nat} {s : Us}
theorem Ur.below (u : Ur w X h A cp E ce c s) (hb : Below w.heap.size w w') : Ur w' X h A cp E ce c s :=
  ⟨u.box.next hb, u.row.now hb, u.cps.now hb, u.cpl, u.rof, u.cof, u.hX, fun j e => Nat.lt_of_lt_of_le (u.xlt j e) hb.size⟩
theorem Ur.draws (u : Ur w X h A cp E ce c s) (n : Nat) : Ur (w.drewN n) X h A cp E ce c s := u.below (below_draws (Below.refl _ _) n)
/-- others are at work -/
theorem Ur.chg {F G : Nat → Prop} (u : Ur w X h A cp E ce c s) (hc : Chg w w' F G) (hF : ∀ j, F j → X j) : Ur w' X h A cp E ce c s :=
  ⟨hc.bx u.box (fun e => u.hX (hF _ e)), hc.rv u.row (fun ad e f => (u.rof ad e).2 (hF _ f)), hc.rv u.cps (fun ad e f => (u.cof ad e).2 (hF _ f)), u.cpl, u.rof, u.cof, u.hX, fun j e => Nat.lt_of_lt_of_le (u.xlt j e) hc.size⟩
/-- its row is another one -/
theorem Ur.put (u : Ur w X h A cp E ce c s) {A' : Option Addr} {cp' : Nat} {s' : Us} (hr : Rv w w.heap.size A' (itc s'.L s'.v)) (hc : s'.L.length ≤ cp' ∧ cp' ≤ maxLen) (ho : ∀ ad, A' = some ad → ad.block ≠ h ∧ ¬ X ad.block) :
    Ur (w.setCell ⟨h, 0, none⟩ (.slice A' s'.L.length cp')) X h A' cp' E ce c s' := by
  have hch : Chg w (w.setCell ⟨h, 0, none⟩ (.slice A' s'.L.length cp')) (· = h) (· = h) :=
    ⟨rfl, rfl, rfl, by rw [setSize]; exact Nat.le_refl _, fun j _ h2 => Below.heap_setCell w ⟨h, 0, none⟩ _ j (fun e => h2 e), fun _ e => .inl e⟩
  exact ⟨u.box.set 0 _, hch.rv hr (fun ad e => (ho ad e).1), hch.rv u.cps (fun ad e => (u.cof ad e).1), hc, ho, u.cof, u.hX, fun j e => by rw [setSize]; exact u.xlt j e⟩
theorem Ur.c0 (u : Ur w X h A cp E ce c s) : w.cell? ⟨h, 0, none⟩ = some (.slice A s.L.length cp) := u.box.cell 0
theorem Ur.c1 (u : Ur w X h A cp E ce c s) : w.cell? ⟨h, 1, none⟩ = some (.slice E 4 ce) := u.box.cell 1
theorem Ur.free (u : Ur w X h A cp E ce c s) (i : Nat) : w.frozen? ⟨h, i, none⟩ = false := u.box.free i
theorem Ur.cap (u : Ur w X h A cp E ce c s) {l : Nat} (h1 : 1 ≤ l) (h3 : l ≤ 3) : ∃ ad, E = some ad ∧ w.cell? (ad.add l) = some (.int .i64 (c l)) := by
  obtain ⟨ad, e, _, h2⟩ := u.cps l _ (rcl_at c h1 h3)
  exact ⟨ad, e, h2⟩
/-- where a block stands; -1: nowhere -/
def plc (s : Us) (b : Int) : Int := if b ∈ s.L then (px b s.L : Int) else -1
set_option maxRecDepth 10000 in
set_option maxHeartbeats 1000000 in
theorem r_place (u : Ur w X h A cp E ce c s) (ok : Oku s) (b : Int) : Calls Try.prog 18 #[.pointer (some ⟨h, 0, none⟩), .int .i64 b] w fun e w' => e = .returned (.int .i64 (plc s b)) ∧ w = w' := by
  have c0 := u.c0
  have HU := hid u
  have h64 := ok.len
  obtain ⟨n, hn⟩ : ∃ n, s.L.length = n := ⟨_, rfl⟩
  rw [hn] at c0 h64
  have HN := hid hn
  have HK := hid ok
  clear u ok hn
  go_enter Try.func18, Try.ntmps18
  go_wp2
  go_loopg [5] n (fun gk t wr => ∃ j : Nat, j + gk = n ∧ t = .int .i64 j ∧ (∀ q, q < j → s.L[q]? ≠ some b) ∧ wr = w)
  case atStart => exact ⟨0, by omega, rfl, fun q hq => by omega, rfl⟩
  case round =>
    obtain ⟨j, hj, rfl, hno, rfl⟩ := hrel
    have HNO := hid hno
    clear hno
    by_cases hlt : j < n
    · have hjl : j < s.L.length := by rw [HN.out]; exact hlt
      have hat := List.getElem?_eq_getElem hjl
      have HAT := hid hat
      obtain ⟨ad, rfl, alt, d0, d1⟩ := it_at (Nat.le_refl _) HU.out.row hat
      clear hat
      generalize s.L[j] = y at *
      have hjn : (j : Int) < (n : Int) := by omega
      clear hjl
      by_cases hy : y = b
      · subst hy
        have HE := hid (show plc s y = j from by
          unfold plc
          rw [if_pos (List.mem_of_getElem? HAT.out), px_of HK.out.nd HAT.out])
        go_wp2
        go_ret
        exact ⟨by rw [HE.out]; rfl, rfl⟩
      · have hne : (y == b) = false := by simpa using hy
        have hd : decide (y = b) = false := by simpa using hy
        have HNO2 := hid (show ∀ q, q < j + 1 → s.L[q]? ≠ some b from fun q hq => by
          by_cases e : q = j
          · rw [e, HAT.out]; simpa using hy
          · exact HNO.out q (by omega))
        clear hy
        go_wp2
        go_roundg (gk - 1)
        case measure => omega
        case rel => exact ⟨j + 1, by omega, by go_num, HNO2.out, rfl⟩
    · obtain rfl : j = n := by omega
      have HE := hid (show plc s b = -1 from by
        unfold plc
        rw [if_neg]
        intro hm
        exact HNO.out _ (by have := px_lt hm; rw [HN.out] at this; exact this) (px_at hm))
      go_wp2
      go_ret
      exact ⟨by rw [HE.out]; rfl, rfl⟩
set_option maxRecDepth 10000 in
set_option maxHeartbeats 1000000 in
theorem r_count (u : Ur w X h A cp E ce c s) (ok : Oku s) (l : Int) : Calls Try.prog 33 #[.pointer (some ⟨h, 0, none⟩), .int .i64 l] w fun e w' => e = .returned (.int .i64 (s.ct l)) ∧ w = w' := by
  have c0 := u.c0
  have HU := hid u
  have h64 := ok.len
  obtain ⟨n, hn⟩ : ∃ n, s.L.length = n := ⟨_, rfl⟩
  rw [hn] at c0 h64
  have HN := hid hn
  have HE := hid (cN_all s l)
  clear u ok hn
  go_enter Try.func33, Try.ntmps33
  go_wp2
  go_loopg [5, 6] n (fun gk t5 t wr => ∃ j : Nat, j + gk = n ∧ t5 = .int .i64 (cN s l j) ∧ t = .int .i64 j ∧ wr = w)
  case atStart => exact ⟨0, by omega, rfl, rfl, rfl⟩
  case round =>
    obtain ⟨j, hj, rfl, rfl, rfl⟩ := hrel
    by_cases hlt : j < n
    · have hjl : j < s.L.length := by rw [HN.out]; exact hlt
      have hat := List.getElem?_eq_getElem hjl
      obtain ⟨ad, rfl, alt, d0, d1⟩ := it_at (Nat.le_refl _) HU.out.row hat
      clear hat
      have HY := hid (fun e => cN_yes (s := s) (l := l) hjl e)
      have HNO := hid (fun e => cN_no (s := s) (l := l) hjl e)
      have hle := cN_le s l j
      rw [HN.out] at hle
      generalize cN s l j = m at *
      generalize s.L[j] = y at *
      have hjn : (j : Int) < (n : Int) := by omega
      clear hjl
      generalize hy : s.v y = yv at *
      by_cases he : yv = l
      · subst he
        have HC := hid (HY.out rfl)
        clear HY HNO
        go_wp2
        go_roundg (gk - 1)
        case measure => omega
        case rel => exact ⟨j + 1, by omega, by rw [HC.out]; go_num, by go_num, rfl⟩
      · have HC := hid (HNO.out he)
        have hne : (yv == l) = false := by simpa using he
        have hd : decide (yv = l) = false := by simpa using he
        clear HY HNO he
        go_wp2
        go_roundg (gk - 1)
        case measure => omega
        case rel => exact ⟨j + 1, by omega, by rw [HC.out], by go_num, rfl⟩
    · obtain rfl : j = n := by omega
      rw [HN.out] at HE
      rw [HE.out]
      go_wp2
      go_ret
      exact ⟨rfl, rfl⟩
set_option maxRecDepth 10000 in
set_option maxHeartbeats 1000000 in
theorem r_yard (u : Ur w X h A cp E ce c s) (ok : Oku s) (l : Int) : Calls Try.prog 34 #[.pointer (some ⟨h, 0, none⟩), .int .i64 l] w fun e w' => e = .returned (.int .i64 (s.yp l)) ∧ w = w' := by
  have c0 := u.c0
  have HU := hid u
  have h64 := ok.len
  obtain ⟨n, hn⟩ : ∃ n, s.L.length = n := ⟨_, rfl⟩
  rw [hn] at c0 h64
  have HN := hid hn
  have HE := hid (show ypN s.v l s.L s.L.length = s.yp l from rfl)
  clear u ok hn
  go_enter Try.func34, Try.ntmps34
  go_wp2
  go_loopg [5, 6] n (fun gk t5 t wr => ∃ j : Nat, j + gk = n ∧ t5 = .int .i64 (ypN s.v l s.L j) ∧ t = .int .i64 j ∧ wr = w)
  case atStart => exact ⟨0, by omega, rfl, rfl, rfl⟩
  case round =>
    obtain ⟨j, hj, rfl, rfl, rfl⟩ := hrel
    by_cases hlt : j < n
    · have hjl : j < s.L.length := by rw [HN.out]; exact hlt
      have hat := List.getElem?_eq_getElem hjl
      obtain ⟨ad, rfl, alt, d0, d1⟩ := it_at (Nat.le_refl _) HU.out.row hat
      have HG := hid (getD_of hat)
      clear hat
      have HST := hid (show ypN s.v l s.L (j + 1) = if s.v (s.L.getD j 0) = l then (j : Int) else ypN s.v l s.L j from rfl)
      rw [HG.out] at HST
      generalize ypN s.v l s.L j = m at *
      generalize s.L[j] = y at *
      have hjn : (j : Int) < (n : Int) := by omega
      clear hjl HG
      generalize hy : s.v y = yv at *
      by_cases he : yv = l
      · subst he
        rw [if_pos rfl] at HST
        go_wp2
        go_roundg (gk - 1)
        case measure => omega
        case rel => exact ⟨j + 1, by omega, by rw [HST.out], by go_num, rfl⟩
      · rw [if_neg he] at HST
        have hne : (yv == l) = false := by simpa using he
        have hd : decide (yv = l) = false := by simpa using he
        clear he
        go_wp2
        go_roundg (gk - 1)
        case measure => omega
        case rel => exact ⟨j + 1, by omega, by rw [HST.out], by go_num, rfl⟩
    · obtain rfl : j = n := by omega
      rw [HN.out] at HE
      go_wp2
      go_ret
      exact ⟨by rw [← HE.out]; rfl, rfl⟩
end
end Go.Proofs.Ytmkpimpckhppgaa
