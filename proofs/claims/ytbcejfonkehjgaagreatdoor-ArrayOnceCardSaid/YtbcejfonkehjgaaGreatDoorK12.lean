/-
  What is proved: small facts on hints: a slice of hints as cells, when hints may be; a row of cells of the call's own that is written to. No condition on a program.
-/
import Derived.Test.YtbcejfonkehjgaaGreatDoorK02
import Derived.Test.YtbcejfonkehjgaaGreatDoorRows
namespace Go.Proofs.YtbcejfonkehjgaaGreatDoor
open Go.RowKit


structure Hn where
  f : Int
  s : Int
  o : Int
  l : Bool

def hv (h : Hn) : List Value := [.int .i64 h.f, .int .i64 h.s, .int .i64 h.o, .bool h.l]
def hvs (h : Nat → Hn) : Nat → List Value
  | 0 => []
  | n + 1 => hvs h n ++ hv (h n)
theorem hvs_length (h : Nat → Hn) : ∀ n, (hvs h n).length = n * 4
  | 0 => rfl
  | n + 1 => by rw [hvs, List.length_append, hvs_length h n]; simp [hv]; omega
theorem hvs_one (h : Nat → Hn) : ∀ n, ∀ u ∈ hvs h n, u.oneCell' = true
  | 0 => fun u hu => by simp [hvs] at hu
  | n + 1 => fun u hu => by
    rw [hvs, List.mem_append] at hu
    rcases hu with hu | hu
    · exact hvs_one h n u hu
    · simp [hv] at hu
      rcases hu with rfl | rfl | rfl | rfl <;> rfl
theorem hvs_at (h : Nat → Hn) : ∀ n i, i < n → (hvs h n)[i * 4]? = some (.int .i64 (h i).f) ∧ (hvs h n)[i * 4 + 1]? = some (.int .i64 (h i).s) ∧ (hvs h n)[i * 4 + 2]? = some (.int .i64 (h i).o) ∧ (hvs h n)[i * 4 + 3]? = some (.bool (h i).l)
  | 0, i, hi => absurd hi (Nat.not_lt_zero i)
  | n + 1, i, hi => by
    rw [hvs]
    have hl := hvs_length h n
    by_cases e : i = n
    · subst e
      rw [List.getElem?_append_right (by omega), List.getElem?_append_right (by omega), List.getElem?_append_right (by omega), List.getElem?_append_right (by omega), hl, Nat.sub_self, show i * 4 + 1 - i * 4 = 1 by omega, show i * 4 + 2 - i * 4 = 2 by omega, show i * 4 + 3 - i * 4 = 3 by omega]
      exact ⟨rfl, rfl, rfl, rfl⟩
    · rw [List.getElem?_append_left (by omega), List.getElem?_append_left (by omega), List.getElem?_append_left (by omega), List.getElem?_append_left (by omega)]
      exact hvs_at h n i (by omega)
def okH (h : Hn) (b : Int) : Prop := 0 ≤ h.f ∧ 1 ≤ h.s ∧ h.f + h.s ≤ b ∧ h.f + h.s ≤ 32 ∧ 0 ≤ h.o ∧ h.o ≤ 2147483647
def Has (h : Hn) (x : Nat) : Prop := h.f ≤ (x : Int) ∧ (x : Int) < h.f + h.s
def HintsP (h : Nat → Hn) (n : Nat) (b : Int) : Prop :=
  n ≤ 8 ∧ (∀ i, i < n → okH (h i) b) ∧ ∀ i, i < n → ∀ k, k < i → ∀ x, ¬ (Has (h i) x ∧ Has (h k) x)

structure Arr (w : World) (k n : Nat) (f : Nat → Value) : Prop where
  lt : k < w.heap.size
  cell : ∀ i, i < n → w.cell? ⟨k, i, none⟩ = some (f i)
  free : ∀ i, i < n → w.frozen? ⟨k, i, none⟩ = false
section
variable {w w' : World} {k n : Nat} {f g : Nat → Value}
theorem Arr.below (h : Arr w k n f) (hb : Below w.heap.size w w') : Arr w' k n f where
  lt := Nat.lt_of_lt_of_le h.lt hb.size
  cell := fun i hi => (hb.cell (p := ⟨k, i, none⟩) h.lt).trans (h.cell i hi)
  free := fun i hi => (hb.frozen (p := ⟨k, i, none⟩) h.lt).trans (h.free i hi)
theorem Arr.alloc (h : Arr w k n f) (o : Obj) : Arr (w.alloc o) k n f := h.below (below_alloc w o)
theorem Arr.alike (h : Arr w k n f) (e : ∀ i, i < n → g i = f i) : Arr w k n g := ⟨h.lt, fun i hi => by rw [e i hi]; exact h.cell i hi, h.free⟩
theorem Arr.set (h : Arr w k n f) {i : Nat} (hi : i < n) (u : Value) : Arr (w.setCell ⟨k, i, none⟩ u) k n (fun t => if t = i then u else f t) where
  lt := by have := h.lt; unfold World.setCell; split <;> simpa using this
  cell := fun t ht => by
    by_cases e : t = i
    · subst e
      rw [World.cell?_setCell_same _ _ _ (h.cell t ht), if_pos rfl]
    · rw [World.cell?_setCell_other _ _ _ _ (by intro q; injection q with _ q; exact e q.symm), if_neg e]
      exact h.cell t ht
  free := fun t ht => by rw [World.frozen?_setCell]; exact h.free t ht
theorem Arr.far (h : Arr w k n f) (a : Addr) (u : Value) (ha : a.block ≠ k) : Arr (w.setCell a u) k n f where
  lt := by have := h.lt; unfold World.setCell; split <;> simpa using this
  cell := fun t ht => by rw [World.cell?_setCell_other _ _ _ _ (by intro q; rw [q] at ha; exact ha rfl)]; exact h.cell t ht
  free := fun t ht => by rw [World.frozen?_setCell]; exact h.free t ht
theorem arr_new (w : World) (cs : Array Value) (t : TypeId) (n : Nat) (hf : ∀ i, i < n → cs[i]? = some (f i)) : Arr (w.alloc (.cells cs t)) w.heap.size n f where
  lt := by rw [World.size_alloc]; omega
  cell := fun i hi => by rw [World.cell?_alloc_new]; exact hf i hi
  free := fun i hi => World.frozen?_alloc_new w cs t i
end
end Go.Proofs.YtbcejfonkehjgaaGreatDoor
namespace Go.Proofs.YtbcejfonkehjgaaGreatDoor
open Go.RowKit

def fitP (h : Hn) (r : Int) : Prop := 0 ≤ h.f ∧ 1 ≤ h.s ∧ h.s ≤ r ∧ h.f ≤ r - h.s ∧ 0 ≤ h.o ∧ h.o ≤ 2147483647

set_option maxHeartbeats 400000 in
theorem fits_any (f s o : Int) (l : Bool) (r : Int) (hr : r ≤ 32) (hs0 : -9223372036854775808 ≤ r) (w : World) :
    Calls Tryz.prog 108 #[.agg #[.int .i64 f, .int .i64 s, .int .i64 o, .bool l], .int .i64 r] w fun e w' => e = .returned (.bool (dec (fitP ⟨f, s, o, l⟩ r))) ∧ Below w.heap.size w w' := by
  go_enter Tryz.func108, Tryz.ntmps108
  go_wp2
  all_goals
    go_ret
    refine ⟨ret_dec ?_, below_alloc w _⟩
    show _ ↔ 0 ≤ f ∧ 1 ≤ s ∧ s ≤ r ∧ f ≤ r - s ∧ 0 ≤ o ∧ o ≤ 2147483647
    first
      | (simp only [decide_eq_true_eq]; omega)
      | exact ⟨(fun h => by cases h), (fun h => by omega)⟩
end Go.Proofs.YtbcejfonkehjgaaGreatDoor
namespace Go.Proofs.YtbcejfonkehjgaaGreatDoor
open Go.RowKit


structure HAt (w : World) (a : Addr) (h : Hn) : Prop where
  lt : a.block < w.heap.size
  f : w.cell? a = some (.int .i64 h.f)
  s : w.cell? ⟨a.block, a.off + 1, none⟩ = some (.int .i64 h.s)
  o : w.cell? ⟨a.block, a.off + 2, none⟩ = some (.int .i64 h.o)
  l : w.cell? ⟨a.block, a.off + 3, none⟩ = some (.bool h.l)
theorem Rv.hint {w : World} {A : Option Addr} {h : Nat → Hn} {n q : Nat} (hr : Rv w w.heap.size A (hvs h n)) (hq : q < n) : ∃ ad, A = some ad ∧ HAt w (ad.add (q * 4)) (h q) := by
  obtain ⟨a0, a1, a2, a3⟩ := hvs_at h n q hq
  obtain ⟨ad, rfl, hb, c0⟩ := hr _ _ a0
  obtain ⟨_, e1, _, c1⟩ := hr _ _ a1
  obtain ⟨_, e2, _, c2⟩ := hr _ _ a2
  obtain ⟨_, e3, _, c3⟩ := hr _ _ a3
  injection e1 with e1
  injection e2 with e2
  injection e3 with e3
  subst e1 e2 e3
  rw [addSucc _ _ _ (by omega)] at c1 c2 c3
  exact ⟨ad, rfl, by rw [addBlk]; exact hb, c0, c1, c2, c3⟩

theorem fit_iff {h : Hn} {b r : Int} (h1 : 32 < b → r = 32) (h2 : b ≤ 32 → r = b) : fitP h r ↔ okH h b := by
  unfold fitP okH
  by_cases hb : 32 < b
  · have := h1 hb; omega
  · have := h2 (by omega); omega

theorem HAt.next {w w' : World} {a : Addr} {h : Hn} (hh : HAt w a h) (hb : Below w.heap.size w w') : HAt w' a h :=
  ⟨Nat.lt_of_lt_of_le hh.lt hb.size, (hb.cell hh.lt).trans hh.f, (hb.cell (p := ⟨a.block, a.off + 1, none⟩) hh.lt).trans hh.s, (hb.cell (p := ⟨a.block, a.off + 2, none⟩) hh.lt).trans hh.o, (hb.cell (p := ⟨a.block, a.off + 3, none⟩) hh.lt).trans hh.l⟩
theorem HAt.far {w : World} {a : Addr} {h : Hn} (hh : HAt w a h) (p : Addr) (u : Value) (hp : p.block ≠ a.block) : HAt (w.setCell p u) a h := by
  have e : ∀ i s, (w.setCell p u).cell? ⟨a.block, i, s⟩ = w.cell? ⟨a.block, i, s⟩ := fun i s => World.cell?_setCell_other _ _ _ _ (by intro q; rw [q] at hp; exact hp rfl)
  exact ⟨by rw [setSize]; exact hh.lt, (e a.off a.spot).trans hh.f, (e _ _).trans hh.s, (e _ _).trans hh.o, (e _ _).trans hh.l⟩
theorem hbox_new (w : World) (h : Hn) (t : TypeId) : HAt (w.alloc (.cells #[.int .i64 h.f, .int .i64 h.s, .int .i64 h.o, .bool h.l] t)) ⟨w.heap.size, 0, none⟩ h :=
  ⟨by rw [World.size_alloc]; exact Nat.lt_succ_self _, World.cell?_alloc_new _ _ _ 0, World.cell?_alloc_new _ _ _ 1, World.cell?_alloc_new _ _ _ 2, World.cell?_alloc_new _ _ _ 3⟩

noncomputable def tk (hh : Nat → Hn) (q p : Nat) (f : Int) (j : Nat) : Value := .bool (dec ((∃ k, k < q ∧ Has (hh k) j) ∨ (f ≤ (j : Int) ∧ (j : Int) < f + p)))
theorem tk_next {hh : Nat → Hn} {q p : Nat} {F : Nat} (j : Nat) : tk hh q (p + 1) F j = if j = F + p then .bool true else tk hh q p F j := by
  unfold tk
  by_cases e : j = F + p
  · rw [if_pos e, dec_true (.inr (by omega))]
  · have h : ((F : Int) ≤ (j : Int) ∧ (j : Int) < (F : Int) + ((p + 1 : Nat) : Int)) ↔ ((F : Int) ≤ (j : Int) ∧ (j : Int) < (F : Int) + (p : Int)) := by omega
    rw [if_neg e, dec_congr (or_congr Iff.rfl h)]
theorem tk_zero {hh : Nat → Hn} {q : Nat} {f f' : Int} (j : Nat) : tk hh q 0 f j = tk hh q 0 f' j := by
  unfold tk
  have h : (f ≤ (j : Int) ∧ (j : Int) < f + ((0 : Nat) : Int)) ↔ (f' ≤ (j : Int) ∧ (j : Int) < f' + ((0 : Nat) : Int)) := by omega
  rw [dec_congr (or_congr Iff.rfl h)]
theorem tk_last {hh : Nat → Hn} {q p : Nat} {F : Nat} (f' : Int) (hF : (hh q).f = F) (hS : (hh q).s = p) (j : Nat) : tk hh (q + 1) 0 f' j = tk hh q p F j := by
  unfold tk
  rw [dec_congr]
  constructor
  · rintro (⟨k, hk, hx⟩ | h)
    · by_cases e : k = q
      · subst e
        unfold Has at hx
        right; omega
      · exact .inl ⟨k, by omega, hx⟩
    · omega
  · rintro (⟨k, hk, hx⟩ | h)
    · exact .inl ⟨k, by omega, hx⟩
    · refine .inl ⟨q, by omega, ?_⟩
      unfold Has
      omega

set_option maxRecDepth 100000 in
set_option maxHeartbeats 2000000 in
theorem chints_any (A : Option Addr) (n c : Nat) (hh : Nat → Hn) (b : Int) (w : World) (hn : n ≤ maxLen) (hb0 : -9223372036854775808 ≤ b) (hr : Rv w w.heap.size A (hvs hh n)) :
    Calls Tryz.prog 77 #[.slice A n c, .int .i64 b] w fun e w' => e = .returned (.bool (dec (HintsP hh n b))) ∧ Below w.heap.size w w' := by
  unfold maxLen at hn
  have HR := hid hr
  clear hr
  by_cases h8 : n ≤ 8
  · have h8' : ¬ (n : Int) > 8 := by omega
    go_enter Tryz.func77, Tryz.ntmps77
    go_wp2
    all_goals
      have hbel0 := below_alloc w (.cells (Array.replicate 32 (.bool false)) 188)
      have harr0 : Arr (w.alloc (.cells (Array.replicate 32 (.bool false)) 188)) w.heap.size 32 (tk hh 0 0 0) :=
        arr_new w _ _ 32 fun i hi => by unfold tk; rw [dec_false (by rintro (⟨k, hk, _⟩ | hk) <;> omega), Array.getElem?_eq_getElem (by simpa using hi)]; simp
      go_loopw [17] (fun i wr => ∃ q : Nat, i = .int .i64 q ∧ q ≤ n ∧ Below w.heap.size w wr ∧ Arr wr w.heap.size 32 (tk hh q 0 0) ∧ (∀ i, i < q → okH (hh i) b) ∧ ∀ i, i < q → ∀ k, k < i → ∀ x, ¬ (Has (hh i) x ∧ Has (hh k) x)) (fun i _ => n - (intOf i).toNat)
      case atStart => exact ⟨0, rfl, Nat.zero_le _, hbel0, harr0, fun i hi => absurd hi (Nat.not_lt_zero i), fun i hi => absurd hi (Nat.not_lt_zero i)⟩
      case round =>
        obtain ⟨q, rfl, hq, hbel, harr, hok, hap⟩ := hrel
        have HB := hid hbel
        have HA := hid harr
        have HO := hid hok
        have HP := hid hap
        clear hbel harr hok hap hbel0 harr0
        by_cases hlt : q < n
        · have hlt' : (q : Int) < (n : Int) := by omega
          obtain ⟨ad, rfl, hat⟩ := (HR.out.now HB.out).hint hlt
          obtain ⟨⟨f, s, o, l⟩, hH⟩ : ∃ x, hh q = x := ⟨_, rfl⟩
          rw [hH] at hat
          obtain ⟨_, c0, c1, c2, c3⟩ := hat
          dsimp only at c0 c1 c2 c3
          have HH := hid hH
          clear hH
          go_wp2_with fail
          refine (fits_any f s o l _ (by omega) (by omega) _).mono ?_
          rintro e w2 ⟨rfl, hb2⟩
          rw [dec_congr (fit_iff (b := b) (by omega) (by omega))]
          have HB2 := hid (on (on HB.out (below_alloc wr (.cells #[.int .i64 f, .int .i64 s, .int .i64 o, .bool l] 101))) hb2)
          have HX := hid ((hbox_new wr ⟨f, s, o, l⟩ 101).next hb2)
          have HA2 := hid ((HA.out.alloc (.cells #[.int .i64 f, .int .i64 s, .int .i64 o, .bool l] 101)).below hb2)
          have hT : w.heap.size < wr.heap.size := HA.out.lt
          clear hb2 c0 c1 c2 c3
          by_cases hfit : okH ⟨f, s, o, l⟩ b
          · have HF := hid hfit
            obtain ⟨F, rfl⟩ : ∃ F : Nat, f = F := ⟨f.toNat, by have := hfit.1; dsimp only at this; omega⟩
            obtain ⟨S, rfl⟩ : ∃ S : Nat, s = S := ⟨s.toNat, by have := hfit.2.1; dsimp only at this; omega⟩
            have h32 : F + S ≤ 32 := by have := hfit.2.2.2.1; dsimp only at this; omega
            rw [dec_true hfit]
            clear hfit
            generalize wr.heap.size = g at *
            have x1 := HX.out.s
            dsimp only at x1
            go_wp2_with fail
            go_loopw [27] (fun i wi => ∃ p : Nat, i = .int .i64 p ∧ p ≤ S ∧ Below w.heap.size w wi ∧ HAt wi ⟨g, 0, none⟩ ⟨F, S, o, l⟩ ∧ Arr wi w.heap.size 32 (tk hh q p F) ∧ ∀ k, k < q → ∀ x, F ≤ x → x < F + p → ¬ Has (hh k) x) (fun i _ => S - (intOf i).toNat)
            case atStart => exact ⟨0, rfl, Nat.zero_le _, HB2.out, HX.out, HA2.out.alike fun i _ => tk_zero i, fun k _ x h1 h2 => by omega⟩
            case round =>
              obtain ⟨p, rfl, hp, hbel, hat, harr, hno⟩ := hrel
              have HBi := hid hbel
              have HXi := hid hat
              have HAi := hid harr
              have HN := hid hno
              have x0 := hat.f
              have x1 := hat.s
              dsimp only at x0 x1
              clear hbel hat harr hno
              by_cases hps : p < S
              · have hps' : (p : Int) < (S : Int) := by omega
                have y0 := HAi.out.cell (F + p) (by omega)
                have y1 := HAi.out.free (F + p) (by omega)
                have g1 : 0 ≤ (F : Int) + (p : Int) := by omega
                have g2 : (F : Int) + (p : Int) < 32 := by omega
                have g3 : ((F : Int) + (p : Int)).toNat = F + p := by omega
                unfold tk at y0
                by_cases hd : ∃ k, k < q ∧ Has (hh k) (F + p)
                · rw [dec_true (.inl hd)] at y0
                  have HD := hid hd
                  clear hd
                  go_wp2_with fail
                  go_ret
                  refine ⟨?_, HBi.out⟩
                  rw [dec_false]
                  · rfl
                  · intro h
                    obtain ⟨k, hk, hx⟩ := HD.out
                    refine h.2.2 q hlt k hk (F + p) ⟨?_, hx⟩
                    rw [HH.out]
                    unfold Has
                    dsimp only
                    omega
                · rw [dec_false (by rintro (h | h); exact hd h; omega)] at y0
                  have HD := hid hd
                  clear hd
                  go_wp2_with fail
                  go_roundw
                  case rel =>
                    refine ⟨p + 1, by go_num, by omega, below_set HBi.out _ _ (Nat.le_refl _), HXi.out.far _ _ (by show w.heap.size ≠ g; omega), (HAi.out.set (i := F + p) (by omega) (.bool true)).alike fun i _ => tk_next i, fun k hk x h1 h2 => ?_⟩
                    by_cases e : x = F + p
                    · rw [e]; intro h; exact HD.out ⟨k, hk, h⟩
                    · exact HN.out k hk x h1 (by omega)
                  case measure => simp [intOf]; omega
              · have hps' : ¬ (p : Int) < (S : Int) := by omega
                obtain rfl : p = S := by omega
                go_wp2_with fail
                go_roundw
                case rel =>
                  refine ⟨q + 1, by go_num, by omega, HBi.out, HAi.out.alike fun i _ => tk_last 0 (by rw [HH.out]) (by rw [HH.out]) i, fun i hi => ?_, fun i hi k hk x => ?_⟩
                  · by_cases e : i = q
                    · rw [e, HH.out]; exact HF.out
                    · exact HO.out i (by omega)
                  · by_cases e : i = q
                    · subst e
                      rw [HH.out]
                      rintro ⟨h1, h2⟩
                      unfold Has at h1
                      dsimp only at h1
                      exact HN.out k hk x (by omega) (by omega) h2
                    · exact HP.out i (by omega) k hk x
                case measure => simp [intOf]; omega
          · rw [dec_false hfit]
            have HF := hid hfit
            clear hfit
            go_wp2_with fail
            go_ret
            refine ⟨by rw [dec_false]; · rfl
                       intro h; exact HF.out (by rw [← HH.out]; exact h.2.1 q hlt), HB2.out⟩
        · have hlt' : ¬ (q : Int) < (n : Int) := by omega
          obtain rfl : q = n := by omega
          go_wp2_with fail
          go_ret
          exact ⟨by rw [dec_true ⟨h8, HO.out, HP.out⟩]; rfl, HB.out⟩
  · have h8' : (n : Int) > 8 := by omega
    go_enter Tryz.func77, Tryz.ntmps77
    go_wp2
    go_ret
    exact ⟨by rw [dec_false fun h => h8 h.1]; rfl, Below.refl _ _⟩
end Go.Proofs.YtbcejfonkehjgaaGreatDoor
namespace Go.Proofs.YtbcejfonkehjgaaGreatDoor

theorem nodup_len : ∀ (n : Nat) (l : List Nat), l.Nodup → (∀ x ∈ l, x < n) → l.length ≤ n
  | 0, l, _, h => by
    cases l with
    | nil => simp
    | cons x l => have := h x (by simp); omega
  | n + 1, l, hd, h => by
    by_cases hm : n ∈ l
    · have h1 := nodup_len n (l.erase n) (hd.erase _) (fun x hx => by
        have hx' := (List.Nodup.mem_erase_iff hd).1 hx
        have := h x hx'.2
        have := hx'.1
        omega)
      rw [List.length_erase_of_mem hm] at h1
      omega
    · have h1 := nodup_len n l hd (fun x hx => by
        have := h x hx
        have : x ≠ n := fun e => hm (e ▸ hx)
        omega)
      omega
theorem full {n : Nat} {l : List Nat} (hd : l.Nodup) (hl : l.length = n) (h : ∀ x ∈ l, x < n) {x : Nat} (hx : x < n) : x ∈ l := by
  refine Classical.byContradiction fun hm => ?_
  have := nodup_len n (x :: l) (List.nodup_cons.2 ⟨hm, hd⟩) (fun y hy => by
    rcases List.mem_cons.1 hy with rfl | hy
    · exact hx
    · exact h y hy)
  rw [List.length_cons] at this
  omega
theorem full_perm {n : Nat} {l m : List Nat} (hd : l.Nodup) (hl : l.length = n) (h : ∀ x ∈ l, x < n) (hd' : m.Nodup) (hl' : m.length = n) (h' : ∀ x ∈ m, x < n) : l.Perm m := by
  rw [List.perm_iff_count]
  intro x
  rw [hd.count, hd'.count]
  by_cases hx : x < n
  · rw [if_pos (full hd hl h hx), if_pos (full hd' hl' h' hx)]
  · rw [if_neg (fun e => hx (h x e)), if_neg (fun e => hx (h' x e))]
theorem sort_one {L : Nat → Nat → Prop} (has : ∀ x y, L x y → ¬ L y x) : ∀ {l m : List Nat}, l.Perm m → l.Pairwise L → m.Pairwise L → l = m
  | [], m, hp, _, _ => (List.nil_perm.1 hp).symm
  | a :: l, m, hp, h1, h2 => by
    cases m with
    | nil => exact absurd (hp.symm.nil_eq) (by simp)
    | cons b m =>
      rw [List.pairwise_cons] at h1 h2
      have e : a = b := by
        refine Classical.byContradiction fun hne => ?_
        have hb : b ∈ l := (List.mem_cons.1 (hp.mem_iff.2 (List.mem_cons_self (a := b) (l := m)))).resolve_left (fun e => hne e.symm)
        have ha : a ∈ m := (List.mem_cons.1 (hp.mem_iff.1 (List.mem_cons_self (a := a) (l := l)))).resolve_left hne
        exact has a b (h1.1 b hb) (h2.1 a ha)
      subst e
      rw [sort_one has hp.cons_inv h1.2 h2.2]
def tolds (d : Nat → Nat) (n : Nat) : List Nat := (List.range n).map d
theorem tolds_len (d : Nat → Nat) (n : Nat) : (tolds d n).length = n := by simp [tolds]
theorem tolds_pair {L : Nat → Nat → Prop} {d : Nat → Nat} {n : Nat} (h : ∀ i j, i < j → j < n → L (d i) (d j)) : (tolds d n).Pairwise L := by
  unfold tolds
  rw [List.pairwise_map]
  refine List.Pairwise.imp_of_mem (R := fun i j => i < j) (fun {i j} hi hj hij => h i j hij (List.mem_range.1 hj)) List.pairwise_lt_range
theorem pair_nodup {L : Nat → Nat → Prop} (has : ∀ x y, L x y → ¬ L y x) {l : List Nat} (h : l.Pairwise L) : l.Nodup :=
  List.Pairwise.imp (R := L) (fun {x y} hxy => show x ≠ y from fun e => has x y hxy (by subst e; exact hxy)) h
theorem order_one {L : Nat → Nat → Prop} (has : ∀ x y, L x y → ¬ L y x) {d e : Nat → Nat} {n : Nat} (hd : ∀ i j, i < j → j < n → L (d i) (d j)) (hdn : ∀ i, i < n → d i < n) (he : ∀ i j, i < j → j < n → L (e i) (e j)) (hen : ∀ i, i < n → e i < n) : ∀ i, i < n → d i = e i := by
  have p1 := tolds_pair hd
  have p2 := tolds_pair he
  have hp : (tolds d n).Perm (tolds e n) := full_perm (pair_nodup has p1) (tolds_len d n) (fun x hx => by
    obtain ⟨i, hi, rfl⟩ := List.mem_map.1 hx
    exact hdn i (List.mem_range.1 hi)) (pair_nodup has p2) (tolds_len e n) (fun x hx => by
    obtain ⟨i, hi, rfl⟩ := List.mem_map.1 hx
    exact hen i (List.mem_range.1 hi))
  have e1 := sort_one has hp p1 p2
  intro i hi
  have e2 : (tolds d n)[i]? = (tolds e n)[i]? := by rw [e1]
  unfold tolds at e2
  rw [List.getElem?_map, List.getElem?_map, List.getElem?_range hi] at e2
  simpa using e2

end Go.Proofs.YtbcejfonkehjgaaGreatDoor
