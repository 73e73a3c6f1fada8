/-
  What is proved: conf's Get over a configuration's bytes answers it; over what is cut off of them the error that they end within; over a byte more the error that it isn't formed so; it writes new memory alone. Condition: the configuration is right.
-/
import Derived.Test.YtehmcnghincakaaGetHs
import Derived.Deep.DeepCutAuto
import Derived.Deep.CutBlock
import Derived.Deep.DeepMust
namespace Go.Proofs.Ytehmcnghincakaa
open Go.RowKit

theorem cfgC_congr {c d : Nat → Int} (A : Option Addr) (n cp : Nat) (h : ∀ i, i < 16 → c i = d i) : cfgC c A n cp = cfgC d A n cp := by
  unfold cfgC
  rw [h 0 (by omega), h 1 (by omega), h 2 (by omega), h 3 (by omega), h 4 (by omega), h 5 (by omega), h 6 (by omega), h 7 (by omega), h 8 (by omega), h 9 (by omega), h 10 (by omega), h 11 (by omega), h 12 (by omega), h 13 (by omega), h 14 (by omega), h 15 (by omega)]
theorem mix_full {c : Nat → Int} {n : Nat} (h : ∀ i, i < 16 → 0 ≤ c i) (A : Option Addr) (m cp : Nat) : cfgC (mixC (nums c n) 16) A m cp = cfgC c A m cp :=
  cfgC_congr A m cp fun i hi => by unfold mixC nums; rw [if_pos hi, if_pos hi]; have := h i hi; omega
theorem cfgC_hints (c : Nat → Int) (B : Option Addr) (n cq : Nat) : (cfgC c none 0 0).setIfInBounds 16 (.slice B n cq) = cfgC c B n cq := by simp [cfgC]
theorem Bx.apart {w w' : World} {k : Nat} {t : TypeId} {cs : Array Value} {row : Option Nat} (h : Bx w k t cs) (hg : w.grownBy w' row) (hne : some k ≠ row) : Bx w' k t cs := (hg.block k h.lt hne).trans h
theorem grown_row (w : World) (g : Nat) (cs : Array Value) : w.grownBy (w.setRow g cs) (some g) :=
  ⟨rfl, rfl, rfl, by rw [setRow_size]; exact Nat.le_refl _, fun j _ hne => setRow_other w g j cs (fun e => hne (by rw [e]))⟩
def zC : Nat → Int := fun _ => 0
theorem mix_zero (f : Nat → Nat) : cfgC (mixC f 0) none 0 0 = cfgC zC none 0 0 := cfgC_congr _ _ _ fun i _ => by unfold mixC zC; rw [if_neg (by omega)]
theorem one_cells (c : Nat → Int) (A : Option Addr) (n cp : Nat) : (cfgC c A n cp).all (·.oneCell') = true := by simp [cfgC, Value.oneCell']

/-- the configuration is got -/
def GotC (c : Nat → Int) (hh : Nat → Hn) (n : Nat) (e : Ending) (w' : World) : Prop := ∃ B cq, e = .returned (.tuple #[.agg (cfgC c B n cq), .int .i64 0]) ∧ Rv w' w'.heap.size B (hvs hh n)

set_option maxRecDepth 100000 in
set_option maxHeartbeats 4000000 in
theorem getc_cut (A : Option Addr) (cb L C n : Nat) (c : Nat → Int) (hh : Nat → Hn) (by_ : Int) (l : List Int) (w : World) (hy : RightP c hh n) (hL : l.length = L) (hl : l = (full c hh n ++ [by_]).take L) (hLS : L ≤ (full c hh n).length + 1)
    (hb : ∀ x ∈ l, 0 ≤ x ∧ x ≤ 255) (ra : Rd w C A l) (hC : C ≤ w.heap.size) :
    Calls Try.prog 13 #[.slice A L cb] w fun e w' => Below w.heap.size w w' ∧
      ((L < (full c hh n).length ∧ e = .returned (.tuple #[.agg (cfgC zC none 0 0), .int .i64 1])) ∨ (L = (full c hh n).length + 1 ∧ e = .returned (.tuple #[.agg (cfgC zC none 0 0), .int .i64 2])) ∨ (L = (full c hh n).length ∧ GotC c hh n e w')) := by
  have hlen := hy.len
  have hn8 : n ≤ 8 := hy.2.2.2.1
  have hfull : (full c hh n).length = (encN (nums c n) 16).length + (enc n).length + (encHs hh n).length := by
    unfold full
    rw [encN, List.length_append, List.length_append]
    rfl
  have hS : full c hh n ++ [by_] = encN (nums c n) 17 ++ (encHs hh n ++ [by_]) := by unfold full; rw [List.append_assoc]
  have X1 := (Bx.new w 25 (cfgC zC none 0 0)).alloc (.cells (cfgC zC none 0 0) 25)
  have X2 := Bx.new (w.alloc (.cells (cfgC zC none 0 0) 25)) 25 (cfgC zC none 0 0)
  rw [World.size_alloc] at X2
  have K2 := on (below_alloc w (.cells (cfgC zC none 0 0) 25)) (below_alloc (w.alloc (.cells (cfgC zC none 0 0) 25)) (.cells (cfgC zC none 0 0) 25))
  have A2 := (ra.alloc hC (.cells (cfgC zC none 0 0) 25)).alloc (by rw [World.size_alloc]; omega) (.cells (cfgC zC none 0 0) 25)
  have hz : w.heap.size + 2 ≤ ((w.alloc (.cells (cfgC zC none 0 0) 25)).alloc (.cells (cfgC zC none 0 0) 25)).heap.size := by rw [World.size_alloc, World.size_alloc]; omega
  have HS := hid hS
  have Hfull := hid hfull
  have HY := hid hy
  have HL := hid hL
  have Hl := hid hl
  have HB := hid hb
  have HX1 := hid X1
  have HX2 := hid X2
  have HK2 := hid K2
  have HA2 := hid A2
  clear hS hfull hy hL hl hb X1 X2 K2 A2 ra
  go_enter Try.func13, Try.ntmps13
  go_wp2_with fail
  change Calls _ _ _ ((w.alloc (.cells (cfgC zC none 0 0) 25)).alloc (.cells (cfgC zC none 0 0) 25)) _
  have HX2' := HX2
  clear HX2
  generalize ((w.alloc (.cells (cfgC zC none 0 0) 25)).alloc (.cells (cfgC zC none 0 0) 25)) = W2 at *
  refine (getnums_cut A cb (w.heap.size + 1) L C (nums c n) (full c hh n ++ [by_]) (encHs hh n ++ [by_]) l _ HL.out Hl.out (by rw [List.length_append]; exact hLS) (by omega) HS.out HY.out.nums_lt HB.out HA2.out (by omega) (by rw [mix_zero]; exact HX2'.out)).mono ?_
  rintro e w3 ⟨hg3, hor⟩
  have HK3 := hid (HK2.out.grown hg3 HK2.out.size fun k hk => (Option.some.inj hk) ▸ Nat.le_succ w.heap.size)
  have HX13 := hid (HX1.out.apart hg3 (fun e => absurd (Option.some.inj e) (Nat.ne_of_lt (Nat.lt_succ_self w.heap.size))))
  have HA3 := hid (HA2.out.far (by omega) (by omega) hg3)
  have hsz3 : w.heap.size + 2 ≤ w3.heap.size := by have := hg3.size; omega
  clear hg3 HX2' HK2 HA2 HX1
  rcases hor with ⟨h16, rfl, hx3⟩ | ⟨h16, rfl⟩
  · have HX23 := hid hx3
    clear hx3
    obtain ⟨p, hp⟩ : ∃ p, (encN (nums c n) 16).length = p := ⟨_, rfl⟩
    rw [hp] at h16 Hfull ⊢
    have Hd := hid (show l.drop p = (enc n ++ (encHs hh n ++ [by_])).take (L - p) by
      rw [Hl.out, List.drop_take, HS.out, ← hp, show encN (nums c n) 17 = encN (nums c n) 16 ++ enc n from rfl, List.append_assoc, List.drop_left])
    clear hp
    go_wp2_with fail
    refine (gethints_cut A cb L C p n hh _ [by_] l _ HL.out h16 Hd.out (by omega) rfl hn8 HY.out.small HB.out (by exact HA3.out) (by omega)).mono ?_
    rintro e w4 ⟨hb4, hor⟩
    have HK4 := hid (on HK3.out hb4)
    have HX14 := hid (HX13.out.next hb4)
    have HX24 := hid (HX23.out.next hb4)
    have hsz4 : w.heap.size + 2 ≤ w4.heap.size := Nat.le_trans hsz3 hb4.size
    have pc : w4.cell? ⟨w.heap.size + 1, 16, none⟩ = some (.slice none 0 0) := by rw [HX24.out.cell]; rfl
    have pf := HX24.out.free 16
    clear hb4 HX13 HX23
    rcases hor with ⟨hl2, B, cq, rfl, hrB⟩ | ⟨hl2, rfl⟩
    · have X25 := HX24.out.set 16 (.slice B n cq)
      rw [cfgC_hints, mix_full fun i hi => (HY.out.num i hi).1] at X25
      have HX25 := hid X25
      have HX15 := hid (HX14.out.far ⟨w.heap.size + 1, 16, none⟩ (.slice B n cq) (by show w.heap.size + 1 ≠ w.heap.size; omega))
      have HRB := hid hrB
      have HK5 := hid (below_set HK4.out ⟨w.heap.size + 1, 16, none⟩ (.slice B n cq) (by show w.heap.size ≤ w.heap.size + 1; omega))
      clear X25 hrB HX24 HX14
      by_cases hL1 : L = (full c hh n).length
      · have hlt : ¬ ((p + (enc n).length + (encHs hh n).length : Nat) : Int) < (L : Int) := by have := Hfull.out; omega
        have hO5 : OwnV (w4.setCell ⟨w.heap.size + 1, 16, none⟩ (.slice B n cq)) w3.heap.size 41 4 (.slice B n cq) n (hvs hh n) :=
          World.ownsRow.kept HRB.out (grown_set (World.grownBy.refl w4 _) 16 (.slice B n cq)) (by
            rcases hob : (Value.slice B n cq).ownBlock with _ | k
            · exact .inl rfl
            · right
              intro e
              injection e with e
              have := (World.ownsRow.lt HRB.out _ hob).1
              omega)
        obtain ⟨_, _, e, hr5, -, -⟩ := hO5.read
        injection e with e1 e2 e3
        subst e1 e3
        have HR5 := hid hr5
        have HO5 := hid hO5
        obtain ⟨p2, hp2⟩ : ∃ p2, p + (enc n).length + (encHs hh n).length = p2 := ⟨_, rfl⟩
        rw [hp2] at hlt ⊢
        have HL1 := hid hL1
        clear hp2 hr5 hO5 e2 hL1
        have hd : decide (p2 < L) = false := decide_eq_false (by omega)
        have hd' : decide ((p2 : Int) < (L : Int)) = false := decide_eq_false hlt
        clear hlt
        go_wp2_with (refine wpList_load_bx rfl _ _ rfl _ _ _ _ rfl HX25.out Try.underlying25 rfl (by kernel_rfl) ?_)
        refine (right_any B n cq c hh _ (by unfold maxLen; omega) HR5.out).mono ?_
        rintro e w6 ⟨rfl, hb6⟩
        rw [dec_true HY.out]
        have HX16 := hid (HX15.out.next hb6)
        have HX26 := hid (HX25.out.next hb6)
        have HK6 := hid (on HK5.out hb6)
        have HO6 := hid (HO5.out.below hb6)
        clear hb6
        go_wp2_with (first
          | (refine wpList_load_bx rfl _ _ rfl _ _ _ _ rfl HX26.out Try.underlying25 rfl (by kernel_rfl) ?_)
          | (refine wpList_store_bx rfl _ _ _ rfl rfl _ _ _ (cfgC c B n cq) rfl rfl HX16.out (by kernel_rfl) rfl (one_cells _ _ _ _) ?_))
        refine bodyPost_ret (results_bx2 rfl _ rfl HX16.out.row Try.underlying25 rfl (by kernel_rfl)) rfl ?_
        refine ⟨below_setRow HK6.out (Nat.le_refl _) _, .inr (.inr ⟨HL1.out, B, cq, rfl, ?_⟩)⟩
        have hO7 : OwnV (w6.setRow w.heap.size (cfgC c B n cq)) w3.heap.size 41 4 (.slice B n cq) n (hvs hh n) :=
          World.ownsRow.kept HO6.out (grown_row w6 w.heap.size _) (by
            rcases hob : (Value.slice B n cq).ownBlock with _ | k
            · exact .inl rfl
            · right
              intro e
              injection e with e
              have := (World.ownsRow.lt HO6.out _ hob).1
              omega)
        obtain ⟨_, _, e, hr7, -, -⟩ := hO7.read
        injection e with e1 e2 e3
        rw [← e1] at hr7
        exact hr7
      · have hlt : ((p + (enc n).length + (encHs hh n).length : Nat) : Int) < (L : Int) := by have := Hfull.out; omega
        have hL2 : L = (full c hh n).length + 1 := by have := Hfull.out; omega
        obtain ⟨p2, hp2⟩ : ∃ p2, p + (enc n).length + (encHs hh n).length = p2 := ⟨_, rfl⟩
        rw [hp2] at hlt ⊢
        have HL2 := hid hL2
        clear hp2 hL1 hL2
        go_wp2_with (refine wpList_store_bx rfl _ _ _ rfl rfl _ _ _ (cfgC zC none 0 0) rfl rfl HX15.out (by kernel_rfl) rfl (one_cells _ _ _ _) ?_)
        refine bodyPost_ret (results_bx2 rfl _ rfl HX15.out.row Try.underlying25 rfl (by kernel_rfl)) rfl ?_
        exact ⟨below_setRow HK5.out (Nat.le_refl _) _, .inr (.inl ⟨HL2.out, rfl⟩)⟩
    · have hk' : L < (full c hh n).length := by have := Hfull.out; omega
      have HX15 := hid (HX14.out.far ⟨w.heap.size + 1, 16, none⟩ (.slice none 0 0) (by show w.heap.size + 1 ≠ w.heap.size; omega))
      have HK5 := hid (below_set HK4.out ⟨w.heap.size + 1, 16, none⟩ (.slice none 0 0) (by show w.heap.size ≤ w.heap.size + 1; omega))
      go_wp2_with (refine wpList_store_bx rfl _ _ _ rfl rfl _ _ _ (cfgC zC none 0 0) rfl rfl HX15.out (by kernel_rfl) rfl (one_cells _ _ _ _) ?_)
      refine bodyPost_ret (results_bx2 rfl _ rfl HX15.out.row Try.underlying25 rfl (by kernel_rfl)) rfl ?_
      exact ⟨below_setRow HK5.out (Nat.le_refl _) _, .inl ⟨hk', rfl⟩⟩
  · have hk' : L < (full c hh n).length := by have := Hfull.out; omega
    go_wp2_with (refine wpList_store_bx rfl _ _ _ rfl rfl _ _ _ (cfgC zC none 0 0) rfl rfl HX13.out (by kernel_rfl) rfl (one_cells _ _ _ _) ?_)
    refine bodyPost_ret (results_bx2 rfl _ rfl HX13.out.row Try.underlying25 rfl (by kernel_rfl)) rfl ?_
    exact ⟨below_setRow HK3.out (Nat.le_refl _) _, .inl ⟨hk', rfl⟩⟩
end Go.Proofs.Ytehmcnghincakaa
