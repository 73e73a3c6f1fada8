/-
  What is proved: for every list of fractions the statement on the order of them returns true. Condition: the list's bytes are no more than 2^47.
-/
import Derived.Test.YtlkaoobdppnebaaOrder
import Derived.Test.YtlkaoobdppnebaaPartsL
import Derived.WalkLawsBesides
import Derived.Maps.OwnSet
namespace Go.Proofs.Ytlkaoobdppnebaa
open Go.RowKit

/-- the fractions' cells, one behind the other -/
def fl (top bot : Nat → Int) : Nat → List Value
  | 0 => []
  | n + 1 => fl top bot n ++ [.int .i64 (top n), .int .i64 (bot n)]
theorem fl_length (top bot : Nat → Int) : ∀ n, (fl top bot n).length = n * 2
  | 0 => rfl
  | n + 1 => by rw [fl, List.length_append, fl_length top bot n]; simp; omega
theorem fl_one (top bot : Nat → Int) : ∀ n, ∀ u ∈ fl top bot n, u.oneCell' = true
  | 0 => fun u h => by simp [fl] at h
  | n + 1 => fun u h => by
    rw [fl, List.mem_append] at h
    rcases h with h | h
    · exact fl_one top bot n u h
    · simp at h
      rcases h with rfl | rfl <;> rfl
theorem fl_at (top bot : Nat → Int) : ∀ n i, i < n → (fl top bot n)[i * 2]? = some (.int .i64 (top i)) ∧ (fl top bot n)[i * 2 + 1]? = some (.int .i64 (bot i))
  | 0, i, h => absurd h (Nat.not_lt_zero i)
  | n + 1, i, h => by
    rw [fl]
    have hl := fl_length top bot n
    by_cases e : i = n
    · subst e
      rw [List.getElem?_append_right (by omega), List.getElem?_append_right (by omega), hl, Nat.sub_self, show i * 2 + 1 - i * 2 = 1 by omega]
      exact ⟨rfl, rfl⟩
    · rw [List.getElem?_append_left (by omega), List.getElem?_append_left (by omega)]
      exact fl_at top bot n i (by omega)

theorem eFrac : Elt Try.prog 42 37 (.agg #[.int .i64 0, .int .i64 0]) 2 16 := ⟨Try.underlying42, by kernel_rfl, rfl, by decide⟩

theorem addSucc (a : Addr) (i : Nat) : a.add (i + 1) = ⟨(a.add i).block, (a.add i).off + 1, none⟩ := by
  unfold Addr.add
  rw [if_neg (by omega)]
  by_cases h : i = 0
  · subst h; rw [if_pos rfl]
  · rw [if_neg h]
    show (⟨a.block, a.off + (i + 1), none⟩ : Addr) = ⟨a.block, a.off + i + 1, none⟩
    rw [Nat.add_assoc]
/-- the first one that isn't right, or none -/
theorem first_bad (top bot : Nat → Int) : ∀ n, (∃ j, j < n ∧ ¬ okF (top j) (bot j) ∧ ∀ i, i < j → okF (top i) (bot i)) ∨ ∀ i, i < n → okF (top i) (bot i)
  | 0 => .inr fun i h => absurd h (Nat.not_lt_zero i)
  | n + 1 => by
    rcases first_bad top bot n with ⟨j, h1, h2, h3⟩ | h
    · exact .inl ⟨j, by omega, h2, h3⟩
    · by_cases g : okF (top n) (bot n)
      · exact .inr fun i hi => by
          by_cases e : i = n
          · rw [e]; exact g
          · exact h i (by omega)
      · exact .inl ⟨n, by omega, g, h⟩

theorem own_fr {w : World} {b n : Nat} {v : Value} {top bot : Nat → Int} (h : OwnV w b 37 2 v n (fl top bot n)) : ∃ A g c, v = .slice A n c ∧ (n = 0 ∨ A = some ⟨g, 0, none⟩) ∧ FrI w g n top bot ∧ n ≤ c ∧ c ≤ maxLen := by
  rcases h.2 with ⟨hv, h0⟩ | ⟨g, cap, cur, hv, hb, hh, hnc, hm, hs, ht⟩
  · subst h0
    exact ⟨none, 0, 0, hv, .inl rfl, fun i hi => absurd hi (Nat.not_lt_zero i), Nat.le_refl _, by unfold maxLen; omega⟩
  · subst hv
    refine ⟨_, g, cap, rfl, .inr rfl, fun i hi => ?_, hnc, hm⟩
    obtain ⟨f1, f2⟩ := fl_at top bot n i hi
    rw [World.ownsRow.cellAt h _ (by omega), World.ownsRow.cellAt h _ (by omega)]
    exact ⟨f1, f2⟩

/-- block b is a set of numbers that has none of those that No tells -/
def Fresh (w : World) (b m : Nat) (No : Int → Prop) : Prop :=
  ∃ D : DataW Unit, w.ownsMap Try.prog 3 (plainElem Try.prog 4) b m D ∧ ∀ p, No p → ∀ z, D.atKey (.int .i64 p) z = z
theorem keysInt : Go.Maps.Keyed Try.prog 3 := Go.Maps.int_keyed Try.underlying3
theorem zeroBool (w : World) : (zeroValue 4).run Try.prog w = .ok (.bool false) w := by kernel_rfl
theorem fresh_made (w : World) (No : Int → Prop) : Fresh (w.alloc (.map #[] 0)) w.heap.size 0 No := ⟨_, World.ownsMap_made _ _ _ _, fun _ _ _ => rfl⟩
theorem Fresh.look {w : World} {b m : Nat} {No : Int → Prop} (h : Fresh w b m No) (p : Int) (hp : No p) (hw : (Lit.int .i64 p).wf = true) :
    (Instr.lookup 45 (.map (some b)) (.int .i64 p) false).run Try.prog w = .ok (.bool false) w := by
  obtain ⟨D, h1, h2⟩ := h
  obtain ⟨v, ps, hrun, hv⟩ := h1.lookup keysInt Try.underlying45 (zeroBool w) (plainElem_bool Try.underlying4 false) (Go.Maps.keyOf_int_mk Try.underlying3 hw)
  rw [h2 p hp] at hv
  have : v = .bool false := by
    unfold plainElem at hv
    rw [Try.underlying4] at hv
    cases v <;> simp at hv
    rw [hv.1]
  rw [this] at hrun
  exact hrun
theorem Fresh.put {w : World} {b m : Nat} {No : Int → Prop} (h : Fresh w b m No) (p : Int) (hm : m < maxLen) (hw : (Lit.int .i64 p).wf = true) :
    ∃ w', (Instr.mapUpdate 45 (.map (some b)) (.int .i64 p) (.bool true)).run Try.prog w = .ok () w' ∧ Fresh w' b (m + 1) (fun x => No x ∧ x ≠ p) ∧ w.grownBy w' (some b) := by
  obtain ⟨D, h1, h2⟩ := h
  obtain ⟨w', hrun, ho, hg⟩ := h1.update keysInt Try.underlying45 hm (Go.Maps.keyOf_int_mk Try.underlying3 hw) (plainElem_bool Try.underlying4 true)
  refine ⟨w', hrun, ⟨_, ho, fun x hx z => ?_⟩, hg⟩
  rw [Go.Maps.atKey_put_other (k := .int .i64 p) (k' := .int .i64 x) (by intro e; injection e with _ e; exact hx.2 e)]
  exact h2 x hx.1 z
theorem Fresh.weak {w : World} {b m : Nat} {No No' : Int → Prop} (h : Fresh w b m No) (g : ∀ p, No' p → No p) : Fresh w b m No' := by
  obtain ⟨D, h1, h2⟩ := h
  exact ⟨D, h1, fun p hp => h2 p (g p hp)⟩

theorem below_drewN' {B : Nat} {a w : World} (h : Below B a w) (n : Nat) : Below B a (w.drewN n) := ⟨h.os, h.tape, h.output, h.size, h.block⟩

set_option maxRecDepth 1000000 in
set_option maxHeartbeats 4000000 in
theorem ordl_bad (A : Option Addr) (n c j : Nat) (top bot : Nat → Int) (hn : n * 16 ≤ 140737488351232) (w : World) (hr : Rv w w.heap.size A (fl top bot n)) (hj : j < n) (hbad : ¬ okF (top j) (bot j)) (hok : ∀ i, i < j → okF (top i) (bot i)) (hsz : n ≤ 100 ∨ 1000 < n) :
    Calls Try.prog 6 #[.slice A n c] w fun e w' => e = .returned (.bool true) ∧ Below w.heap.size w w' := by
  have HR := hid hr
  have HO := hid hok
  clear hr hok
  have hsz' : decide ((n : Int) > 100) = false ∨ (decide ((n : Int) > 100) = true ∧ decide ((n : Int) ≤ 1000) = false) := by
    rcases hsz with h | h
    · exact .inl (decide_eq_false (by omega))
    · exact .inr ⟨decide_eq_true (by omega), decide_eq_false (by omega)⟩
  clear hsz
  rcases hsz' with h100 | ⟨h100, h1000⟩
  all_goals
    go_enter Try.func6, Try.ntmps6
    go_wp2_with fail
    refine (wakes_any w).mono ?_
    rintro e w1 ⟨rfl, hb⟩
    go_wp2_with (at_builtin; refine wpList_appV eFrac rfl _ _ rfl w1.heap.size _ 0 [] (World.ownsRow_lit (size := 2) (e := 37) (base := w1.heap.size) w1 #[] 0 (Nat.le_refl _) (by unfold maxLen; omega) rfl) rfl _ _ n c (fl top bot n) rfl (fl_length top bot n) ((HR.out.now hb).below (below_alloc w1 _) (Nat.le_refl _)) (fl_one top bot n) (by unfold maxLen; omega) (by omega) (by rw [World.size_alloc]; omega) ?_; intro v' w2 hown2 hg2)
    have hb2 : Below w1.heap.size w1 w2 := (below_alloc w1 _).trans (hg2.below (World.ownsRow_lit (size := 2) (e := 37) (base := w1.heap.size) w1 #[] 0 (Nat.le_refl _) (by unfold maxLen; omega) rfl) (by rw [World.size_alloc]; omega))
    replace hb := on hb hb2
    rw [Nat.zero_add, List.nil_append] at hown2
    obtain ⟨A', g, c', rfl, hA', hF', _⟩ := own_fr hown2
    have hA2 : A' = some ⟨g, 0, none⟩ := by rcases hA' with h | h; omega; exact h
    refine (order_bad w2 A' g n c' j top bot (by omega) hA2 hF' hj hbad HO.out).mono ?_
    rintro e w3 ⟨rfl, hb3⟩
    have HF3 := hid (hF'.now hb3)
    have HB3 := hid (on hb hb3)
    clear hb hb2 hb3 hown2 hg2 hF' hA'
    subst hA2
    go_wp2
    go_loopw [32] (fun i wr => ∃ q : Nat, i = .int .i64 q ∧ q ≤ j ∧ Below w3.heap.size w3 wr) (fun i _ => n - (intOf i).toNat)
    case atStart => exact ⟨0, rfl, Nat.zero_le _, Below.refl _ _⟩
    case round =>
      obtain ⟨q, rfl, hq, hb⟩ := hrel
      have hlt : (q : Int) < (n : Int) := by omega
      obtain ⟨x, hx⟩ : ∃ x, top q = x := ⟨_, rfl⟩
      obtain ⟨y, hy⟩ : ∃ y, bot q = y := ⟨_, rfl⟩
      obtain ⟨c1, c2⟩ := (HF3.out.now hb) q (by omega)
      obtain ⟨f1, f2⟩ := fl_at top bot n q (by omega)
      obtain ⟨ad, rfl, _, c3⟩ := HR.out.now (on HB3.out hb) _ _ f1
      obtain ⟨_, e2, _, c4⟩ := HR.out.now (on HB3.out hb) _ _ f2
      injection e2 with e2
      subst e2
      rw [hx] at c1 c3
      rw [hy] at c2 c4
      rw [addSucc] at c4
      have hgl : g < wr.heap.size := World.block_lt_of_cell? wr _ c1
      clear f1 f2
      go_wp2_with fail
      go_quiet (fail)
      go_wp2_with fail
      refine (rright_any _ x y).mono ?_
      rintro e w5 ⟨rfl, rfl⟩
      replace hb := fun o m => below_drewN' (on hb (below_alloc wr o)) m
      by_cases e : q = j
      · have : ¬ okF x y := by rw [← hx, ← hy, e]; exact hbad
        rw [decide_eq_false this]
        go_wp2_with fail
        go_ret
        exact ⟨rfl, on HB3.out (hb _ _)⟩
      · have : okF x y := by rw [← hx, ← hy]; exact HO.out q (by omega)
        rw [decide_eq_true this]
        go_wp2_with fail
        go_roundw
        case rel => exact ⟨q + 1, rfl, by omega, hb _ _⟩
        case measure => simp [intOf]; omega

set_option maxRecDepth 1000000 in
set_option maxHeartbeats 8000000 in
theorem ordl_big (A : Option Addr) (n c : Nat) (top bot : Nat → Int) (hn : n * 16 ≤ 140737488351232) (w : World) (hr : Rv w w.heap.size A (fl top bot n)) (hok : ∀ i, i < n → okF (top i) (bot i)) (hsz : 1000 < n) :
    Calls Try.prog 6 #[.slice A n c] w fun e w' => e = .returned (.bool true) ∧ Below w.heap.size w w' := by
  have HR := hid hr
  have HO := hid hok
  clear hr hok
  have h100 : decide ((n : Int) > 100) = true := decide_eq_true (by omega)
  have h1000 : decide ((n : Int) ≤ 1000) = false := decide_eq_false (by omega)
  go_enter Try.func6, Try.ntmps6
  go_wp2_with fail
  refine (wakes_any w).mono ?_
  rintro e w1 ⟨rfl, hb⟩
  go_wp2_with (at_builtin; refine wpList_appV eFrac rfl _ _ rfl w1.heap.size _ 0 [] (World.ownsRow_lit (size := 2) (e := 37) (base := w1.heap.size) w1 #[] 0 (Nat.le_refl _) (by unfold maxLen; omega) rfl) rfl _ _ n c (fl top bot n) rfl (fl_length top bot n) ((HR.out.now hb).below (below_alloc w1 _) (Nat.le_refl _)) (fl_one top bot n) (by unfold maxLen; omega) (by omega) (by rw [World.size_alloc]; omega) ?_; intro v' w2 hown2 hg2)
  have hb2 : Below w1.heap.size w1 w2 := (below_alloc w1 _).trans (hg2.below (World.ownsRow_lit (size := 2) (e := 37) (base := w1.heap.size) w1 #[] 0 (Nat.le_refl _) (by unfold maxLen; omega) rfl) (by rw [World.size_alloc]; omega))
  replace hb := on hb hb2
  rw [Nat.zero_add, List.nil_append] at hown2
  obtain ⟨A', g, c', rfl, hA', hF', _⟩ := own_fr hown2
  refine (order_good w2 A' g n c' top bot (by omega) hA' hF' HO.out).mono ?_
  rintro e w3 ⟨hres, hb3⟩
  have hres' : e = .returned (.tuple #[.slice none 0 0, .int .i64 4]) := by
    rcases hres with ⟨_, h⟩ | ⟨h, _⟩
    · exact h
    · omega
  subst hres'
  clear hres
  have HF3 := hid (hF'.now hb3)
  have HB3 := hid (on hb hb3)
  clear hb hb2 hb3 hown2 hg2 hF'
  go_wp2
  go_loopw [32] (fun i wr => ∃ q : Nat, i = .int .i64 q ∧ q ≤ n ∧ Below w3.heap.size w3 wr) (fun i _ => n - (intOf i).toNat)
  case atStart => exact ⟨0, rfl, Nat.zero_le _, Below.refl _ _⟩
  case round =>
    obtain ⟨q, rfl, hq, hb⟩ := hrel
    by_cases hlt0 : q < n
    · have hlt : (q : Int) < (n : Int) := by omega
      have hA2 : A' = some ⟨g, 0, none⟩ := by rcases hA' with h | h; omega; exact h
      subst hA2
      obtain ⟨x, hx⟩ : ∃ x, top q = x := ⟨_, rfl⟩
      obtain ⟨y, hy⟩ : ∃ y, bot q = y := ⟨_, rfl⟩
      obtain ⟨c1, c2⟩ := (HF3.out.now hb) q (by omega)
      obtain ⟨f1, f2⟩ := fl_at top bot n q (by omega)
      obtain ⟨ad, rfl, _, c3⟩ := HR.out.now (on HB3.out hb) _ _ f1
      obtain ⟨_, e2, _, c4⟩ := HR.out.now (on HB3.out hb) _ _ f2
      injection e2 with e2
      subst e2
      rw [hx] at c1 c3
      rw [hy] at c2 c4
      rw [addSucc] at c4
      have hgl : g < wr.heap.size := World.block_lt_of_cell? wr _ c1
      clear f1 f2
      go_wp2_with fail
      go_quiet (fail)
      go_wp2_with fail
      refine (rright_any _ x y).mono ?_
      rintro e w5 ⟨rfl, rfl⟩
      replace hb := fun o m => below_drewN' (on hb (below_alloc wr o)) m
      have : okF x y := by rw [← hx, ← hy]; exact HO.out q (by omega)
      rw [decide_eq_true this]
      go_wp2_with fail
      go_roundw
      case rel => exact ⟨q + 1, rfl, by omega, hb _ _⟩
      case measure => simp [intOf]; omega
    · have hlt : ¬ (q : Int) < (n : Int) := by omega
      clear hlt0
      have hbig : (n : Int) > 1000 := by omega
      go_wp2_with fail
      go_ret
      exact ⟨rfl, on HB3.out hb⟩

set_option maxRecDepth 1000000 in
set_option maxHeartbeats 8000000 in
theorem ordl_small (A : Option Addr) (n c : Nat) (top bot : Nat → Int) (hn : n * 16 ≤ 140737488351232) (w : World) (hr : Rv w w.heap.size A (fl top bot n)) (hok : ∀ i, i < n → okF (top i) (bot i)) (hsz : n ≤ 100) :
    Calls Try.prog 6 #[.slice A n c] w fun e w' => e = .returned (.bool true) ∧ Below w.heap.size w w' := by
  have HR := hid hr
  have HO := hid hok
  clear hr hok
  have h100 : decide ((n : Int) > 100) = false := decide_eq_false (by omega)
  go_enter Try.func6, Try.ntmps6
  go_wp2_with fail
  refine (wakes_any w).mono ?_
  rintro e w1 ⟨rfl, hb⟩
  go_wp2_with (at_builtin; refine wpList_appV eFrac rfl _ _ rfl w1.heap.size _ 0 [] (World.ownsRow_lit (size := 2) (e := 37) (base := w1.heap.size) w1 #[] 0 (Nat.le_refl _) (by unfold maxLen; omega) rfl) rfl _ _ n c (fl top bot n) rfl (fl_length top bot n) ((HR.out.now hb).below (below_alloc w1 _) (Nat.le_refl _)) (fl_one top bot n) (by unfold maxLen; omega) (by omega) (by rw [World.size_alloc]; omega) ?_; intro v' w2 hown2 hg2)
  have hb2 : Below w1.heap.size w1 w2 := (below_alloc w1 _).trans (hg2.below (World.ownsRow_lit (size := 2) (e := 37) (base := w1.heap.size) w1 #[] 0 (Nat.le_refl _) (by unfold maxLen; omega) rfl) (by rw [World.size_alloc]; omega))
  replace hb := on hb hb2
  rw [Nat.zero_add, List.nil_append] at hown2
  obtain ⟨A', g, c', rfl, hA', hF', _⟩ := own_fr hown2
  refine (order_good w2 A' g n c' top bot (by omega) hA' hF' HO.out).mono ?_
  rintro e w3 ⟨hres, hb3⟩
  obtain ⟨k, d, rfl, hd, hB⟩ : ∃ (k : Nat) (d : Nat → Nat), e = .returned (.tuple #[.slice (some ⟨k, 0, none⟩) n n, .int .i64 0]) ∧ (∀ i, i < n → w3.cell? ⟨k, i, none⟩ = some (.int .i64 (d i : Nat))) ∧ Blk (lOf (fun i => (top i).toNat) (fun i => (bot i).toNat)) d 0 n := by
    rcases hres with ⟨h, _⟩ | ⟨_, h⟩
    · omega
    · exact h
  have HD := hid hd
  have HBk := hid hB
  clear hres hd hB
  have HF3 := hid (hF'.now hb3)
  have HB3 := hid (on hb hb3)
  clear hb hb2 hb3 hown2 hg2 hF'
  go_wp2
  go_loopw [32] (fun i wr => ∃ q : Nat, i = .int .i64 q ∧ q ≤ n ∧ Below w3.heap.size w3 wr) (fun i _ => n - (intOf i).toNat)
  case atStart => exact ⟨0, rfl, Nat.zero_le _, Below.refl _ _⟩
  case round =>
    obtain ⟨q, rfl, hq, hb⟩ := hrel
    by_cases hlt0 : q < n
    · have hlt : (q : Int) < (n : Int) := by omega
      have hA2 : A' = some ⟨g, 0, none⟩ := by rcases hA' with h | h; omega; exact h
      subst hA2
      obtain ⟨x, hx⟩ : ∃ x, top q = x := ⟨_, rfl⟩
      obtain ⟨y, hy⟩ : ∃ y, bot q = y := ⟨_, rfl⟩
      obtain ⟨c1, c2⟩ := (HF3.out.now hb) q (by omega)
      obtain ⟨f1, f2⟩ := fl_at top bot n q (by omega)
      obtain ⟨ad, rfl, _, c3⟩ := HR.out.now (on HB3.out hb) _ _ f1
      obtain ⟨_, e2, _, c4⟩ := HR.out.now (on HB3.out hb) _ _ f2
      injection e2 with e2
      subst e2
      rw [hx] at c1 c3
      rw [hy] at c2 c4
      rw [addSucc] at c4
      have hgl : g < wr.heap.size := World.block_lt_of_cell? wr _ c1
      clear f1 f2
      go_wp2_with fail
      go_quiet (fail)
      go_wp2_with fail
      refine (rright_any _ x y).mono ?_
      rintro e w5 ⟨rfl, rfl⟩
      replace hb := fun o m => below_drewN' (on hb (below_alloc wr o)) m
      have : okF x y := by rw [← hx, ← hy]; exact HO.out q (by omega)
      rw [decide_eq_true this]
      go_wp2_with fail
      go_roundw
      case rel => exact ⟨q + 1, rfl, by omega, hb _ _⟩
      case measure => simp [intOf]; omega
    · have hlt : ¬ (q : Int) < (n : Int) := by omega
      clear hlt0
      have hsm : ¬ (n : Int) > 1000 := by omega
      have HB := hid (on HB3.out hb)
      have HD' : Hid (∀ i, i < n → wr.cell? ⟨k, i, none⟩ = some (.int .i64 (d i : Nat))) := fun i hi => (hb.cell (World.block_lt_of_cell? w3 _ (HD.out i hi))).trans (HD.out i hi)
      have HRr := hid (HR.out.now (on HB3.out hb))
      have hmm := @run_makeMap Try.prog
      clear HD HB3 HF3 HR hb
      go_wp2
      clear hmm
      obtain ⟨wq, rfl⟩ : ∃ wq, wq = wr := ⟨_, rfl⟩
      generalize hbm : wq.heap.size = bm
      have HBM := hid hbm
      clear hbm
      go_loopw [70] (fun i w5 => ∃ q : Nat, i = .int .i64 q ∧ q ≤ n ∧ Below wq.heap.size wq w5 ∧ Fresh w5 bm q (fun p => ∀ t, t < q → p ≠ ((d t : Nat) : Int))) (fun i _ => n - (intOf i).toNat)
      case atStart => exact ⟨0, rfl, Nat.zero_le _, below_alloc wq _, by rw [← HBM.out]; exact fresh_made wq _⟩
      case round =>
        obtain ⟨q2, rfl, hq2, hb5, hfr⟩ := hrel
        by_cases hlt5 : q2 < n
        · have hlt6 : (q2 : Int) < (n : Int) := by omega
          obtain ⟨x, hx⟩ : ∃ x, d q2 = x := ⟨_, rfl⟩
          have hxn : x < n := by have := (HBk.out.2 q2 (Nat.zero_le _) hlt5).2; omega
          have hxw : (Lit.int .i64 (x : Int)).wf = true := by
            simp only [Lit.wf, Bool.and_eq_true, decide_eq_true_eq]
            exact ⟨Int.le_trans (by decide) (Int.natCast_nonneg x), Int.le_trans (show (x : Int) ≤ 100 by omega) (by decide)⟩
          have c1 := (hb5.cell (World.block_lt_of_cell? wq _ (HD'.out q2 hlt5))).trans (HD'.out q2 hlt5)
          rw [hx] at c1
          have hnew : ∀ t, t < q2 → (x : Int) ≠ ((d t : Nat) : Int) := fun t ht e => by
            have hL := HBk.out.1 t q2 (Nat.zero_le _) ht hlt5
            have e' : d t = d q2 := by rw [hx]; omega
            rw [e'] at hL
            exact (ord_of n (fun i => (top i).toNat) (fun i => (bot i).toNat) (fun i hi => by have := (HO.out i hi).2.2; show 0 < (bot i).toNat; omega)).irr _ hL
          have hlook := hfr.look x hnew hxw
          obtain ⟨w6, hput, hfr6, hgr6⟩ := hfr.put x (by unfold maxLen; omega) hxw
          have hb6 : Below wq.heap.size wq w6 := hb5.grown hgr6 hb5.size fun j e => by injection e with e; rw [← e, ← HBM.out]; exact Nat.le_refl _
          have HB6 := hid hb6
          have HF6 : Hid (Fresh w6 bm (q2 + 1) (fun p => ∀ t, t < q2 + 1 → p ≠ ((d t : Nat) : Int))) := hfr6.weak fun p hp => ⟨fun t ht => hp t (by omega), by rw [← hx]; exact hp q2 (by omega)⟩
          have HRR := hid (HRr.out.now hb6)
          have g1 : ¬ (x : Int) < 0 := by omega
          have g2 : ¬ (x : Int) ≥ (n : Int) := by omega
          clear hnew hfr hfr6 hgr6 hb5 hb6 hxw
          go_wp2_with fail
          · exact ⟨⟨q2 + 1, rfl, by omega, HB6.out, HF6.out⟩, by simp [intOf]; omega⟩
          · have hne : ((q2 : Int) == 0) = false := by assumption
            have hq0 : q2 ≠ 0 := by intro e; rw [e] at hne; cases hne
            obtain ⟨r, hr⟩ : ∃ r, q2 = r + 1 := ⟨q2 - 1, by omega⟩
            have g3 : (q2 : Int) - 1 = (r : Int) := by omega
            have hrn : r < n := by omega
            have g4 : (r : Int) < (n : Int) := by omega
            have g5 : IntKind.i64.wrap (r : Int) = (r : Int) := by rw [IntKind.wrap_i64]; omega
            obtain ⟨y, hy⟩ : ∃ y, d r = y := ⟨_, rfl⟩
            have hyn : y < n := by have := (HBk.out.2 r (Nat.zero_le _) hrn).2; omega
            have g6 : (y : Int) < (n : Int) := by omega
            have g7 : (x : Int) < (n : Int) := by omega
            have c2 := (HB6.out.cell (World.block_lt_of_cell? wq _ (HD'.out r hrn))).trans (HD'.out r hrn)
            rw [hy] at c2
            have hL := HBk.out.1 r q2 (Nat.zero_le _) (by omega) hlt5
            rw [hy, hx] at hL
            obtain ⟨tx, bx, ex1, ex2, lx1, lx2⟩ := nats (HO.out x hxn)
            obtain ⟨ty, by', ey1, ey2, ly1, ly2⟩ := nats (HO.out y hyn)
            obtain ⟨f1, f2⟩ := fl_at top bot n x hxn
            obtain ⟨f3, f4⟩ := fl_at top bot n y hyn
            obtain ⟨ad, rfl, _, k1⟩ := HRR.out _ _ f1
            obtain ⟨_, e2, _, k2⟩ := HRR.out _ _ f2
            obtain ⟨_, e3, _, k3⟩ := HRR.out _ _ f3
            obtain ⟨_, e4, _, k4⟩ := HRR.out _ _ f4
            injection e2 with e2
            injection e3 with e3
            injection e4 with e4
            subst e2 e3 e4
            rw [addSucc, ex2] at k2
            rw [addSucc, ey2] at k4
            rw [ex1] at k1
            rw [ey1] at k3
            have hcc : cmpI (ty * bx) (tx * by') = 1 ∨ (cmpI (ty * bx) (tx * by') = 0 ∧ y < x) := by
              simp only [lOf, cfOf, ex1, ex2, ey1, ey2, Int.toNat_natCast] at hL
              rcases cmp3 (tx * by') (ty * bx) with h | h | h <;> omega
            clear f1 f2 f3 f4 hL ex1 ex2 ey1 ey2 hlook hput c1 hne hq0 hr
            go_quiet (first | (go_at_call 19; refine Calls.quiet_of_same (rcompare_any _ ty by' tx bx ly1 ly2 lx1 lx2)))
            rcases hcc with hcc | ⟨hcc, hyx⟩
            · rw [hcc]
              go_wp2
              exact ⟨⟨q2 + 1, rfl, by omega, below_drewN' HB6.out _, HF6.out⟩, by simp [intOf]; omega⟩
            · rw [hcc]
              have g8 : ¬ (y : Int) > (x : Int) := by omega
              go_wp2
              exact ⟨⟨q2 + 1, rfl, by omega, below_drewN' HB6.out _, HF6.out⟩, by simp [intOf]; omega⟩
        · have hlt6 : ¬ (q2 : Int) < (n : Int) := by omega
          have hqn : q2 = n := by omega
          subst hqn
          go_wp2_with fail
          go_ret
          exact ⟨rfl, on HB.out hb5⟩

theorem order_walk (A : Option Addr) (n c : Nat) (top bot : Nat → Int) (hn : n * 16 ≤ 140737488351232) (w : World) (hr : Rv w w.heap.size A (fl top bot n)) :
    Calls Try.prog 6 #[.slice A n c] w fun e w' => e = .returned (.bool true) ∧ Below w.heap.size w w' := by
  by_cases h1 : n ≤ 100 ∨ 1000 < n
  · rcases first_bad top bot n with ⟨j, g1, g2, g3⟩ | g
    · exact ordl_bad A n c j top bot hn w hr g1 g2 g3 h1
    · rcases h1 with h1 | h1
      · exact ordl_small A n c top bot hn w hr g h1
      · exact ordl_big A n c top bot hn w hr g h1
  · have h100 : (n : Int) > 100 := by omega
    have h1000 : (n : Int) ≤ 1000 := by omega
    clear hr hn h1
    go_enter Try.func6, Try.ntmps6
    go_wp2_with fail
    refine (wakes_any w).mono ?_
    rintro e w1 ⟨rfl, hb⟩
    go_wp2
    go_ret
    exact ⟨rfl, hb⟩
end Go.Proofs.Ytlkaoobdppnebaa
