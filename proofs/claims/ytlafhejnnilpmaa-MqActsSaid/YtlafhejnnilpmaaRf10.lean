/-
  What is proved: the reference's New, Of, Without, Ahead, Place; lists that are compared. Condition: the space lies in memory as one; lists are read as such.
  (Left out here, as nothing of this law reaches it: place_at, rof_gen, rof_yes, rof_no, Made, Mk, Mk.alloc, Mk.lr, Mk.more, rnew_any.) -/
import Derived.Test.YtlafhejnnilpmaaRr10
namespace Go.Proofs.Ytlafhejnnilpmaa
open Go.RowKit

set_option maxHeartbeats 400000 in
theorem sameints_yes (A B : Option Addr) (n m ca cb : Nat) (l : List Int) (w : World) (C D : Nat) (hn : l.length = n) (hm : l.length = m) (hlen : n ≤ maxLen) (ra : Rv w C A (ints l)) (rb : Rv w D B (ints l)) :
    Calls Try.prog 24 #[.slice A n ca, .slice B m cb] w fun e w' => e = .returned (.bool true) ∧ ∃ k, w' = w.drewN k := by
  subst hn
  subst hm
  unfold maxLen at hlen
  go_enter Try.func24, Try.ntmps24
  go_wp2
  go_loopw [5] (fun i wr => ∃ k d : Nat, k ≤ l.length ∧ i = .int .i64 k ∧ wr = w.drewN d) (fun i _ => l.length - (intOf i).toNat)
  case atStart => exact ⟨0, 0, Nat.zero_le _, rfl, rfl⟩
  case round =>
    obtain ⟨k, d, hk, rfl, rfl⟩ := hrel
    by_cases hlt : k < l.length
    · obtain ⟨a, rfl, _, hca⟩ := ra.get (k := k) (by rw [ints_length]; exact hlt)
      obtain ⟨b, rfl, _, hcb⟩ := rb.get (k := k) (by rw [ints_length]; exact hlt)
      have e : (ints l)[k]'(by rw [ints_length]; exact hlt) = .int .i64 (l[k]) := by simp [ints]
      rw [e] at hca hcb
      clear e
      have hlt' : (k : Int) < (l.length : Int) := by omega
      go_wp2
      go_quiet (fail)
      go_wp2
      go_roundw
      case rel => exact ⟨k + 1, _, by omega, by go_num, rfl⟩
      case measure => simp [intOf]; omega
    · have hlt' : ¬ (k : Int) < (l.length : Int) := by omega
      go_wp2
      go_ret
      exact ⟨rfl, _, rfl⟩

theorem rv_at {w : World} {B : Nat} {A : Option Addr} {l : List Int} (r : Rv w B A (ints l)) {j : Nat} (hj : j < l.length) : ∃ a, A = some a ∧ a.block < B ∧ w.cell? (a.add j) = some (.int .i64 l[j]) := by
  obtain ⟨a, e, hb, hc⟩ := r.get (k := j) (by rw [ints_length]; exact hj)
  refine ⟨a, e, hb, ?_⟩
  rw [hc]
  simp [ints]




































theorem wo_take_eq {l : List Int} {j : Nat} {x : Int} (h : j < l.length) (e : l[j] = x) : ints (wo x (l.take (j + 1))) = ints (wo x (l.take j)) := by
  rw [List.take_succ_eq_append_getElem h]
  unfold wo
  rw [List.filter_append, e]
  simp
theorem wo_take_ne {l : List Int} {j : Nat} {x : Int} (h : j < l.length) (e : l[j] ≠ x) : ints (wo x (l.take (j + 1))) = ints (wo x (l.take j)) ++ [.int .i64 l[j]] := by
  rw [List.take_succ_eq_append_getElem h]
  unfold wo ints
  rw [List.filter_append, List.map_append]
  simp [e]
theorem wo_le (x : Int) (l : List Int) : (wo x l).length ≤ l.length := List.length_filter_le _ _
set_option maxRecDepth 10000 in
set_option maxHeartbeats 1000000 in
theorem without_any (w : World) (A : Option Addr) (n c : Nat) (l : List Int) (x : Int) (hn : l.length = n) (h64 : n ≤ 64) (r : Rv w w.heap.size A (ints l)) :
    Calls Try.prog 35 #[.slice A n c, .int .i64 x] w (Told w (wo x l)) := by
  subst hn
  have HR := hid r
  have HG0 := hid (GrW.refl w nl)
  clear r
  go_enter Try.func35, Try.ntmps35
  go_wp2
  go_loopg [5, 6] l.length (fun gk s t wr => ∃ (j : Nat) (v : Value), j + gk = l.length ∧ v = s ∧ t = .int .i64 j ∧ OwnW wr 3 v (ints (wo x (l.take j))) ∧ GrW w wr nl v)
  case atStart => exact ⟨0, _, by omega, rfl, rfl, ownW_nil _ _, HG0.out⟩
  case round =>
    obtain ⟨j, v, hj, rfl, rfl, ho, hg⟩ := hrel
    by_cases hlt : j < l.length
    · obtain ⟨a, rfl, _, hca⟩ := rv_at (HR.out.now hg.nilBelow) hlt
      have hlt' : (j : Int) < (l.length : Int) := by omega
      obtain ⟨m, hm⟩ : ∃ m, (ints (wo x (l.take j))).length = m := ⟨_, rfl⟩
      have hm64 : m ≤ 64 := by rw [← hm, ints_length]; have := wo_le x (l.take j); rw [List.length_take] at this; omega
      have HM := hid hm
      by_cases hx : l[j] = x
      · have HT := hid (wo_take_eq hlt hx)
        rw [hx] at hca
        have HO := hid ho
        have HG := hid hg
        obtain ⟨B, c0, e0, -⟩ := ho.read
        rw [HM.out] at e0
        subst e0
        clear hx ho hg hm
        have hd : (x != x) = false := by simp
        go_wp2
        go_roundg (gk - 1)
        case measure => omega
        case rel => exact ⟨j + 1, _, by omega, rfl, by go_num, by rw [HT.out]; exact HO.out, HG.out⟩
      · have HT := hid (wo_take_ne hlt hx)
        generalize l[j] = y at *
        have HO1 := hid (ho.below (below_alloc wr (.cells #[.int .i64 y] 3)))
        have HG1 := hid (hg.trans (GrW.of (below_alloc wr (.cells #[.int .i64 y] 3)) v))
        have HR1 := hid (rv_new wr 3 #[.int .i64 y])
        obtain ⟨B, c0, e0, -⟩ := ho.read
        rw [HM.out] at e0
        subst e0
        have hd : (y != x) = true := by simpa using hx
        clear hx ho hg hm
        go_upto_region 6 with fail
        go_wp2_with (at_builtin; (refine wpList_appW elt_int rfl (.tmp 19) (.tmp 24) rfl _ _ HO1.out rfl _ _ 1 1 [.int .i64 y] rfl rfl HR1.out (fun u hu => by simp at hu; subst hu; rfl) (by rw [HM.out]; unfold maxLen; omega) (by rw [HM.out]; omega) ?_); (intro v2 w2 hown2 hg2; have HG2 := hid (HG1.out.trans hg2); have HO2 := hid hown2; clear hown2 hg2))
        go_roundg (gk - 1)
        case measure => omega
        case rel => exact ⟨j + 1, v2, by omega, rfl, by go_num, by rw [HT.out]; exact HO2.out, HG2.out⟩
    · obtain rfl : j = l.length := by omega
      rw [List.take_length] at ho
      have HO := hid ho
      have HG := hid hg
      obtain ⟨B, c0, e0, -⟩ := ho.read
      rw [ints_length] at e0
      subst e0
      clear ho hg
      go_wp2
      go_ret
      exact ⟨_, _, rfl, HO.out, HG.out⟩
set_option maxRecDepth 10000 in
set_option maxHeartbeats 1000000 in
theorem ahead_any (w : World) (A : Option Addr) (n c : Nat) (l : List Int) (x : Int) (hn : l.length = n) (h64 : n ≤ 64) (r : Rv w w.heap.size A (ints l)) :
    Calls Try.prog 36 #[.slice A n c, .int .i64 x] w (Told w (x :: l)) := by
  have HR := hid r
  have HN := hid (show (ints l).length = n from by rw [ints_length]; exact hn)
  have HR1 := hid (rv_new w 3 #[.int .i64 x])
  have HB := hid (below_alloc w (.cells #[.int .i64 x] 3))
  clear r hn
  go_enter Try.func36, Try.ntmps36
  go_upto_region 3 with (at_builtin; (refine wpList_appW elt_int rfl (.tmp 6) (.tmp 8) rfl _ _ (ownW_nil _ _) rfl _ _ 1 1 [.int .i64 x] rfl rfl HR1.out (fun u hu => by simp at hu; subst hu; rfl) (by simp; unfold maxLen; omega) (by simp) ?_); (intro v1 w1 ho1 hg1; rw [List.nil_append] at ho1; have HO1 := hid ho1; have HG1 := hid ((GrW.of HB.out nl).trans hg1); clear ho1 hg1))
  have HR2 := hid (HR.out.now HG1.out.nilBelow)
  go_wp2_with (at_builtin; (refine wpList_appW elt_int rfl (.tmp 10) (.tmp 11) rfl _ _ HO1.out rfl _ _ n _ (ints l) rfl HN.out HR2.out (ints_one _) (by simp; unfold maxLen; omega) (by simp; omega) ?_); (intro v2 w2 ho2 hg2; have HO2 := hid ho2; have HG2 := hid (HG1.out.trans hg2); clear ho2 hg2))
  go_ret
  obtain ⟨B, c0, e0, -⟩ := HO2.out.read
  subst e0
  have e1 : ([Value.int .i64 x] ++ ints l) = ints (x :: l) := rfl
  have e2 : ([Value.int .i64 x] ++ ints l).length = (x :: l).length := by rw [e1, ints_length]
  have HO := HO2.out
  have HG := HG2.out
  rw [e2] at HO HG ⊢
  exact ⟨_, _, rfl, HO, HG⟩
section
variable {w : World} {k : Nat} {v : Value} {us : List Value} {S : List (List Int)}



































































































end

/-- how many lists -/
def cl (m : Int) : Nat := (min (max m 1) 40).toNat
theorem cl_le (m : Int) : 1 ≤ cl m ∧ cl m ≤ 40 := by unfold cl; omega
def empt (n : Nat) : List (List Int) := List.replicate n []



theorem infoRow : (Try.prog.info? 44).map (fun i => (i.zero, i.size, i.bytes)) = some (some (.slice none 0 0), 1, 24) := by kernel_rfl
theorem elt_row : Elt Try.prog 58 44 (.slice none 0 0) 1 24 := ⟨Try.underlying58, infoRow, rfl, by decide⟩













































































































end Go.Proofs.Ytlafhejnnilpmaa
