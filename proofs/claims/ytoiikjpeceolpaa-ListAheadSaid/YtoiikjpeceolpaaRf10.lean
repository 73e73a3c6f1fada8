/-
  What is proved: the reference's New, Of, Without, Ahead, Place; lists that are compared. Condition: the space lies in memory as one; lists are read as such.
-/
import Derived.Test.YtoiikjpeceolpaaRr10
namespace Go.Proofs.Ytoiikjpeceolpaa
open Go.RowKit

set_option maxHeartbeats 400000 in
theorem sameints_yes (A B : Option Addr) (n m ca cb : Nat) (l : List Int) (w : World) (C D : Nat) (hn : l.length = n) (hm : l.length = m) (hlen : n ≤ maxLen) (ra : Rv w C A (ints l)) (rb : Rv w D B (ints l)) :
    Calls Try.prog 13 #[.slice A n ca, .slice B m cb] w fun e w' => e = .returned (.bool true) ∧ ∃ k, w' = w.drewN k := by
  subst hn
  subst hm
  unfold maxLen at hlen
  go_enter Try.func13, Try.ntmps13
  go_wp2
  go_loopw [5] (fun i wr => ∃ k d : Nat, k ≤ l.length ∧ i = .int .i64 k ∧ wr = w.drewN d) (fun i _ => l.length - (intOf i).toNat)
  case atStart => exact ⟨0, 0, Nat.zero_le _, rfl, rfl⟩
  case round =>
    obtain ⟨k, d, hk, rfl, rfl⟩ := hrel
    by_cases hlt : k < l.length
    · obtain ⟨a, rfl, _, hca⟩ := ra.get (k := k) (by rw [ints_length]; exact hlt)
      obtain ⟨b, rfl, _, hcb⟩ := rb.get (k := k) (by rw [ints_length]; exact hlt)
      have e : (ints l)[k]'(by rw [ints_length]; exact hlt) = .int .i64 (l[k]) := by simp [ints]
      rw [e] at hca hcb
      clear e
      have hlt' : (k : Int) < (l.length : Int) := by omega
      go_wp2
      go_quiet (fail)
      go_wp2
      go_roundw
      case rel => exact ⟨k + 1, _, by omega, by go_num, rfl⟩
      case measure => simp [intOf]; omega
    · have hlt' : ¬ (k : Int) < (l.length : Int) := by omega
      go_wp2
      go_ret
      exact ⟨rfl, _, rfl⟩

theorem rv_at {w : World} {B : Nat} {A : Option Addr} {l : List Int} (r : Rv w B A (ints l)) {j : Nat} (hj : j < l.length) : ∃ a, A = some a ∧ a.block < B ∧ w.cell? (a.add j) = some (.int .i64 l[j]) := by
  obtain ⟨a, e, hb, hc⟩ := r.get (k := j) (by rw [ints_length]; exact hj)
  refine ⟨a, e, hb, ?_⟩
  rw [hc]
  simp [ints]

set_option maxHeartbeats 400000 in
theorem place_at (w : World) (A : Option Addr) (n c : Nat) (l : List Int) (x : Int) (hn : l.length = n) (h64 : n ≤ 64) (r : Rv w w.heap.size A (ints l)) {j : Nat} (hj : l[j]? = some x) (hf : ∀ q, q < j → l[q]? ≠ some x) :
    Calls Try.prog 19 #[.slice A n c, .int .i64 x] w fun e w' => e = .returned (.int .i64 j) ∧ w = w' := by
  subst hn
  have HF := hid hf
  have hjl := (List.getElem?_eq_some_iff.1 hj).1
  have HJ := hid hj
  clear hf hj
  go_enter Try.func19, Try.ntmps19
  go_wp2
  go_loopw [5] (fun i wr => ∃ k : Nat, k ≤ j ∧ i = .int .i64 k ∧ wr = w) (fun i _ => l.length - (intOf i).toNat)
  case atStart => exact ⟨0, Nat.zero_le _, rfl, rfl⟩
  case round =>
    obtain ⟨k, hk, rfl, rfl⟩ := hrel
    have hlt : k < l.length := by omega
    obtain ⟨a, rfl, _, hca⟩ := rv_at r hlt
    have hlt' : (k : Int) < (l.length : Int) := by omega
    by_cases hkj : k = j
    · subst hkj
      have e : l[k] = x := (List.getElem?_eq_some_iff.1 HJ.out).2
      rw [e] at hca
      clear e
      go_wp2
      go_ret
      exact ⟨rfl, rfl⟩
    · have hne : l[k] ≠ x := fun e => HF.out k (by omega) (by rw [List.getElem?_eq_getElem hlt, e])
      generalize l[k] = y at *
      have hd : decide (y = x) = false := by simpa using hne
      have hd2 : (y == x) = false := by simpa using hne
      clear hne
      go_wp2
      go_roundw
      case rel => exact ⟨k + 1, by omega, by go_num, trivial⟩
      case measure => simp [intOf]; omega

theorem wo_take_eq {l : List Int} {j : Nat} {x : Int} (h : j < l.length) (e : l[j] = x) : ints (wo x (l.take (j + 1))) = ints (wo x (l.take j)) := by
  rw [List.take_succ_eq_append_getElem h]
  unfold wo
  rw [List.filter_append, e]
  simp
theorem wo_take_ne {l : List Int} {j : Nat} {x : Int} (h : j < l.length) (e : l[j] ≠ x) : ints (wo x (l.take (j + 1))) = ints (wo x (l.take j)) ++ [.int .i64 l[j]] := by
  rw [List.take_succ_eq_append_getElem h]
  unfold wo ints
  rw [List.filter_append, List.map_append]
  simp [e]
theorem wo_le (x : Int) (l : List Int) : (wo x l).length ≤ l.length := List.length_filter_le _ _
set_option maxRecDepth 10000 in
set_option maxHeartbeats 1000000 in
theorem without_any (w : World) (A : Option Addr) (n c : Nat) (l : List Int) (x : Int) (hn : l.length = n) (h64 : n ≤ 64) (r : Rv w w.heap.size A (ints l)) :
    Calls Try.prog 23 #[.slice A n c, .int .i64 x] w (Told w (wo x l)) := by
  subst hn
  have HR := hid r
  have HG0 := hid (GrW.refl w nl)
  clear r
  go_enter Try.func23, Try.ntmps23
  go_wp2
  go_loopg [5, 6] l.length (fun gk s t wr => ∃ (j : Nat) (v : Value), j + gk = l.length ∧ v = s ∧ t = .int .i64 j ∧ OwnW wr 3 v (ints (wo x (l.take j))) ∧ GrW w wr nl v)
  case atStart => exact ⟨0, _, by omega, rfl, rfl, ownW_nil _ _, HG0.out⟩
  case round =>
    obtain ⟨j, v, hj, rfl, rfl, ho, hg⟩ := hrel
    by_cases hlt : j < l.length
    · obtain ⟨a, rfl, _, hca⟩ := rv_at (HR.out.now hg.nilBelow) hlt
      have hlt' : (j : Int) < (l.length : Int) := by omega
      obtain ⟨m, hm⟩ : ∃ m, (ints (wo x (l.take j))).length = m := ⟨_, rfl⟩
      have hm64 : m ≤ 64 := by rw [← hm, ints_length]; have := wo_le x (l.take j); rw [List.length_take] at this; omega
      have HM := hid hm
      by_cases hx : l[j] = x
      · have HT := hid (wo_take_eq hlt hx)
        rw [hx] at hca
        have HO := hid ho
        have HG := hid hg
        obtain ⟨B, c0, e0, -⟩ := ho.read
        rw [HM.out] at e0
        subst e0
        clear hx ho hg hm
        have hd : (x != x) = false := by simp
        go_wp2
        go_roundg (gk - 1)
        case measure => omega
        case rel => exact ⟨j + 1, _, by omega, rfl, by go_num, by rw [HT.out]; exact HO.out, HG.out⟩
      · have HT := hid (wo_take_ne hlt hx)
        generalize l[j] = y at *
        have HO1 := hid (ho.below (below_alloc wr (.cells #[.int .i64 y] 3)))
        have HG1 := hid (hg.trans (GrW.of (below_alloc wr (.cells #[.int .i64 y] 3)) v))
        have HR1 := hid (rv_new wr 3 #[.int .i64 y])
        obtain ⟨B, c0, e0, -⟩ := ho.read
        rw [HM.out] at e0
        subst e0
        have hd : (y != x) = true := by simpa using hx
        clear hx ho hg hm
        go_upto_region 6 with fail
        go_wp2_with (at_builtin; (refine wpList_appW elt_int rfl (.tmp 19) (.tmp 24) rfl _ _ HO1.out rfl _ _ 1 1 [.int .i64 y] rfl rfl HR1.out (fun u hu => by simp at hu; subst hu; rfl) (by rw [HM.out]; unfold maxLen; omega) (by rw [HM.out]; omega) ?_); (intro v2 w2 hown2 hg2; have HG2 := hid (HG1.out.trans hg2); have HO2 := hid hown2; clear hown2 hg2))
        go_roundg (gk - 1)
        case measure => omega
        case rel => exact ⟨j + 1, v2, by omega, rfl, by go_num, by rw [HT.out]; exact HO2.out, HG2.out⟩
    · obtain rfl : j = l.length := by omega
      rw [List.take_length] at ho
      have HO := hid ho
      have HG := hid hg
      obtain ⟨B, c0, e0, -⟩ := ho.read
      rw [ints_length] at e0
      subst e0
      clear ho hg
      go_wp2
      go_ret
      exact ⟨_, _, rfl, HO.out, HG.out⟩
set_option maxRecDepth 10000 in
set_option maxHeartbeats 1000000 in
theorem ahead_any (w : World) (A : Option Addr) (n c : Nat) (l : List Int) (x : Int) (hn : l.length = n) (h64 : n ≤ 64) (r : Rv w w.heap.size A (ints l)) :
    Calls Try.prog 26 #[.slice A n c, .int .i64 x] w (Told w (x :: l)) := by
  have HR := hid r
  have HN := hid (show (ints l).length = n from by rw [ints_length]; exact hn)
  have HR1 := hid (rv_new w 3 #[.int .i64 x])
  have HB := hid (below_alloc w (.cells #[.int .i64 x] 3))
  clear r hn
  go_enter Try.func26, Try.ntmps26
  go_upto_region 3 with (at_builtin; (refine wpList_appW elt_int rfl (.tmp 6) (.tmp 8) rfl _ _ (ownW_nil _ _) rfl _ _ 1 1 [.int .i64 x] rfl rfl HR1.out (fun u hu => by simp at hu; subst hu; rfl) (by simp; unfold maxLen; omega) (by simp) ?_); (intro v1 w1 ho1 hg1; rw [List.nil_append] at ho1; have HO1 := hid ho1; have HG1 := hid ((GrW.of HB.out nl).trans hg1); clear ho1 hg1))
  have HR2 := hid (HR.out.now HG1.out.nilBelow)
  go_wp2_with (at_builtin; (refine wpList_appW elt_int rfl (.tmp 10) (.tmp 11) rfl _ _ HO1.out rfl _ _ n _ (ints l) rfl HN.out HR2.out (ints_one _) (by simp; unfold maxLen; omega) (by simp; omega) ?_); (intro v2 w2 ho2 hg2; have HO2 := hid ho2; have HG2 := hid (HG1.out.trans hg2); clear ho2 hg2))
  go_ret
  obtain ⟨B, c0, e0, -⟩ := HO2.out.read
  subst e0
  have e1 : ([Value.int .i64 x] ++ ints l) = ints (x :: l) := rfl
  have e2 : ([Value.int .i64 x] ++ ints l).length = (x :: l).length := by rw [e1, ints_length]
  have HO := HO2.out
  have HG := HG2.out
  rw [e2] at HO HG ⊢
  exact ⟨_, _, rfl, HO, HG⟩
section
variable {w : World} {k : Nat} {v : Value} {us : List Value} {S : List (List Int)}
set_option maxRecDepth 10000 in
set_option maxHeartbeats 1000000 in
theorem rof_gen (h : Lr w k v us S) (x : Int) (T : Nat) (hT : T ≤ S.length) (hno : ∀ (j : Nat) l, j < T → S[j]? = some l → x ∉ l) (hyes : ∀ l, S[T]? = some l → x ∈ l) :
    Calls Try.prog 18 #[.pointer (some ⟨k, 0, none⟩), .int .i64 x] w fun e w' => e = .returned (.int .i64 (if T < S.length then (T : Int) else -1)) ∧ w = w' := by
  obtain ⟨A, c, hv, c0, _⟩ := Lr.cells h
  have H := hid h
  have h40 := h.w40
  obtain ⟨n, hn⟩ : ∃ n, S.length = n := ⟨_, rfl⟩
  rw [hn] at c0 h40 hT ⊢
  have HN := hid hn
  have HV := hid hv
  have HNO := hid hno
  have HY := hid hyes
  clear h hn hv hno hyes
  go_enter Try.func18, Try.ntmps18
  go_wp2
  go_loopg [5] n (fun gk t wr => ∃ p : Nat, p + gk = n ∧ p ≤ T ∧ t = .int .i64 p ∧ wr = w)
  case atStart => exact ⟨0, by omega, Nat.zero_le _, rfl, rfl⟩
  case round =>
    obtain ⟨p, hp, hpT, rfl, rfl⟩ := hrel
    by_cases hlt : p < n
    · obtain ⟨l, hl⟩ : ∃ l, S[p]? = some l := ⟨_, List.getElem?_eq_getElem (by rw [HN.out]; exact hlt)⟩
      obtain ⟨g, d, B, m, hv, _, q1, _, ho, h64, _⟩ := Lr.at_ H.out hl
      have hA : A = some ⟨g, 0, none⟩ := by
        have := HV.out.symm.trans hv
        injection this
      subst hA
      have hpp : (p : Int) < (n : Int) := by omega
      obtain ⟨B', c', e', hr, -⟩ := ho.read
      simp only [Value.slice.injEq] at e'
      obtain ⟨rfl, -, -⟩ := e'
      have HL := hid hl
      obtain ⟨ln, hln⟩ : ∃ x, l.length = x := ⟨_, rfl⟩
      rw [hln] at q1 h64
      have HLN := hid hln
      have HR := hid hr
      have HX := hid (show p = T → x ∈ l from fun e => HY.out l (e ▸ hl))
      have HZ := hid (show p ≠ T → x ∉ l from fun e => HNO.out p l (by omega) hl)
      clear hl hv hln hr ho
      go_wp2
      generalize gk = K0 at *
      go_loopg [6] ln (fun gk t wx => ∃ q : Nat, q + gk = ln ∧ t = .int .i64 q ∧ wx = wr ∧ ∀ r, r < q → l[r]? ≠ some x)
      case atStart => exact ⟨0, by omega, rfl, rfl, fun r hr => by omega⟩
      case round =>
        obtain ⟨q, hq, rfl, rfl, hpre⟩ := hrel
        have HP := hid hpre
        clear hpre
        by_cases hql : q < ln
        · obtain ⟨a, rfl, _, hca⟩ := rv_at HR.out (by rw [HLN.out]; exact hql)
          have hqq : (q : Int) < (ln : Int) := by omega
          have HE := hid (show l[q]? = some (l[q]'(by rw [HLN.out]; exact hql)) from List.getElem?_eq_getElem _)
          generalize l[q]'(by rw [HLN.out]; exact hql) = y at *
          by_cases hy : y = x
          · subst hy
            have hTp : p = T := by
              refine Classical.byContradiction fun e => HZ.out e (List.mem_of_getElem? HE.out)
            subst hTp
            go_wp2
            go_ret
            exact ⟨rfl, rfl⟩
          · have hd : decide (y = x) = false := by simpa using hy
            have hd2 : (y == x) = false := by simpa using hy
            have HYN := hid hy
            clear hy
            go_wp2
            go_roundg (gk - 1)
            case measure => omega
            case rel =>
              refine ⟨q + 1, by omega, by go_num, rfl, fun r h1 h2 => ?_⟩
              by_cases hr : r = q
              · subst hr
                rw [HE.out] at h2
                injection h2 with h2
                exact HYN.out h2
              · exact HP.out r (by omega) h2
        · obtain rfl : q = ln := by omega
          have hne : p ≠ T := fun e => by
            obtain ⟨r, hr⟩ := List.getElem?_of_mem (HX.out e)
            exact HP.out r (by have := (List.getElem?_eq_some_iff.1 hr).1; rw [HLN.out] at this; exact this) hr
          go_wp2
          go_roundg (K0 - 1)
          case measure => omega
          case rel => exact ⟨p + 1, by omega, by omega, by go_num, rfl⟩
    · obtain rfl : p = n := by omega
      obtain rfl : T = p := by omega
      go_wp2
      go_ret
      exact ⟨rfl, rfl⟩
theorem rof_yes (h : Lr w k v us S) (hw : Wf S) {i : Nat} {l : List Int} {x : Int} (hi : S[i]? = some l) (hx : x ∈ l) :
    Calls Try.prog 18 #[.pointer (some ⟨k, 0, none⟩), .int .i64 x] w fun e w' => e = .returned (.int .i64 i) ∧ w = w' := by
  have hil := (List.getElem?_eq_some_iff.1 hi).1
  have := rof_gen h x i (by omega) (fun j m hj hm hxm => by have := hw.one i j l m x hi hm hx hxm; omega) (fun m hm => by rw [hi] at hm; injection hm with hm; rw [← hm]; exact hx)
  rw [if_pos hil] at this
  exact this
theorem rof_no (h : Lr w k v us S) {x : Int} (hn : ¬ inS S x) :
    Calls Try.prog 18 #[.pointer (some ⟨k, 0, none⟩), .int .i64 x] w fun e w' => e = .returned (.int .i64 (-1)) ∧ w = w' := by
  have := rof_gen h x S.length (Nat.le_refl _) (fun j m _ hm hxm => hn ⟨j, m, hm, hxm⟩) (fun m hm => by rw [List.getElem?_eq_none (Nat.le_refl _)] at hm; cases hm)
  rw [if_neg (Nat.lt_irrefl _)] at this
  exact this
end

/-- how many lists -/
def cl (m : Int) : Nat := (min (max m 1) 40).toNat
theorem cl_le (m : Int) : 1 ≤ cl m ∧ cl m ≤ 40 := by unfold cl; omega
def empt (n : Nat) : List (List Int) := List.replicate n []
/-- a new space of the reference's -/
def Made (n : Nat) (w : World) (e : Ending) (w' : World) : Prop :=
  ∃ k v us, e = .returned (.pointer (some ⟨k, 0, none⟩)) ∧ Lr w' k v us (empt n) ∧ Below w.heap.size w w' ∧ ∀ j, Ft k v us j → w.heap.size ≤ j
theorem infoRow : (Try.prog.info? 37).map (fun i => (i.zero, i.size, i.bytes)) = some (some (.slice none 0 0), 1, 24) := by kernel_rfl
theorem elt_row : Elt Try.prog 33 37 (.slice none 0 0) 1 24 := ⟨Try.underlying33, infoRow, rfl, by decide⟩
/-- behind p rounds -/
structure Mk (w : World) (wr : World) (p : Nat) (v : Value) : Prop where
  box : Bx wr w.heap.size 35 #[v]
  row : OwnW wr 37 v (List.replicate p nl)
  bel : Below w.heap.size w wr
  ne : v.ownBlock ≠ some w.heap.size
  low : ∀ g, v.ownBlock = some g → w.heap.size ≤ g
theorem Mk.alloc {w wr : World} {p : Nat} {v : Value} (h : Mk w wr p v) (o : Obj) : Mk w (wr.alloc o) p v :=
  ⟨h.box.alloc o, h.row.below (below_alloc wr o), h.bel.trans ((below_alloc wr o).mono h.bel.size), h.ne, h.low⟩
theorem Mk.lr {w wr : World} {p : Nat} {v : Value} (h : Mk w wr p v) (hp : p ≤ 40) : Lr wr w.heap.size v (List.replicate p nl) (empt p) := by
  have hnone : ∀ u ∈ List.replicate p nl, u.ownBlock = none := fun u hu => by rw [List.eq_of_mem_replicate hu]; rfl
  refine ⟨h.box, h.row, by simp [empt], by simp [empt]; exact hp, fun i l hl => ?_, fun i u l hu hl => ?_, h.ne, fun u hu => ?_, fun u hu g e => ?_, fun i j u u' g h1 h2 h3 => ?_⟩
  · rw [List.eq_of_mem_replicate (List.mem_of_getElem? hl)]; simp
  · rw [List.eq_of_mem_replicate (List.mem_of_getElem? hu), List.eq_of_mem_replicate (List.mem_of_getElem? hl)]
    exact ownW_nil _ _
  · rw [hnone u hu]; simp
  · rw [hnone u hu] at e; cases e
  · rw [hnone u (List.mem_of_getElem? h1)] at h3; cases h3
theorem Mk.more {w wr w2 : World} {p : Nat} {v v2 : Value} (h : Mk w wr p v) (ho : OwnW w2 37 v2 (List.replicate p nl ++ [nl])) (hg : GrW wr w2 v v2) :
    Bx w2 w.heap.size 35 #[v] ∧ Mk w (w2.setCell ⟨w.heap.size, 0, none⟩ v2) (p + 1) v2 := by
  have hx : Bx w2 w.heap.size 35 #[v] := (hg.other h.box.lt h.ne).trans h.box
  have hlow : ∀ g, v2.ownBlock = some g → w.heap.size ≤ g ∧ g ≠ w.heap.size := fun g e => by
    rcases hg.at_ with e1 | e1
    · rw [e1] at e
      exact ⟨h.low g e, fun e2 => h.ne (by rw [e, e2])⟩
    · have := e1 g e
      have := h.box.lt
      omega
  have hb : Below w.heap.size w w2 := ⟨hg.gr.os.trans h.bel.os, hg.gr.tape.trans h.bel.tape, hg.gr.output.trans h.bel.output, Nat.le_trans h.bel.size hg.gr.size, fun j hj => (hg.gr.block j (Nat.lt_of_lt_of_le hj h.bel.size) (fun e => by have := h.low j e.symm; omega)).trans (h.bel.block j hj)⟩
  refine ⟨hx, ?_, ?_, hb.setCell (Nat.le_refl _) _, fun e => (hlow _ e).2 rfl, fun g e => (hlow g e).1⟩
  · have := hx.set 0 v2
    simpa using this
  · rw [List.replicate_succ']
    exact ho.kept fun j hj => Below.heap_setCell w2 _ _ j (fun e2 => (hlow j hj).2 e2)
set_option maxRecDepth 10000 in
set_option maxHeartbeats 1000000 in
theorem rnew_any (m : Int) (w : World) : Calls Try.prog 10 #[.int .i64 m] w (Made (cl m) w) := by
  obtain ⟨n, hn⟩ : ∃ n, cl m = n := ⟨_, rfl⟩
  have hle := cl_le m
  rw [hn] at hle ⊢
  have HC := hid (show (∀ p : Nat, 1 ≤ p → p < n → (p : Int) < m) ∧ (∀ p : Nat, p = n → decide ((p : Int) < m) = true → 40 ≤ p) from by
    unfold cl at hn
    refine ⟨fun p h1 hp => by omega, fun p hp h => ?_⟩
    have : (p : Int) < m := by simpa using h
    omega)
  clear hn
  have M0 : Mk w (w.alloc (.cells #[.slice none 0 0] 35)) 0 (.slice none 0 0) :=
    ⟨Bx.new w _ _, ownW_nil _ _, below_alloc w _, by simp [Value.ownBlock], fun g e => by simp [Value.ownBlock] at e⟩
  have HGM := hid M0
  clear M0
  go_enter Try.func10, Try.ntmps10
  go_upto_region 2 with fail
  obtain ⟨W1, hW1⟩ : ∃ x, w.alloc (.cells #[.slice none 0 0] 35) = x := ⟨_, rfl⟩
  rw [hW1] at HGM ⊢
  clear hW1
  have c1 : W1.cell? ⟨w.heap.size, 0, none⟩ = some (.slice none 0 0) := HGM.out.box.cell 0
  have hlt1 : w.heap.size < W1.heap.size := HGM.out.box.lt
  have HM0 := hid (HGM.out.alloc (.cells #[.slice none 0 0] 37))
  have HR0 := hid (rv_new W1 37 #[.slice none 0 0])
  obtain ⟨g, hgg⟩ : ∃ g, w.heap.size = g := ⟨_, rfl⟩
  have HGG := hid hgg
  rw [hgg] at c1 hlt1 ⊢
  clear hgg
  go_wp2_with (at_builtin; (refine wpList_appW elt_row rfl (.tmp 11) (.tmp 12) rfl _ _ HM0.out.row rfl _ _ 1 1 [.slice none 0 0] rfl rfl HR0.out (fun u hu => by simp at hu; subst hu; rfl) (by simp; unfold maxLen; omega) (by simp) ?_); intro v2 w2 hown2 hg2; obtain ⟨X2, M2⟩ := HM0.out.more hown2 hg2; obtain ⟨AA, nn, ac, rfl⟩ : ∃ A n c, v2 = .slice A n c := (by obtain ⟨A, c, e, -⟩ := hown2.read; exact ⟨A, _, c, e⟩); have y0 := X2.cell 0; have y1 := X2.free 0; rw [HGG.out] at y0 y1; have HM2 := hid M2; clear X2 M2 hown2 hg2)
  go_loopw [4] (fun t wr => ∃ p : Nat, 1 ≤ p ∧ p ≤ n ∧ t = .int .i64 p ∧ ∃ v, Mk w wr p v) (fun t _ => n - (intOf t).toNat)
  case atStart => exact ⟨1, by omega, by omega, rfl, _, by rw [← HGG.out]; exact HM2.out⟩
  case round =>
    obtain ⟨p, hp1, hp, rfl, v, hm⟩ := hrel
    obtain ⟨A, c, e, r, hc, hcm⟩ := hm.row.read
    rw [List.length_replicate] at e
    subst e
    by_cases hlt : p < n
    · have h1 : (p : Int) < m := HC.out.1 p hp1 hlt
      have h2 : (p : Int) < 40 := by omega
      have c1 : wr.cell? ⟨w.heap.size, 0, none⟩ = some (.slice A p c) := hm.box.cell 0
      have HM1 := hid (hm.alloc (.cells #[.slice none 0 0] 37))
      have HR1 := hid (rv_new wr 37 #[.slice none 0 0])
      have HL := hid (show (List.replicate p nl).length = p from List.length_replicate)
      have hlt1 : w.heap.size < wr.heap.size := hm.box.lt
      rw [HGG.out] at c1 hlt1
      clear hm r hp
      go_upto_region 6 with fail
      go_wp2_with (at_builtin; (refine wpList_appW elt_row rfl (.tmp 29) (.tmp 30) rfl _ _ HM1.out.row rfl _ _ 1 1 [.slice none 0 0] rfl rfl HR1.out (fun u hu => by simp at hu; subst hu; rfl) (by rw [HL.out]; unfold maxLen; omega) (by rw [HL.out]; omega) ?_); intro v2 w2 hown2 hg2; obtain ⟨X2, M2⟩ := HM1.out.more hown2 hg2; obtain ⟨AA, nn, ac, rfl⟩ : ∃ A n c, v2 = .slice A n c := (by obtain ⟨A, c, e, -⟩ := hown2.read; exact ⟨A, _, c, e⟩); have y0 := X2.cell 0; have y1 := X2.free 0; rw [HGG.out] at y0 y1; have HM2 := hid M2; clear X2 M2 hown2 hg2)
      go_roundw
      case rel => exact ⟨p + 1, by omega, by omega, by go_num, _, by rw [← HGG.out]; exact HM2.out⟩
      case measure => simp [intOf]; omega
    · obtain rfl : p = n := by omega
      have hnr := hid (hm.lr hle.2)
      have hbel := hid hm.bel
      have hlow := hid (show ∀ j, Ft w.heap.size (.slice A p c) (List.replicate p nl) j → w.heap.size ≤ j from fun j hj => by
        rcases hj with rfl | e | ⟨u, hu, e⟩
        · exact Nat.le_refl _
        · exact hm.low j e
        · rw [List.eq_of_mem_replicate hu] at e; cases e)
      have h2 := HC.out.2 p rfl
      clear hm r
      have HRR := hid (show Made p w (.returned (.pointer (some ⟨g, 0, none⟩))) wr from ⟨_, _, _, by rw [HGG.out], hnr.out, hbel.out, hlow.out⟩)
      by_cases hq : (p : Int) < m
      · have h3 : (40 : Int) ≤ p := by have := h2 (by simpa using hq); omega
        have hd : decide ((p : Int) < 40) = false := by simpa using h3
        clear h2 hp hlt
        go_wp2
        go_ret
        exact HRR.out
      · have hd : decide ((p : Int) < m) = false := by simpa using hq
        clear h2 hq hp hlt
        go_wp2
        go_ret
        exact HRR.out
end Go.Proofs.Ytoiikjpeceolpaa
