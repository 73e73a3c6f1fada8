/-
  What is proved: what the reference's space of lists in memory is; what becomes of it when one list is another row; the reference's New, Of, Without, Ahead, Place; lists that are compared. Condition: the space lies in memory as one.
  (Left out here, as nothing of this law reaches it: Lr, Lr.lt, Lr.kept, Lr.other, Lr.below, Lr.draws, Lr.cells, Lr.at_, Lr.put.) -/
import Derived.Test.YtmfdlkkligjcbaaGreatJ04
import Derived.Test.YtmfdlkkligjcbaaGreatJ03
import Derived.Laws.Tables
namespace Go.Proofs.YtmfdlkkligjcbaaGreat
open Go.RowKit

section
variable {w w' : World} {k : Nat} {v : Value} {us : List Value} {S : List (List Int)} {F G : Nat → Prop}







































end
end Go.Proofs.YtmfdlkkligjcbaaGreat
namespace Go.Proofs.YtmfdlkkligjcbaaGreat
open Go.RowKit

set_option maxHeartbeats 400000 in
theorem sameints_yes (A B : Option Addr) (n m ca cb : Nat) (l : List Int) (w : World) (C D : Nat) (hn : l.length = n) (hm : l.length = m) (hlen : n ≤ maxLen) (ra : Rv w C A (ints l)) (rb : Rv w D B (ints l)) :
    Calls Tryz.prog 15 #[.slice A n ca, .slice B m cb] w fun e w' => e = .returned (.bool true) ∧ ∃ k, w' = w.drewN k := by
  subst hn
  subst hm
  unfold maxLen at hlen
  go_enter Tryz.func15, Tryz.ntmps15
  go_wp2
  go_loopw [5] (fun i wr => ∃ k d : Nat, k ≤ l.length ∧ i = .int .i64 k ∧ wr = w.drewN d) (fun i _ => l.length - (intOf i).toNat)
  case atStart => exact ⟨0, 0, Nat.zero_le _, rfl, rfl⟩
  case round =>
    obtain ⟨k, d, hk, rfl, rfl⟩ := hrel
    by_cases hlt : k < l.length
    · obtain ⟨a, rfl, _, hca⟩ := ra.get (k := k) (by rw [ints_length]; exact hlt)
      obtain ⟨b, rfl, _, hcb⟩ := rb.get (k := k) (by rw [ints_length]; exact hlt)
      have e : (ints l)[k]'(by rw [ints_length]; exact hlt) = .int .i64 (l[k]) := by simp [ints]
      rw [e] at hca hcb
      clear e
      have hlt' : (k : Int) < (l.length : Int) := by omega
      go_wp2
      go_quiet (fail)
      go_wp2
      go_roundw
      case rel => exact ⟨k + 1, _, by omega, by go_num, rfl⟩
      case measure => simp [intOf]; omega
    · have hlt' : ¬ (k : Int) < (l.length : Int) := by omega
      go_wp2
      go_ret
      exact ⟨rfl, _, rfl⟩

theorem rv_at {w : World} {B : Nat} {A : Option Addr} {l : List Int} (r : Rv w B A (ints l)) {j : Nat} (hj : j < l.length) : ∃ a, A = some a ∧ a.block < B ∧ w.cell? (a.add j) = some (.int .i64 l[j]) := by
  obtain ⟨a, e, hb, hc⟩ := r.get (k := j) (by rw [ints_length]; exact hj)
  refine ⟨a, e, hb, ?_⟩
  rw [hc]
  simp [ints]




































theorem wo_take_eq {l : List Int} {j : Nat} {x : Int} (h : j < l.length) (e : l[j] = x) : ints (wo x (l.take (j + 1))) = ints (wo x (l.take j)) := by
  rw [List.take_succ_eq_append_getElem h]
  unfold wo
  rw [List.filter_append, e]
  simp
theorem wo_take_ne {l : List Int} {j : Nat} {x : Int} (h : j < l.length) (e : l[j] ≠ x) : ints (wo x (l.take (j + 1))) = ints (wo x (l.take j)) ++ [.int .i64 l[j]] := by
  rw [List.take_succ_eq_append_getElem h]
  unfold wo ints
  rw [List.filter_append, List.map_append]
  simp [e]
theorem wo_le (x : Int) (l : List Int) : (wo x l).length ≤ l.length := List.length_filter_le _ _
set_option maxRecDepth 10000 in
set_option maxHeartbeats 1000000 in
theorem without_any (w : World) (A : Option Addr) (n c : Nat) (l : List Int) (x : Int) (hn : l.length = n) (h64 : n ≤ 64) (r : Rv w w.heap.size A (ints l)) :
    Calls Tryz.prog 87 #[.slice A n c, .int .i64 x] w (Told w (wo x l)) := by
  subst hn
  have HR := hid r
  have HG0 := hid (GrW.refl w nl)
  clear r
  go_enter Tryz.func87, Tryz.ntmps87
  go_wp2
  go_loopg [5, 6] l.length (fun gk s t wr => ∃ (j : Nat) (v : Value), j + gk = l.length ∧ v = s ∧ t = .int .i64 j ∧ OwnW wr 3 v (ints (wo x (l.take j))) ∧ GrW w wr nl v)
  case atStart => exact ⟨0, _, by omega, rfl, rfl, ownW_nil _ _, HG0.out⟩
  case round =>
    obtain ⟨j, v, hj, rfl, rfl, ho, hg⟩ := hrel
    by_cases hlt : j < l.length
    · obtain ⟨a, rfl, _, hca⟩ := rv_at (HR.out.now hg.nilBelow) hlt
      have hlt' : (j : Int) < (l.length : Int) := by omega
      obtain ⟨m, hm⟩ : ∃ m, (ints (wo x (l.take j))).length = m := ⟨_, rfl⟩
      have hm64 : m ≤ 64 := by rw [← hm, ints_length]; have := wo_le x (l.take j); rw [List.length_take] at this; omega
      have HM := hid hm
      by_cases hx : l[j] = x
      · have HT := hid (wo_take_eq hlt hx)
        rw [hx] at hca
        have HO := hid ho
        have HG := hid hg
        obtain ⟨B, c0, e0, -⟩ := ho.read
        rw [HM.out] at e0
        subst e0
        clear hx ho hg hm
        have hd : (x != x) = false := by simp
        go_wp2
        go_roundg (gk - 1)
        case measure => omega
        case rel => exact ⟨j + 1, _, by omega, rfl, by go_num, by rw [HT.out]; exact HO.out, HG.out⟩
      · have HT := hid (wo_take_ne hlt hx)
        generalize l[j] = y at *
        have HO1 := hid (ho.below (below_alloc wr (.cells #[.int .i64 y] 3)))
        have HG1 := hid (hg.trans (GrW.of (below_alloc wr (.cells #[.int .i64 y] 3)) v))
        have HR1 := hid (rv_new wr 3 #[.int .i64 y])
        obtain ⟨B, c0, e0, -⟩ := ho.read
        rw [HM.out] at e0
        subst e0
        have hd : (y != x) = true := by simpa using hx
        clear hx ho hg hm
        go_upto_region 6 with fail
        go_wp2_with (at_builtin; (refine wpList_appW elt_int rfl (.tmp 19) (.tmp 24) rfl _ _ HO1.out rfl _ _ 1 1 [.int .i64 y] rfl rfl HR1.out (fun u hu => by simp at hu; subst hu; rfl) (by rw [HM.out]; unfold maxLen; omega) (by rw [HM.out]; omega) ?_); (intro v2 w2 hown2 hg2; have HG2 := hid (HG1.out.trans hg2); have HO2 := hid hown2; clear hown2 hg2))
        go_roundg (gk - 1)
        case measure => omega
        case rel => exact ⟨j + 1, v2, by omega, rfl, by go_num, by rw [HT.out]; exact HO2.out, HG2.out⟩
    · obtain rfl : j = l.length := by omega
      rw [List.take_length] at ho
      have HO := hid ho
      have HG := hid hg
      obtain ⟨B, c0, e0, -⟩ := ho.read
      rw [ints_length] at e0
      subst e0
      clear ho hg
      go_wp2
      go_ret
      exact ⟨_, _, rfl, HO.out, HG.out⟩
set_option maxRecDepth 10000 in
set_option maxHeartbeats 1000000 in
theorem ahead_any (w : World) (A : Option Addr) (n c : Nat) (l : List Int) (x : Int) (hn : l.length = n) (h64 : n ≤ 64) (r : Rv w w.heap.size A (ints l)) :
    Calls Tryz.prog 88 #[.slice A n c, .int .i64 x] w (Told w (x :: l)) := by
  have HR := hid r
  have HN := hid (show (ints l).length = n from by rw [ints_length]; exact hn)
  have HR1 := hid (rv_new w 3 #[.int .i64 x])
  have HB := hid (below_alloc w (.cells #[.int .i64 x] 3))
  clear r hn
  go_enter Tryz.func88, Tryz.ntmps88
  go_upto_region 3 with (at_builtin; (refine wpList_appW elt_int rfl (.tmp 6) (.tmp 8) rfl _ _ (ownW_nil _ _) rfl _ _ 1 1 [.int .i64 x] rfl rfl HR1.out (fun u hu => by simp at hu; subst hu; rfl) (by simp; unfold maxLen; omega) (by simp) ?_); (intro v1 w1 ho1 hg1; rw [List.nil_append] at ho1; have HO1 := hid ho1; have HG1 := hid ((GrW.of HB.out nl).trans hg1); clear ho1 hg1))
  have HR2 := hid (HR.out.now HG1.out.nilBelow)
  go_wp2_with (at_builtin; (refine wpList_appW elt_int rfl (.tmp 10) (.tmp 11) rfl _ _ HO1.out rfl _ _ n _ (ints l) rfl HN.out HR2.out (ints_one _) (by simp; unfold maxLen; omega) (by simp; omega) ?_); (intro v2 w2 ho2 hg2; have HO2 := hid ho2; have HG2 := hid (HG1.out.trans hg2); clear ho2 hg2))
  go_ret
  obtain ⟨B, c0, e0, -⟩ := HO2.out.read
  subst e0
  have e1 : ([Value.int .i64 x] ++ ints l) = ints (x :: l) := rfl
  have e2 : ([Value.int .i64 x] ++ ints l).length = (x :: l).length := by rw [e1, ints_length]
  have HO := HO2.out
  have HG := HG2.out
  rw [e2] at HO HG ⊢
  exact ⟨_, _, rfl, HO, HG⟩
section
variable {w : World} {k : Nat} {v : Value} {us : List Value} {S : List (List Int)}



































































































end

/-- how many lists -/
def cl (m : Int) : Nat := (min (max m 1) 40).toNat
theorem cl_le (m : Int) : 1 ≤ cl m ∧ cl m ≤ 40 := by unfold cl; omega
def empt (n : Nat) : List (List Int) := List.replicate n []



theorem infoRow : (Tryz.prog.info? 43).map (fun i => (i.zero, i.size, i.bytes)) = some (some (.slice none 0 0), 1, 24) := by kernel_rfl
theorem elt_row : Elt Tryz.prog 114 43 (.slice none 0 0) 1 24 := ⟨Tryz.underlying114, infoRow, rfl, by decide⟩













































































































end Go.Proofs.YtmfdlkkligjcbaaGreat
namespace Go.Proofs.YtmfdlkkligjcbaaGreat
open Go.RowKit

/-- a struct that is built of its first field alone -/
theorem wpList_build1 {P : Program} {ops : Array Oper} {rest : List Oper} {o : Oper} {a : Act} {w : World} {Q : Exit → Act → World → Prop} (hg : o.guard = none) (t : TypeId) (x : Operand) (ho : o.op = .build t #[(0, x)]) (v : Value) (hv : a.eval x = v) (cs : Array Value)
    (hf : P.built t [(0, v)] = some cs) (h : wpList P ops Q rest (a.put o.dst (.agg cs)) w) : wpList P ops Q (o :: rest) a w := by
  have hf2 : P.built t ((#[(0, x)] : Array (Nat × Operand)).map fun (i, x) => (i, a.eval x)).toList = some cs := by
    subst hv
    simpa using hf
  exact wpList_build hg t _ ho (by rw [hf2]; rfl) (by rw [hf2]; exact h)
set_option maxRecDepth 100000 in
theorem built_space (x : Int) : Tryz.prog.built 158 [(0, .int .i64 x)] = some ((Array.replicate 273 (Value.int .i64 0)).setIfInBounds 0 (.int .i64 x)) := by kernel_rfl
theorem space_cells (n : Nat) : (Array.replicate 273 (Value.int .i64 0)).setIfInBounds 0 (.int .i64 n) = sc n (fun _ => 0) (fun _ => 0) (fun _ => 0) := by
  refine Array.ext (by simp [sc]) fun j h1 h2 => ?_
  rw [Array.getElem_setIfInBounds (by simpa using h1)]
  simp only [sc, Array.getElem_ofFn, scf]
  by_cases hj : 0 = j
  · subst hj; rfl
  · rw [if_neg hj, if_neg (fun e => hj e.symm)]
    split <;> (try split) <;> simp
/-- the first p rings are closed -/
def ida (p : Nat) : Int → Int := fun z => if 64 ≤ z ∧ z < 64 + p then z else 0
theorem ida_succ (p : Nat) (z : Int) (hz : z = 64 + p) : upd (ida p) z z = ida (p + 1) := by
  funext j
  subst hz
  unfold upd ida
  by_cases h : j = 64 + p
  · rw [if_pos h, if_pos (by omega), h]
  · rw [if_neg h]
    by_cases h2 : 64 ≤ j ∧ j < 64 + p
    · rw [if_pos h2, if_pos (by omega)]
    · rw [if_neg h2, if_neg (by omega)]
theorem inv_empt {n : Nat} (h : 1 ≤ n ∧ n ≤ 40) : Inv (ida n) (ida n) (fun _ => 0) (empt n) where
  sz := by simp [empt]; exact h
  wf := by
    have e : ∀ (i : Nat) l, (empt n)[i]? = some l → l = [] := fun i l hl => List.eq_of_mem_replicate (List.mem_of_getElem? hl)
    refine ⟨fun i l x hl hx => ?_, fun i l hl => ?_, fun i j l l' x hl _ hx => ?_⟩
    · rw [e i l hl] at hx; cases hx
    · rw [e i l hl]; simp
    · rw [e i l hl] at hx; cases hx
  ring := fun i l hl => by
    have hi : i < n := by have := (List.getElem?_eq_some_iff.1 hl).1; simpa [empt] using this
    rw [List.eq_of_mem_replicate (List.mem_of_getElem? hl)]
    refine ⟨⟨?_, ?_⟩, trivial⟩
    all_goals
      unfold ida
      rw [if_pos (by omega)]
  inn := fun i l x hl hx => by rw [List.eq_of_mem_replicate (List.mem_of_getElem? hl)] at hx; cases hx
  out := fun _ _ _ _ => rfl
set_option maxRecDepth 10000 in
set_option maxHeartbeats 1000000 in
theorem lnew_any (m : Int) (w : World) : Calls Tryz.prog 70 #[.int .i64 m] w fun e w' => ∃ k, e = .returned (.pointer (some ⟨k, 0, none⟩)) ∧ Sq w' k (empt (cl m)) ∧ Below w.heap.size w w' ∧ w.heap.size ≤ k := by
  have HE := hid (show (if 40 < (if m < 1 then (1 : Int) else m) then (40 : Int) else if m < 1 then 1 else m) = (cl m : Nat) from by
    unfold cl
    split <;> split <;> omega)
  have hle := cl_le m
  generalize cl m = n at *
  have HB := hid ((built_space n).trans (congrArg some (space_cells n)))
  go_enter Tryz.func70, Tryz.ntmps70
  go_upto_region 2 with (refine wpList_build1 rfl 158 (.tmp 8) rfl (.int .i64 n) (congrArg (Value.int .i64) HE.out) (sc n (fun _ => 0) (fun _ => 0) (fun _ => 0)) HB.out ?_)
  obtain ⟨u, hu⟩ : ∃ u, (if m < 1 then (1 : Int) else m) = u := ⟨_, rfl⟩
  rw [hu] at HE ⊢
  rw [HE.out]
  have HS0 := hid (show Sb (w.alloc (.cells (sc n (fun _ => 0) (fun _ => 0) (fun _ => 0)) 158)) w.heap.size n (ida 0) (ida 0) (fun _ => 0) from by
    have e : ida 0 = fun _ => 0 := by funext z; unfold ida; rw [if_neg (by omega)]
    rw [e]
    exact Bx.new w _ _)
  have HB0 := hid (below_alloc w (.cells (sc n (fun _ => 0) (fun _ => 0) (fun _ => 0)) 158))
  obtain ⟨W, hW⟩ : ∃ x, w.alloc (.cells (sc n (fun _ => 0) (fun _ => 0) (fun _ => 0)) 158) = x := ⟨_, rfl⟩
  rw [hW] at HS0 HB0 ⊢
  have c0 := HS0.out.cN
  obtain ⟨g, hgg⟩ : ∃ g, w.heap.size = g := ⟨_, rfl⟩
  rw [hgg] at c0 HS0 ⊢
  have HGG := hid hgg
  clear hgg hW hu HE HB
  go_wp2
  clear c0
  go_loopg [15] n (fun gk t wr => ∃ p : Nat, p + gk = n ∧ t = .int .i64 p ∧ Sb wr g n (ida p) (ida p) (fun _ => 0) ∧ Below w.heap.size w wr)
  case atStart => exact ⟨0, by omega, rfl, HS0.out, HB0.out⟩
  case round =>
    obtain ⟨p, hp, rfl, hs, hb⟩ := hrel
    have HS := hid hs
    have HB := hid hb
    clear hb
    by_cases hlt : p < n
    · obtain ⟨z, hz⟩ : ∃ z, 64 + p = z := ⟨_, rfl⟩
      have HCL := hid (fun w => closing_z w p z (by omega) hz)
      have ca := hs.cA (p := z) (by omega)
      have cb := hs.cB (p := z) (by omega)
      have fr := hs.free
      have z0 : (0 : Int) ≤ (z : Int) := by omega
      have z1 : (z : Int) < 104 := by omega
      have zz : z < 104 := by omega
      have HU := hid (ida_succ p z (by omega))
      have ne1 : 105 + z ≠ 1 + z := by omega
      have ne2 : 1 + z ≠ 105 + z := by omega
      have hpn : (p : Int) < (n : Int) := by omega
      generalize ida p (z : Int) = iz at ca cb
      clear hs hz
      go_upto_region 6 with (go_at_call 83; refine (HCL.out _).mono ?_; rintro e w4 ⟨rfl, rfl⟩)
      go_region
      go_wp2
      have HX := (HS.out.setA zz (z : Int)).setB zz (z : Int)
      rw [HU.out] at HX
      have HY := (((HB.out.setCell (Nat.le_of_eq HGG.out : w.heap.size ≤ (⟨g, 1 + z, none⟩ : Addr).block) (.int .i64 z))).setCell (Nat.le_of_eq HGG.out : w.heap.size ≤ (⟨g, 105 + z, none⟩ : Addr).block) (.int .i64 z))
      go_roundg (gk - 1)
      case measure => omega
      case rel => exact ⟨p + 1, by omega, by go_num, HX.draws 1, below_draws HY 1⟩
    · obtain rfl : p = n := by omega
      have hpn : ¬ (p : Int) < (p : Int) := by omega
      clear hs
      go_wp2
      go_ret
      exact ⟨g, rfl, ⟨_, _, _, by rw [show (empt p).length = p from by simp [empt]]; exact HS.out, inv_empt hle⟩, HB.out, Nat.le_of_eq HGG.out⟩
end Go.Proofs.YtmfdlkkligjcbaaGreat
