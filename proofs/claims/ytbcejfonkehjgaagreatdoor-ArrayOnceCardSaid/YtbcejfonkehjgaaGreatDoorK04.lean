/-
  What is proved: list's Of, First, Last, All, Len and Ahead. Condition: the space lies in memory as one.
  (Left out here, as nothing of this law reaches it: ahead_nil, ahead_no, ahead_in.) -/
import Derived.Test.YtbcejfonkehjgaaGreatDoorK03
import Derived.BigQuiet
import Derived.Laws.Tables
namespace Go.Proofs.YtbcejfonkehjgaaGreatDoor
open Go.RowKit

abbrev nl : Value := .slice none 0 0
theorem GrW.nilBelow {w w' : World} {v : Value} (h : GrW w w' nl v) : Below w.heap.size w w' := ⟨h.gr.os, h.gr.tape, h.gr.output, h.gr.size, fun j hj => h.gr.block j hj (by simp [Value.ownBlock])⟩
theorem quietL {P : Program} {f : FuncId} {args : Array Value} {w : World} {n : Nat} {v : Value} (h : Calls P f args (w.drewN n) fun e w' => e = .returned v ∧ w.drewN n = w') :
    Calls P f args (w.drewN n) fun e w'' => e = .returned v ∧ ∃ m, w'' = w.drewN m := h.mono fun _ _ ⟨he, hm⟩ => ⟨he, n, hm.symm⟩
theorem ints_take_succ {l : List Int} {j : Nat} (h : j < l.length) : ints (l.take (j + 1)) = ints (l.take j) ++ [.int .i64 l[j]] := by
  unfold ints
  rw [List.take_succ_eq_append_getElem h, List.map_append]
  rfl

section
variable {w : World} {k : Nat} {S : List (List Int)}
set_option maxHeartbeats 400000 in
theorem of_yes (h : Sq w k S) {i : Nat} {l : List Int} (hl : S[i]? = some l) {x : Int} (hx : x ∈ l) : Calls Tryz.prog 210 #[.pointer (some ⟨k, 0, none⟩), .int .i64 x] w fun e w' => e = .returned (.tuple #[.int .i64 i, .bool true]) ∧ w = w' := by
  have HH := hid (holds_any h x)
  rw [dec_true ⟨i, l, hl, hx⟩] at HH
  obtain ⟨a, b, c, hs, hi⟩ := h
  have hv := hi.wf.lt i l x hl hx
  obtain ⟨p, rfl⟩ : ∃ p : Nat, x = p := ⟨x.toNat, by omega⟩
  have cc := hs.cC (p := p) (by omega)
  rw [hi.inn i l p hl hx] at cc
  have hi40 : i < 40 := by have := (List.getElem?_eq_some_iff.1 hl).1; have := hi.sz; omega
  obtain ⟨p0, p1⟩ := hv
  clear hs hi hl hx
  go_enter Tryz.func210, Tryz.ntmps210
  go_wp2_with (go_at_call 218; refine HH.out.mono ?_; rintro e w' ⟨rfl, rfl⟩)
  go_ret2
  refine ⟨?_, rfl⟩
  go_num
set_option maxHeartbeats 400000 in
theorem of_no (h : Sq w k S) {x : Int} (hx : ¬ inS S x) : Calls Tryz.prog 210 #[.pointer (some ⟨k, 0, none⟩), .int .i64 x] w fun e w' => e = .returned (.tuple #[.int .i64 0, .bool false]) ∧ w = w' := by
  have HH := hid (holds_any h x)
  rw [dec_false hx] at HH
  clear h hx
  go_enter Tryz.func210, Tryz.ntmps210
  go_wp2_with (go_at_call 218; refine HH.out.mono ?_; rintro e w' ⟨rfl, rfl⟩)
  go_ret2
  exact ⟨rfl, rfl⟩
def firstV (l : List Int) : Value := match l with | [] => .tuple #[.int .i64 0, .bool false] | x :: _ => .tuple #[.int .i64 x, .bool true]
def lastV (l : List Int) : Value := if h : l = [] then .tuple #[.int .i64 0, .bool false] else .tuple #[.int .i64 (l.getLast h), .bool true]
def atV (x : Int) : Value := if vb x then .tuple #[.int .i64 x, .bool true] else .tuple #[.int .i64 0, .bool false]
theorem blockat_any (w : World) (x : Int) : Calls Tryz.prog 219 #[.int .i64 x] w fun e w' => e = .returned (atV x) ∧ w = w' := by
  unfold atV
  split
  · rename_i h; exact blockat_yes w x h
  · rename_i h; exact blockat_no w x h
theorem atV_shape (x : Int) : ∃ y b, atV x = .tuple #[.int .i64 y, .bool b] := by
  unfold atV
  split
  · exact ⟨_, _, rfl⟩
  · exact ⟨_, _, rfl⟩
set_option maxHeartbeats 400000 in
theorem first_in (h : Sq w k S) {i : Nat} {l : List Int} (hl : S[i]? = some l) : Calls Tryz.prog 211 #[.pointer (some ⟨k, 0, none⟩), .int .i64 i] w fun e w' => e = .returned (firstV l) ∧ ∃ d, w' = w.drewN d := by
  have hil := (List.getElem?_eq_some_iff.1 hl).1
  have HH := hid (has_any h i)
  rw [decide_eq_true (show isl S i from ⟨by omega, by omega⟩)] at HH
  obtain ⟨a, b, c, hs, hi⟩ := h
  have hi40 : i < 40 := by have := hi.sz; omega
  obtain ⟨z, hz⟩ : ∃ z, 64 + i = z := ⟨_, rfl⟩
  have HCL := hid (fun w => closing_z w i z hi40 hz)
  have cc := hs.cB (p := z) (by omega)
  have hzz : (z : Int) = 64 + (i : Int) := by omega
  have ev : firstV l = atV (b z) := by
    rw [hzz, hi.first hl]
    have hb := nd_block hi hl 0
    cases l with
    | nil => unfold atV; rw [if_neg (show ¬ vb _ from fun hh => by have := hb.1 hh; simp at this)]; rfl
    | cons x l => unfold atV; rw [if_pos (show vb _ from hb.2 (by simp))]; rfl
  rw [ev]
  obtain ⟨y, t, e⟩ := atV_shape (b z)
  have HB := hid (fun w => blockat_any w (b z))
  rw [e] at HB ⊢
  have b1 : (z : Int) < 104 := by omega
  have b0 : 0 ≤ (z : Int) := by omega
  generalize b z = bz at *
  clear hs hi hl hil hz hzz ev e
  go_enter Tryz.func211, Tryz.ntmps211
  go_upto_region 3 with (go_at_call 216; refine HH.out.mono ?_; rintro e w' ⟨rfl, rfl⟩)
  go_quiet (first | (go_at_call 145; exact quietL (HCL.out _)) | (go_at_call 219; exact quietL (HB.out _)))
  go_wp2
  go_ret2
  exact ⟨rfl, _, rfl⟩
set_option maxHeartbeats 400000 in
theorem last_in (h : Sq w k S) {i : Nat} {l : List Int} (hl : S[i]? = some l) : Calls Tryz.prog 212 #[.pointer (some ⟨k, 0, none⟩), .int .i64 i] w fun e w' => e = .returned (lastV l) ∧ ∃ d, w' = w.drewN d := by
  have hil := (List.getElem?_eq_some_iff.1 hl).1
  have HH := hid (has_any h i)
  rw [decide_eq_true (show isl S i from ⟨by omega, by omega⟩)] at HH
  obtain ⟨a, b, c, hs, hi⟩ := h
  have hi40 : i < 40 := by have := hi.sz; omega
  obtain ⟨z, hz⟩ : ∃ z, 64 + i = z := ⟨_, rfl⟩
  have HCL := hid (fun w => closing_z w i z hi40 hz)
  have cc := hs.cA (p := z) (by omega)
  have hzz : (z : Int) = 64 + (i : Int) := by omega
  have ev : lastV l = atV (a z) := by
    rw [hzz, hi.last hl]
    unfold lastV atV
    by_cases hn : l = []
    · subst hn
      rw [dif_pos rfl, if_neg (show ¬ vb _ from fun hh => by have := hh.2; simp at this; omega)]
    · rw [dif_neg hn, List.getLast_cons hn, if_pos (show vb _ from hi.wf.lt i l _ hl (List.getLast_mem hn))]
  rw [ev]
  obtain ⟨y, t, e⟩ := atV_shape (a z)
  have HB := hid (fun w => blockat_any w (a z))
  rw [e] at HB ⊢
  have b1 : (z : Int) < 104 := by omega
  have b0 : 0 ≤ (z : Int) := by omega
  generalize a z = bz at *
  clear hs hi hl hil hz hzz ev e
  go_enter Tryz.func212, Tryz.ntmps212
  go_upto_region 3 with (go_at_call 216; refine HH.out.mono ?_; rintro e w' ⟨rfl, rfl⟩)
  go_quiet (first | (go_at_call 145; exact quietL (HCL.out _)) | (go_at_call 219; exact quietL (HB.out _)))
  go_wp2
  go_ret2
  exact ⟨rfl, _, rfl⟩
def Told (w : World) (l : List Int) (e : Ending) (w' : World) : Prop := ∃ A c, e = .returned (.slice A l.length c) ∧ OwnW w' 3 (.slice A l.length c) (ints l) ∧ GrW w w' nl (.slice A l.length c)
set_option maxRecDepth 10000 in
set_option maxHeartbeats 1000000 in
theorem all_in (h : Sq w k S) {i : Nat} {l : List Int} (hl : S[i]? = some l) : Calls Tryz.prog 208 #[.pointer (some ⟨k, 0, none⟩), .int .i64 i] w (Told w l) := by
  have hil := (List.getElem?_eq_some_iff.1 hl).1
  have HH := hid (has_any h i)
  rw [decide_eq_true (show isl S i from ⟨by omega, by omega⟩)] at HH
  obtain ⟨a, b, c, hs, hi⟩ := h
  have hi40 : i < 40 := by have := hi.sz; omega
  obtain ⟨z, hz⟩ : ∃ z, 64 + i = z := ⟨_, rfl⟩
  have HCL := hid (fun w => closing_z w i z hi40 hz)
  have cc := hs.cB (p := z) (by omega)
  have hzz : (z : Int) = 64 + (i : Int) := by omega
  rw [hzz, hi.first hl] at cc
  have hl64 : l.length ≤ 64 := hi.wf.len hl
  have HI := hid hi
  have HL := hid hl
  have HS := hid hs
  have b1 : (z : Int) < 104 := by omega
  have b0 : 0 ≤ (z : Int) := by omega
  clear hs hi hl hil hz hzz
  go_enter Tryz.func208, Tryz.ntmps208
  go_upto_region 4 with (go_at_call 216; refine HH.out.mono ?_; rintro e w' ⟨rfl, rfl⟩)
  go_quiet (first | (go_at_call 145; exact quietL (HCL.out _)))
  go_wp2
  have HG0 := hid (show GrW w (w.drewN nq) nl nl from GrW.of (below_draws (Below.refl _ _) _) _)
  clear cc b0 b1
  generalize w.drewN nq = w0 at *
  go_loopg [5, 6] l.length (fun gk s t wr => ∃ (j : Nat) (v : Value), j + gk = l.length ∧ v = s ∧ t = .int .i64 (nd l (64 + (i : Int)) j) ∧ OwnW wr 3 v (ints (l.take j)) ∧ GrW w wr nl v)
  case atStart => exact ⟨0, _, by omega, rfl, rfl, ownW_nil _ _, HG0.out⟩
  case round =>
    obtain ⟨j, v, hj, rfl, rfl, ho, hg⟩ := hrel
    have hb := nd_block HI.out HL.out j
    have hr := nd_lt HI.out HL.out j
    by_cases hlt : j < l.length
    · have hx := HI.out.next HL.out hlt
      have hin := nd_in (e := 64 + (i : Int)) hlt
      have HT := ints_take_succ hlt
      rw [← hin] at HT
      generalize hy : nd l (64 + (i : Int)) (j + 1) = y at hx
      generalize nd l (64 + (i : Int)) j = x at *
      obtain ⟨p, rfl⟩ : ∃ p : Nat, x = p := ⟨x.toNat, by omega⟩
      have HB := hid (fun w => isblock_any w (p : Int))
      rw [decide_eq_true (show vb (p : Int) from hb.2 hlt)] at HB
      have HL1 := hid (show (ints (l.take j)).length = j from by rw [ints_length, List.length_take]; omega)
      have HO1 := hid (ho.below (below_alloc wr (.cells #[.int .i64 p] 3)))
      have HG1 := hid (hg.trans (GrW.of (below_alloc wr (.cells #[.int .i64 p] 3)) v))
      have HR1 := hid (rv_new wr 3 #[.int .i64 p])
      have HK := hid (Bx.lt HS.out)
      have HX := hid hx
      have HY := hid hy
      have HTT := hid HT
      obtain ⟨A, c0, e0, -⟩ := ho.read
      rw [HL1.out] at e0
      subst e0
      have p0 : (0 : Int) ≤ (p : Int) := by omega
      have p1 : (p : Int) < 104 := by omega
      have HP := hid (show p < 104 from by omega)
      clear hb hr hx hin HT ho hg hy
      go_upto_region 7 with (go_at_call 217; refine (HB.out _).mono ?_; rintro e w' ⟨rfl, rfl⟩)
      go_wp2_with (at_builtin; go_loud (refine wpList_appW elt_int rfl (.tmp 26) (.tmp 28) rfl _ _ HO1.out rfl _ _ 1 1 [.int .i64 p] rfl rfl HR1.out (fun u hu => by simp at hu; subst hu; rfl) (by rw [HL1.out]; unfold maxLen; omega) (by rw [HL1.out]; omega) ?_); go_loud (intro v2 w2 hown2 hg2; have HG2 := hid (HG1.out.trans hg2); have HO2 := hid hown2; have hb2 := HG2.out.nilBelow; have cb := (HS.out.next hb2).cB HP.out; rw [HX.out] at cb; clear hown2 hg2 hb2))
      go_roundg (gk - 1)
      case measure => omega
      case rel => exact ⟨j + 1, v2, by omega, rfl, by rw [HY.out], by rw [HTT.out]; exact HO2.out, HG2.out⟩
    · obtain rfl : j = l.length := by omega
      have HB := hid (fun w => isblock_any w (nd l (64 + (i : Int)) l.length))
      rw [decide_eq_false (show ¬ vb _ from fun hh => by have := hb.1 hh; omega)] at HB
      rw [List.take_length] at ho
      have HO := hid ho
      have HG := hid hg
      obtain ⟨A, c0, e0, -⟩ := ho.read
      rw [ints_length] at e0
      subst e0
      clear hb hr ho hg
      generalize nd l (64 + (i : Int)) l.length = y at *
      go_wp2_with (go_at_call 217; refine (HB.out _).mono ?_; rintro e w' ⟨rfl, rfl⟩)
      go_ret
      exact ⟨_, _, rfl, HO.out, HG.out⟩
set_option maxHeartbeats 400000 in
theorem len_in (h : Sq w k S) {i : Nat} {l : List Int} (hl : S[i]? = some l) : Calls Tryz.prog 205 #[.pointer (some ⟨k, 0, none⟩), .int .i64 i] w fun e w' => e = .returned (.int .i64 l.length) ∧ Below w.heap.size w w' := by
  have HA := hid (all_in h hl)
  clear h hl
  go_enter Tryz.func205, Tryz.ntmps205
  go_wp2_with (go_at_call 208; refine HA.out.mono ?_; rintro e w' ⟨A, c, rfl, ho, hg⟩; have HG := hid hg.nilBelow; clear ho hg)
  go_ret
  exact ⟨rfl, HG.out⟩
def behind (l : List Int) (j : Nat) (y : Int) : Prop := ∃ q, j < q ∧ l[q]? = some y











































































end
end Go.Proofs.YtbcejfonkehjgaaGreatDoor
namespace Go.Proofs.YtbcejfonkehjgaaGreatDoor
open Go.RowKit

section
variable {w w' : World} {k : Nat} {v : Value} {us : List Value} {S : List (List Int)} {F G : Nat → Prop}







































end
end Go.Proofs.YtbcejfonkehjgaaGreatDoor
namespace Go.Proofs.YtbcejfonkehjgaaGreatDoor
open Go.RowKit

set_option maxHeartbeats 400000 in
theorem sameints_yes (A B : Option Addr) (n m ca cb : Nat) (l : List Int) (w : World) (C D : Nat) (hn : l.length = n) (hm : l.length = m) (hlen : n ≤ maxLen) (ra : Rv w C A (ints l)) (rb : Rv w D B (ints l)) :
    Calls Tryz.prog 18 #[.slice A n ca, .slice B m cb] w fun e w' => e = .returned (.bool true) ∧ ∃ k, w' = w.drewN k := by
  subst hn
  subst hm
  unfold maxLen at hlen
  go_enter Tryz.func18, Tryz.ntmps18
  go_wp2
  go_loopw [5] (fun i wr => ∃ k d : Nat, k ≤ l.length ∧ i = .int .i64 k ∧ wr = w.drewN d) (fun i _ => l.length - (intOf i).toNat)
  case atStart => exact ⟨0, 0, Nat.zero_le _, rfl, rfl⟩
  case round =>
    obtain ⟨k, d, hk, rfl, rfl⟩ := hrel
    by_cases hlt : k < l.length
    · obtain ⟨a, rfl, _, hca⟩ := ra.get (k := k) (by rw [ints_length]; exact hlt)
      obtain ⟨b, rfl, _, hcb⟩ := rb.get (k := k) (by rw [ints_length]; exact hlt)
      have e : (ints l)[k]'(by rw [ints_length]; exact hlt) = .int .i64 (l[k]) := by simp [ints]
      rw [e] at hca hcb
      clear e
      have hlt' : (k : Int) < (l.length : Int) := by omega
      go_wp2
      go_quiet (fail)
      go_wp2
      go_roundw
      case rel => exact ⟨k + 1, _, by omega, by go_num, rfl⟩
      case measure => simp [intOf]; omega
    · have hlt' : ¬ (k : Int) < (l.length : Int) := by omega
      go_wp2
      go_ret
      exact ⟨rfl, _, rfl⟩

section
variable {w : World} {k : Nat} {v : Value} {us : List Value} {S : List (List Int)}



































































































end

def cl (m : Int) : Nat := (min (max m 1) 40).toNat
theorem cl_le (m : Int) : 1 ≤ cl m ∧ cl m ≤ 40 := by unfold cl; omega
def empt (n : Nat) : List (List Int) := List.replicate n []



end Go.Proofs.YtbcejfonkehjgaaGreatDoor
namespace Go.Proofs.YtbcejfonkehjgaaGreatDoor
open Go.RowKit

theorem wpList_build1 {P : Program} {ops : Array Oper} {rest : List Oper} {o : Oper} {a : Act} {w : World} {Q : Exit → Act → World → Prop} (hg : o.guard = none) (t : TypeId) (x : Operand) (ho : o.op = .build t #[(0, x)]) (v : Value) (hv : a.eval x = v) (cs : Array Value)
    (hf : P.built t [(0, v)] = some cs) (h : wpList P ops Q rest (a.put o.dst (.agg cs)) w) : wpList P ops Q (o :: rest) a w := by
  have hf2 : P.built t ((#[(0, x)] : Array (Nat × Operand)).map fun (i, x) => (i, a.eval x)).toList = some cs := by
    subst hv
    simpa using hf
  exact wpList_build hg t _ ho (by rw [hf2]; rfl) (by rw [hf2]; exact h)
set_option maxRecDepth 100000 in
theorem built_space (x : Int) : Tryz.prog.built 233 [(0, .int .i64 x)] = some ((Array.replicate 273 (Value.int .i64 0)).setIfInBounds 0 (.int .i64 x)) := by kernel_rfl
theorem space_cells (n : Nat) : (Array.replicate 273 (Value.int .i64 0)).setIfInBounds 0 (.int .i64 n) = sc n (fun _ => 0) (fun _ => 0) (fun _ => 0) := by
  refine Array.ext (by simp [sc]) fun j h1 h2 => ?_
  rw [Array.getElem_setIfInBounds (by simpa using h1)]
  simp only [sc, Array.getElem_ofFn, scf]
  by_cases hj : 0 = j
  · subst hj; rfl
  · rw [if_neg hj, if_neg (fun e => hj e.symm)]
    split <;> (try split) <;> simp
def ida (p : Nat) : Int → Int := fun z => if 64 ≤ z ∧ z < 64 + p then z else 0
theorem ida_succ (p : Nat) (z : Int) (hz : z = 64 + p) : upd (ida p) z z = ida (p + 1) := by
  funext j
  subst hz
  unfold upd ida
  by_cases h : j = 64 + p
  · rw [if_pos h, if_pos (by omega), h]
  · rw [if_neg h]
    by_cases h2 : 64 ≤ j ∧ j < 64 + p
    · rw [if_pos h2, if_pos (by omega)]
    · rw [if_neg h2, if_neg (by omega)]
theorem inv_empt {n : Nat} (h : 1 ≤ n ∧ n ≤ 40) : Inv (ida n) (ida n) (fun _ => 0) (empt n) where
  sz := by simp [empt]; exact h
  wf := by
    have e : ∀ (i : Nat) l, (empt n)[i]? = some l → l = [] := fun i l hl => List.eq_of_mem_replicate (List.mem_of_getElem? hl)
    refine ⟨fun i l x hl hx => ?_, fun i l hl => ?_, fun i j l l' x hl _ hx => ?_⟩
    · rw [e i l hl] at hx; cases hx
    · rw [e i l hl]; simp
    · rw [e i l hl] at hx; cases hx
  ring := fun i l hl => by
    have hi : i < n := by have := (List.getElem?_eq_some_iff.1 hl).1; simpa [empt] using this
    rw [List.eq_of_mem_replicate (List.mem_of_getElem? hl)]
    refine ⟨⟨?_, ?_⟩, trivial⟩
    all_goals
      unfold ida
      rw [if_pos (by omega)]
  inn := fun i l x hl hx => by rw [List.eq_of_mem_replicate (List.mem_of_getElem? hl)] at hx; cases hx
  out := fun _ _ _ _ => rfl
set_option maxRecDepth 10000 in
set_option maxHeartbeats 1000000 in
theorem lnew_any (m : Int) (w : World) : Calls Tryz.prog 112 #[.int .i64 m] w fun e w' => ∃ k, e = .returned (.pointer (some ⟨k, 0, none⟩)) ∧ Sq w' k (empt (cl m)) ∧ Below w.heap.size w w' ∧ w.heap.size ≤ k := by
  have HE := hid (show (if 40 < (if m < 1 then (1 : Int) else m) then (40 : Int) else if m < 1 then 1 else m) = (cl m : Nat) from by
    unfold cl
    split <;> split <;> omega)
  have hle := cl_le m
  generalize cl m = n at *
  have HB := hid ((built_space n).trans (congrArg some (space_cells n)))
  go_enter Tryz.func112, Tryz.ntmps112
  go_upto_region 2 with (refine wpList_build1 rfl 233 (.tmp 8) rfl (.int .i64 n) (congrArg (Value.int .i64) HE.out) (sc n (fun _ => 0) (fun _ => 0) (fun _ => 0)) HB.out ?_)
  obtain ⟨u, hu⟩ : ∃ u, (if m < 1 then (1 : Int) else m) = u := ⟨_, rfl⟩
  rw [hu] at HE ⊢
  rw [HE.out]
  have HS0 := hid (show Sb (w.alloc (.cells (sc n (fun _ => 0) (fun _ => 0) (fun _ => 0)) 233)) w.heap.size n (ida 0) (ida 0) (fun _ => 0) from by
    have e : ida 0 = fun _ => 0 := by funext z; unfold ida; rw [if_neg (by omega)]
    rw [e]
    exact Bx.new w _ _)
  have HB0 := hid (below_alloc w (.cells (sc n (fun _ => 0) (fun _ => 0) (fun _ => 0)) 233))
  obtain ⟨W, hW⟩ : ∃ x, w.alloc (.cells (sc n (fun _ => 0) (fun _ => 0) (fun _ => 0)) 233) = x := ⟨_, rfl⟩
  rw [hW] at HS0 HB0 ⊢
  have c0 := HS0.out.cN
  obtain ⟨g, hgg⟩ : ∃ g, w.heap.size = g := ⟨_, rfl⟩
  rw [hgg] at c0 HS0 ⊢
  have HGG := hid hgg
  clear hgg hW hu HE HB
  go_wp2
  clear c0
  go_loopg [15] n (fun gk t wr => ∃ p : Nat, p + gk = n ∧ t = .int .i64 p ∧ Sb wr g n (ida p) (ida p) (fun _ => 0) ∧ Below w.heap.size w wr)
  case atStart => exact ⟨0, by omega, rfl, HS0.out, HB0.out⟩
  case round =>
    obtain ⟨p, hp, rfl, hs, hb⟩ := hrel
    have HS := hid hs
    have HB := hid hb
    clear hb
    by_cases hlt : p < n
    · obtain ⟨z, hz⟩ : ∃ z, 64 + p = z := ⟨_, rfl⟩
      have HCL := hid (fun w => closing_z w p z (by omega) hz)
      have ca := hs.cA (p := z) (by omega)
      have cb := hs.cB (p := z) (by omega)
      have fr := hs.free
      have z0 : (0 : Int) ≤ (z : Int) := by omega
      have z1 : (z : Int) < 104 := by omega
      have zz : z < 104 := by omega
      have HU := hid (ida_succ p z (by omega))
      have ne1 : 105 + z ≠ 1 + z := by omega
      have ne2 : 1 + z ≠ 105 + z := by omega
      have hpn : (p : Int) < (n : Int) := by omega
      generalize ida p (z : Int) = iz at ca cb
      clear hs hz
      go_upto_region 6 with (go_at_call 145; refine (HCL.out _).mono ?_; rintro e w4 ⟨rfl, rfl⟩)
      go_region
      go_wp2
      have HX := (HS.out.setA zz (z : Int)).setB zz (z : Int)
      rw [HU.out] at HX
      have HY := (((HB.out.setCell (Nat.le_of_eq HGG.out : w.heap.size ≤ (⟨g, 1 + z, none⟩ : Addr).block) (.int .i64 z))).setCell (Nat.le_of_eq HGG.out : w.heap.size ≤ (⟨g, 105 + z, none⟩ : Addr).block) (.int .i64 z))
      go_roundg (gk - 1)
      case measure => omega
      case rel => exact ⟨p + 1, by omega, by go_num, HX.draws 1, below_draws HY 1⟩
    · obtain rfl : p = n := by omega
      have hpn : ¬ (p : Int) < (p : Int) := by omega
      clear hs
      go_wp2
      go_ret
      exact ⟨g, rfl, ⟨_, _, _, by rw [show (empt p).length = p from by simp [empt]]; exact HS.out, inv_empt hle⟩, HB.out, Nat.le_of_eq HGG.out⟩
end Go.Proofs.YtbcejfonkehjgaaGreatDoor
