/-
  What is proved: list's Of, First, Last, All, Len and Ahead. Condition: the space lies in memory as one.
  (Left out here, as nothing of this law reaches it: ahead_nil, ahead_no, ahead_in.) -/
import Derived.Test.YtibppolcchhmaaaK22
import Derived.BigQuiet
import Derived.Test.YtibppolcchhmaaaK23
namespace Go.Proofs.Ytibppolcchhmaaa
open Go.RowKit

abbrev nl : Value := .slice none 0 0
theorem GrW.nilBelow {w w' : World} {v : Value} (h : GrW w w' nl v) : Below w.heap.size w w' := ⟨h.gr.os, h.gr.tape, h.gr.output, h.gr.size, fun j hj => h.gr.block j hj (by simp [Value.ownBlock])⟩
theorem GrW.fresh {w w' : World} {v : Value} (h : GrW w w' nl v) (u : Value) : GrW w w' u v := ⟨grown_below h.nilBelow _, .inr fun g e => by
  rcases h.at_ with e1 | e1
  · rw [e1] at e; simp [Value.ownBlock] at e
  · exact e1 g e⟩
theorem infoInt : (Try.prog.info? 3).map (fun i => (i.zero, i.size, i.bytes)) = some (some (.int .i64 0), 1, 8) := by kernel_rfl
theorem elt_int : Elt Try.prog 40 3 (.int .i64 0) 1 8 := ⟨Try.underlying40, infoInt, rfl, by decide⟩
theorem quietL {P : Program} {f : FuncId} {args : Array Value} {w : World} {n : Nat} {v : Value} (h : Calls P f args (w.drewN n) fun e w' => e = .returned v ∧ w.drewN n = w') :
    Calls P f args (w.drewN n) fun e w'' => e = .returned v ∧ ∃ m, w'' = w.drewN m := h.mono fun _ _ ⟨he, hm⟩ => ⟨he, n, hm.symm⟩
theorem ints_take_succ {l : List Int} {j : Nat} (h : j < l.length) : ints (l.take (j + 1)) = ints (l.take j) ++ [.int .i64 l[j]] := by
  unfold ints
  rw [List.take_succ_eq_append_getElem h, List.map_append]
  rfl

section
variable {w : World} {k : Nat} {S : List (List Int)}
set_option maxHeartbeats 400000 in
theorem of_yes (h : Sq w k S) {i : Nat} {l : List Int} (hl : S[i]? = some l) {x : Int} (hx : x ∈ l) : Calls Try.prog 35 #[.pointer (some ⟨k, 0, none⟩), .int .i64 x] w fun e w' => e = .returned (.tuple #[.int .i64 i, .bool true]) ∧ w = w' := by
  have HH := hid (holds_any h x)
  rw [dec_true ⟨i, l, hl, hx⟩] at HH
  obtain ⟨a, b, c, hs, hi⟩ := h
  have hv := hi.wf.lt i l x hl hx
  obtain ⟨p, rfl⟩ : ∃ p : Nat, x = p := ⟨x.toNat, by omega⟩
  have cc := hs.cC (p := p) (by omega)
  rw [hi.inn i l p hl hx] at cc
  have hi40 : i < 40 := by have := (List.getElem?_eq_some_iff.1 hl).1; have := hi.sz; omega
  obtain ⟨p0, p1⟩ := hv
  clear hs hi hl hx
  go_enter Try.func35, Try.ntmps35
  go_wp2_with (go_at_call 52; refine HH.out.mono ?_; rintro e w' ⟨rfl, rfl⟩)
  go_ret2
  refine ⟨?_, rfl⟩
  go_num
set_option maxHeartbeats 400000 in
theorem of_no (h : Sq w k S) {x : Int} (hx : ¬ inS S x) : Calls Try.prog 35 #[.pointer (some ⟨k, 0, none⟩), .int .i64 x] w fun e w' => e = .returned (.tuple #[.int .i64 0, .bool false]) ∧ w = w' := by
  have HH := hid (holds_any h x)
  rw [dec_false hx] at HH
  clear h hx
  go_enter Try.func35, Try.ntmps35
  go_wp2_with (go_at_call 52; refine HH.out.mono ?_; rintro e w' ⟨rfl, rfl⟩)
  go_ret2
  exact ⟨rfl, rfl⟩
set_option maxHeartbeats 400000 in
theorem of_nil (w : World) (x : Int) : Calls Try.prog 35 #[.pointer none, .int .i64 x] w fun e w' => e = .returned (.tuple #[.int .i64 0, .bool false]) ∧ w = w' := by
  go_enter Try.func35, Try.ntmps35
  go_wp2_with (go_at_call 52; refine (holds_nil _ _).mono ?_; rintro e w' ⟨rfl, rfl⟩)
  go_ret2
  exact ⟨rfl, rfl⟩

/-- the front one, the back one -/
def firstV (l : List Int) : Value := match l with | [] => .tuple #[.int .i64 0, .bool false] | x :: _ => .tuple #[.int .i64 x, .bool true]
def lastV (l : List Int) : Value := if h : l = [] then .tuple #[.int .i64 0, .bool false] else .tuple #[.int .i64 (l.getLast h), .bool true]
def atV (x : Int) : Value := if vb x then .tuple #[.int .i64 x, .bool true] else .tuple #[.int .i64 0, .bool false]
theorem blockat_any (w : World) (x : Int) : Calls Try.prog 63 #[.int .i64 x] w fun e w' => e = .returned (atV x) ∧ w = w' := by
  unfold atV
  split
  · rename_i h; exact blockat_yes w x h
  · rename_i h; exact blockat_no w x h
theorem atV_shape (x : Int) : ∃ y b, atV x = .tuple #[.int .i64 y, .bool b] := by
  unfold atV
  split
  · exact ⟨_, _, rfl⟩
  · exact ⟨_, _, rfl⟩
set_option maxHeartbeats 400000 in
theorem first_in (h : Sq w k S) {i : Nat} {l : List Int} (hl : S[i]? = some l) : Calls Try.prog 56 #[.pointer (some ⟨k, 0, none⟩), .int .i64 i] w fun e w' => e = .returned (firstV l) ∧ ∃ d, w' = w.drewN d := by
  have hil := (List.getElem?_eq_some_iff.1 hl).1
  have HH := hid (has_any h i)
  rw [decide_eq_true (show isl S i from ⟨by omega, by omega⟩)] at HH
  obtain ⟨a, b, c, hs, hi⟩ := h
  have hi40 : i < 40 := by have := hi.sz; omega
  obtain ⟨z, hz⟩ : ∃ z, 64 + i = z := ⟨_, rfl⟩
  have HCL := hid (fun w => closing_z w i z hi40 hz)
  have cc := hs.cB (p := z) (by omega)
  have hzz : (z : Int) = 64 + (i : Int) := by omega
  have ev : firstV l = atV (b z) := by
    rw [hzz, hi.first hl]
    have hb := nd_block hi hl 0
    cases l with
    | nil => unfold atV; rw [if_neg (show ¬ vb _ from fun hh => by have := hb.1 hh; simp at this)]; rfl
    | cons x l => unfold atV; rw [if_pos (show vb _ from hb.2 (by simp))]; rfl
  rw [ev]
  obtain ⟨y, t, e⟩ := atV_shape (b z)
  have HB := hid (fun w => blockat_any w (b z))
  rw [e] at HB ⊢
  have b1 : (z : Int) < 104 := by omega
  have b0 : 0 ≤ (z : Int) := by omega
  generalize b z = bz at *
  clear hs hi hl hil hz hzz ev e
  go_enter Try.func56, Try.ntmps56
  go_upto_region 3 with (go_at_call 59; refine HH.out.mono ?_; rintro e w' ⟨rfl, rfl⟩)
  go_quiet (first | (go_at_call 49; exact quietL (HCL.out _)) | (go_at_call 63; exact quietL (HB.out _)))
  go_wp2
  go_ret2
  exact ⟨rfl, _, rfl⟩
set_option maxHeartbeats 400000 in
theorem last_in (h : Sq w k S) {i : Nat} {l : List Int} (hl : S[i]? = some l) : Calls Try.prog 57 #[.pointer (some ⟨k, 0, none⟩), .int .i64 i] w fun e w' => e = .returned (lastV l) ∧ ∃ d, w' = w.drewN d := by
  have hil := (List.getElem?_eq_some_iff.1 hl).1
  have HH := hid (has_any h i)
  rw [decide_eq_true (show isl S i from ⟨by omega, by omega⟩)] at HH
  obtain ⟨a, b, c, hs, hi⟩ := h
  have hi40 : i < 40 := by have := hi.sz; omega
  obtain ⟨z, hz⟩ : ∃ z, 64 + i = z := ⟨_, rfl⟩
  have HCL := hid (fun w => closing_z w i z hi40 hz)
  have cc := hs.cA (p := z) (by omega)
  have hzz : (z : Int) = 64 + (i : Int) := by omega
  have ev : lastV l = atV (a z) := by
    rw [hzz, hi.last hl]
    unfold lastV atV
    by_cases hn : l = []
    · subst hn
      rw [dif_pos rfl, if_neg (show ¬ vb _ from fun hh => by have := hh.2; simp at this; omega)]
    · rw [dif_neg hn, List.getLast_cons hn, if_pos (show vb _ from hi.wf.lt i l _ hl (List.getLast_mem hn))]
  rw [ev]
  obtain ⟨y, t, e⟩ := atV_shape (a z)
  have HB := hid (fun w => blockat_any w (a z))
  rw [e] at HB ⊢
  have b1 : (z : Int) < 104 := by omega
  have b0 : 0 ≤ (z : Int) := by omega
  generalize a z = bz at *
  clear hs hi hl hil hz hzz ev e
  go_enter Try.func57, Try.ntmps57
  go_upto_region 3 with (go_at_call 59; refine HH.out.mono ?_; rintro e w' ⟨rfl, rfl⟩)
  go_quiet (first | (go_at_call 49; exact quietL (HCL.out _)) | (go_at_call 63; exact quietL (HB.out _)))
  go_wp2
  go_ret2
  exact ⟨rfl, _, rfl⟩
set_option maxHeartbeats 400000 in
theorem first_nil (w : World) (x : Int) : Calls Try.prog 56 #[.pointer none, .int .i64 x] w fun e w' => e = .returned (.tuple #[.int .i64 0, .bool false]) ∧ w = w' := by
  go_enter Try.func56, Try.ntmps56
  go_wp2_with (go_at_call 59; refine (has_nil _ _).mono ?_; rintro e w' ⟨rfl, rfl⟩)
  go_ret2
  exact ⟨rfl, rfl⟩
set_option maxHeartbeats 400000 in
theorem last_nil (w : World) (x : Int) : Calls Try.prog 57 #[.pointer none, .int .i64 x] w fun e w' => e = .returned (.tuple #[.int .i64 0, .bool false]) ∧ w = w' := by
  go_enter Try.func57, Try.ntmps57
  go_wp2_with (go_at_call 59; refine (has_nil _ _).mono ?_; rintro e w' ⟨rfl, rfl⟩)
  go_ret2
  exact ⟨rfl, rfl⟩

/-- a list that is told: new memory -/
def Told (w : World) (l : List Int) (e : Ending) (w' : World) : Prop := ∃ A c, e = .returned (.slice A l.length c) ∧ OwnW w' 3 (.slice A l.length c) (ints l) ∧ GrW w w' nl (.slice A l.length c)
set_option maxHeartbeats 400000 in
theorem all_out (h : Sq w k S) {x : Int} (hx : ¬ isl S x) : Calls Try.prog 42 #[.pointer (some ⟨k, 0, none⟩), .int .i64 x] w (Told w []) := by
  have HH := hid (has_any h x)
  rw [decide_eq_false hx] at HH
  clear h hx
  go_enter Try.func42, Try.ntmps42
  go_wp2_with (go_at_call 59; refine HH.out.mono ?_; rintro e w' ⟨rfl, rfl⟩)
  go_ret
  exact ⟨_, _, rfl, ownW_nil _ _, GrW.refl _ _⟩
set_option maxHeartbeats 400000 in
theorem all_nil (w : World) (x : Int) : Calls Try.prog 42 #[.pointer none, .int .i64 x] w (Told w []) := by
  go_enter Try.func42, Try.ntmps42
  go_wp2_with (go_at_call 59; refine (has_nil _ _).mono ?_; rintro e w' ⟨rfl, rfl⟩)
  go_ret
  exact ⟨_, _, rfl, ownW_nil _ _, GrW.refl _ _⟩
set_option maxRecDepth 10000 in
set_option maxHeartbeats 1000000 in
theorem all_in (h : Sq w k S) {i : Nat} {l : List Int} (hl : S[i]? = some l) : Calls Try.prog 42 #[.pointer (some ⟨k, 0, none⟩), .int .i64 i] w (Told w l) := by
  have hil := (List.getElem?_eq_some_iff.1 hl).1
  have HH := hid (has_any h i)
  rw [decide_eq_true (show isl S i from ⟨by omega, by omega⟩)] at HH
  obtain ⟨a, b, c, hs, hi⟩ := h
  have hi40 : i < 40 := by have := hi.sz; omega
  obtain ⟨z, hz⟩ : ∃ z, 64 + i = z := ⟨_, rfl⟩
  have HCL := hid (fun w => closing_z w i z hi40 hz)
  have cc := hs.cB (p := z) (by omega)
  have hzz : (z : Int) = 64 + (i : Int) := by omega
  rw [hzz, hi.first hl] at cc
  have hl64 : l.length ≤ 64 := hi.wf.len hl
  have HI := hid hi
  have HL := hid hl
  have HS := hid hs
  have b1 : (z : Int) < 104 := by omega
  have b0 : 0 ≤ (z : Int) := by omega
  clear hs hi hl hil hz hzz
  go_enter Try.func42, Try.ntmps42
  go_upto_region 4 with (go_at_call 59; refine HH.out.mono ?_; rintro e w' ⟨rfl, rfl⟩)
  go_quiet (first | (go_at_call 49; exact quietL (HCL.out _)))
  go_wp2
  have HG0 := hid (show GrW w (w.drewN nq) nl nl from GrW.of (below_draws (Below.refl _ _) _) _)
  clear cc b0 b1
  generalize w.drewN nq = w0 at *
  go_loopg [5, 6] l.length (fun gk s t wr => ∃ (j : Nat) (v : Value), j + gk = l.length ∧ v = s ∧ t = .int .i64 (nd l (64 + (i : Int)) j) ∧ OwnW wr 3 v (ints (l.take j)) ∧ GrW w wr nl v)
  case atStart => exact ⟨0, _, by omega, rfl, rfl, ownW_nil _ _, HG0.out⟩
  case round =>
    obtain ⟨j, v, hj, rfl, rfl, ho, hg⟩ := hrel
    have hb := nd_block HI.out HL.out j
    have hr := nd_lt HI.out HL.out j
    by_cases hlt : j < l.length
    · have hx := HI.out.next HL.out hlt
      have hin := nd_in (e := 64 + (i : Int)) hlt
      have HT := ints_take_succ hlt
      rw [← hin] at HT
      generalize hy : nd l (64 + (i : Int)) (j + 1) = y at hx
      generalize nd l (64 + (i : Int)) j = x at *
      obtain ⟨p, rfl⟩ : ∃ p : Nat, x = p := ⟨x.toNat, by omega⟩
      have HB := hid (fun w => isblock_any w (p : Int))
      rw [decide_eq_true (show vb (p : Int) from hb.2 hlt)] at HB
      have HL1 := hid (show (ints (l.take j)).length = j from by rw [ints_length, List.length_take]; omega)
      have HO1 := hid (ho.below (below_alloc wr (.cells #[.int .i64 p] 3)))
      have HG1 := hid (hg.trans (GrW.of (below_alloc wr (.cells #[.int .i64 p] 3)) v))
      have HR1 := hid (rv_new wr 3 #[.int .i64 p])
      have HK := hid (Bx.lt HS.out)
      have HX := hid hx
      have HY := hid hy
      have HTT := hid HT
      obtain ⟨A, c0, e0, -⟩ := ho.read
      rw [HL1.out] at e0
      subst e0
      have p0 : (0 : Int) ≤ (p : Int) := by omega
      have p1 : (p : Int) < 104 := by omega
      have HP := hid (show p < 104 from by omega)
      clear hb hr hx hin HT ho hg hy
      go_upto_region 7 with (go_at_call 58; refine (HB.out _).mono ?_; rintro e w' ⟨rfl, rfl⟩)
      go_wp2_with (at_builtin; go_loud (refine wpList_appW elt_int rfl (.tmp 26) (.tmp 28) rfl _ _ HO1.out rfl _ _ 1 1 [.int .i64 p] rfl rfl HR1.out (fun u hu => by simp at hu; subst hu; rfl) (by rw [HL1.out]; unfold maxLen; omega) (by rw [HL1.out]; omega) ?_); go_loud (intro v2 w2 hown2 hg2; have HG2 := hid (HG1.out.trans hg2); have HO2 := hid hown2; have hb2 := HG2.out.nilBelow; have cb := (HS.out.next hb2).cB HP.out; rw [HX.out] at cb; clear hown2 hg2 hb2))
      go_roundg (gk - 1)
      case measure => omega
      case rel => exact ⟨j + 1, v2, by omega, rfl, by rw [HY.out], by rw [HTT.out]; exact HO2.out, HG2.out⟩
    · obtain rfl : j = l.length := by omega
      have HB := hid (fun w => isblock_any w (nd l (64 + (i : Int)) l.length))
      rw [decide_eq_false (show ¬ vb _ from fun hh => by have := hb.1 hh; omega)] at HB
      rw [List.take_length] at ho
      have HO := hid ho
      have HG := hid hg
      obtain ⟨A, c0, e0, -⟩ := ho.read
      rw [ints_length] at e0
      subst e0
      clear hb hr ho hg
      generalize nd l (64 + (i : Int)) l.length = y at *
      go_wp2_with (go_at_call 58; refine (HB.out _).mono ?_; rintro e w' ⟨rfl, rfl⟩)
      go_ret
      exact ⟨_, _, rfl, HO.out, HG.out⟩
set_option maxHeartbeats 400000 in
theorem len_in (h : Sq w k S) {i : Nat} {l : List Int} (hl : S[i]? = some l) : Calls Try.prog 37 #[.pointer (some ⟨k, 0, none⟩), .int .i64 i] w fun e w' => e = .returned (.int .i64 l.length) ∧ Below w.heap.size w w' := by
  have HA := hid (all_in h hl)
  clear h hl
  go_enter Try.func37, Try.ntmps37
  go_wp2_with (go_at_call 42; refine HA.out.mono ?_; rintro e w' ⟨A, c, rfl, ho, hg⟩; have HG := hid hg.nilBelow; clear ho hg)
  go_ret
  exact ⟨rfl, HG.out⟩
set_option maxHeartbeats 400000 in
theorem len_out (h : Sq w k S) {x : Int} (hx : ¬ isl S x) : Calls Try.prog 37 #[.pointer (some ⟨k, 0, none⟩), .int .i64 x] w fun e w' => e = .returned (.int .i64 0) ∧ Below w.heap.size w w' := by
  have HA := hid (all_out h hx)
  clear h hx
  go_enter Try.func37, Try.ntmps37
  go_wp2_with (go_at_call 42; refine HA.out.mono ?_; rintro e w' ⟨A, c, rfl, ho, hg⟩; have HG := hid hg.nilBelow; clear ho hg)
  go_ret
  exact ⟨rfl, HG.out⟩
set_option maxHeartbeats 400000 in
theorem len_nil (w : World) (x : Int) : Calls Try.prog 37 #[.pointer none, .int .i64 x] w fun e w' => e = .returned (.int .i64 0) ∧ Below w.heap.size w w' := by
  go_enter Try.func37, Try.ntmps37
  go_wp2_with (go_at_call 42; refine (all_nil _ _).mono ?_; rintro e w' ⟨A, c, rfl, ho, hg⟩; have HG := hid hg.nilBelow; clear ho hg)
  go_ret
  exact ⟨rfl, HG.out⟩















/-- y stands in l behind place j -/
def behind (l : List Int) (j : Nat) (y : Int) : Prop := ∃ q, j < q ∧ l[q]? = some y











































































end
end Go.Proofs.Ytibppolcchhmaaa
/-
  What is proved: what the reference's space of lists in memory is; what becomes of it when one list is another row; the reference's New, Of, Without, Ahead, Place; lists that are compared. Condition: the space lies in memory as one.
  (Left out here, as nothing of this law reaches it: Lr, Lr.lt, Lr.kept, Lr.other, Lr.below, Lr.draws, Lr.cells, Lr.at_, Lr.put.) -/
namespace Go.Proofs.Ytibppolcchhmaaa
open Go.RowKit

/-- which blocks are a space of rows's -/
def Ft (k : Nat) (v : Value) (us : List Value) (j : Nat) : Prop := j = k ∨ v.ownBlock = some j ∨ ∃ u ∈ us, u.ownBlock = some j












section
variable {w w' : World} {k : Nat} {v : Value} {us : List Value} {S : List (List Int)} {F G : Nat → Prop}







































theorem mem_set_or {α : Type} {l : List α} {i : Nat} {a b : α} (h : b ∈ l.set i a) : b ∈ l ∨ b = a := by
  rcases List.mem_or_eq_of_mem_set h with h | h
  · exact .inl h
  · exact .inr h




























































































end
end Go.Proofs.Ytibppolcchhmaaa
