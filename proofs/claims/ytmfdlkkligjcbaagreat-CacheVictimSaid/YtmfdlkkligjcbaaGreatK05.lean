/-
  What is proved: the reference's New, Of, Without, Ahead, Place; lists that are compared. Condition: the space lies in memory as one; lists are read as such.
  (Left out here, as nothing of this law reaches it: place_at, rof_gen, rof_yes, rof_no, Made, Mk, Mk.alloc, Mk.lr, Mk.more, rnew_any.) -/
import Derived.Test.YtmfdlkkligjcbaaGreatK04
import Derived.Test.YtmfdlkkligjcbaaGreatK03
import Derived.Laws.Tables
import Derived.Test.YtmfdlkkligjcbaaGreatK01
import Derived.Deep.RegionHeld3
import Derived.BigQuiet
namespace Go.Proofs.YtmfdlkkligjcbaaGreat
open Go.RowKit

set_option maxHeartbeats 400000 in
theorem sameints_yes (A B : Option Addr) (n m ca cb : Nat) (l : List Int) (w : World) (C D : Nat) (hn : l.length = n) (hm : l.length = m) (hlen : n ≤ maxLen) (ra : Rv w C A (ints l)) (rb : Rv w D B (ints l)) :
    Calls Tryz.prog 15 #[.slice A n ca, .slice B m cb] w fun e w' => e = .returned (.bool true) ∧ ∃ k, w' = w.drewN k := by
  subst hn
  subst hm
  unfold maxLen at hlen
  go_enter Tryz.func15, Tryz.ntmps15
  go_wp2
  go_loopw [5] (fun i wr => ∃ k d : Nat, k ≤ l.length ∧ i = .int .i64 k ∧ wr = w.drewN d) (fun i _ => l.length - (intOf i).toNat)
  case atStart => exact ⟨0, 0, Nat.zero_le _, rfl, rfl⟩
  case round =>
    obtain ⟨k, d, hk, rfl, rfl⟩ := hrel
    by_cases hlt : k < l.length
    · obtain ⟨a, rfl, _, hca⟩ := ra.get (k := k) (by rw [ints_length]; exact hlt)
      obtain ⟨b, rfl, _, hcb⟩ := rb.get (k := k) (by rw [ints_length]; exact hlt)
      have e : (ints l)[k]'(by rw [ints_length]; exact hlt) = .int .i64 (l[k]) := by simp [ints]
      rw [e] at hca hcb
      clear e
      have hlt' : (k : Int) < (l.length : Int) := by omega
      go_wp2
      go_quiet (fail)
      go_wp2
      go_roundw
      case rel => exact ⟨k + 1, _, by omega, by go_num, rfl⟩
      case measure => simp [intOf]; omega
    · have hlt' : ¬ (k : Int) < (l.length : Int) := by omega
      go_wp2
      go_ret
      exact ⟨rfl, _, rfl⟩

theorem rv_at {w : World} {B : Nat} {A : Option Addr} {l : List Int} (r : Rv w B A (ints l)) {j : Nat} (hj : j < l.length) : ∃ a, A = some a ∧ a.block < B ∧ w.cell? (a.add j) = some (.int .i64 l[j]) := by
  obtain ⟨a, e, hb, hc⟩ := r.get (k := j) (by rw [ints_length]; exact hj)
  refine ⟨a, e, hb, ?_⟩
  rw [hc]
  simp [ints]




































theorem wo_take_eq {l : List Int} {j : Nat} {x : Int} (h : j < l.length) (e : l[j] = x) : ints (wo x (l.take (j + 1))) = ints (wo x (l.take j)) := by
  rw [List.take_succ_eq_append_getElem h]
  unfold wo
  rw [List.filter_append, e]
  simp
theorem wo_take_ne {l : List Int} {j : Nat} {x : Int} (h : j < l.length) (e : l[j] ≠ x) : ints (wo x (l.take (j + 1))) = ints (wo x (l.take j)) ++ [.int .i64 l[j]] := by
  rw [List.take_succ_eq_append_getElem h]
  unfold wo ints
  rw [List.filter_append, List.map_append]
  simp [e]
theorem wo_le (x : Int) (l : List Int) : (wo x l).length ≤ l.length := List.length_filter_le _ _
set_option maxRecDepth 10000 in
set_option maxHeartbeats 1000000 in
theorem without_any (w : World) (A : Option Addr) (n c : Nat) (l : List Int) (x : Int) (hn : l.length = n) (h64 : n ≤ 64) (r : Rv w w.heap.size A (ints l)) :
    Calls Tryz.prog 87 #[.slice A n c, .int .i64 x] w (Told w (wo x l)) := by
  subst hn
  have HR := hid r
  have HG0 := hid (GrW.refl w nl)
  clear r
  go_enter Tryz.func87, Tryz.ntmps87
  go_wp2
  go_loopg [5, 6] l.length (fun gk s t wr => ∃ (j : Nat) (v : Value), j + gk = l.length ∧ v = s ∧ t = .int .i64 j ∧ OwnW wr 3 v (ints (wo x (l.take j))) ∧ GrW w wr nl v)
  case atStart => exact ⟨0, _, by omega, rfl, rfl, ownW_nil _ _, HG0.out⟩
  case round =>
    obtain ⟨j, v, hj, rfl, rfl, ho, hg⟩ := hrel
    by_cases hlt : j < l.length
    · obtain ⟨a, rfl, _, hca⟩ := rv_at (HR.out.now hg.nilBelow) hlt
      have hlt' : (j : Int) < (l.length : Int) := by omega
      obtain ⟨m, hm⟩ : ∃ m, (ints (wo x (l.take j))).length = m := ⟨_, rfl⟩
      have hm64 : m ≤ 64 := by rw [← hm, ints_length]; have := wo_le x (l.take j); rw [List.length_take] at this; omega
      have HM := hid hm
      by_cases hx : l[j] = x
      · have HT := hid (wo_take_eq hlt hx)
        rw [hx] at hca
        have HO := hid ho
        have HG := hid hg
        obtain ⟨B, c0, e0, -⟩ := ho.read
        rw [HM.out] at e0
        subst e0
        clear hx ho hg hm
        have hd : (x != x) = false := by simp
        go_wp2
        go_roundg (gk - 1)
        case measure => omega
        case rel => exact ⟨j + 1, _, by omega, rfl, by go_num, by rw [HT.out]; exact HO.out, HG.out⟩
      · have HT := hid (wo_take_ne hlt hx)
        generalize l[j] = y at *
        have HO1 := hid (ho.below (below_alloc wr (.cells #[.int .i64 y] 3)))
        have HG1 := hid (hg.trans (GrW.of (below_alloc wr (.cells #[.int .i64 y] 3)) v))
        have HR1 := hid (rv_new wr 3 #[.int .i64 y])
        obtain ⟨B, c0, e0, -⟩ := ho.read
        rw [HM.out] at e0
        subst e0
        have hd : (y != x) = true := by simpa using hx
        clear hx ho hg hm
        go_upto_region 6 with fail
        go_wp2_with (at_builtin; (refine wpList_appW elt_int rfl (.tmp 19) (.tmp 24) rfl _ _ HO1.out rfl _ _ 1 1 [.int .i64 y] rfl rfl HR1.out (fun u hu => by simp at hu; subst hu; rfl) (by rw [HM.out]; unfold maxLen; omega) (by rw [HM.out]; omega) ?_); (intro v2 w2 hown2 hg2; have HG2 := hid (HG1.out.trans hg2); have HO2 := hid hown2; clear hown2 hg2))
        go_roundg (gk - 1)
        case measure => omega
        case rel => exact ⟨j + 1, v2, by omega, rfl, by go_num, by rw [HT.out]; exact HO2.out, HG2.out⟩
    · obtain rfl : j = l.length := by omega
      rw [List.take_length] at ho
      have HO := hid ho
      have HG := hid hg
      obtain ⟨B, c0, e0, -⟩ := ho.read
      rw [ints_length] at e0
      subst e0
      clear ho hg
      go_wp2
      go_ret
      exact ⟨_, _, rfl, HO.out, HG.out⟩
set_option maxRecDepth 10000 in
set_option maxHeartbeats 1000000 in
theorem ahead_any (w : World) (A : Option Addr) (n c : Nat) (l : List Int) (x : Int) (hn : l.length = n) (h64 : n ≤ 64) (r : Rv w w.heap.size A (ints l)) :
    Calls Tryz.prog 88 #[.slice A n c, .int .i64 x] w (Told w (x :: l)) := by
  have HR := hid r
  have HN := hid (show (ints l).length = n from by rw [ints_length]; exact hn)
  have HR1 := hid (rv_new w 3 #[.int .i64 x])
  have HB := hid (below_alloc w (.cells #[.int .i64 x] 3))
  clear r hn
  go_enter Tryz.func88, Tryz.ntmps88
  go_upto_region 3 with (at_builtin; (refine wpList_appW elt_int rfl (.tmp 6) (.tmp 8) rfl _ _ (ownW_nil _ _) rfl _ _ 1 1 [.int .i64 x] rfl rfl HR1.out (fun u hu => by simp at hu; subst hu; rfl) (by simp; unfold maxLen; omega) (by simp) ?_); (intro v1 w1 ho1 hg1; rw [List.nil_append] at ho1; have HO1 := hid ho1; have HG1 := hid ((GrW.of HB.out nl).trans hg1); clear ho1 hg1))
  have HR2 := hid (HR.out.now HG1.out.nilBelow)
  go_wp2_with (at_builtin; (refine wpList_appW elt_int rfl (.tmp 10) (.tmp 11) rfl _ _ HO1.out rfl _ _ n _ (ints l) rfl HN.out HR2.out (ints_one _) (by simp; unfold maxLen; omega) (by simp; omega) ?_); (intro v2 w2 ho2 hg2; have HO2 := hid ho2; have HG2 := hid (HG1.out.trans hg2); clear ho2 hg2))
  go_ret
  obtain ⟨B, c0, e0, -⟩ := HO2.out.read
  subst e0
  have e1 : ([Value.int .i64 x] ++ ints l) = ints (x :: l) := rfl
  have e2 : ([Value.int .i64 x] ++ ints l).length = (x :: l).length := by rw [e1, ints_length]
  have HO := HO2.out
  have HG := HG2.out
  rw [e2] at HO HG ⊢
  exact ⟨_, _, rfl, HO, HG⟩
section
variable {w : World} {k : Nat} {v : Value} {us : List Value} {S : List (List Int)}



































































































end

/-- how many lists -/
def cl (m : Int) : Nat := (min (max m 1) 40).toNat
theorem cl_le (m : Int) : 1 ≤ cl m ∧ cl m ≤ 40 := by unfold cl; omega
def empt (n : Nat) : List (List Int) := List.replicate n []



theorem infoRow : (Tryz.prog.info? 43).map (fun i => (i.zero, i.size, i.bytes)) = some (some (.slice none 0 0), 1, 24) := by kernel_rfl
theorem elt_row : Elt Tryz.prog 114 43 (.slice none 0 0) 1 24 := ⟨Tryz.underlying114, infoRow, rfl, by decide⟩













































































































end Go.Proofs.YtmfdlkkligjcbaaGreat
/-
  What is proved: list's New: so many empty lists, held within 1 to 40. No condition.
-/
namespace Go.Proofs.YtmfdlkkligjcbaaGreat
open Go.RowKit

/-- a struct that is built of its first field alone -/
theorem wpList_build1 {P : Program} {ops : Array Oper} {rest : List Oper} {o : Oper} {a : Act} {w : World} {Q : Exit → Act → World → Prop} (hg : o.guard = none) (t : TypeId) (x : Operand) (ho : o.op = .build t #[(0, x)]) (v : Value) (hv : a.eval x = v) (cs : Array Value)
    (hf : P.built t [(0, v)] = some cs) (h : wpList P ops Q rest (a.put o.dst (.agg cs)) w) : wpList P ops Q (o :: rest) a w := by
  have hf2 : P.built t ((#[(0, x)] : Array (Nat × Operand)).map fun (i, x) => (i, a.eval x)).toList = some cs := by
    subst hv
    simpa using hf
  exact wpList_build hg t _ ho (by rw [hf2]; rfl) (by rw [hf2]; exact h)
set_option maxRecDepth 100000 in
theorem built_space (x : Int) : Tryz.prog.built 158 [(0, .int .i64 x)] = some ((Array.replicate 273 (Value.int .i64 0)).setIfInBounds 0 (.int .i64 x)) := by kernel_rfl
theorem space_cells (n : Nat) : (Array.replicate 273 (Value.int .i64 0)).setIfInBounds 0 (.int .i64 n) = sc n (fun _ => 0) (fun _ => 0) (fun _ => 0) := by
  refine Array.ext (by simp [sc]) fun j h1 h2 => ?_
  rw [Array.getElem_setIfInBounds (by simpa using h1)]
  simp only [sc, Array.getElem_ofFn, scf]
  by_cases hj : 0 = j
  · subst hj; rfl
  · rw [if_neg hj, if_neg (fun e => hj e.symm)]
    split <;> (try split) <;> simp
/-- the first p rings are closed -/
def ida (p : Nat) : Int → Int := fun z => if 64 ≤ z ∧ z < 64 + p then z else 0
theorem ida_succ (p : Nat) (z : Int) (hz : z = 64 + p) : upd (ida p) z z = ida (p + 1) := by
  funext j
  subst hz
  unfold upd ida
  by_cases h : j = 64 + p
  · rw [if_pos h, if_pos (by omega), h]
  · rw [if_neg h]
    by_cases h2 : 64 ≤ j ∧ j < 64 + p
    · rw [if_pos h2, if_pos (by omega)]
    · rw [if_neg h2, if_neg (by omega)]
theorem inv_empt {n : Nat} (h : 1 ≤ n ∧ n ≤ 40) : Inv (ida n) (ida n) (fun _ => 0) (empt n) where
  sz := by simp [empt]; exact h
  wf := by
    have e : ∀ (i : Nat) l, (empt n)[i]? = some l → l = [] := fun i l hl => List.eq_of_mem_replicate (List.mem_of_getElem? hl)
    refine ⟨fun i l x hl hx => ?_, fun i l hl => ?_, fun i j l l' x hl _ hx => ?_⟩
    · rw [e i l hl] at hx; cases hx
    · rw [e i l hl]; simp
    · rw [e i l hl] at hx; cases hx
  ring := fun i l hl => by
    have hi : i < n := by have := (List.getElem?_eq_some_iff.1 hl).1; simpa [empt] using this
    rw [List.eq_of_mem_replicate (List.mem_of_getElem? hl)]
    refine ⟨⟨?_, ?_⟩, trivial⟩
    all_goals
      unfold ida
      rw [if_pos (by omega)]
  inn := fun i l x hl hx => by rw [List.eq_of_mem_replicate (List.mem_of_getElem? hl)] at hx; cases hx
  out := fun _ _ _ _ => rfl
set_option maxRecDepth 10000 in
set_option maxHeartbeats 1000000 in
theorem lnew_any (m : Int) (w : World) : Calls Tryz.prog 70 #[.int .i64 m] w fun e w' => ∃ k, e = .returned (.pointer (some ⟨k, 0, none⟩)) ∧ Sq w' k (empt (cl m)) ∧ Below w.heap.size w w' ∧ w.heap.size ≤ k := by
  have HE := hid (show (if 40 < (if m < 1 then (1 : Int) else m) then (40 : Int) else if m < 1 then 1 else m) = (cl m : Nat) from by
    unfold cl
    split <;> split <;> omega)
  have hle := cl_le m
  generalize cl m = n at *
  have HB := hid ((built_space n).trans (congrArg some (space_cells n)))
  go_enter Tryz.func70, Tryz.ntmps70
  go_upto_region 2 with (refine wpList_build1 rfl 158 (.tmp 8) rfl (.int .i64 n) (congrArg (Value.int .i64) HE.out) (sc n (fun _ => 0) (fun _ => 0) (fun _ => 0)) HB.out ?_)
  obtain ⟨u, hu⟩ : ∃ u, (if m < 1 then (1 : Int) else m) = u := ⟨_, rfl⟩
  rw [hu] at HE ⊢
  rw [HE.out]
  have HS0 := hid (show Sb (w.alloc (.cells (sc n (fun _ => 0) (fun _ => 0) (fun _ => 0)) 158)) w.heap.size n (ida 0) (ida 0) (fun _ => 0) from by
    have e : ida 0 = fun _ => 0 := by funext z; unfold ida; rw [if_neg (by omega)]
    rw [e]
    exact Bx.new w _ _)
  have HB0 := hid (below_alloc w (.cells (sc n (fun _ => 0) (fun _ => 0) (fun _ => 0)) 158))
  obtain ⟨W, hW⟩ : ∃ x, w.alloc (.cells (sc n (fun _ => 0) (fun _ => 0) (fun _ => 0)) 158) = x := ⟨_, rfl⟩
  rw [hW] at HS0 HB0 ⊢
  have c0 := HS0.out.cN
  obtain ⟨g, hgg⟩ : ∃ g, w.heap.size = g := ⟨_, rfl⟩
  rw [hgg] at c0 HS0 ⊢
  have HGG := hid hgg
  clear hgg hW hu HE HB
  go_wp2
  clear c0
  go_loopg [15] n (fun gk t wr => ∃ p : Nat, p + gk = n ∧ t = .int .i64 p ∧ Sb wr g n (ida p) (ida p) (fun _ => 0) ∧ Below w.heap.size w wr)
  case atStart => exact ⟨0, by omega, rfl, HS0.out, HB0.out⟩
  case round =>
    obtain ⟨p, hp, rfl, hs, hb⟩ := hrel
    have HS := hid hs
    have HB := hid hb
    clear hb
    by_cases hlt : p < n
    · obtain ⟨z, hz⟩ : ∃ z, 64 + p = z := ⟨_, rfl⟩
      have HCL := hid (fun w => closing_z w p z (by omega) hz)
      have ca := hs.cA (p := z) (by omega)
      have cb := hs.cB (p := z) (by omega)
      have fr := hs.free
      have z0 : (0 : Int) ≤ (z : Int) := by omega
      have z1 : (z : Int) < 104 := by omega
      have zz : z < 104 := by omega
      have HU := hid (ida_succ p z (by omega))
      have ne1 : 105 + z ≠ 1 + z := by omega
      have ne2 : 1 + z ≠ 105 + z := by omega
      have hpn : (p : Int) < (n : Int) := by omega
      generalize ida p (z : Int) = iz at ca cb
      clear hs hz
      go_upto_region 6 with (go_at_call 83; refine (HCL.out _).mono ?_; rintro e w4 ⟨rfl, rfl⟩)
      go_region
      go_wp2
      have HX := (HS.out.setA zz (z : Int)).setB zz (z : Int)
      rw [HU.out] at HX
      have HY := (((HB.out.setCell (Nat.le_of_eq HGG.out : w.heap.size ≤ (⟨g, 1 + z, none⟩ : Addr).block) (.int .i64 z))).setCell (Nat.le_of_eq HGG.out : w.heap.size ≤ (⟨g, 105 + z, none⟩ : Addr).block) (.int .i64 z))
      go_roundg (gk - 1)
      case measure => omega
      case rel => exact ⟨p + 1, by omega, by go_num, HX.draws 1, below_draws HY 1⟩
    · obtain rfl : p = n := by omega
      have hpn : ¬ (p : Int) < (p : Int) := by omega
      clear hs
      go_wp2
      go_ret
      exact ⟨g, rfl, ⟨_, _, _, by rw [show (empt p).length = p from by simp [empt]]; exact HS.out, inv_empt hle⟩, HB.out, Nat.le_of_eq HGG.out⟩
end Go.Proofs.YtmfdlkkligjcbaaGreat
/-
  What is proved: what an MQ in memory is (a block of 134 cells: its space, its shape, the time, how often, when they expire), and what it becomes when one of these is stored; mq's within, right, Has, Often, Queue, Ghosts, All, Len. Condition: the MQ lies in memory as one.
  (Left out here, as nothing of this law reaches it: mq_often, mq_often_nil, mq_ghosts, mq_ghosts_nil.) -/
namespace Go.Proofs.YtmfdlkkligjcbaaGreat
open Go.RowKit

/-- the cells of an MQ -/
def mcf (C N L H t : Nat) (o x : Int → Int) (i : Nat) : Int := if i = 1 then C else if i = 2 then N else if i = 3 then L else if i = 4 then H else if i = 5 then t else if i < 70 then o ((i - 6 : Nat) : Int) else x ((i - 70 : Nat) : Int)
def mc (k C N L H t : Nat) (o x : Int → Int) : Array Value := Array.ofFn (n := 134) fun i => if i.1 = 0 then .pointer (some ⟨k, 0, none⟩) else .int .i64 (mcf C N L H t o x i)
section
variable (k C N L H t : Nat) (o x : Int → Int)
theorem mc_size : (mc k C N L H t o x).size = 134 := by simp [mc]
theorem mc_at {i : Nat} (h : i < 134) (h0 : i ≠ 0) : (mc k C N L H t o x)[i]? = some (.int .i64 (mcf C N L H t o x i)) := by simp [mc, h, h0]
theorem mc_0 : (mc k C N L H t o x)[0]? = some (.pointer (some ⟨k, 0, none⟩)) := by simp [mc]
theorem mc_o {p : Nat} (h : p < 64) : (mc k C N L H t o x)[6 + p]? = some (.int .i64 (o p)) := by
  rw [mc_at _ _ _ _ _ _ _ _ (by omega) (by omega)]; unfold mcf
  rw [if_neg (by omega), if_neg (by omega), if_neg (by omega), if_neg (by omega), if_neg (by omega), if_pos (by omega), show 6 + p - 6 = p from by omega]
theorem mc_x {p : Nat} (h : p < 64) : (mc k C N L H t o x)[70 + p]? = some (.int .i64 (x p)) := by
  rw [mc_at _ _ _ _ _ _ _ _ (by omega) (by omega)]; unfold mcf
  rw [if_neg (by omega), if_neg (by omega), if_neg (by omega), if_neg (by omega), if_neg (by omega), if_neg (by omega), show 70 + p - 70 = p from by omega]
theorem mc_set {t' : Nat} {o' x' : Int → Int} {i : Nat} {v : Int} (h0 : i ≠ 0) (h : ∀ j, j < 134 → j ≠ 0 → mcf C N L H t' o' x' j = if i = j then v else mcf C N L H t o x j) : (mc k C N L H t o x).setIfInBounds i (.int .i64 v) = mc k C N L H t' o' x' := by
  refine Array.ext (by simp [mc]) fun j h1 h2 => ?_
  have hj : j < 134 := by rw [mc_size] at h2; exact h2
  rw [Array.getElem_setIfInBounds (by simpa using h1)]
  simp only [mc, Array.getElem_ofFn]
  by_cases hz : j = 0
  · rw [if_pos hz, if_pos hz, if_neg (by omega)]
  · rw [if_neg hz, if_neg hz, h j hj hz]
    split <;> rfl
theorem mc_setT (t' : Nat) : (mc k C N L H t o x).setIfInBounds 5 (.int .i64 t') = mc k C N L H t' o x := mc_set _ _ _ _ _ _ _ _ (by omega) fun j hj h0 => by
  unfold mcf
  by_cases h5 : 5 = j
  · subst h5; simp
  · rw [if_neg h5, if_neg (show ¬ j = 5 from by omega), if_neg (show ¬ j = 5 from by omega)]
theorem mc_setO {p : Nat} (h : p < 64) (v : Int) : (mc k C N L H t o x).setIfInBounds (6 + p) (.int .i64 v) = mc k C N L H t (upd o p v) x := mc_set _ _ _ _ _ _ _ _ (by omega) fun j hj h0 => by
  unfold mcf upd
  by_cases hp : 6 + p = j
  · rw [if_pos hp, if_neg (by omega), if_neg (by omega), if_neg (by omega), if_neg (by omega), if_neg (by omega), if_pos (by omega), if_pos (by omega)]
  · rw [if_neg hp]
    by_cases h70 : j < 70
    · rw [if_pos h70, if_pos h70]
      by_cases h5 : j ≤ 5
      · have h15 : j = 1 ∨ j = 2 ∨ j = 3 ∨ j = 4 ∨ j = 5 := by omega
        rcases h15 with rfl | rfl | rfl | rfl | rfl <;> simp
      · rw [if_neg (show ¬ ((j - 6 : Nat) : Int) = p from by omega)]
    · rw [if_neg h70, if_neg h70]
theorem mc_setX {p : Nat} (v : Int) : (mc k C N L H t o x).setIfInBounds (70 + p) (.int .i64 v) = mc k C N L H t o (upd x p v) := mc_set _ _ _ _ _ _ _ _ (by omega) fun j hj h0 => by
  unfold mcf upd
  by_cases hp : 70 + p = j
  · rw [if_pos hp, if_neg (by omega), if_neg (by omega), if_neg (by omega), if_neg (by omega), if_neg (by omega), if_neg (by omega), if_pos (by omega)]
  · rw [if_neg hp]
    by_cases h70 : j < 70
    · rw [if_pos h70, if_pos h70]
    · rw [if_neg h70, if_neg h70, if_neg (show ¬ ((j - 70 : Nat) : Int) = p from by omega)]
end
/-- block g is an MQ of this shape, its space lies at k -/
structure Mq (w : World) (g k C N L H : Nat) (m : Ms) : Prop where
  box : Bx w g 146 (mc k C N L H m.t m.o m.x)
  sq : Sq w k m.S
  ne : g ≠ k
/-- which blocks of memory are an MQ's -/
def Mf (g k : Nat) (j : Nat) : Prop := j = g ∨ j = k
theorem mf_set {w w1 : World} {g k : Nat} (h : Chg w w1 (Mf g k) (Mf g k)) (i : Nat) (v : Value) : Chg w (w1.setCell ⟨g, i, none⟩ v) (Mf g k) (Mf g k) :=
  ⟨h.os, h.tape, h.output, by rw [setSize]; exact h.size, fun j h1 h2 => (Below.heap_setCell w1 ⟨g, i, none⟩ v j (fun e => h2 (.inl e))).trans (h.block j h1 h2), fun _ e => .inl e⟩
theorem mf_k {w w1 w2 : World} {g k : Nat} (h : Chg w w1 (Mf g k) (Mf g k)) (hc : Chg w1 w2 (· = k) (· = k)) : Chg w w2 (Mf g k) (Mf g k) :=
  h.trans ⟨hc.os, hc.tape, hc.output, hc.size, fun j h1 h2 => hc.block j h1 fun e => h2 (.inr e), fun _ e => .inl e⟩
section
variable {w w' : World} {g k C N L H : Nat} {m : Ms}
theorem Mq.below (h : Mq w g k C N L H m) (hb : Below w.heap.size w w') : Mq w' g k C N L H m := ⟨h.box.next hb, h.sq.below hb, h.ne⟩
theorem Mq.draws (h : Mq w g k C N L H m) (n : Nat) : Mq (w.drewN n) g k C N L H m := h.below (below_draws (Below.refl _ _) n)
theorem Mq.chg {F G : Nat → Prop} (h : Mq w g k C N L H m) (hc : Chg w w' F G) (h1 : ¬ F g) (h2 : ¬ F k) : Mq w' g k C N L H m := ⟨hc.bx h.box h1, h.sq.same (hc.block k h.sq.lt h2), h.ne⟩
theorem Mq.step {S : List (List Int)} (h : Mq w g k C N L H m) (hs : Sq w' k S) (hc : Chg w w' (· = k) (· = k)) : Mq w' g k C N L H { m with S := S } := ⟨hc.bx h.box h.ne, hs, h.ne⟩
theorem Mq.c0 (h : Mq w g k C N L H m) : w.cell? ⟨g, 0, none⟩ = some (.pointer (some ⟨k, 0, none⟩)) := (h.box.cell 0).trans (mc_0 _ _ _ _ _ _ _ _)
theorem Mq.c1 (h : Mq w g k C N L H m) : w.cell? ⟨g, 1, none⟩ = some (.int .i64 C) := (h.box.cell 1).trans (mc_at _ _ _ _ _ _ _ _ (by omega) (by omega))
theorem Mq.c2 (h : Mq w g k C N L H m) : w.cell? ⟨g, 2, none⟩ = some (.int .i64 N) := (h.box.cell 2).trans (mc_at _ _ _ _ _ _ _ _ (by omega) (by omega))
theorem Mq.c3 (h : Mq w g k C N L H m) : w.cell? ⟨g, 3, none⟩ = some (.int .i64 L) := (h.box.cell 3).trans (mc_at _ _ _ _ _ _ _ _ (by omega) (by omega))
theorem Mq.c4 (h : Mq w g k C N L H m) : w.cell? ⟨g, 4, none⟩ = some (.int .i64 H) := (h.box.cell 4).trans (mc_at _ _ _ _ _ _ _ _ (by omega) (by omega))
theorem Mq.c5 (h : Mq w g k C N L H m) : w.cell? ⟨g, 5, none⟩ = some (.int .i64 m.t) := (h.box.cell 5).trans (mc_at _ _ _ _ _ _ _ _ (by omega) (by omega))
theorem Mq.cO (h : Mq w g k C N L H m) {p : Nat} (hp : p < 64) : w.cell? ⟨g, 6 + p, none⟩ = some (.int .i64 (m.o p)) := (h.box.cell _).trans (mc_o _ _ _ _ _ _ _ _ hp)
theorem Mq.cX (h : Mq w g k C N L H m) {p : Nat} (hp : p < 64) : w.cell? ⟨g, 70 + p, none⟩ = some (.int .i64 (m.x p)) := (h.box.cell _).trans (mc_x _ _ _ _ _ _ _ _ hp)
theorem Mq.free (h : Mq w g k C N L H m) (i : Nat) : w.frozen? ⟨g, i, none⟩ = false := h.box.free i
theorem Mq.setT (h : Mq w g k C N L H m) (t' : Nat) : Mq (w.setCell ⟨g, 5, none⟩ (.int .i64 t')) g k C N L H { m with t := t' } := by
  have := h.box.set 5 (.int .i64 t')
  rw [mc_setT] at this
  exact ⟨this, h.sq.same (Below.heap_setCell w _ _ k (fun e => h.ne e.symm)), h.ne⟩
theorem Mq.setO (h : Mq w g k C N L H m) {p : Nat} (hp : p < 64) (v : Int) : Mq (w.setCell ⟨g, 6 + p, none⟩ (.int .i64 v)) g k C N L H { m with o := upd m.o p v } := by
  have := h.box.set (6 + p) (.int .i64 v)
  rw [mc_setO _ _ _ _ _ _ _ _ hp] at this
  exact ⟨this, h.sq.same (Below.heap_setCell w _ _ k (fun e => h.ne e.symm)), h.ne⟩
theorem Mq.setX (h : Mq w g k C N L H m) {p : Nat} (v : Int) : Mq (w.setCell ⟨g, 70 + p, none⟩ (.int .i64 v)) g k C N L H { m with x := upd m.x p v } := by
  have := h.box.set (70 + p) (.int .i64 v)
  rw [mc_setX] at this
  exact ⟨this, h.sq.same (Below.heap_setCell w _ _ k (fun e => h.ne e.symm)), h.ne⟩
end

set_option maxHeartbeats 400000 in
theorem within_any (n a b : Int) (w : World) : Calls Tryz.prog 85 #[.int .i64 n, .int .i64 a, .int .i64 b] w fun e w' => e = .returned (.bool (decide (a ≤ n ∧ n ≤ b))) ∧ w = w' := by
  by_cases h1 : a ≤ n
  · have e : decide (a ≤ n ∧ n ≤ b) = decide (n ≤ b) := decide_eq_decide.2 ⟨fun h => h.2, fun h => ⟨h1, h⟩⟩
    rw [e]
    clear e
    go_enter Tryz.func85, Tryz.ntmps85
    go_wp2
    go_ret
    exact ⟨rfl, rfl⟩
  · have e : decide (a ≤ n ∧ n ≤ b) = false := decide_eq_false fun h => h1 h.1
    rw [e]
    clear e
    go_enter Tryz.func85, Tryz.ntmps85
    go_wp2
    go_ret
    exact ⟨rfl, rfl⟩
/-- a shape that may be -/
def shp (c n l h : Int) : Prop := (1 ≤ c ∧ c ≤ 16) ∧ (1 ≤ n ∧ n ≤ 8) ∧ (1 ≤ l ∧ l ≤ 100) ∧ (0 ≤ h ∧ h ≤ 16)
instance (c n l h : Int) : Decidable (shp c n l h) := inferInstanceAs (Decidable (_ ∧ _))
set_option maxHeartbeats 1000000 in
theorem mqright_any (c n l h : Int) (w : World) : Calls Tryz.prog 72 #[.agg #[.int .i64 c, .int .i64 n, .int .i64 l, .int .i64 h]] w fun e w' => e = .returned (.bool (decide (shp c n l h))) ∧ Below w.heap.size w w' := by
  have HB := hid (below_alloc w (.cells #[.int .i64 c, .int .i64 n, .int .i64 l, .int .i64 h] 110))
  have HC := hid (fun w => within_any c 1 16 w)
  have HN := hid (fun w => within_any n 1 8 w)
  have HL := hid (fun w => within_any l 1 100 w)
  have HH := hid (fun w => within_any h 0 16 w)
  by_cases h1 : 1 ≤ c ∧ c ≤ 16
  · rw [decide_eq_true h1] at HC
    by_cases h2 : 1 ≤ n ∧ n ≤ 8
    · rw [decide_eq_true h2] at HN
      by_cases h3 : 1 ≤ l ∧ l ≤ 100
      · rw [decide_eq_true h3] at HL
        have e : decide (shp c n l h) = decide (0 ≤ h ∧ h ≤ 16) := decide_eq_decide.2 ⟨fun h => h.2.2.2, fun h => ⟨h1, h2, h3, h⟩⟩
        rw [e]
        generalize decide (0 ≤ h ∧ h ≤ 16) = b at *
        clear e h1 h2 h3
        go_enter Tryz.func72, Tryz.ntmps72
        go_wp2_with (go_at_call 85; (first | (with_reducible refine (HC.out _).mono ?_) | (with_reducible refine (HN.out _).mono ?_) | (with_reducible refine (HL.out _).mono ?_) | (with_reducible refine (HH.out _).mono ?_)); rintro e w' ⟨rfl, rfl⟩)
        go_ret
        exact ⟨rfl, HB.out⟩
      · rw [decide_eq_false h3] at HL
        rw [decide_eq_false (show ¬ shp c n l h from fun e => h3 e.2.2.1)]
        clear h1 h2 h3
        go_enter Tryz.func72, Tryz.ntmps72
        go_wp2_with (go_at_call 85; (first | (with_reducible refine (HC.out _).mono ?_) | (with_reducible refine (HN.out _).mono ?_) | (with_reducible refine (HL.out _).mono ?_)); rintro e w' ⟨rfl, rfl⟩)
        go_ret
        exact ⟨rfl, HB.out⟩
    · rw [decide_eq_false h2] at HN
      rw [decide_eq_false (show ¬ shp c n l h from fun e => h2 e.2.1)]
      clear h1 h2
      go_enter Tryz.func72, Tryz.ntmps72
      go_wp2_with (go_at_call 85; (first | (with_reducible refine (HC.out _).mono ?_) | (with_reducible refine (HN.out _).mono ?_)); rintro e w' ⟨rfl, rfl⟩)
      go_ret
      exact ⟨rfl, HB.out⟩
  · rw [decide_eq_false h1] at HC
    rw [decide_eq_false (show ¬ shp c n l h from fun e => h1 e.1)]
    clear h1
    go_enter Tryz.func72, Tryz.ntmps72
    go_wp2_with (go_at_call 85; (with_reducible refine (HC.out _).mono ?_); rintro e w' ⟨rfl, rfl⟩)
    go_ret
    exact ⟨rfl, HB.out⟩
section
variable {w : World} {g k C N L H : Nat} {m : Ms}
set_option maxHeartbeats 400000 in
theorem mq_has (h : Mq w g k C N L H m) (ok : Okm C N L H m) (b : Int) : Calls Tryz.prog 152 #[.pointer (some ⟨g, 0, none⟩), .int .i64 b] w fun e w' => e = .returned (.bool (decide (b ∈ m.al))) ∧ w = w' := by
  have c0 := h.c0
  by_cases hx : inS m.S b
  · obtain ⟨i, hi⟩ := inS_gd.1 hx
    obtain ⟨hl, hs⟩ := gd_mem hi
    rw [ok.len] at hl
    have HO := hid (of_yes h.sq hs hi)
    have e : (b ∈ m.al) ↔ i ≠ 8 := ⟨fun hb => by
      obtain ⟨j, hj, hm⟩ := ok.there hb
      have := ok.wf.same hi hm
      have := ok.n
      omega, fun hne => mem_alls.2 ⟨i, by omega, hi⟩⟩
    by_cases h8 : i = 8
    · rw [decide_eq_false fun hb => (e.1 hb) h8]
      subst h8
      clear h ok hx hi hl hs e
      go_enter Tryz.func152, Tryz.ntmps152
      go_wp2_with (go_at_call 139; refine HO.out.mono ?_; rintro e w' ⟨rfl, rfl⟩)
      go_ret
      exact ⟨rfl, rfl⟩
    · rw [decide_eq_true (e.2 h8)]
      have hd : ((i : Int) != 8) = true := by simp; omega
      have hd2 : decide ((i : Int) = 8) = false := by simp; omega
      have hi8 : i < 8 := by omega
      clear h ok hx hi hl hs e h8
      go_enter Tryz.func152, Tryz.ntmps152
      go_wp2_with (go_at_call 139; refine HO.out.mono ?_; rintro e w' ⟨rfl, rfl⟩)
      go_ret
      exact ⟨by simp [], rfl⟩
  · rw [decide_eq_false fun hb => hx (ok.in_al hb)]
    have HO := hid (of_no h.sq hx)
    clear h ok hx
    go_enter Tryz.func152, Tryz.ntmps152
    go_wp2_with (go_at_call 139; refine HO.out.mono ?_; rintro e w' ⟨rfl, rfl⟩)
    go_ret
    exact ⟨rfl, rfl⟩
set_option maxHeartbeats 400000 in
theorem mq_has_nil (w : World) (b : Int) : Calls Tryz.prog 152 #[.pointer none, .int .i64 b] w fun e w' => e = .returned (.bool false) ∧ w = w' := by
  go_enter Tryz.func152, Tryz.ntmps152
  go_wp2
  go_ret
  exact ⟨rfl, rfl⟩














































set_option maxHeartbeats 400000 in
theorem mq_queue (h : Mq w g k C N L H m) (ok : Okm C N L H m) {i : Nat} (hi : i < N) : Calls Tryz.prog 159 #[.pointer (some ⟨g, 0, none⟩), .int .i64 i] w (Told w (m.S.getD i [])) := by
  have c0 := h.c0
  have c2 := h.c2
  have HA := hid (all_in h.sq (gd_some (i := i) (by rw [ok.len]; have := ok.n; omega)))
  have hd : decide ((N : Int) ≤ (i : Int)) = false := by simp; omega
  clear h ok
  go_enter Tryz.func159, Tryz.ntmps159
  go_wp2_with (go_at_call 138; refine HA.out.mono ?_; rintro e w' ⟨A, c, rfl, ho, hg⟩; have HO := hid ho; have HG := hid hg; clear ho hg)
  go_ret
  exact ⟨A, c, rfl, HO.out, HG.out⟩
set_option maxHeartbeats 400000 in
theorem mq_queue_over (h : Mq w g k C N L H m) {i : Int} (hi : (N : Int) ≤ i) : Calls Tryz.prog 159 #[.pointer (some ⟨g, 0, none⟩), .int .i64 i] w (Told w []) := by
  have c2 := h.c2
  have hd : decide ((N : Int) ≤ i) = true := by simpa using hi
  clear h
  go_enter Tryz.func159, Tryz.ntmps159
  go_wp2
  go_ret
  exact ⟨_, _, rfl, ownW_nil _ _, GrW.refl _ _⟩
set_option maxHeartbeats 400000 in
theorem mq_queue_under (h : Mq w g k C N L H m) {i : Int} (hi : i < 0) : Calls Tryz.prog 159 #[.pointer (some ⟨g, 0, none⟩), .int .i64 i] w (Told w []) := by
  have c0 := h.c0
  have c2 := h.c2
  have HA := hid (all_out h.sq (x := i) (fun e => by have := e.1; omega))
  have hd : decide ((N : Int) ≤ i) = false := by simp; omega
  clear h
  go_enter Tryz.func159, Tryz.ntmps159
  go_wp2_with (go_at_call 138; refine HA.out.mono ?_; rintro e w' ⟨A, c, rfl, ho, hg⟩; have HO := hid ho; have HG := hid hg; clear ho hg)
  go_ret
  exact ⟨A, c, rfl, HO.out, HG.out⟩
set_option maxHeartbeats 400000 in
theorem mq_queue_nil (w : World) (i : Int) : Calls Tryz.prog 159 #[.pointer none, .int .i64 i] w fun e w' => e = .returned (.slice none 0 0) ∧ w = w' := by
  go_enter Tryz.func159, Tryz.ntmps159
  go_wp2
  go_ret
  exact ⟨rfl, rfl⟩
theorem told_rv {w' : World} {l : List Int} {A : Option Addr} {c : Nat} (ho : OwnW w' 3 (.slice A l.length c) (ints l)) : Rv w' w'.heap.size A (ints l) := by
  obtain ⟨A', c', e', hr, h1, h2⟩ := ho.read
  simp only [Value.slice.injEq] at e'
  obtain ⟨rfl, -, rfl⟩ := e'
  exact hr
theorem ints_app (l l' : List Int) : ints (l ++ l') = ints l ++ ints l' := List.map_append
set_option maxRecDepth 10000 in
set_option maxHeartbeats 1000000 in
theorem mq_all (h : Mq w g k C N L H m) (ok : Okm C N L H m) : Calls Tryz.prog 151 #[.pointer (some ⟨g, 0, none⟩)] w (Told w m.al) := by
  have c2 := h.c2
  have HM := hid h
  have HK := hid ok
  have h8 := ok.n
  have HG0 := hid (GrW.refl w nl)
  clear h ok
  go_enter Tryz.func151, Tryz.ntmps151
  go_wp2
  clear c2
  go_loopg [3, 4] N (fun gk s t wr => ∃ (out : List Int) (v : Value), v = s ∧ t = .int .i64 ((gk : Int) - 1) ∧ gk ≤ N ∧ out ++ alls m.S gk = m.al ∧ OwnW wr 3 v (ints out) ∧ GrW w wr nl v)
  case atStart => exact ⟨[], _, rfl, rfl, Nat.le_refl _, by rw [List.nil_append]; exact HK.out.allsN, ownW_nil _ _, HG0.out⟩
  case round =>
    obtain ⟨out, v, rfl, rfl, hle, hal, ho, hg⟩ := hrel
    have HO := hid ho
    have HG := hid hg
    have HAL := hid hal
    obtain ⟨A, c0, e0, -⟩ := ho.read
    rw [ints_length] at e0
    subst e0
    have h64 : (out ++ alls m.S gk).length ≤ 64 := by rw [hal]; have := HK.out.cap; have := HK.out.c; omega
    rw [List.length_append] at h64
    clear ho hg hal
    cases gk with
    | zero =>
      obtain rfl : out = m.al := by have := HAL.out; unfold alls at this; rw [List.append_nil] at this; exact this
      go_wp2
      go_ret
      exact ⟨_, _, rfl, HO.out, HG.out⟩
    | succ j =>
      have hj : j < N := by omega
      have hlen : (m.S.getD j []).length + (alls m.S j).length = (alls m.S (j + 1)).length := by show _ = (m.S.getD j [] ++ alls m.S j).length; rw [List.length_append]
      have HLE := hid (show out.length + (m.S.getD j []).length ≤ 64 from by omega)
      have HN2 := hid (show (out ++ m.S.getD j []) ++ alls m.S j = m.al from by rw [List.append_assoc]; exact HAL.out)
      have HQ := hid (mq_queue (HM.out.below HG.out.nilBelow) HK.out hj)
      have ej : ((j + 1 : Nat) : Int) - 1 = j := by omega
      rw [ej]
      obtain ⟨n0, hn0⟩ : ∃ n, out.length = n := ⟨_, rfl⟩
      rw [hn0] at HLE HG HO ⊢
      have HN0 := hid hn0
      generalize m.S.getD j [] = lq at *
      clear h64 hlen HAL ej hn0
      go_wp2_with (first
        | (go_at_call 159; refine HQ.out.mono ?_; rintro e w2 ⟨B, cB, rfl, hob, hgb⟩; (have HR2 := hid (told_rv hob); have HO2 := hid (HO.out.below hgb.nilBelow); have HG2 := hid (HG.out.trans (GrW.of hgb.nilBelow _)); clear hob hgb))
        | (at_builtin; (refine wpList_appW elt_int rfl (.tmp 17) (.tmp 20) rfl _ _ HO2.out rfl _ _ lq.length _ (ints lq) rfl (ints_length _) HR2.out (ints_one _) (by rw [ints_length, HN0.out]; unfold maxLen; have := HLE.out; omega) (by rw [ints_length, HN0.out]; have := HLE.out; omega) ?_); (intro v3 w3 ho3 hg3; have HO3 := hid ho3; have HG3 := hid (HG2.out.trans hg3); clear ho3 hg3)))
      go_roundg j
      case measure => omega
      case rel => exact ⟨out ++ lq, v3, rfl, by go_num, by omega, HN2.out, by rw [ints_app]; exact HO3.out, HG3.out⟩
set_option maxHeartbeats 400000 in
theorem mq_all_nil (w : World) : Calls Tryz.prog 151 #[.pointer none] w fun e w' => e = .returned (.slice none 0 0) ∧ w = w' := by
  go_enter Tryz.func151, Tryz.ntmps151
  go_wp2
  go_ret
  exact ⟨rfl, rfl⟩
set_option maxHeartbeats 400000 in
theorem mq_len (h : Mq w g k C N L H m) (ok : Okm C N L H m) : Calls Tryz.prog 153 #[.pointer (some ⟨g, 0, none⟩)] w fun e w' => e = .returned (.int .i64 m.al.length) ∧ Below w.heap.size w w' := by
  have HA := hid (mq_all h ok)
  clear h ok
  go_enter Tryz.func153, Tryz.ntmps153
  go_wp2_with (go_at_call 151; refine HA.out.mono ?_; rintro e w' ⟨A, c, rfl, ho, hg⟩; have HG := hid hg.nilBelow; clear ho hg)
  go_ret
  exact ⟨rfl, HG.out⟩
set_option maxHeartbeats 400000 in
theorem mq_len_nil (w : World) : Calls Tryz.prog 153 #[.pointer none] w fun e w' => e = .returned (.int .i64 0) ∧ w = w' := by
  go_enter Tryz.func153, Tryz.ntmps153
  go_wp2_with (go_at_call 151; refine (mq_all_nil _).mono ?_; rintro e w' ⟨rfl, rfl⟩)
  go_ret
  exact ⟨rfl, rfl⟩
end
end Go.Proofs.YtmfdlkkligjcbaaGreat
