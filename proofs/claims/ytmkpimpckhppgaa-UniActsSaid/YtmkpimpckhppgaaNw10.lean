/-
  What is proved: list's New: so many empty lists, held within 1 to 40. No condition.
-/
import Derived.Test.YtmkpimpckhppgaaSp10
import Derived.Test.YtmkpimpckhppgaaRf10
import Derived.Laws.Tables
namespace Go.Proofs.Ytmkpimpckhppgaa
open Go.RowKit

/-- a struct that is built of its first field alone -/
theorem wpList_build1 {P : Program} {ops : Array Oper} {rest : List Oper} {o : Oper} {a : Act} {w : World} {Q : Exit → Act → World → Prop} (hg : o.guard = none) (t : TypeId) (x : Operand) (ho : o.op = .build t #[(0, x)]) (v : Value) (hv : a.eval x = v) (cs : Array Value)
    (hf : P.built t [(0, v)] = some cs) (h : wpList P ops Q rest (a.put o.dst (.agg cs)) w) : wpList P ops Q (o :: rest) a w := by
  have hf2 : P.built t ((#[(0, x)] : Array (Nat × Operand)).map fun (i, x) => (i, a.eval x)).toList = some cs := by
    subst hv
    simpa using hf
  exact wpList_build hg t _ ho (by rw [hf2]; rfl) (by rw [hf2]; exact h)
set_option maxRecDepth 100000 in
theorem built_space (x : Int) : Try.prog.built 73 [(0, .int .i64 x)] = some ((Array.replicate 273 (Value.int .i64 0)).setIfInBounds 0 (.int .i64 x)) := by kernel_rfl
theorem space_cells (n : Nat) : (Array.replicate 273 (Value.int .i64 0)).setIfInBounds 0 (.int .i64 n) = sc n (fun _ => 0) (fun _ => 0) (fun _ => 0) := by
  refine Array.ext (by simp [sc]) fun j h1 h2 => ?_
  rw [Array.getElem_setIfInBounds (by simpa using h1)]
  simp only [sc, Array.getElem_ofFn, scf]
  by_cases hj : 0 = j
  · subst hj; rfl
  · rw [if_neg hj, if_neg (fun e => hj e.symm)]
    split <;> (try split) <;> simp
/-- the first p rings are closed -/
def ida (p : Nat) : Int → Int := fun z => if 64 ≤ z ∧ z < 64 + p then z else 0
theorem ida_succ (p : Nat) (z : Int) (hz : z = 64 + p) : upd (ida p) z z = ida (p + 1) := by
  funext j
  subst hz
  unfold upd ida
  by_cases h : j = 64 + p
  · rw [if_pos h, if_pos (by omega), h]
  · rw [if_neg h]
    by_cases h2 : 64 ≤ j ∧ j < 64 + p
    · rw [if_pos h2, if_pos (by omega)]
    · rw [if_neg h2, if_neg (by omega)]
theorem inv_empt {n : Nat} (h : 1 ≤ n ∧ n ≤ 40) : Inv (ida n) (ida n) (fun _ => 0) (empt n) where
  sz := by simp [empt]; exact h
  wf := by
    have e : ∀ (i : Nat) l, (empt n)[i]? = some l → l = [] := fun i l hl => List.eq_of_mem_replicate (List.mem_of_getElem? hl)
    refine ⟨fun i l x hl hx => ?_, fun i l hl => ?_, fun i j l l' x hl _ hx => ?_⟩
    · rw [e i l hl] at hx; cases hx
    · rw [e i l hl]; simp
    · rw [e i l hl] at hx; cases hx
  ring := fun i l hl => by
    have hi : i < n := by have := (List.getElem?_eq_some_iff.1 hl).1; simpa [empt] using this
    rw [List.eq_of_mem_replicate (List.mem_of_getElem? hl)]
    refine ⟨⟨?_, ?_⟩, trivial⟩
    all_goals
      unfold ida
      rw [if_pos (by omega)]
  inn := fun i l x hl hx => by rw [List.eq_of_mem_replicate (List.mem_of_getElem? hl)] at hx; cases hx
  out := fun _ _ _ _ => rfl
set_option maxRecDepth 10000 in
set_option maxHeartbeats 1000000 in
theorem lnew_any (m : Int) (w : World) : Calls Try.prog 23 #[.int .i64 m] w fun e w' => ∃ k, e = .returned (.pointer (some ⟨k, 0, none⟩)) ∧ Sq w' k (empt (cl m)) ∧ Below w.heap.size w w' ∧ w.heap.size ≤ k := by
  have HE := hid (show (if 40 < (if m < 1 then (1 : Int) else m) then (40 : Int) else if m < 1 then 1 else m) = (cl m : Nat) from by
    unfold cl
    split <;> split <;> omega)
  have hle := cl_le m
  generalize cl m = n at *
  have HB := hid ((built_space n).trans (congrArg some (space_cells n)))
  go_enter Try.func23, Try.ntmps23
  go_upto_region 2 with (refine wpList_build1 rfl 73 (.tmp 8) rfl (.int .i64 n) (congrArg (Value.int .i64) HE.out) (sc n (fun _ => 0) (fun _ => 0) (fun _ => 0)) HB.out ?_)
  obtain ⟨u, hu⟩ : ∃ u, (if m < 1 then (1 : Int) else m) = u := ⟨_, rfl⟩
  rw [hu] at HE ⊢
  rw [HE.out]
  have HS0 := hid (show Sb (w.alloc (.cells (sc n (fun _ => 0) (fun _ => 0) (fun _ => 0)) 73)) w.heap.size n (ida 0) (ida 0) (fun _ => 0) from by
    have e : ida 0 = fun _ => 0 := by funext z; unfold ida; rw [if_neg (by omega)]
    rw [e]
    exact Bx.new w _ _)
  have HB0 := hid (below_alloc w (.cells (sc n (fun _ => 0) (fun _ => 0) (fun _ => 0)) 73))
  obtain ⟨W, hW⟩ : ∃ x, w.alloc (.cells (sc n (fun _ => 0) (fun _ => 0) (fun _ => 0)) 73) = x := ⟨_, rfl⟩
  rw [hW] at HS0 HB0 ⊢
  have c0 := HS0.out.cN
  obtain ⟨g, hgg⟩ : ∃ g, w.heap.size = g := ⟨_, rfl⟩
  rw [hgg] at c0 HS0 ⊢
  have HGG := hid hgg
  clear hgg hW hu HE HB
  go_wp2
  clear c0
  go_loopg [15] n (fun gk t wr => ∃ p : Nat, p + gk = n ∧ t = .int .i64 p ∧ Sb wr g n (ida p) (ida p) (fun _ => 0) ∧ Below w.heap.size w wr)
  case atStart => exact ⟨0, by omega, rfl, HS0.out, HB0.out⟩
  case round =>
    obtain ⟨p, hp, rfl, hs, hb⟩ := hrel
    have HS := hid hs
    have HB := hid hb
    clear hb
    by_cases hlt : p < n
    · obtain ⟨z, hz⟩ : ∃ z, 64 + p = z := ⟨_, rfl⟩
      have HCL := hid (fun w => closing_z w p z (by omega) hz)
      have ca := hs.cA (p := z) (by omega)
      have cb := hs.cB (p := z) (by omega)
      have fr := hs.free
      have z0 : (0 : Int) ≤ (z : Int) := by omega
      have z1 : (z : Int) < 104 := by omega
      have zz : z < 104 := by omega
      have HU := hid (ida_succ p z (by omega))
      have ne1 : 105 + z ≠ 1 + z := by omega
      have ne2 : 1 + z ≠ 105 + z := by omega
      have hpn : (p : Int) < (n : Int) := by omega
      generalize ida p (z : Int) = iz at ca cb
      clear hs hz
      go_upto_region 6 with (go_at_call 38; refine (HCL.out _).mono ?_; rintro e w4 ⟨rfl, rfl⟩)
      go_region
      go_wp2
      have HX := (HS.out.setA zz (z : Int)).setB zz (z : Int)
      rw [HU.out] at HX
      have HY := (((HB.out.setCell (Nat.le_of_eq HGG.out : w.heap.size ≤ (⟨g, 1 + z, none⟩ : Addr).block) (.int .i64 z))).setCell (Nat.le_of_eq HGG.out : w.heap.size ≤ (⟨g, 105 + z, none⟩ : Addr).block) (.int .i64 z))
      go_roundg (gk - 1)
      case measure => omega
      case rel => exact ⟨p + 1, by omega, by go_num, HX.draws 1, below_draws HY 1⟩
    · obtain rfl : p = n := by omega
      have hpn : ¬ (p : Int) < (p : Int) := by omega
      clear hs
      go_wp2
      go_ret
      exact ⟨g, rfl, ⟨_, _, _, by rw [show (empt p).length = p from by simp [empt]]; exact HS.out, inv_empt hle⟩, HB.out, Nat.le_of_eq HGG.out⟩
end Go.Proofs.Ytmkpimpckhppgaa
