/-
  What is proved: net's New, Turn. Condition: the net lies in memory as one.
-/
import Derived.Test.YtcagochalnjagaaTak9
namespace Go.Proofs.Ytcagochalnjagaa
open Go.RowKit

theorem wpList_makeV {P : Program} {S e : TypeId} {z : Value} {bytes : Nat} (E : Elt P S e z 1 bytes) (hz1 : z.cells = #[z]) {w : World} {ops : Array Oper} {rest : List Oper} {o : Oper} {a : Act} {Q : Exit → Act → World → Prop} (hgd : o.guard = none) (x y : Operand)
    (ho : o.op = .makeSlice S x y) (n : Nat) (hx : a.eval x = .int .i64 n) (hy : a.eval y = .int .i64 n) (hbytes : bytes * n ≤ 281474976710656) (hn : n ≤ maxLen)
    (h : ∀ w1, Hid (w1 = w.alloc (.cells (List.replicate n z).toArray e)) → wpList P ops Q rest (a.put o.dst (.slice (some ⟨w.heap.size, 0, none⟩) n n)) w1) : wpList P ops Q (o :: rest) a w := by
  obtain ⟨i, hi, hz, hs, hb⟩ := info_parts E.info
  refine wpList_plain hgd fun K hK => ?_
  have hn' : (n : Int) ≤ 9223372036854775807 := by
    have := hn
    simp [maxLen] at this
    omega
  have hb' : (i.bytes : Int) * (n : Int) ≤ 281474976710656 := by
    have h : ((i.bytes * n : Nat) : Int) ≤ 281474976710656 := by rw [hb]; omega
    rwa [Int.natCast_mul] at h
  have hrun := run_make (P := P) w S e i z E.und hi hz .i64 .i64 n n (by omega) (Int.le_refl _) hb' hn'
  have hc : madeCells z.cells ((n : Int).toNat * i.size) = (List.replicate n z).toArray := by
    rw [hz1, hs, Nat.mul_one, Int.toNat_natCast]
    apply Array.toList_inj.1
    rw [toList_madeCells_one]
  rw [hc, Int.toNat_natCast] at hrun
  unfold Oper.wp execOp
  simp only [ho, hx, hy, hrun, Sem.run_bind, Sem.run_pure, Result.andThen_ok]
  exact hK _ _ (h _ rfl)

/-- as many ways as there may be -/
def cl (m : Int) : Nat := (min (max m 0) 32).toNat
theorem cl_le (m : Int) : cl m ≤ 32 := by unfold cl; omega
/-- nothing on n ways -/
def empt (n : Nat) : List Wy := List.replicate n []
/-- a new net of n ways has been made -/
def Made9 (N : World → Nat → Value → List Value → List Wy → Prop) (n : Nat) (w : World) (e : Ending) (w' : World) : Prop :=
  ∃ k v us, e = .returned (.pointer (some ⟨k, 0, none⟩)) ∧ N w' k v us (empt n) ∧ Below w.heap.size w w' ∧ ∀ j, Ft k v us j → w.heap.size ≤ j
theorem empt_at {n p : Nat} {fs : Wy} (h : (empt n)[p]? = some fs) : fs = [] := by
  unfold empt at h
  rw [List.getElem?_replicate] at h
  split at h
  · injection h with h; exact h.symm
  · cases h
theorem nb_replicate (n : Nat) (x : Value) (hx : NB x) : ∀ y ∈ (List.replicate n x).toArray.toList, NB y := fun y hy => by
  have e := List.eq_of_mem_replicate (show y ∈ List.replicate n x from by simpa using hy)
  rw [e]
  exact hx
set_option maxHeartbeats 400000 in
theorem nnew_any (m : Int) (w : World) : Calls Try.prog 10 #[.int .i64 m] w (Made9 NI (cl m) w) := by
  have key : ∀ n : Nat, n ≤ 32 → ∀ W : World, W = (w.alloc (.cells (List.replicate n (Value.slice none 0 0)).toArray 62)).alloc (.cells #[.slice (some ⟨w.heap.size, 0, none⟩) n n] 57) →
      NI W (w.heap.size + 1) (.slice (some ⟨w.heap.size, 0, none⟩) n n) (List.replicate n (.slice none 0 0)) (empt n) ∧ Below w.heap.size w W := by
    intro n hn W e
    subst e
    have O := ownW_new w 62 (List.replicate n (Value.slice none 0 0)).toArray n (by simp) (by unfold maxLen; omega) (nb_replicate _ _ (nb_slice _ _ _))
    obtain ⟨w1, hw1⟩ : ∃ w1, w.alloc (.cells (List.replicate n (Value.slice none 0 0)).toArray 62) = w1 := ⟨_, rfl⟩
    have hs : w1.heap.size = w.heap.size + 1 := by rw [← hw1, World.size_alloc]
    have B1 : Below w.heap.size w w1 := by rw [← hw1]; exact below_alloc w _
    rw [hw1] at O ⊢
    have hnone : ∀ u ∈ List.replicate n (Value.slice none 0 0), u.ownBlock = none := fun u hu => by rw [List.eq_of_mem_replicate hu]; rfl
    refine ⟨⟨by rw [← hs]; exact Bx.new w1 _ _, O.below (below_alloc w1 _), by simp [empt], by simp [empt]; exact hn, fun fs hfs => ?_, fun p u fs hu hfs => ?_, by simp [Value.ownBlock], fun u hu => ?_, fun u hu g e => ?_, fun i j u u' g h1 h2 h3 => ?_⟩, on B1 (below_alloc w1 _)⟩
    · rw [List.eq_of_mem_replicate hfs]; simp
    · have := hnone u (List.mem_of_getElem? hu)
      have hu2 := List.eq_of_mem_replicate (List.mem_of_getElem? hu)
      subst hu2
      rw [empt_at hfs]
      exact ⟨[], ownW_nil _ _, Cs.nil _ _⟩
    · rw [hnone u hu]; simp
    · rw [hnone u hu] at e; cases e
    · rw [hnone u (List.mem_of_getElem? h1)] at h3; cases h3
  have K := hid (key (cl m) (cl_le m))
  have HE := hid (show (if 32 < (if m < 0 then (0 : Int) else m) then (32 : Int) else if m < 0 then 0 else m) = (cl m : Nat) from by
    unfold cl
    split <;> split <;> omega)
  have hle := cl_le m
  generalize cl m = n at *
  clear key
  go_enter Try.func10, Try.ntmps10
  go_wp2_with (at_make; refine wpList_makeV elt_strs rfl rfl (.tmp 7) (.tmp 7) rfl n (congrArg (Value.int .i64) HE.out) (congrArg (Value.int .i64) HE.out) (by omega) (by unfold maxLen; omega) ?_; intro w1 hw1)
  all_goals
   have hs : w1.heap.size = w.heap.size + 1 := by rw [hw1.out, World.size_alloc]
   refine bodyPost_ret (v := .pointer (some ⟨w1.heap.size, 0, none⟩)) (by simp [results, Try.results10, go_sem]) rfl ⟨w1.heap.size, .slice (some ⟨w.heap.size, 0, none⟩) n n, List.replicate n (.slice none 0 0), rfl, ?_⟩
   rw [hs]
   obtain ⟨K1, K2⟩ := K.out (w1.alloc (.cells #[.slice (some ⟨w.heap.size, 0, none⟩) n n] 57)) (by rw [hw1.out])
   refine ⟨K1, K2, fun j hj => ?_⟩
   rcases hj with rfl | e | ⟨u, hu, e⟩
   · omega
   · simp [Value.ownBlock] at e
     omega
   · rw [List.eq_of_mem_replicate hu] at e
     simp [Value.ownBlock] at e
section
variable {w : World} {k : Nat} {v : Value} {us : List Value} {S : List Wy}
/-- behind Turn -/
def turnS (S : List Wy) (way i r : Int) : List Wy := if vld (wy S way) i ∧ vld (wy S way) r then S.set way.toNat (((wy S way).set i.toNat ((wy S way).getD r.toNat [])).set r.toNat ((wy S way).getD i.toNat [])) else S
def turnE (S : List Wy) (way i r : Int) : Int := if vld (wy S way) i ∧ vld (wy S way) r then 0 else 5
set_option maxRecDepth 10000 in
set_option maxHeartbeats 400000 in
theorem nturn_any (h : NI w k v us S) (way i r : Int) :
    Calls Try.prog 20 #[.pointer (some ⟨k, 0, none⟩), .int .i64 way, .int .i64 i, .int .i64 r] w fun e w' => e = .returned (.int .i64 (turnE S way i r)) ∧ ∃ us', NI w' k v us' (turnS S way i r) ∧ Chg w w' (Ft k v us) (Ft k v us') := by
  by_cases hi : vld (wy S way) i
  · have HF := hid (nfind_yes h hi)
    by_cases hr : vld (wy S way) r
    · have HR := hid (nfind_yes h hr)
      have e1 : turnS S way i r = S.set way.toNat (((wy S way).set i.toNat ((wy S way).getD r.toNat [])).set r.toNat ((wy S way).getD i.toNat [])) := if_pos ⟨hi, hr⟩
      have e2 : turnE S way i r = 0 := if_pos ⟨hi, hr⟩
      rw [e1, e2]
      obtain ⟨p, fs, rfl, hp, hw⟩ := isw_at (vld_isw hi)
      rw [hw] at hi hr ⊢
      obtain ⟨q, l, rfl, hq, hql⟩ := vld_at hi
      obtain ⟨s, l2, rfl, hq2, hql2⟩ := vld_at hr
      obtain ⟨g, c, u, A, d, cs, rfl, hu, hu2, q1, q2, ho, hcs, h400⟩ := Nt.at_ h hp
      have c0 : w.cell? ⟨k, 0, none⟩ = some (.slice (some ⟨g, 0, none⟩) S.length c) := h.box.cell 0
      have hpp : (p : Int) < (S.length : Int) := by have := (List.getElem?_eq_some_iff.1 hp).1; omega
      rw [hu2] at ho hu
      obtain ⟨x, hx, hxl⟩ := hcs.get hq
      obtain ⟨y, hy, hyl⟩ := hcs.get hq2
      have hqc : q < cs.length := by rw [hcs.1]; exact hql
      have hsc : s < cs.length := by rw [hcs.1]; exact hql2
      obtain ⟨gA, dA, e4⟩ := ho.place (by omega)
      simp only [Value.slice.injEq] at e4
      obtain ⟨rfl, e4, rfl⟩ := e4
      have f0 := (ho.cellAt hqc).1.trans hx
      have f1 := (ho.cellAt hsc).1.trans hy
      have f2 := (ho.cellAt hqc).2
      obtain ⟨o1, g1⟩ := ho.set hqc (stb_Es.nb _ _ _ hyl)
      have hsc1 : s < (cs.set q y).length := by rw [List.length_set]; exact hsc
      obtain ⟨z, hz⟩ : ∃ z, (cs.set q y)[s]? = some z := ⟨_, List.getElem?_eq_getElem hsc1⟩
      have f3 := (o1.cellAt hsc1).1.trans hz
      have f4 := (o1.cellAt hsc1).2
      obtain ⟨o2, g2⟩ := o1.set hsc1 (stb_Es.nb _ _ _ hxl)
      have hgg := g1.trans g2
      have hcs2 : Cs Es ((w.setCell ⟨gA, q, none⟩ y).setCell ⟨gA, s, none⟩ x) ((cs.set q y).set s x) ((fs.set q l2).set s l) := ((hcs.keep stb_Es hgg.stay hgg.gr.size).set q hyl).set s hxl
      have HX := hid (Nt.stir h stb_Es hu hgg o2 hcs2 (by rw [List.length_set, List.length_set]; exact h400))
      have hx1 := stb_Es.one _ _ _ hxl
      have hy1 := stb_Es.one _ _ _ hyl
      have E1 := hid (show fs.getD q [] = l from by rw [List.getD, hq]; rfl)
      have E2 := hid (show fs.getD s [] = l2 from by rw [List.getD, hq2]; rfl)
      obtain ⟨rfl, -, -⟩ := hxl
      obtain ⟨rfl, -, -⟩ := hyl
      rw [hu2] at q1
      rw [Int.toNat_natCast, Int.toNat_natCast, Int.toNat_natCast]
      have hqq : (q : Int) < (fs.length : Int) := by omega
      have hss : (s : Int) < (fs.length : Int) := by omega
      clear h hi hr hp hw e1 e2 e4 hu hu2 ho hcs hql hql2 hq hq2 hqc hsc hsc1 o1 o2 g1 g2 hgg hcs2 hx hy hz
      generalize hn : S.length = n at *
      generalize fs.length = m at *
      go_enter Try.func20, Try.ntmps20
      go_upto_region 8 with (go_at_call 26; (first | ((with_reducible refine HF.out.mono ?_); rintro e w' ⟨rfl, rfl⟩) | ((with_reducible refine HR.out.mono ?_); rintro e w' ⟨rfl, rfl⟩)))
      clear HF HR
      go_region
      go_wp2
      go_ret
      refine ⟨rfl, us, ?_, HX.out.2.draws 1⟩
      rw [E1.out, E2.out]
      exact Nt.draws HX.out.1 stb_Es 1
    · have HR := hid (nfind_no h hr)
      have e1 : turnS S way i r = S := if_neg (fun e => hr e.2)
      have e2 : turnE S way i r = 5 := if_neg (fun e => hr e.2)
      rw [e1, e2]
      have HK := hid h
      clear h hi hr e1 e2
      go_enter Try.func20, Try.ntmps20
      go_wp2_with (go_at_call 26; (first | ((with_reducible refine HF.out.mono ?_); rintro e w' ⟨rfl, rfl⟩) | ((with_reducible refine HR.out.mono ?_); rintro e w' ⟨rfl, rfl⟩)))
      go_ret
      exact ⟨rfl, _, HK.out, Chg.refl _ _⟩
  · have HF := hid (nfind_no h hi)
    have e1 : turnS S way i r = S := if_neg (fun e => hi e.1)
    have e2 : turnE S way i r = 5 := if_neg (fun e => hi e.1)
    rw [e1, e2]
    have HK := hid h
    clear h hi e1 e2
    go_enter Try.func20, Try.ntmps20
    go_wp2_with (go_at_call 26; refine HF.out.mono ?_; rintro e w' ⟨rfl, rfl⟩)
    go_ret
    exact ⟨rfl, _, HK.out, Chg.refl _ _⟩
end
end Go.Proofs.Ytcagochalnjagaa
