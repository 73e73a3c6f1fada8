/-
  What is proved: the reference's Right and New. No condition.
-/
import Derived.Test.YtlafhejnnilpmaaRm12
import Derived.Test.YtlafhejnnilpmaaMq12
namespace Go.Proofs.Ytlafhejnnilpmaa
open Go.RowKit

set_option maxHeartbeats 2000000 in
theorem rright_any (c n l h : Int) (w : World) : Calls Try.prog 10 #[.int .i64 c, .int .i64 n, .int .i64 l, .int .i64 h] w fun e w' => e = .returned (.bool (decide (shp c n l h))) ∧ w = w' := by
  by_cases hs : shp c n l h
  · rw [decide_eq_true hs]
    obtain ⟨⟨a1, a2⟩, ⟨a3, a4⟩, ⟨a5, a6⟩, a7, a8⟩ := hs
    go_enter Try.func10, Try.ntmps10
    go_wp2
    go_ret
    exact ⟨rfl, rfl⟩
  · rw [decide_eq_false hs]
    have h8 : ¬ 1 ≤ c ∨ (1 ≤ c ∧ ¬ c ≤ 16) ∨ (1 ≤ c ∧ c ≤ 16 ∧ ¬ 1 ≤ n) ∨ (1 ≤ c ∧ c ≤ 16 ∧ 1 ≤ n ∧ ¬ n ≤ 8) ∨ (1 ≤ c ∧ c ≤ 16 ∧ 1 ≤ n ∧ n ≤ 8 ∧ ¬ 1 ≤ l) ∨ (1 ≤ c ∧ c ≤ 16 ∧ 1 ≤ n ∧ n ≤ 8 ∧ 1 ≤ l ∧ ¬ l ≤ 100) ∨
      (1 ≤ c ∧ c ≤ 16 ∧ 1 ≤ n ∧ n ≤ 8 ∧ 1 ≤ l ∧ l ≤ 100 ∧ ¬ 0 ≤ h) ∨ (1 ≤ c ∧ c ≤ 16 ∧ 1 ≤ n ∧ n ≤ 8 ∧ 1 ≤ l ∧ l ≤ 100 ∧ 0 ≤ h ∧ ¬ h ≤ 16) := by
      unfold shp at hs
      omega
    clear hs
    rcases h8 with a1 | ⟨a1, a2⟩ | ⟨a1, a2, a3⟩ | ⟨a1, a2, a3, a4⟩ | ⟨a1, a2, a3, a4, a5⟩ | ⟨a1, a2, a3, a4, a5, a6⟩ | ⟨a1, a2, a3, a4, a5, a6, a7⟩ | ⟨a1, a2, a3, a4, a5, a6, a7, a8⟩
    all_goals
      go_enter Try.func10, Try.ntmps10
      go_wp2
      go_ret
      exact ⟨rfl, rfl⟩
/-- a make of a length that is known -/
theorem wpList_make12 {P : Program} {S e : TypeId} {z : Value} {bytes : Nat} (E : Elt P S e z 1 bytes) (hz1 : z.cells = #[z]) {w : World} {ops : Array Oper} {rest : List Oper} {o : Oper} {a : Act} {Q : Exit → Act → World → Prop} (hgd : o.guard = none) (x y : Operand)
    (ho : o.op = .makeSlice S x y) (n : Nat) (hx : a.eval x = .int .i64 n) (hy : a.eval y = .int .i64 n) (hbytes : bytes * n ≤ 281474976710656) (hn : n ≤ maxLen)
    (h : ∀ w1, Hid (w1 = w.alloc (.cells (List.replicate n z).toArray e)) → wpList P ops Q rest (a.put o.dst (.slice (some ⟨w.heap.size, 0, none⟩) n n)) w1) : wpList P ops Q (o :: rest) a w := by
  obtain ⟨i, hi, hz, hs, hb⟩ := info_parts E.info
  refine wpList_plain hgd fun K hK => ?_
  have hn' : (n : Int) ≤ 9223372036854775807 := by
    have := hn
    simp [maxLen] at this
    omega
  have hb' : (i.bytes : Int) * (n : Int) ≤ 281474976710656 := by
    have h : ((i.bytes * n : Nat) : Int) ≤ 281474976710656 := by rw [hb]; omega
    rwa [Int.natCast_mul] at h
  have hrun := run_make (P := P) w S e i z E.und hi hz .i64 .i64 n n (by omega) (Int.le_refl _) hb' hn'
  have hc : madeCells z.cells ((n : Int).toNat * i.size) = (List.replicate n z).toArray := by
    rw [hz1, hs, Nat.mul_one, Int.toNat_natCast]
    apply Array.toList_inj.1
    rw [toList_madeCells_one]
  rw [hc, Int.toNat_natCast] at hrun
  unfold Oper.wp execOp
  simp only [ho, hx, hy, hrun, Sem.run_bind, Sem.run_pure, Result.andThen_ok]
  exact hK _ _ (h _ rfl)
theorem nums_made : (List.replicate 64 (Value.int .i64 0)).toArray = nums fun _ => 0 := by
  rw [← nums_zero, List.toArray_replicate]
/-- while New is at it: so many rows are laid -/
structure Mk2 (w wr : World) (C L H p : Nat) (v : Value) : Prop where
  box : Bx wr w.heap.size 60 #[.int .i64 C, .int .i64 L, .int .i64 H, v, nl, nl, nl, .int .i64 0]
  row : OwnW wr 44 v (List.replicate p nl)
  bel : Below w.heap.size w wr
  ne : v.ownBlock ≠ some w.heap.size
  low : ∀ g, v.ownBlock = some g → w.heap.size ≤ g
theorem Mk2.alloc {w wr : World} {C L H p : Nat} {v : Value} (h : Mk2 w wr C L H p v) (o : Obj) : Mk2 w (wr.alloc o) C L H p v :=
  ⟨h.box.alloc o, h.row.below (below_alloc wr o), h.bel.trans ((below_alloc wr o).mono h.bel.size), h.ne, h.low⟩
theorem Mk2.more {w wr w2 : World} {C L H p : Nat} {v v2 : Value} (h : Mk2 w wr C L H p v) (ho : OwnW w2 44 v2 (List.replicate p nl ++ [nl])) (hg : GrW wr w2 v v2) :
    Bx w2 w.heap.size 60 #[.int .i64 C, .int .i64 L, .int .i64 H, v, nl, nl, nl, .int .i64 0] ∧ Mk2 w (w2.setCell ⟨w.heap.size, 3, none⟩ v2) C L H (p + 1) v2 := by
  have hx : Bx w2 w.heap.size 60 #[.int .i64 C, .int .i64 L, .int .i64 H, v, nl, nl, nl, .int .i64 0] := (hg.other h.box.lt h.ne).trans h.box
  have hlow : ∀ g, v2.ownBlock = some g → w.heap.size ≤ g ∧ g ≠ w.heap.size := fun g e => by
    rcases hg.at_ with e1 | e1
    · rw [e1] at e
      exact ⟨h.low g e, fun e2 => h.ne (by rw [e, e2])⟩
    · have := e1 g e
      have := h.box.lt
      omega
  have hb : Below w.heap.size w w2 := ⟨hg.gr.os.trans h.bel.os, hg.gr.tape.trans h.bel.tape, hg.gr.output.trans h.bel.output, Nat.le_trans h.bel.size hg.gr.size, fun j hj => (hg.gr.block j (Nat.lt_of_lt_of_le hj h.bel.size) (fun e => by have := h.low j e.symm; omega)).trans (h.bel.block j hj)⟩
  refine ⟨hx, hx.set 3 v2, ?_, hb.setCell (Nat.le_refl _) _, fun e => (hlow _ e).2 rfl, fun g e => (hlow g e).1⟩
  rw [List.replicate_succ']
  exact ho.kept fun j hj => Below.heap_setCell w2 _ _ j (fun e2 => (hlow j hj).2 e2)
/-- an MQ of the reference's that New has made; blocks X0 were there ahead -/
def RNew (w : World) (C N L H : Nat) (en : Ending) (w' : World) : Prop :=
  ∃ h a p e, en = .returned (.pointer (some ⟨h, 0, none⟩)) ∧ Below w.heap.size w w' ∧ (∀ j, Fr h a p e j → w.heap.size ≤ j) ∧
    ∀ X0 : Nat → Prop, (∀ j, X0 j → j < w.heap.size) → Rq w' (fun j => X0 j ∨ Fr h a p e j) h a p e C N L H (List.replicate N []) [] (fun _ => 0) (fun _ => 0) 0
set_option maxRecDepth 10000 in
set_option maxHeartbeats 2000000 in
theorem rmq_new (C N L H : Nat) (hN : 1 ≤ N ∧ N ≤ 8) (w : World) : Calls Try.prog 11 #[.int .i64 C, .int .i64 N, .int .i64 L, .int .i64 H] w (RNew w C N L H) := by
  have M0 : Mk2 w (w.alloc (.cells #[.int .i64 C, .int .i64 L, .int .i64 H, nl, nl, nl, nl, .int .i64 0] 60)) C L H 0 (.slice none 0 0) :=
    ⟨Bx.new w _ _, ownW_nil _ _, below_alloc w _, by simp [Value.ownBlock], fun g e => by simp [Value.ownBlock] at e⟩
  have HM0 := hid M0
  clear M0
  go_enter Try.func11, Try.ntmps11
  go_upto_region 2 with fail
  obtain ⟨W1, hW1⟩ : ∃ x, w.alloc (.cells #[.int .i64 C, .int .i64 L, .int .i64 H, nl, nl, nl, nl, .int .i64 0] 60) = x := ⟨_, rfl⟩
  rw [hW1] at HM0 ⊢
  clear hW1
  obtain ⟨g, hgg⟩ : ∃ g, w.heap.size = g := ⟨_, rfl⟩
  have HGG := hid hgg
  rw [hgg]
  clear hgg
  go_wp2
  go_loopg [10] N (fun gk t wr => ∃ i : Nat, i + gk = N ∧ t = .int .i64 i ∧ ∃ v, Mk2 w wr C L H i v)
  case atStart => exact ⟨0, by omega, rfl, _, HM0.out⟩
  case round =>
    obtain ⟨i, hi, rfl, v, hm⟩ := hrel
    have HM := hid hm
    obtain ⟨A, c, e, -⟩ := hm.row.read
    rw [List.length_replicate] at e
    subst e
    have HL := hid (show (List.replicate i nl).length = i from List.length_replicate)
    have c3 : wr.cell? ⟨g, 3, none⟩ = some (.slice A i c) := by rw [← HGG.out]; exact hm.box.cell 3
    have hlt1 : g < wr.heap.size := by rw [← HGG.out]; exact hm.box.lt
    clear hm HM0
    by_cases hlt : i < N
    · have h1 : (i : Int) < (N : Int) := by omega
      have HM1 := hid (HM.out.alloc (.cells #[.slice none 0 0] 44))
      have HR1 := hid (rv_new wr 44 #[.slice none 0 0])
      go_upto_region 5 with fail
      go_wp2_with (at_builtin; (refine wpList_appW elt_row rfl (.tmp 25) (.tmp 26) rfl _ _ HM1.out.row rfl _ _ 1 1 [.slice none 0 0] rfl rfl HR1.out (fun u hu => by simp at hu; subst hu; rfl) (by rw [HL.out]; unfold maxLen; omega) (by rw [HL.out]; omega) ?_); intro v2 w2 hown2 hg2; obtain ⟨X2, M2⟩ := HM1.out.more hown2 hg2; obtain ⟨AA, nn, ac, rfl⟩ : ∃ A n c, v2 = .slice A n c := (by obtain ⟨A, c, e, -⟩ := hown2.read; exact ⟨_, _, _, e⟩); have HM2 := hid M2; rw [HGG.out] at X2; have d3 : w2.cell? ⟨g, 3, none⟩ = some (.slice A i c) := X2.cell 3; have f3 := X2.free; clear X2 M2 hown2 hg2)
      go_roundg (gk - 1)
      case measure => omega
      case rel => exact ⟨i + 1, by omega, by go_num, _, by rw [← HGG.out]; exact HM2.out⟩
    · obtain rfl : i = N := by omega
      have h1 : ¬ (i : Int) < (i : Int) := by omega
      have HX := hid (show Bx wr g 60 #[.int .i64 C, .int .i64 L, .int .i64 H, .slice A i c, nl, nl, nl, .int .i64 0] from by rw [← HGG.out]; exact HM.out.box)
      obtain ⟨p, hpp⟩ : ∃ p, wr.heap.size = p := ⟨_, rfl⟩
      have HPP := hid hpp
      go_upto_region 7 with (at_make; refine wpList_make12 elt_int rfl rfl (.const (.int .i64 64)) (.const (.int .i64 64)) rfl 64 rfl rfl (by decide) (by decide) ?_; intro w3 hw3; have HB3 := hid (show Below wr.heap.size wr w3 from by rw [hw3.out]; exact below_alloc _ _); have HP3 := hid (show Bx w3 p 3 (nums fun _ => 0) from by rw [hw3.out, nums_made, ← HPP.out]; exact Bx.new _ _ _); have HX3 := hid (HX.out.next HB3.out); have c5 : w3.cell? ⟨g, 5, none⟩ = some nl := HX3.out.cell 5; have fr := HX3.out.free; clear hw3)
      have HX4 := hid (show Bx (w3.setCell ⟨g, 5, none⟩ (.slice (some ⟨p, 0, none⟩) 64 64)) g 60 #[.int .i64 C, .int .i64 L, .int .i64 H, .slice A i c, nl, .slice (some ⟨p, 0, none⟩) 64 64, nl, .int .i64 0] from HX3.out.set 5 _)
      have hgp : g ≠ p := by omega
      have HP4 := hid (show Bx (w3.setCell ⟨g, 5, none⟩ (.slice (some ⟨p, 0, none⟩) 64 64)) p 3 (nums fun _ => 0) from HP3.out.far _ _ hgp)
      have HC4 := hid (chg_set (Chg.of HB3.out (· = g)) 5 (.slice (some ⟨p, 0, none⟩) 64 64))
      generalize w3.setCell ⟨g, 5, none⟩ (.slice (some ⟨p, 0, none⟩) 64 64) = w4 at *
      clear c5 fr c3 hpp
      obtain ⟨e, hee⟩ : ∃ p, w4.heap.size = p := ⟨_, rfl⟩
      have HEE := hid hee
      go_upto_region 8 with (at_make; refine wpList_make12 elt_int rfl rfl (.const (.int .i64 64)) (.const (.int .i64 64)) rfl 64 rfl rfl (by decide) (by decide) ?_; intro w5 hw5; have HB5 := hid (show Below w4.heap.size w4 w5 from by rw [hw5.out]; exact below_alloc _ _); have HE5 := hid (show Bx w5 e 3 (nums fun _ => 0) from by rw [hw5.out, nums_made, ← HEE.out]; exact Bx.new _ _ _); have HX5 := hid (HX4.out.next HB5.out); have c6 : w5.cell? ⟨g, 6, none⟩ = some nl := HX5.out.cell 6; have fr := HX5.out.free; clear hw5)
      have HX6 := hid (show Bx (w5.setCell ⟨g, 6, none⟩ (.slice (some ⟨e, 0, none⟩) 64 64)) g 60 #[.int .i64 C, .int .i64 L, .int .i64 H, .slice A i c, nl, .slice (some ⟨p, 0, none⟩) 64 64, .slice (some ⟨e, 0, none⟩) 64 64, .int .i64 0] from HX5.out.set 6 _)
      have hpe : p ≠ e := by have := HP4.out.lt; omega
      have hge : g ≠ e := by have := HX4.out.lt; omega
      have HP6 := hid (show Bx (w5.setCell ⟨g, 6, none⟩ (.slice (some ⟨e, 0, none⟩) 64 64)) p 3 (nums fun _ => 0) from (HP4.out.next HB5.out).far _ _ hgp)
      have HE6 := hid (show Bx (w5.setCell ⟨g, 6, none⟩ (.slice (some ⟨e, 0, none⟩) 64 64)) e 3 (nums fun _ => 0) from HE5.out.far _ _ hge)
      have HC6 := hid ((HC4.out.trans (Chg.of HB5.out (· = g))).trans (chg_set (Chg.refl w5 (· = g)) 6 (.slice (some ⟨e, 0, none⟩) 64 64)))
      generalize w5.setCell ⟨g, 6, none⟩ (.slice (some ⟨e, 0, none⟩) 64 64) = w6 at *
      clear c6 fr hee
      go_wp2
      go_ret
      have hm := HM.out
      have hne := hm.ne
      rw [HGG.out] at hne
      obtain ⟨a, ca, ea⟩ := hm.row.place (by rw [HL.out]; omega)
      rw [HL.out] at ea
      simp only [Value.slice.injEq] at ea
      obtain ⟨rfl, -, rfl⟩ := ea
      have hag : a ≠ g := fun e => hne (by rw [e]; rfl)
      have hal : a < wr.heap.size := hm.row.lt rfl
      have hlow := hm.low a rfl
      have hbel : Below w.heap.size w w6 := hm.bel.trans (HC6.out.bel hm.bel.size fun j e => by rw [e]; exact Nat.le_of_eq HGG.out)
      have hpv := HPP.out
      have hev := HEE.out
      have hwp : w.heap.size ≤ p := by have := hm.bel.size; omega
      have hwe : w.heap.size ≤ e := by have := HC4.out.size; omega
      have hap : a ≠ p := by omega
      have hae : a ≠ e := by have := HC4.out.size; omega
      have hro : OwnW w6 44 (.slice (some ⟨a, 0, none⟩) i c) (List.replicate i nl) := hm.row.kept fun j e => by
        simp [Value.ownBlock] at e
        subst e
        exact HC6.out.block _ hal hag
      have hsz := hbel.size
      refine ⟨g, a, p, e, rfl, hbel, fun j hj => ?_, fun X0 hX0 => ⟨c, List.replicate i nl, nl, ?_⟩⟩
      · rcases hj with rfl | rfl | rfl | rfl
        · exact Nat.le_of_eq HGG.out
        · exact hlow
        · exact hwp
        · exact hwe
      · have hrt : Rt w6 (fun j => X0 j ∨ Fr g a p e j) nl [] := ⟨none, 0, rfl, rw_nil _, Nat.le_refl _, by unfold maxLen; omega, fun _ e => by cases e⟩
        have hrep : ∀ q, (List.replicate i ([] : List Int)).getD q [] = [] := fun q => by
          rw [List.getD_eq_getElem?_getD, List.getElem?_replicate]
          split <;> rfl
        exact {
          box := HX6.out
          row := hro
          way := fun q u hu => by rw [List.eq_of_mem_replicate (List.mem_of_getElem? hu), hrep]; exact hrt
          gh := hrt
          oft := HP6.out
          exp := HE6.out
          rl := List.length_replicate
          n8 := hN
          r64 := fun q => by rw [hrep]; exact Nat.zero_le _
          g64 := Nat.zero_le _
          xb := fun j hj => by
            rcases hj with hj | rfl | rfl | rfl | rfl
            · exact Nat.lt_of_lt_of_le (hX0 j hj) hsz
            · exact HX6.out.lt
            · exact hro.lt rfl
            · exact HP6.out.lt
            · exact HE6.out.lt
          xh := .inr fr_h
          xa := .inr fr_a
          xp := .inr fr_p
          xe := .inr fr_e
          ha := hag.symm
          hp := hgp
          he := hge
          ap := hap
          ae := hae
          pe := hpe }
end Go.Proofs.Ytlafhejnnilpmaa
