/-
  What is proved: the reference's New, has, without. Condition: the net lies in memory as one.
-/
import Derived.Test.YtcagochalnjagaaWk9
import Derived.BigRegion
namespace Go.Proofs.Ytcagochalnjagaa
open Go.RowKit

theorem infoTxt : (Try.prog.info? 32).map (fun i => (i.zero, i.size, i.bytes)) = some (some (.slice none 0 0), 1, 24) := by kernel_rfl
theorem infoTxts : (Try.prog.info? 29).map (fun i => (i.zero, i.size, i.bytes)) = some (some (.slice none 0 0), 1, 24) := by kernel_rfl
theorem elt_txt : Elt Try.prog 29 32 (.slice none 0 0) 1 24 := ⟨Try.underlying29, infoTxt, rfl, by decide⟩
theorem elt_txts : Elt Try.prog 39 29 (.slice none 0 0) 1 24 := ⟨Try.underlying39, infoTxts, rfl, by decide⟩
abbrev nl : Value := .slice none 0 0
theorem Rv.take {w : World} {B : Nat} {A : Option Addr} {cs : List Value} (h : Rv w B A cs) (n : Nat) : Rv w B A (cs.take n) := fun j u hu => by
  rw [List.getElem?_take] at hu
  split at hu
  · exact h j u hu
  · cases hu
theorem addAdd9 (a : Addr) (i j : Nat) : (a.add i).add j = a.add (i + j) := by
  unfold Addr.add
  by_cases hi : i = 0 <;> by_cases hj : j = 0 <;> simp [hi, hj, Nat.add_assoc]
theorem Rv.drop {w : World} {B : Nat} {A A2 : Option Addr} {cs : List Value} (h : Rv w B A cs) (n : Nat) (hA : n < cs.length → A2 = A.map (·.add n)) : Rv w B A2 (cs.drop n) := fun j u hu => by
  rw [List.getElem?_drop] at hu
  obtain ⟨ad, rfl, hb, hc⟩ := h _ u hu
  have hj := (List.getElem?_eq_some_iff.1 hu).1
  refine ⟨ad.add n, hA (by omega), by rw [addBlk]; exact hb, ?_⟩
  rw [addAdd9]
  exact hc
theorem GrW.nilBelow {w w' : World} {v : Value} (h : GrW w w' nl v) : Below w.heap.size w w' := ⟨h.gr.os, h.gr.tape, h.gr.output, h.gr.size, fun j hj => h.gr.block j hj (by simp [Value.ownBlock])⟩
theorem GrW.fresh {w w' : World} {v : Value} (h : GrW w w' nl v) (u : Value) : GrW w w' u v := ⟨grown_below h.nilBelow _, .inr fun g e => by
  rcases h.at_ with e1 | e1
  · rw [e1] at e; simp [Value.ownBlock] at e
  · exact e1 g e, h.stay⟩
/-- behind p rounds -/
structure Mk (w : World) (wr : World) (p : Nat) (v : Value) : Prop where
  box : Bx wr w.heap.size 41 #[v]
  row : OwnW wr 29 v (List.replicate p nl)
  bel : Below w.heap.size w wr
  ne : v.ownBlock ≠ some w.heap.size
  low : ∀ g, v.ownBlock = some g → w.heap.size ≤ g
theorem Mk.alloc {w wr : World} {p : Nat} {v : Value} (h : Mk w wr p v) (o : Obj) : Mk w (wr.alloc o) p v :=
  ⟨h.box.alloc o, h.row.below (below_alloc wr o), h.bel.trans ((below_alloc wr o).mono h.bel.size), h.ne, h.low⟩
theorem Mk.nr {w wr : World} {p : Nat} {v : Value} (h : Mk w wr p v) (hp : p ≤ 32) : NR wr w.heap.size v (List.replicate p nl) (empt p) := by
  have hnone : ∀ u ∈ List.replicate p nl, u.ownBlock = none := fun u hu => by rw [List.eq_of_mem_replicate hu]; rfl
  refine ⟨h.box, h.row, by simp [empt], by simp [empt]; exact hp, fun fs hfs => ?_, fun i u fs hu hfs => ?_, h.ne, fun u hu => ?_, fun u hu g e => ?_, fun i j u u' g h1 h2 h3 => ?_⟩
  · rw [List.eq_of_mem_replicate hfs]; simp
  · have hu2 := List.eq_of_mem_replicate (List.mem_of_getElem? hu)
    subst hu2
    rw [empt_at hfs]
    exact ⟨[], ownW_nil _ _, Cs.nil _ _⟩
  · rw [hnone u hu]; simp
  · rw [hnone u hu] at e; cases e
  · rw [hnone u (List.mem_of_getElem? h1)] at h3; cases h3
/-- one way more -/
theorem Mk.more {w wr w2 : World} {p : Nat} {v v2 : Value} (h : Mk w wr p v) (ho : OwnW w2 29 v2 (List.replicate p nl ++ [nl])) (hg : GrW wr w2 v v2) :
    Bx w2 w.heap.size 41 #[v] ∧ Mk w (w2.setCell ⟨w.heap.size, 0, none⟩ v2) (p + 1) v2 := by
  have hlt := h.box.lt
  have X : Bx w2 w.heap.size 41 #[v] := (hg.other hlt h.ne).trans h.box
  have hne : v2.ownBlock ≠ some w.heap.size := by
    rcases hg.at_ with e | e
    · rw [e]; exact h.ne
    · intro e2
      have := e _ e2
      omega
  have hbel : Below w.heap.size w w2 := ⟨hg.gr.os.trans h.bel.os, hg.gr.tape.trans h.bel.tape, hg.gr.output.trans h.bel.output, Nat.le_trans h.bel.size hg.gr.size, fun j hj => (hg.other (Nat.lt_of_lt_of_le hj h.bel.size) (fun e => by have := h.low j e; omega)).trans (h.bel.block j hj)⟩
  refine ⟨X, ⟨X.set 0 v2, ?_, below_set hbel ⟨w.heap.size, 0, none⟩ v2 (Nat.le_refl _), hne, fun g e => ?_⟩⟩
  · rw [List.replicate_succ']
    exact ho.kept fun j hj => Below.heap_setCell w2 _ _ j (fun e2 => hne (by rw [hj]; exact congrArg some e2))
  · rcases hg.at_ with e1 | e1
    · exact h.low g (e1 ▸ e)
    · have := e1 g e
      have := h.bel.size
      omega
set_option maxRecDepth 10000 in
set_option maxHeartbeats 400000 in
theorem rnew_any (m : Int) (w : World) : Calls Try.prog 11 #[.int .i64 m] w (Made9 NR (cl m) w) := by
  obtain ⟨n, hn⟩ : ∃ n, cl m = n := ⟨_, rfl⟩
  have hle := cl_le m
  rw [hn] at hle ⊢
  have HC := hid (show (∀ p : Nat, p < n → (p : Int) < m) ∧ (∀ p : Nat, p = n → decide ((p : Int) < m) = true → 32 ≤ p) from by
    unfold cl at hn
    refine ⟨fun p hp => by omega, fun p hp h => ?_⟩
    have : (p : Int) < m := by simpa using h
    omega)
  clear hn
  go_enter Try.func11, Try.ntmps11
  go_wp2_with fail
  have M0 : Mk w (w.alloc (.cells #[.slice none 0 0] 41)) 0 (.slice none 0 0) :=
    ⟨Bx.new w _ _, ownW_nil _ _, below_alloc w _, by simp [Value.ownBlock], fun g e => by simp [Value.ownBlock] at e⟩
  have HM0 := hid M0
  clear M0
  go_loopw [4] (fun t wr => ∃ p : Nat, p ≤ n ∧ t = .int .i64 p ∧ ∃ v, Mk w wr p v) (fun t _ => n - (intOf t).toNat)
  case atStart => exact ⟨0, Nat.zero_le _, rfl, _, HM0.out⟩
  case round =>
    obtain ⟨p, hp, rfl, v, hm⟩ := hrel
    obtain ⟨A, c, e, r, hc, hcm⟩ := hm.row.read
    rw [List.length_replicate] at e
    subst e
    by_cases hlt : p < n
    · have h1 : (p : Int) < m := HC.out.1 p hlt
      have h2 : (p : Int) < 32 := by omega
      have c1 : wr.cell? ⟨w.heap.size, 0, none⟩ = some (.slice A p c) := hm.box.cell 0
      have HM1 := hid (hm.alloc (.cells #[.slice none 0 0] 29))
      have HR1 := hid (rv_new wr 29 #[.slice none 0 0])
      have HL := hid (show (List.replicate p nl).length = p from List.length_replicate)
      have hlt1 : w.heap.size < wr.heap.size := hm.box.lt
      clear hm r hp
      generalize hgg : w.heap.size = g at c1 hlt1 ⊢
      have HGG := hid hgg
      clear hgg
      go_wp2_with (at_builtin; go_loud (refine wpList_appW elt_txts rfl (nb_slice _ _ _) rfl (.tmp 20) (.tmp 21) rfl _ _ HM1.out.row rfl _ _ 1 1 [.slice none 0 0] rfl rfl HR1.out (fun u hu => by simp at hu; subst hu; rfl) (fun u hu => by simp at hu; subst hu; exact nb_slice _ _ _) (by rw [HL.out]; unfold maxLen; omega) (by rw [HL.out]; omega) ?_); intro v2 w2 hown2 hg2; obtain ⟨X2, M2⟩ := HM1.out.more hown2 hg2; obtain ⟨AA, nn, ac, rfl⟩ : ∃ A n c, v2 = .slice A n c := (by obtain ⟨A, c, e, -⟩ := hown2.read; exact ⟨A, _, c, e⟩); have y0 := X2.cell 0; have y1 := X2.free 0; rw [HGG.out] at y0 y1; have HM2 := hid M2; clear X2 M2 hown2 hg2)
      go_roundw
      case rel => exact ⟨p + 1, by omega, by go_num, _, by rw [← HGG.out]; exact HM2.out⟩
      case measure => simp [intOf]; omega
    · obtain rfl : p = n := by omega
      have hnr := hid (hm.nr hle)
      have hbel := hid hm.bel
      have hlow := hid (show ∀ j, Ft w.heap.size (.slice A p c) (List.replicate p nl) j → w.heap.size ≤ j from fun j hj => by
        rcases hj with rfl | e | ⟨u, hu, e⟩
        · exact Nat.le_refl _
        · exact hm.low j e
        · rw [List.eq_of_mem_replicate hu] at e; cases e)
      have h2 := HC.out.2 p rfl
      clear hm r
      by_cases hq : (p : Int) < m
      · have h3 : (32 : Int) ≤ p := by have := h2 (by simpa using hq); omega
        have hd : decide ((p : Int) < 32) = false := by simpa using h3
        clear h2 hp hlt
        go_wp2
        go_ret
        exact ⟨_, _, _, rfl, hnr.out, hbel.out, hlow.out⟩
      · have hd : decide ((p : Int) < m) = false := by simpa using hq
        clear h2 hq hp hlt
        go_wp2
        go_ret
        exact ⟨_, _, _, rfl, hnr.out, hbel.out, hlow.out⟩
section
variable {w : World} {k : Nat} {v : Value} {us : List Value} {S : List Wy}
set_option maxHeartbeats 400000 in
theorem rhas_yes (h : NR w k v us S) {way i : Int} (hi : vld (wy S way) i) :
    Calls Try.prog 23 #[.pointer (some ⟨k, 0, none⟩), .int .i64 way, .int .i64 i] w fun e w' => e = .returned (.bool true) ∧ w = w' := by
  obtain ⟨p, fs, rfl, hp, hw⟩ := isw_at (vld_isw hi)
  rw [hw] at hi
  obtain ⟨q, l, rfl, hq, hql⟩ := vld_at hi
  obtain ⟨g, c, u, A, d, cs, rfl, hu, rfl, q1, q2, ho, hcs, h400⟩ := Nt.at_ h hp
  have c0 : w.cell? ⟨k, 0, none⟩ = some (.slice (some ⟨g, 0, none⟩) S.length c) := h.box.cell 0
  have hpp : (p : Int) < (S.length : Int) := by have := (List.getElem?_eq_some_iff.1 hp).1; omega
  have hqq : (q : Int) < (fs.length : Int) := by omega
  clear h hi hp hw hu ho hcs hql hq q2
  generalize S.length = n at *
  generalize fs.length = m at *
  go_enter Try.func23, Try.ntmps23
  go_wp2
  go_ret
  exact ⟨rfl, rfl⟩
set_option maxHeartbeats 400000 in
theorem rhas_no (h : NR w k v us S) {way i : Int} (hi : ¬ vld (wy S way) i) :
    Calls Try.prog 23 #[.pointer (some ⟨k, 0, none⟩), .int .i64 way, .int .i64 i] w fun e w' => e = .returned (.bool false) ∧ w = w' := by
  by_cases hw : isw S way
  · obtain ⟨p, fs, rfl, hp, hw2⟩ := isw_at hw
    rw [hw2] at hi
    obtain ⟨g, c, u, A, d, cs, rfl, hu, rfl, q1, q2, ho, hcs, h400⟩ := Nt.at_ h hp
    have c0 : w.cell? ⟨k, 0, none⟩ = some (.slice (some ⟨g, 0, none⟩) S.length c) := h.box.cell 0
    have hpp : (p : Int) < (S.length : Int) := by have := (List.getElem?_eq_some_iff.1 hp).1; omega
    unfold vld at hi
    clear h hw hp hw2 hu ho hcs q2
    generalize S.length = n at *
    generalize fs.length = m at *
    by_cases h0 : i < 0
    · have hd : decide ((0 : Int) ≤ i) = false := by simpa using h0
      clear hi
      go_enter Try.func23, Try.ntmps23
      go_wp2
      go_ret
      exact ⟨rfl, rfl⟩
    · have h1 : 0 ≤ i := by omega
      have hd : decide (i < (m : Int)) = false := by simp; omega
      clear hi h0
      go_enter Try.func23, Try.ntmps23
      go_wp2
      go_ret
      exact ⟨rfl, rfl⟩
  · obtain ⟨A, c, rfl, c0, _⟩ := Nt.cells h
    unfold isw at hw
    clear h hi
    generalize S.length = n at *
    by_cases h0 : way < 0
    · have hd : decide ((0 : Int) ≤ way) = false := by simpa using h0
      clear hw
      go_enter Try.func23, Try.ntmps23
      go_wp2
      go_ret
      exact ⟨rfl, rfl⟩
    · have h1 : 0 ≤ way := by omega
      have hd : decide (way < (n : Int)) = false := by simp; omega
      clear hw h0
      go_enter Try.func23, Try.ntmps23
      go_wp2
      go_ret
      exact ⟨rfl, rfl⟩
end
set_option maxRecDepth 10000 in
set_option maxHeartbeats 400000 in
theorem rwithout_any {w : World} {A : Option Addr} {n c : Nat} {cs : List Value} (r : Rv w w.heap.size A cs) (hn : cs.length = n) (hc : n ≤ c ∧ c ≤ maxLen) (i : Nat) (hi : i < n) (h400 : n ≤ 400) (h1 : ∀ x ∈ cs, x.oneCell' = true) (hb : ∀ x ∈ cs, NB x) :
    Calls Try.prog 24 #[.slice A n c, .int .i64 i] w fun e w' => ∃ A2 n2 c2, e = .returned (.slice A2 n2 c2) ∧ OwnW w' 32 (.slice A2 n2 c2) (cs.eraseIdx i) ∧ GrW w w' (.slice A n c) (.slice A2 n2 c2) ∧ Below w.heap.size w w' := by
  obtain ⟨hnc, hcm⟩ := hc
  unfold maxLen at hcm
  obtain ⟨ad, rfl, -, -⟩ := r.get (k := 0) (by omega)
  have HR := hid r
  have HN := hid hn
  have H1 := hid h1
  have HB := hid hb
  have b0 : (0 : Int) ≤ (i : Int) := by omega
  have b1 : (i : Int) ≤ (c : Int) := by omega
  have b2 : (0 : Int) ≤ (i : Int) + 1 := by omega
  have b3 : (i : Int) + 1 ≤ (n : Int) := by omega
  have HT := hid (show (cs.take i).length = i from by rw [List.length_take]; omega)
  have HD := hid (show (cs.drop (i + 1)).length = n - (i + 1) from by rw [List.length_drop, hn])
  clear r hn h1 hb
  go_enter Try.func24, Try.ntmps24
  go_upto_region 3 with (at_builtin; (refine wpList_appW elt_txt rfl (nb_slice _ _ _) rfl (.tmp 6) (.tmp 9) rfl _ _ (ownW_nil w 32) rfl _ _ i _ (cs.take i) rfl HT.out (Rv.take HR.out i) (fun x hx => H1.out x (List.mem_of_mem_take hx)) (fun x hx => HB.out x (List.mem_of_mem_take hx)) (by simp; unfold maxLen; omega) (by simp; omega) ?_); intro v1 w1 ho1 hg1; rw [List.nil_append] at ho1; have HO1 := hid ho1; have HG1 := hid hg1; clear ho1 hg1)
  have HR1 := hid (HR.out.now HG1.out.nilBelow)
  go_wp2_with (at_builtin; (refine wpList_appW elt_txt rfl (nb_slice _ _ _) rfl (.tmp 11) (.tmp 15) rfl _ _ HO1.out rfl _ _ (n - (i + 1)) _ (cs.drop (i + 1)) rfl HD.out (Rv.drop HR1.out (i + 1) (fun h => by have h9 := HN.out; first | (rw [if_neg (by omega)]; simp [Addr.add]) | (simp [Addr.add]) | (exfalso; omega))) (fun x hx => H1.out x (List.mem_of_mem_drop hx)) (fun x hx => HB.out x (List.mem_of_mem_drop hx)) (by rw [HT.out]; unfold maxLen; omega) (by rw [HT.out]; omega) ?_); intro v2 w2 ho2 hg2; have HO2 := hid ho2; have HG2 := hid hg2; clear ho2 hg2)
  all_goals
   go_ret
   obtain ⟨A9, c9, e9, -⟩ := HO2.out.read
   subst e9
   refine ⟨_, _, _, rfl, ?_, (HG1.out.trans HG2.out).fresh _, (HG1.out.trans HG2.out).nilBelow⟩
   rw [List.eraseIdx_eq_take_drop_succ]
   exact HO2.out
end Go.Proofs.Ytcagochalnjagaa
