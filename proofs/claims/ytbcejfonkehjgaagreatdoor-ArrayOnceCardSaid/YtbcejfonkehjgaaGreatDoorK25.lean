/-
  What is proved: what Put of a tier's cache does. Condition: it was used at most 10000000 times.
-/
import Derived.Test.YtbcejfonkehjgaaGreatDoorK01
import Derived.Test.YtbcejfonkehjgaaGreatDoorK24
namespace Go.Proofs.YtbcejfonkehjgaaGreatDoor
open Go.RowKit

theorem omp_shape {w : World} {F : Nat → Prop} {v : Value} {rg : Int → Option Nat} {pt : Nat → Nat} {lp : Nat → Bool} {n : Nat} {S : List (List Int)} (h : Om w F v (.prt rg pt lp n S)) : ∃ g, v = .iface 155 (.pointer (some ⟨g, 0, none⟩)) := by
  obtain ⟨w0, g, k, q, T, e, _⟩ := h
  exact ⟨g, e⟩
def putR (c : Nat → Int) (T : Int) (o : Ob) (b lv : Int) (k : Nat) : Int := if ¬ (0 ≤ b ∧ b < c 2) then 9 else if ¬ (k : Int) = c 3 then 10 else if o.takes (c 5) T b lv = false then 5 else 0
structure Pq (w W : World) (p q : Nat) (b : Int) (A1 : Option Addr) (k1 c1 : Nat) (cs : Array Value) : Prop where
  bp : Bx W p 88 #[.int .i64 b, .slice A1 k1 c1]
  bq : Bx W q 88 cs
  hp : w.heap.size ≤ p
  hq : w.heap.size ≤ q
  ne : p ≠ q
variable {w w' W W' : World} {X F P Q : Nat → Prop} {G M n cp T B p q k1 c1 : Nat} {c : Nat → Int} {A A1 : Option Addr} {hh : Nat → Hn} {v : Value} {o : Ob} {D : Int → List Int} {b : Int} {cs cs' : Array Value}
theorem Pq.below (h : Pq w W p q b A1 k1 c1 cs) (hb : Below W.heap.size W W') : Pq w W' p q b A1 k1 c1 cs := ⟨h.bp.next hb, h.bq.next hb, h.hp, h.hq, h.ne⟩
theorem Pq.chg (h : Pq w W p q b A1 k1 c1 cs) (hc : Chg W W' P Q) (h1 : ¬ P p) (h2 : ¬ P q) : Pq w W' p q b A1 k1 c1 cs := ⟨hc.bx h.bp h1, hc.bx h.bq h2, h.hp, h.hq, h.ne⟩
theorem Pq.row (h : Pq w W p q b A1 k1 c1 cs) : Pq w (W.setRow q cs') p q b A1 k1 c1 cs' := ⟨h.bp.rowFar h.ne, h.bq.row, h.hp, h.hq, h.ne⟩
theorem pq_made (w : World) (b : Int) (A1 : Option Addr) (k1 c1 : Nat) : Pq w ((w.alloc (.cells #[.int .i64 b, .slice A1 k1 c1] 88)).alloc (.cells #[.int .i64 0, .slice none 0 0] 88)) w.heap.size (w.heap.size + 1) b A1 k1 c1 #[.int .i64 0, .slice none 0 0] := by
  have hs : (w.alloc (.cells #[.int .i64 b, .slice A1 k1 c1] 88)).heap.size = w.heap.size + 1 := World.size_alloc w _
  have h2 := Bx.new (w.alloc (.cells #[.int .i64 b, .slice A1 k1 c1] 88)) 88 #[.int .i64 0, .slice none 0 0]
  rw [hs] at h2
  exact ⟨(Bx.new w _ _).next (below_alloc _ _), h2, Nat.le_refl _, by omega, by omega⟩
theorem By.at_ {l : List Int} (h : By w X (.slice A1 k1 c1) l) : Rv w w.heap.size A1 (bytes l) ∧ l.length = k1 := by
  obtain ⟨A9, c9, e9, h1, -⟩ := h
  injection e9 with e1 e2 _
  rw [e1]
  exact ⟨h1, e2.symm⟩
theorem Ob.tk_of (h : Cm w X G M F c A n cp hh T v o D B) {lv : Int} (hb : 0 ≤ b ∧ b < c 2) (ht : o.takes (c 5) T b lv = true) : o.tk b := by
  have l2 : (1 : Int) ≤ c 2 ∧ c 2 ≤ 32 := h.rt.1 2 (by omega)
  cases o with
  | lru C Ls =>
    show vb b
    unfold vb
    omega
  | mq C N L H m =>
    show vb b
    unfold vb
    omega
  | prt rg pt lp n2 S => exact of_decide_eq_true (p := 0 < ptO pt (rg b)) ht
theorem Cm.with_pq (h : Cm w X G M F c A n cp hh T v o D B) (b : Int) (A1 : Option Addr) (k1 c1 : Nat) : Cm ((w.alloc (.cells #[.int .i64 b, .slice A1 k1 c1] 88)).alloc (.cells #[.int .i64 0, .slice none 0 0] 88)) (fun j => X j ∨ j = w.heap.size ∨ j = w.heap.size + 1) G M F c A n cp hh T v o D B := by
  have hs : (w.alloc (.cells #[.int .i64 b, .slice A1 k1 c1] 88)).heap.size = w.heap.size + 1 := World.size_alloc w _
  have hs2 : ((w.alloc (.cells #[.int .i64 b, .slice A1 k1 c1] 88)).alloc (.cells #[.int .i64 0, .slice none 0 0] 88)).heap.size = w.heap.size + 2 := (World.size_alloc _ _).trans (by rw [hs])
  exact h.more (on (below_alloc w _) (below_alloc _ _)) (fun _ hj => .inl hj) fun j hj => hj.elim .inl fun e => .inr (by omega)
set_option maxRecDepth 20000 in
set_option maxHeartbeats 2000000 in
theorem cp_no9 (h : Cm w X G M F c A n cp hh T v o D B) (A1 : Option Addr) (k1 c1 : Nat) (lv : Int) (hb : ¬ (0 ≤ b ∧ b < c 2)) : Calls Tryz.prog 92 #[.pointer (some ⟨G, 0, none⟩), .agg #[.int .i64 b, .slice A1 k1 c1], .int .i64 lv] w fun e w' => e = .returned (.tuple #[.agg #[.int .i64 0, .slice none 0 0], .bool false, .int .i64 9]) ∧ Below w.heap.size w w' := by
  have HP0 := hid (pq_made w b A1 k1 c1)
  have hb0 := on (below_alloc w (.cells #[.int .i64 b, .slice A1 k1 c1] 88)) (below_alloc _ (.cells #[.int .i64 0, .slice none 0 0] 88))
  have h0 := h.with_pq b A1 k1 c1
  have HX := hid (And.intro h.lt (And.intro h.fx (And.intro h.xG h.xM)))
  have HC0 := hid h0
  have HB0 := hid hb0
  have HI := hid (decide_eq_false hb)
  clear h h0 hb0 hb
  go_enter Tryz.func92, Tryz.ntmps92
  go_upto_region 3 with fail
  obtain ⟨W0, hW0⟩ : ∃ x, (w.alloc (.cells #[.int .i64 b, .slice A1 k1 c1] 88)).alloc (.cells #[.int .i64 0, .slice none 0 0] 88) = x := ⟨_, rfl⟩
  obtain ⟨q, hq⟩ : ∃ x, w.heap.size + 1 = x := ⟨_, rfl⟩
  obtain ⟨p, hp⟩ : ∃ x, w.heap.size = x := ⟨_, rfl⟩
  rw [hW0, hq, hp] at HP0 HC0
  rw [hW0] at HB0 ⊢
  rw [hq, hp]
  have HXP := hid (show ∀ j, X j → j ≠ p ∧ j ≠ q from fun j hj => by have := HX.out.1 j hj; omega)
  have HZ := hid (And.intro hp hq)
  clear hW0 hp hq
  have HCD := hid (HC0.out.draws 1)
  have HPD := hid (HP0.out.below (below_draws (Below.refl _ _) 1))
  have HBD := hid (show Below w.heap.size w W0.drew from below_draws HB0.out 1)
  refine wp_region_noPanic ?_
  refine wp_region_held_drew (S := fun w' => w'.rangeAt G 0 (cfgC c A n cp).toList ∧ w'.cell? ⟨p, 0, none⟩ = some (.int .i64 b)) (by kernel_rfl) ?_ (fun hHeld => ?_)
  · exact ⟨HCD.out.range, HPD.out.bp.cell 0⟩
  refine tkv 0 (some 16) rfl ?_
  refine tkv 1 (some 17) rfl ?_
  refine tkv 2 (some 18) rfl ?_
  refine wpAnyH_take (i := 3) (oi := ⟨some 19, _, _, _, _, _⟩) (v := _) rfl (by kernel_rfl) (by kernel_rfl) (by kernel_rfl) (fun _ _ _ h => h) (yieldsIf_load_mid (by rfl) 25 (.tmp 18) rfl G 0 rfl (cfgC c A n cp).toList _ (fun w hw => hw.1) Tryz.underlying25 rfl (by kernel_rfl)) (by assumption) ?_
  (try simp only [Act.put, tkA, tk0, tk1])
  refine tkv 4 (some 20) rfl ?_
  refine tkv 5 (some 21) rfl ?_
  refine tkc 6 (some 22) rfl fun K hK => ?_
  go_simp
  refine (isblk_any c A n cp b _).mono ?_
  rintro e w1 ⟨rfl, hb⟩
  have HC1 := hid (HCD.out.below hb)
  have HP1 := hid (HPD.out.below hb)
  have HB1 := hid (on HBD.out hb)
  have kp := And.intro HC1.out.range (HP1.out.bp.cell 0)
  clear hb
  rw [HI.out]
  go_simp
  refine hK.out _ _ kp (fun hHeld => ?_)
  clear hK K
  (try simp only [Act.put, tkA, tk0, tk1])
  refine tkv 7 (some 23) rfl ?_
  refine tkv 8 (some 15) rfl ?_
  refine wpAnyH_done (by kernel_rfl) ?_ _
  refine NoPanic.normal ?_
  go_wp2_with (refine wpList_store_bx rfl 88 (.tmp 6) (.tmp 24) rfl rfl q _ _ #[.int .i64 0, .slice none 0 0] rfl rfl HP1.out.bq (by kernel_rfl) rfl (by simp [Value.oneCell']) ?_)
  refine bodyPost_ret (results_bx3 rfl _ rfl (HP1.out.bq.row (cs' := #[.int .i64 0, .slice none 0 0])) Tryz.underlying88 rfl (by kernel_rfl)) rfl ?_
  exact ⟨rfl, below_setRow HB1.out (by have := HZ.out; omega) _⟩
set_option maxRecDepth 20000 in
set_option maxHeartbeats 2000000 in
theorem cp_no10 (h : Cm w X G M F c A n cp hh T v o D B) (A1 : Option Addr) (k1 c1 : Nat) (lv : Int) (hb : 0 ≤ b ∧ b < c 2) (hk : ¬ (k1 : Int) = c 3) : Calls Tryz.prog 92 #[.pointer (some ⟨G, 0, none⟩), .agg #[.int .i64 b, .slice A1 k1 c1], .int .i64 lv] w fun e w' => e = .returned (.tuple #[.agg #[.int .i64 0, .slice none 0 0], .bool false, .int .i64 10]) ∧ Below w.heap.size w w' := by
  have HP0 := hid (pq_made w b A1 k1 c1)
  have hb0 := on (below_alloc w (.cells #[.int .i64 b, .slice A1 k1 c1] 88)) (below_alloc _ (.cells #[.int .i64 0, .slice none 0 0] 88))
  have h0 := h.with_pq b A1 k1 c1
  have HX := hid (And.intro h.lt (And.intro h.fx (And.intro h.xG h.xM)))
  have HC0 := hid h0
  have HB0 := hid hb0
  have HI := hid (decide_eq_true hb)
  have d3 : ((k1 : Int) != c 3) = true := by simpa using hk
  clear h h0 hb0 hb hk
  go_enter Tryz.func92, Tryz.ntmps92
  go_upto_region 3 with fail
  obtain ⟨W0, hW0⟩ : ∃ x, (w.alloc (.cells #[.int .i64 b, .slice A1 k1 c1] 88)).alloc (.cells #[.int .i64 0, .slice none 0 0] 88) = x := ⟨_, rfl⟩
  obtain ⟨q, hq⟩ : ∃ x, w.heap.size + 1 = x := ⟨_, rfl⟩
  obtain ⟨p, hp⟩ : ∃ x, w.heap.size = x := ⟨_, rfl⟩
  rw [hW0, hq, hp] at HP0 HC0
  rw [hW0] at HB0 ⊢
  rw [hq, hp]
  have HXP := hid (show ∀ j, X j → j ≠ p ∧ j ≠ q from fun j hj => by have := HX.out.1 j hj; omega)
  have HZ := hid (And.intro hp hq)
  clear hW0 hp hq
  have HCD := hid (HC0.out.draws 1)
  have HPD := hid (HP0.out.below (below_draws (Below.refl _ _) 1))
  have HBD := hid (show Below w.heap.size w W0.drew from below_draws HB0.out 1)
  refine wp_region_noPanic ?_
  refine wp_region_held_drew (S := fun w' => w'.rangeAt G 0 (cfgC c A n cp).toList ∧ w'.cell? ⟨p, 0, none⟩ = some (.int .i64 b)) (by kernel_rfl) ?_ (fun hHeld => ?_)
  · exact ⟨HCD.out.range, HPD.out.bp.cell 0⟩
  refine tkv 0 (some 16) rfl ?_
  refine tkv 1 (some 17) rfl ?_
  refine tkv 2 (some 18) rfl ?_
  refine wpAnyH_take (i := 3) (oi := ⟨some 19, _, _, _, _, _⟩) (v := _) rfl (by kernel_rfl) (by kernel_rfl) (by kernel_rfl) (fun _ _ _ h => h) (yieldsIf_load_mid (by rfl) 25 (.tmp 18) rfl G 0 rfl (cfgC c A n cp).toList _ (fun w hw => hw.1) Tryz.underlying25 rfl (by kernel_rfl)) (by assumption) ?_
  (try simp only [Act.put, tkA, tk0, tk1])
  refine tkv 4 (some 20) rfl ?_
  refine tkv 5 (some 21) rfl ?_
  refine tkc 6 (some 22) rfl fun K hK => ?_
  go_simp
  refine (isblk_any c A n cp b _).mono ?_
  rintro e w1 ⟨rfl, hb⟩
  have HC1 := hid (HCD.out.below hb)
  have HP1 := hid (HPD.out.below hb)
  have HB1 := hid (on HBD.out hb)
  have kp := And.intro HC1.out.range (HP1.out.bp.cell 0)
  clear hb
  rw [HI.out]
  go_simp
  refine hK.out _ _ kp (fun hHeld => ?_)
  clear hK K
  (try simp only [Act.put, tkA, tk0, tk1])
  refine tkv 7 (some 23) rfl ?_
  refine tkv 8 (some 15) rfl ?_
  refine wpAnyH_done (by kernel_rfl) ?_ _
  refine NoPanic.normal ?_
  go_upto_region 5 with fail
  have x1 := HP1.out.bp.cell 1
  have x1 : w1.cell? ⟨p, 1, none⟩ = some (.slice A1 k1 c1) := x1
  have x3 := HC1.out.c3
  go_quiet (fail)
  have HC2 := hid (HC1.out.draws nq)
  have HP2 := hid (HP1.out.below (below_draws (Below.refl _ _) nq))
  have HB2 := hid (below_draws HB1.out nq)
  clear x1 x3
  generalize w1.drewN nq = w2 at *
  go_wp2_with (refine wpList_store_bx rfl 88 (.tmp 6) (.tmp 35) rfl rfl q _ _ #[.int .i64 0, .slice none 0 0] rfl rfl HP2.out.bq (by kernel_rfl) rfl (by simp [Value.oneCell']) ?_)
  refine bodyPost_ret (results_bx3 rfl _ rfl (HP2.out.bq.row (cs' := #[.int .i64 0, .slice none 0 0])) Tryz.underlying88 rfl (by kernel_rfl)) rfl ?_
  exact ⟨rfl, below_setRow HB2.out (by have := HZ.out; omega) _⟩
set_option maxRecDepth 20000 in
set_option maxHeartbeats 2000000 in
theorem cp_no5 (h : Cm w X G M F c A n cp hh T v o D B) (A1 : Option Addr) (k1 c1 : Nat) (lv : Int) (hb : 0 ≤ b ∧ b < c 2) (hk : (k1 : Int) = c 3) (ht : o.takes (c 5) T b lv = false) : Calls Tryz.prog 92 #[.pointer (some ⟨G, 0, none⟩), .agg #[.int .i64 b, .slice A1 k1 c1], .int .i64 lv] w fun e w' => e = .returned (.tuple #[.agg #[.int .i64 0, .slice none 0 0], .bool false, .int .i64 5]) ∧ Below w.heap.size w w' := by
  have HP0 := hid (pq_made w b A1 k1 c1)
  have hb0 := on (below_alloc w (.cells #[.int .i64 b, .slice A1 k1 c1] 88)) (below_alloc _ (.cells #[.int .i64 0, .slice none 0 0] 88))
  have h0 := h.with_pq b A1 k1 c1
  have HX := hid (And.intro h.lt (And.intro h.fx (And.intro h.xG h.xM)))
  have HC0 := hid h0
  have HB0 := hid hb0
  have HI := hid (decide_eq_true hb)
  have d3 : ((k1 : Int) != c 3) = false := by simpa using hk
  have HT := hid ht
  clear h h0 hb0 hb hk ht
  go_enter Tryz.func92, Tryz.ntmps92
  go_upto_region 3 with fail
  obtain ⟨W0, hW0⟩ : ∃ x, (w.alloc (.cells #[.int .i64 b, .slice A1 k1 c1] 88)).alloc (.cells #[.int .i64 0, .slice none 0 0] 88) = x := ⟨_, rfl⟩
  obtain ⟨q, hq⟩ : ∃ x, w.heap.size + 1 = x := ⟨_, rfl⟩
  obtain ⟨p, hp⟩ : ∃ x, w.heap.size = x := ⟨_, rfl⟩
  rw [hW0, hq, hp] at HP0 HC0
  rw [hW0] at HB0 ⊢
  rw [hq, hp]
  have HXP := hid (show ∀ j, X j → j ≠ p ∧ j ≠ q from fun j hj => by have := HX.out.1 j hj; omega)
  have HZ := hid (And.intro hp hq)
  clear hW0 hp hq
  have HCD := hid (HC0.out.draws 1)
  have HPD := hid (HP0.out.below (below_draws (Below.refl _ _) 1))
  have HBD := hid (show Below w.heap.size w W0.drew from below_draws HB0.out 1)
  refine wp_region_noPanic ?_
  refine wp_region_held_drew (S := fun w' => w'.rangeAt G 0 (cfgC c A n cp).toList ∧ w'.cell? ⟨p, 0, none⟩ = some (.int .i64 b)) (by kernel_rfl) ?_ (fun hHeld => ?_)
  · exact ⟨HCD.out.range, HPD.out.bp.cell 0⟩
  refine tkv 0 (some 16) rfl ?_
  refine tkv 1 (some 17) rfl ?_
  refine tkv 2 (some 18) rfl ?_
  refine wpAnyH_take (i := 3) (oi := ⟨some 19, _, _, _, _, _⟩) (v := _) rfl (by kernel_rfl) (by kernel_rfl) (by kernel_rfl) (fun _ _ _ h => h) (yieldsIf_load_mid (by rfl) 25 (.tmp 18) rfl G 0 rfl (cfgC c A n cp).toList _ (fun w hw => hw.1) Tryz.underlying25 rfl (by kernel_rfl)) (by assumption) ?_
  (try simp only [Act.put, tkA, tk0, tk1])
  refine tkv 4 (some 20) rfl ?_
  refine tkv 5 (some 21) rfl ?_
  refine tkc 6 (some 22) rfl fun K hK => ?_
  go_simp
  refine (isblk_any c A n cp b _).mono ?_
  rintro e w1 ⟨rfl, hb⟩
  have HC1 := hid (HCD.out.below hb)
  have HP1 := hid (HPD.out.below hb)
  have HB1 := hid (on HBD.out hb)
  have kp := And.intro HC1.out.range (HP1.out.bp.cell 0)
  clear hb
  rw [HI.out]
  go_simp
  refine hK.out _ _ kp (fun hHeld => ?_)
  clear hK K
  (try simp only [Act.put, tkA, tk0, tk1])
  refine tkv 7 (some 23) rfl ?_
  refine tkv 8 (some 15) rfl ?_
  refine wpAnyH_done (by kernel_rfl) ?_ _
  refine NoPanic.normal ?_
  go_upto_region 5 with fail
  have x1 := HP1.out.bp.cell 1
  have x1 : w1.cell? ⟨p, 1, none⟩ = some (.slice A1 k1 c1) := x1
  have x3 := HC1.out.c3
  go_quiet (fail)
  have HC2 := hid (HC1.out.draws nq)
  have HP2 := hid (HP1.out.below (below_draws (Below.refl _ _) nq))
  have HB2 := hid (below_draws HB1.out nq)
  clear x1 x3
  generalize w1.drewN nq = w2 at *
  go_upto_region 7 with fail
  have x0 : w2.cell? ⟨p, 0, none⟩ = some (.int .i64 b) := HP2.out.bp.cell 0
  have HTK := hid (cm_takes HC2.out b lv)
  rw [HT.out] at HTK
  go_upto_region 8 with (go_at_call 130; refine HTK.out.mono ?_; rintro e w3 ⟨rfl, hb⟩; have HP3 := hid (HP2.out.below hb); have HB3 := hid (on HB2.out hb); clear hb)
  go_wp2_with (refine wpList_store_bx rfl 88 (.tmp 6) (.tmp 43) rfl rfl q _ _ #[.int .i64 0, .slice none 0 0] rfl rfl HP3.out.bq (by kernel_rfl) rfl (by simp [Value.oneCell']) ?_)
  refine bodyPost_ret (results_bx3 rfl _ rfl (HP3.out.bq.row (cs' := #[.int .i64 0, .slice none 0 0])) Tryz.underlying88 rfl (by kernel_rfl)) rfl ?_
  exact ⟨rfl, below_setRow HB3.out (by have := HZ.out; omega) _⟩
def updB (D : Int → List Int) (b : Int) (l : List Int) (x : Int) : List Int := if x = b then l else D x
def PutQ (w : World) (X F : Nat → Prop) (G M n cp T B : Nat) (c : Nat → Int) (A : Option Addr) (hh : Nat → Hn) (v : Value) (o : Ob) (D : Int → List Int) (b : Int) (l : List Int) (e : Ending) (w' : World) : Prop :=
  ∃ x u, e = .returned (.tuple #[.agg #[.int .i64 x, u], .bool (o.gn b), .int .i64 0]) ∧ Cm w' X G M F c A n cp hh T v (o.add b) (updB D b l) (B + 1) ∧ Chg w w' (fun j => F j ∨ j = M) (fun j => F j ∨ j = M) ∧ (o.gn b = true → x = o.vi b ∧ By w' X u (D (o.vi b))) ∧ (o.gn b = false → x = 0 ∧ u = .slice none 0 0)
theorem Cm.put_to {w' : World} {f f' : Int → Option Value} {l : List Int} {u : Value} (h : Cm w X G M F c A n cp hh T v o D B) (hc : Chg w w' (fun j => F j ∨ j = M) Q) (ho : Om w' F v (o.add b)) (ht : o.tk b) (hl : l.length ≤ 16) (hm : Mc w' M (B + 1) f') (hu : By w' X u l)
    (hf : ∀ x, x ∈ o.all → ∃ u, f x = some u ∧ By w' X u (D x)) (h1 : f' b = some u) (h2 : ∀ x, x ≠ b → x ∈ (o.add b).all → f' x = f x) : Cm w' X G M F c A n cp hh T v (o.add b) (updB D b l) (B + 1) := by
  have hi : ∀ x, x ∈ (o.add b).all → x ≠ b → x ∈ o.all := fun x hx hn => (((Ob.add_mem h.ok ht).1 x).1 hx).elim (fun e => absurd e hn) (·.1)
  refine h.to hc ho (h.ok.add ht) (Nat.le_trans (Ob.tm_add h.ok b) (Nat.succ_le_succ h.tm)) (Ob.kin_add b h.kd) ⟨f', hm, fun x hx => ?_⟩ fun x hx => ?_
  · by_cases e : x = b
    · refine ⟨u, e ▸ h1, ?_⟩
      rw [show updB D b l x = l from if_pos e]
      exact hu
    · obtain ⟨u2, h3, h4⟩ := hf x (hi x hx e)
      refine ⟨u2, (h2 x e hx).trans h3, ?_⟩
      rw [show updB D b l x = D x from if_neg e]
      exact h4
  · by_cases e : x = b
    · rw [show updB D b l x = l from if_pos e]
      exact hl
    · rw [show updB D b l x = D x from if_neg e]
      exact h.sz x (hi x hx e)
set_option maxRecDepth 20000 in
set_option maxHeartbeats 4000000 in
theorem cp_true_oml {C : Nat} {Ls : List Int} (h : Cm w X G M F c A n cp hh T v (.lru C Ls) D B) (hB : B ≤ 10000000) {l : List Int} (hd : By w X (.slice A1 k1 c1) l) (lv : Int) (hb : 0 ≤ b ∧ b < c 2) (hk : (k1 : Int) = c 3) (ht : (Ob.lru C Ls).takes (c 5) T b lv = true) (hg : (Ob.lru C Ls).gn b = true) :
    Calls Tryz.prog 92 #[.pointer (some ⟨G, 0, none⟩), .agg #[.int .i64 b, .slice A1 k1 c1], .int .i64 lv] w (PutQ w X F G M n cp T B c A hh v (.lru C Ls) D b l) := by
  have HP0 := hid (pq_made w b A1 k1 c1)
  have hb0 := on (below_alloc w (.cells #[.int .i64 b, .slice A1 k1 c1] 88)) (below_alloc _ (.cells #[.int .i64 0, .slice none 0 0] 88))
  have h0 := h.with_pq b A1 k1 c1
  have HX := hid (And.intro h.lt (And.intro h.fx (And.intro h.xG h.xM)))
  have HC0 := hid h0
  have HB0 := hid hb0
  have HI := hid (decide_eq_true hb)
  have d3 : ((k1 : Int) != c 3) = false := by simpa using hk
  have HT := hid ht
  have HTK0 := hid (Ob.tk_of h hb ht)
  have HBB := hid hB
  have l2 : (1 : Int) ≤ c 2 ∧ c 2 ≤ 32 := h.rt.1 2 (by omega)
  have l3 : (1 : Int) ≤ c 3 ∧ c 3 ≤ 16 := h.rt.1 3 (by omega)
  have HXB := hid (wf_small (b := b) (by omega))
  have HGN := hid hg
  have HAM := hid (Ob.add_mem h.ok (Ob.tk_of h hb ht))
  have HWF := hid (fun x hx => h.wf (x := x) hx)
  have HK16 := hid (show k1 ≤ 16 from by omega)
  have hd0 := (hd.more (Y := fun j => X j ∨ j = w.heap.size ∨ j = w.heap.size + 1) fun j hj => hj.elim .inl fun e => .inr (by omega)).below hb0
  have HD0 := hid hd0
  have HLK := hid hd.at_.2
  obtain ⟨g, rfl, -⟩ := oml_has h.ord b
  have hm : ∀ w : World, (method 394 163 (.pointer (some ⟨g, 0, none⟩)) "Add").run Tryz.prog w = .ok (237, .pointer (some ⟨g, 0, none⟩)) w := fun _ => by kernel_rfl
  clear h h0 hb0 hb hk ht hB hg l2 l3 hd hd0
  go_enter Tryz.func92, Tryz.ntmps92
  go_upto_region 3 with fail
  obtain ⟨W0, hW0⟩ : ∃ x, (w.alloc (.cells #[.int .i64 b, .slice A1 k1 c1] 88)).alloc (.cells #[.int .i64 0, .slice none 0 0] 88) = x := ⟨_, rfl⟩
  obtain ⟨q, hq⟩ : ∃ x, w.heap.size + 1 = x := ⟨_, rfl⟩
  obtain ⟨p, hp⟩ : ∃ x, w.heap.size = x := ⟨_, rfl⟩
  rw [hW0, hq, hp] at HP0 HC0 HD0
  rw [hW0] at HB0 ⊢
  rw [hq, hp]
  have HXP := hid (show ∀ j, X j → j ≠ p ∧ j ≠ q from fun j hj => by have := HX.out.1 j hj; omega)
  have HZ := hid (And.intro hp hq)
  clear hW0 hp hq
  have HCD := hid (HC0.out.draws 1)
  have HPD := hid (HP0.out.below (below_draws (Below.refl _ _) 1))
  have HBD := hid (show Below w.heap.size w W0.drew from below_draws HB0.out 1)
  refine wp_region_noPanic ?_
  refine wp_region_held_drew (S := fun w' => w'.rangeAt G 0 (cfgC c A n cp).toList ∧ w'.cell? ⟨p, 0, none⟩ = some (.int .i64 b)) (by kernel_rfl) ?_ (fun hHeld => ?_)
  · exact ⟨HCD.out.range, HPD.out.bp.cell 0⟩
  refine tkv 0 (some 16) rfl ?_
  refine tkv 1 (some 17) rfl ?_
  refine tkv 2 (some 18) rfl ?_
  refine wpAnyH_take (i := 3) (oi := ⟨some 19, _, _, _, _, _⟩) (v := _) rfl (by kernel_rfl) (by kernel_rfl) (by kernel_rfl) (fun _ _ _ h => h) (yieldsIf_load_mid (by rfl) 25 (.tmp 18) rfl G 0 rfl (cfgC c A n cp).toList _ (fun w hw => hw.1) Tryz.underlying25 rfl (by kernel_rfl)) (by assumption) ?_
  (try simp only [Act.put, tkA, tk0, tk1])
  refine tkv 4 (some 20) rfl ?_
  refine tkv 5 (some 21) rfl ?_
  refine tkc 6 (some 22) rfl fun K hK => ?_
  go_simp
  refine (isblk_any c A n cp b _).mono ?_
  rintro e w1 ⟨rfl, hb⟩
  have HC1 := hid (HCD.out.below hb)
  have HP1 := hid (HPD.out.below hb)
  have HB1 := hid (on HBD.out hb); have HD1 := hid (HD0.out.below (on (below_draws (Below.refl _ _) 1) hb))
  have kp := And.intro HC1.out.range (HP1.out.bp.cell 0)
  clear hb
  rw [HI.out]
  go_simp
  refine hK.out _ _ kp (fun hHeld => ?_)
  clear hK K
  (try simp only [Act.put, tkA, tk0, tk1])
  refine tkv 7 (some 23) rfl ?_
  refine tkv 8 (some 15) rfl ?_
  refine wpAnyH_done (by kernel_rfl) ?_ _
  refine NoPanic.normal ?_
  go_upto_region 5 with fail
  have x1 := HP1.out.bp.cell 1
  have x1 : w1.cell? ⟨p, 1, none⟩ = some (.slice A1 k1 c1) := x1
  have x3 := HC1.out.c3
  go_quiet (fail)
  have HC2 := hid (HC1.out.draws nq)
  have HP2 := hid (HP1.out.below (below_draws (Below.refl _ _) nq))
  have HD2 := hid (HD1.out.below (below_draws (Below.refl _ _) nq))
  have HB2 := hid (below_draws HB1.out nq)
  clear x1 x3
  generalize w1.drewN nq = w2 at *
  go_upto_region 7 with fail
  have x0 : w2.cell? ⟨p, 0, none⟩ = some (.int .i64 b) := HP2.out.bp.cell 0
  have HTK := hid (cm_takes HC2.out b lv)
  rw [HT.out] at HTK
  go_upto_region 9 with (go_at_call 130; refine HTK.out.mono ?_; rintro e w3 ⟨rfl, hb⟩; have HC3 := hid (HC2.out.below hb); have HP3 := hid (HP2.out.below hb); have HB3 := hid (on HB2.out hb); have HD3 := hid (HD2.out.below hb); clear hb)
  clear x0
  have HCD3 := hid (HC3.out.draws 1)
  have HPD3 := hid (HP3.out.below (below_draws (Below.refl _ _) 1))
  have HBD3 := hid (show Below w.heap.size w w3.drew from below_draws HB3.out 1)
  have HDD3 := hid (HD3.out.below (below_draws (Below.refl _ _) 1))
  have x0 : w3.drew.cell? ⟨p, 0, none⟩ = some (.int .i64 b) := HPD3.out.bp.cell 0
  have g18 : w3.drew.cell? ⟨G, 18, none⟩ = some (.iface 163 (.pointer (some ⟨g, 0, none⟩))) := HCD3.out.c18
  obtain ⟨g', he, hca⟩ := oml_add HCD3.out.ord HTK0.out
  cases he
  rw [HGN.out] at hca
  have HCA := hid hca
  clear hca
  have HGM := hid HCD3.out.gm
  have HMP := hid (show ¬ p = M ∧ ¬ q = M from ⟨fun e => (HXP.out M HX.out.2.2.2).1 e.symm, fun e => (HXP.out M HX.out.2.2.2).2 e.symm⟩)
  have HFP := hid (show ¬ F p ∧ ¬ F q from ⟨fun hf => (HXP.out p (HX.out.2.1 _ hf)).1 rfl, fun hf => (HXP.out q (HX.out.2.1 _ hf)).2 rfl⟩)
  refine wp_region_noPanic ?_
  refine wp_region_held_drew (S := fun w' => w'.cell? ⟨p, 0, none⟩ = some (.int .i64 b) ∧ w'.cell? ⟨G, 18, none⟩ = some (.iface 163 (.pointer (some ⟨g, 0, none⟩)))) (by kernel_rfl) ?_ (fun hHeld => ?_)
  · exact ⟨x0, g18⟩
  refine tkv 0 (some 45) rfl ?_
  refine tkv 1 (some 46) rfl ?_
  refine tkv 2 (some 47) rfl ?_
  refine tkv 3 (some 48) rfl ?_
  refine tkv 4 (some 49) rfl ?_
  refine tkv 5 (some 50) rfl ?_
  refine tkc 6 (some 51) rfl fun K hK => ?_
  go_simp
  refine HCA.out.mono ?_
  rintro e w4 ⟨rfl, ho, hch⟩
  have HO4 := hid ho
  have HCH := hid hch
  have HP4 := hid (HPD3.out.chg hch HFP.out.1 HFP.out.2)
  have kp := And.intro (HP4.out.bp.cell 0) ((hch.bx HCD3.out.box HCD3.out.fG).cell 18)
  clear ho hch
  go_simp
  refine hK.out _ _ kp (fun hHeld => ?_)
  clear hK K
  (try simp only [Act.put, tkA, tk0, tk1])
  refine tkv 7 (some 44) rfl ?_
  refine tkv 8 (some 52) rfl ?_
  refine tkv 9 (some 53) rfl ?_
  refine tkv 10 (some 54) rfl ?_
  refine tkv 11 (some 9) rfl ?_
  refine tkv 12 (some 7) rfl ?_
  refine tkv 13 (some 10) rfl ?_
  refine wpAnyH_done (by kernel_rfl) ?_ _
  refine NoPanic.normal ?_
  clear x0 g18
  go_upto_region 10 with fail
  have HPD4 := hid (show Pq w w4.drew p q b A1 k1 c1 #[.int .i64 0, .slice none 0 0] from HP4.out.below (below_draws (Below.refl _ _) 1))
  have x0 : w4.drew.cell? ⟨p, 0, none⟩ = some (.int .i64 b) := HPD4.out.bp.cell 0
  have x1 : w4.drew.cell? ⟨p, 1, none⟩ = some (.slice A1 k1 c1) := HPD4.out.bp.cell 1
  have HBG := hid (HCH.out.bx HCD3.out.box HCD3.out.fG)
  have g19 : w4.drew.cell? ⟨G, 19, none⟩ = some (.map (some M)) := HBG.out.cell 19
  obtain ⟨f, hmf, hfx⟩ := HCD3.out.map
  have HMF := hid (show Mc w4.drew M B f from (hmf.same (HCH.out.block M hmf.lt HCD3.out.fM)).below (below_draws (Below.refl _ _) 1))
  have HFX := hid (show ∀ x, x ∈ (Ob.lru C Ls).all → ∃ u, f x = some u ∧ By w4.drew _ u (D x) from fun x hx => by
    obtain ⟨u, h1, h2⟩ := hfx x hx
    exact ⟨u, h1, (h2.chg HCH.out HCD3.out.fx).below (below_draws (Below.refl _ _) 1)⟩)
  have HX4 := hid (show ∀ j, X j ∨ j = p ∨ j = q → j < w4.drew.heap.size from fun j hj => Nat.lt_of_lt_of_le (HCD3.out.lt j hj) HCH.out.size)
  have HD4 := hid (show By w4.drew _ (.slice A1 k1 c1) l from (HDD3.out.chg HCH.out HCD3.out.fx).below (below_draws (Below.refl w4.heap.size w4) 1))
  have HCL := hid (clone_bytes A1 k1 c1 l w4.drew HLK.out (by have := HK16.out; omega) HD4.out.at_.1)
  clear hmf hfx
  obtain ⟨W4, hW4⟩ : ∃ x, w4.drew = x := ⟨_, rfl⟩
  rw [hW4] at HPD4 HMF HFX HX4 HD4 HCL x0 x1 g19
  have HE4 := hid hW4
  have HB4 := hid (show Below w4.heap.size w4 W4 from hW4 ▸ below_draws (Below.refl _ _) 1)
  have HBG4 := hid (HBG.out.next HB4.out)
  refine wp_region_noPanic ?_
  refine wp_region_held_drew (S := fun w' => w'.cell? ⟨p, 0, none⟩ = some (.int .i64 b) ∧ w'.cell? ⟨p, 1, none⟩ = some (.slice A1 k1 c1) ∧ w'.cell? ⟨G, 19, none⟩ = some (.map (some M))) (by kernel_rfl) ?_ (fun hHeld => ?_)
  · rw [HE4.out]; exact ⟨x0, x1, g19⟩
  refine tkv 0 (some 55) rfl ?_
  refine tkv 1 (some 56) rfl ?_
  refine tkv 2 (some 57) rfl ?_
  refine tkv 3 (some 58) rfl ?_
  refine tkv 4 (some 59) rfl ?_
  refine tkv 5 (some 60) rfl ?_
  refine tkv 6 (some 61) rfl ?_
  refine tkv 7 (some 62) rfl ?_
  refine tkc 8 (some 63) rfl fun K hK => ?_
  rw [HE4.out]
  go_simp
  refine HCL.out.mono ?_
  rintro e w5 hq
  obtain ⟨u, rfl, h5, h6⟩ := CpQ.by_ hq _ HX4.out
  obtain ⟨w6, hput, hm6, hg6⟩ := (HMF.out.below h6).put Tryz.underlying3 Tryz.underlying105 (by have := HBB.out; unfold maxLen; omega) HXB.out u
  have HU5 := hid h5
  have HB5 := hid h6
  have HM6 := hid hm6
  have HG6 := hid (grown_chg hg6)
  have kp := And.intro ((HPD4.out.below h6).bp.cell 0) (And.intro ((HPD4.out.below h6).bp.cell 1) ((HBG4.out.next h6).cell 19))
  clear hq h5 h6 hm6 hg6
  go_simp
  refine hK.out _ _ kp (fun hHeld => ?_)
  clear hK K
  (try simp only [Act.put, tkA, tk0, tk1])
  refine tkc 9 (none) rfl fun K hK => ?_
  have HP6 := hid ((HPD4.out.below HB5.out).chg HG6.out HMP.out.1 HMP.out.2)
  have HBG6 := hid (HG6.out.bx (HBG4.out.next HB5.out) fun e => HGM.out e)
  have kq := And.intro (HP6.out.bp.cell 0) (And.intro (HP6.out.bp.cell 1) (HBG6.out.cell 19))
  go_simp
  refine hK.out _ _ kq (fun hHeld => ?_)
  clear hK K
  (try simp only [Act.put, tkA, tk0, tk1])
  refine wpAnyH_done (by kernel_rfl) ?_ _
  refine NoPanic.normal ?_
  obtain ⟨hnb, hvi, hvb⟩ := HAM.out.2 HGN.out
  obtain ⟨uv, hv1, hv2⟩ := HFX.out _ hvi
  have hul : ∃ A5 k5 c5, uv = .slice A5 k5 c5 := by
    obtain ⟨A5, c5, rfl, -⟩ := hv2
    exact ⟨A5, _, c5, rfl⟩
  obtain ⟨A5, k5, c5, rfl⟩ := hul
  have HV := hid hv2
  have HVB := hid hvb
  have HTA := hid (cm_take (HBG6.out.cell 19) HM6.out (b := (Ob.lru C Ls).vi b) ((if_neg hvb).trans hv1) (HWF.out _ hvi))
  clear hnb hvi hvb hv1 hv2
  go_upto_region 13 with (first
    | (go_at_call 131; refine HTA.out.mono ?_; rintro e w7 ⟨rfl, hm7, hc7⟩; have HM7 := hid hm7; have HC67 := hid hc7; have HP7 := hid (HP6.out.chg hc7 HMP.out.1 HMP.out.2); clear hm7 hc7)
    | (refine wpList_store_bx rfl 88 (.tmp 6) (.tmp 67) rfl rfl q _ _ #[.int .i64 ((Ob.lru C Ls).vi b), .slice A5 k5 c5] rfl rfl HP7.out.bq (by kernel_rfl) rfl (by simp [Value.oneCell']) ?_))
  have HC7 := hid (HG6.out.trans HC67.out)
  have HP8 := hid (HP7.out.row (cs' := #[.int .i64 ((Ob.lru C Ls).vi b), .slice A5 k5 c5]))
  obtain ⟨W8, hW8⟩ : ∃ x, w7.setRow q #[.int .i64 ((Ob.lru C Ls).vi b), .slice A5 k5 c5] = x := ⟨_, rfl⟩
  rw [hW8] at HP8 ⊢
  have HE8 := hid hW8
  clear hW8
  go_wp2_with (first
    | (refine wpList_load_bx rfl 88 (.tmp 6) rfl q _ _ _ rfl HP8.out.bq Tryz.underlying88 rfl (by kernel_rfl) ?_)
    | (refine wpList_store_bx rfl 88 (.tmp 6) (.tmp 68) rfl rfl q _ _ #[.int .i64 ((Ob.lru C Ls).vi b), .slice A5 k5 c5] rfl rfl HP8.out.bq (by kernel_rfl) rfl (by simp [Value.oneCell']) ?_))
  refine bodyPost_ret (results_bx3 rfl _ rfl (HP8.out.bq.row (cs' := #[.int .i64 ((Ob.lru C Ls).vi b), .slice A5 k5 c5])) Tryz.underlying88 rfl (by kernel_rfl)) rfl ?_
  rw [← HE8.out]
  have hq7 : Chg w7 ((w7.setRow q #[.int .i64 ((Ob.lru C Ls).vi b), .slice A5 k5 c5]).setRow q #[.int .i64 ((Ob.lru C Ls).vi b), .slice A5 k5 c5]) (· = q) (· = q) := (chg_row _ _ _).trans (chg_row _ _ _)
  have hch7 : Chg w3.drew w7 (fun j => F j ∨ j = M) (fun j => F j ∨ j = M) := (HCH.out.wide fun j hj => .inl hj).trans ((Chg.of (on HB4.out HB5.out) _).trans (HC7.out.wide fun j hj => .inr hj))
  have hfm : ∀ j, F j → ¬ j = M := fun j hf e => HCD3.out.fM (e ▸ hf)
  have hxm : ∀ j, j = M → X j ∨ j = p ∨ j = q := fun j e => .inl (e ▸ HX.out.2.2.2)
  have hcm7 := HCD3.out.put_to hch7 (((HO4.out.below HB4.out).below HB5.out).chg HC7.out hfm) HTK0.out (by rw [HLK.out]; exact HK16.out) HM7.out (HU5.out.chg HC7.out hxm) (f := f) (fun x hx => by
    obtain ⟨u2, h1, h2⟩ := HFX.out x hx
    exact ⟨u2, h1, (h2.below HB5.out).chg HC7.out hxm⟩) ((if_neg fun e => HVB.out e.symm).trans (if_pos rfl)) (fun x hx hm => (if_neg fun e => ((HAM.out.1 x).1 hm).elim hx fun h => h.2 ⟨HGN.out, e⟩).trans (if_neg hx))
  have hcm8 := hcm7.chg hq7 (fun j e => .inr (.inr e)) fun j e => ⟨fun hf => HFP.out.2 (e ▸ hf), fun e2 => (HXP.out G HX.out.2.2.1).2 (e2 ▸ e), fun e2 => HMP.out.2 (e.symm.trans e2)⟩
  have hcm9 := hcm8.less (Y := X) (fun j hj => .inl hj) fun j hj => hj.elim (HX.out.2.1 j) fun e => e.elim (fun e => e ▸ HX.out.2.2.1) fun e => e ▸ HX.out.2.2.2
  have hchw : Chg w ((w7.setRow q #[.int .i64 ((Ob.lru C Ls).vi b), .slice A5 k5 c5]).setRow q #[.int .i64 ((Ob.lru C Ls).vi b), .slice A5 k5 c5]) (fun j => F j ∨ j = M) (fun j => F j ∨ j = M) := chg_fresh (chg_fresh ((Chg.of HBD3.out _).trans hch7) (by have := HZ.out; omega) _) (by have := HZ.out; omega) _
  have hby := (((HV.out.below HB5.out).chg HC7.out hxm).chg hq7 fun j e => .inr (.inr e)).less (Y := X) fun j hj => .inl hj
  exact ⟨(Ob.lru C Ls).vi b, .slice A5 k5 c5, (by rw [HGN.out]; rfl), hcm9, hchw, fun _ => ⟨rfl, hby⟩, fun e => by rw [HGN.out] at e; cases e⟩
set_option maxRecDepth 20000 in
set_option maxHeartbeats 4000000 in
theorem cp_false_oml {C : Nat} {Ls : List Int} (h : Cm w X G M F c A n cp hh T v (.lru C Ls) D B) (hB : B ≤ 10000000) {l : List Int} (hd : By w X (.slice A1 k1 c1) l) (lv : Int) (hb : 0 ≤ b ∧ b < c 2) (hk : (k1 : Int) = c 3) (ht : (Ob.lru C Ls).takes (c 5) T b lv = true) (hg : (Ob.lru C Ls).gn b = false) :
    Calls Tryz.prog 92 #[.pointer (some ⟨G, 0, none⟩), .agg #[.int .i64 b, .slice A1 k1 c1], .int .i64 lv] w (PutQ w X F G M n cp T B c A hh v (.lru C Ls) D b l) := by
  have HP0 := hid (pq_made w b A1 k1 c1)
  have hb0 := on (below_alloc w (.cells #[.int .i64 b, .slice A1 k1 c1] 88)) (below_alloc _ (.cells #[.int .i64 0, .slice none 0 0] 88))
  have h0 := h.with_pq b A1 k1 c1
  have HX := hid (And.intro h.lt (And.intro h.fx (And.intro h.xG h.xM)))
  have HC0 := hid h0
  have HB0 := hid hb0
  have HI := hid (decide_eq_true hb)
  have d3 : ((k1 : Int) != c 3) = false := by simpa using hk
  have HT := hid ht
  have HTK0 := hid (Ob.tk_of h hb ht)
  have HBB := hid hB
  have l2 : (1 : Int) ≤ c 2 ∧ c 2 ≤ 32 := h.rt.1 2 (by omega)
  have l3 : (1 : Int) ≤ c 3 ∧ c 3 ≤ 16 := h.rt.1 3 (by omega)
  have HXB := hid (wf_small (b := b) (by omega))
  have HGN := hid hg
  have HAM := hid (Ob.add_mem h.ok (Ob.tk_of h hb ht))
  have HWF := hid (fun x hx => h.wf (x := x) hx)
  have HK16 := hid (show k1 ≤ 16 from by omega)
  have hd0 := (hd.more (Y := fun j => X j ∨ j = w.heap.size ∨ j = w.heap.size + 1) fun j hj => hj.elim .inl fun e => .inr (by omega)).below hb0
  have HD0 := hid hd0
  have HLK := hid hd.at_.2
  obtain ⟨g, rfl, -⟩ := oml_has h.ord b
  have hm : ∀ w : World, (method 394 163 (.pointer (some ⟨g, 0, none⟩)) "Add").run Tryz.prog w = .ok (237, .pointer (some ⟨g, 0, none⟩)) w := fun _ => by kernel_rfl
  clear h h0 hb0 hb hk ht hB hg l2 l3 hd hd0
  go_enter Tryz.func92, Tryz.ntmps92
  go_upto_region 3 with fail
  obtain ⟨W0, hW0⟩ : ∃ x, (w.alloc (.cells #[.int .i64 b, .slice A1 k1 c1] 88)).alloc (.cells #[.int .i64 0, .slice none 0 0] 88) = x := ⟨_, rfl⟩
  obtain ⟨q, hq⟩ : ∃ x, w.heap.size + 1 = x := ⟨_, rfl⟩
  obtain ⟨p, hp⟩ : ∃ x, w.heap.size = x := ⟨_, rfl⟩
  rw [hW0, hq, hp] at HP0 HC0 HD0
  rw [hW0] at HB0 ⊢
  rw [hq, hp]
  have HXP := hid (show ∀ j, X j → j ≠ p ∧ j ≠ q from fun j hj => by have := HX.out.1 j hj; omega)
  have HZ := hid (And.intro hp hq)
  clear hW0 hp hq
  have HCD := hid (HC0.out.draws 1)
  have HPD := hid (HP0.out.below (below_draws (Below.refl _ _) 1))
  have HBD := hid (show Below w.heap.size w W0.drew from below_draws HB0.out 1)
  refine wp_region_noPanic ?_
  refine wp_region_held_drew (S := fun w' => w'.rangeAt G 0 (cfgC c A n cp).toList ∧ w'.cell? ⟨p, 0, none⟩ = some (.int .i64 b)) (by kernel_rfl) ?_ (fun hHeld => ?_)
  · exact ⟨HCD.out.range, HPD.out.bp.cell 0⟩
  refine tkv 0 (some 16) rfl ?_
  refine tkv 1 (some 17) rfl ?_
  refine tkv 2 (some 18) rfl ?_
  refine wpAnyH_take (i := 3) (oi := ⟨some 19, _, _, _, _, _⟩) (v := _) rfl (by kernel_rfl) (by kernel_rfl) (by kernel_rfl) (fun _ _ _ h => h) (yieldsIf_load_mid (by rfl) 25 (.tmp 18) rfl G 0 rfl (cfgC c A n cp).toList _ (fun w hw => hw.1) Tryz.underlying25 rfl (by kernel_rfl)) (by assumption) ?_
  (try simp only [Act.put, tkA, tk0, tk1])
  refine tkv 4 (some 20) rfl ?_
  refine tkv 5 (some 21) rfl ?_
  refine tkc 6 (some 22) rfl fun K hK => ?_
  go_simp
  refine (isblk_any c A n cp b _).mono ?_
  rintro e w1 ⟨rfl, hb⟩
  have HC1 := hid (HCD.out.below hb)
  have HP1 := hid (HPD.out.below hb)
  have HB1 := hid (on HBD.out hb); have HD1 := hid (HD0.out.below (on (below_draws (Below.refl _ _) 1) hb))
  have kp := And.intro HC1.out.range (HP1.out.bp.cell 0)
  clear hb
  rw [HI.out]
  go_simp
  refine hK.out _ _ kp (fun hHeld => ?_)
  clear hK K
  (try simp only [Act.put, tkA, tk0, tk1])
  refine tkv 7 (some 23) rfl ?_
  refine tkv 8 (some 15) rfl ?_
  refine wpAnyH_done (by kernel_rfl) ?_ _
  refine NoPanic.normal ?_
  go_upto_region 5 with fail
  have x1 := HP1.out.bp.cell 1
  have x1 : w1.cell? ⟨p, 1, none⟩ = some (.slice A1 k1 c1) := x1
  have x3 := HC1.out.c3
  go_quiet (fail)
  have HC2 := hid (HC1.out.draws nq)
  have HP2 := hid (HP1.out.below (below_draws (Below.refl _ _) nq))
  have HD2 := hid (HD1.out.below (below_draws (Below.refl _ _) nq))
  have HB2 := hid (below_draws HB1.out nq)
  clear x1 x3
  generalize w1.drewN nq = w2 at *
  go_upto_region 7 with fail
  have x0 : w2.cell? ⟨p, 0, none⟩ = some (.int .i64 b) := HP2.out.bp.cell 0
  have HTK := hid (cm_takes HC2.out b lv)
  rw [HT.out] at HTK
  go_upto_region 9 with (go_at_call 130; refine HTK.out.mono ?_; rintro e w3 ⟨rfl, hb⟩; have HC3 := hid (HC2.out.below hb); have HP3 := hid (HP2.out.below hb); have HB3 := hid (on HB2.out hb); have HD3 := hid (HD2.out.below hb); clear hb)
  clear x0
  have HCD3 := hid (HC3.out.draws 1)
  have HPD3 := hid (HP3.out.below (below_draws (Below.refl _ _) 1))
  have HBD3 := hid (show Below w.heap.size w w3.drew from below_draws HB3.out 1)
  have HDD3 := hid (HD3.out.below (below_draws (Below.refl _ _) 1))
  have x0 : w3.drew.cell? ⟨p, 0, none⟩ = some (.int .i64 b) := HPD3.out.bp.cell 0
  have g18 : w3.drew.cell? ⟨G, 18, none⟩ = some (.iface 163 (.pointer (some ⟨g, 0, none⟩))) := HCD3.out.c18
  obtain ⟨g', he, hca⟩ := oml_add HCD3.out.ord HTK0.out
  cases he
  rw [HGN.out] at hca
  have HCA := hid hca
  clear hca
  have HGM := hid HCD3.out.gm
  have HMP := hid (show ¬ p = M ∧ ¬ q = M from ⟨fun e => (HXP.out M HX.out.2.2.2).1 e.symm, fun e => (HXP.out M HX.out.2.2.2).2 e.symm⟩)
  have HFP := hid (show ¬ F p ∧ ¬ F q from ⟨fun hf => (HXP.out p (HX.out.2.1 _ hf)).1 rfl, fun hf => (HXP.out q (HX.out.2.1 _ hf)).2 rfl⟩)
  refine wp_region_noPanic ?_
  refine wp_region_held_drew (S := fun w' => w'.cell? ⟨p, 0, none⟩ = some (.int .i64 b) ∧ w'.cell? ⟨G, 18, none⟩ = some (.iface 163 (.pointer (some ⟨g, 0, none⟩)))) (by kernel_rfl) ?_ (fun hHeld => ?_)
  · exact ⟨x0, g18⟩
  refine tkv 0 (some 45) rfl ?_
  refine tkv 1 (some 46) rfl ?_
  refine tkv 2 (some 47) rfl ?_
  refine tkv 3 (some 48) rfl ?_
  refine tkv 4 (some 49) rfl ?_
  refine tkv 5 (some 50) rfl ?_
  refine tkc 6 (some 51) rfl fun K hK => ?_
  go_simp
  refine HCA.out.mono ?_
  rintro e w4 ⟨rfl, ho, hch⟩
  have HO4 := hid ho
  have HCH := hid hch
  have HP4 := hid (HPD3.out.chg hch HFP.out.1 HFP.out.2)
  have kp := And.intro (HP4.out.bp.cell 0) ((hch.bx HCD3.out.box HCD3.out.fG).cell 18)
  clear ho hch
  go_simp
  refine hK.out _ _ kp (fun hHeld => ?_)
  clear hK K
  (try simp only [Act.put, tkA, tk0, tk1])
  refine tkv 7 (some 44) rfl ?_
  refine tkv 8 (some 52) rfl ?_
  refine tkv 9 (some 53) rfl ?_
  refine tkv 10 (some 54) rfl ?_
  refine tkv 11 (some 9) rfl ?_
  refine tkv 12 (some 7) rfl ?_
  refine tkv 13 (some 10) rfl ?_
  refine wpAnyH_done (by kernel_rfl) ?_ _
  refine NoPanic.normal ?_
  clear x0 g18
  go_upto_region 10 with fail
  have HPD4 := hid (show Pq w w4.drew p q b A1 k1 c1 #[.int .i64 0, .slice none 0 0] from HP4.out.below (below_draws (Below.refl _ _) 1))
  have x0 : w4.drew.cell? ⟨p, 0, none⟩ = some (.int .i64 b) := HPD4.out.bp.cell 0
  have x1 : w4.drew.cell? ⟨p, 1, none⟩ = some (.slice A1 k1 c1) := HPD4.out.bp.cell 1
  have HBG := hid (HCH.out.bx HCD3.out.box HCD3.out.fG)
  have g19 : w4.drew.cell? ⟨G, 19, none⟩ = some (.map (some M)) := HBG.out.cell 19
  obtain ⟨f, hmf, hfx⟩ := HCD3.out.map
  have HMF := hid (show Mc w4.drew M B f from (hmf.same (HCH.out.block M hmf.lt HCD3.out.fM)).below (below_draws (Below.refl _ _) 1))
  have HFX := hid (show ∀ x, x ∈ (Ob.lru C Ls).all → ∃ u, f x = some u ∧ By w4.drew _ u (D x) from fun x hx => by
    obtain ⟨u, h1, h2⟩ := hfx x hx
    exact ⟨u, h1, (h2.chg HCH.out HCD3.out.fx).below (below_draws (Below.refl _ _) 1)⟩)
  have HX4 := hid (show ∀ j, X j ∨ j = p ∨ j = q → j < w4.drew.heap.size from fun j hj => Nat.lt_of_lt_of_le (HCD3.out.lt j hj) HCH.out.size)
  have HD4 := hid (show By w4.drew _ (.slice A1 k1 c1) l from (HDD3.out.chg HCH.out HCD3.out.fx).below (below_draws (Below.refl w4.heap.size w4) 1))
  have HCL := hid (clone_bytes A1 k1 c1 l w4.drew HLK.out (by have := HK16.out; omega) HD4.out.at_.1)
  clear hmf hfx
  obtain ⟨W4, hW4⟩ : ∃ x, w4.drew = x := ⟨_, rfl⟩
  rw [hW4] at HPD4 HMF HFX HX4 HD4 HCL x0 x1 g19
  have HE4 := hid hW4
  have HB4 := hid (show Below w4.heap.size w4 W4 from hW4 ▸ below_draws (Below.refl _ _) 1)
  have HBG4 := hid (HBG.out.next HB4.out)
  refine wp_region_noPanic ?_
  refine wp_region_held_drew (S := fun w' => w'.cell? ⟨p, 0, none⟩ = some (.int .i64 b) ∧ w'.cell? ⟨p, 1, none⟩ = some (.slice A1 k1 c1) ∧ w'.cell? ⟨G, 19, none⟩ = some (.map (some M))) (by kernel_rfl) ?_ (fun hHeld => ?_)
  · rw [HE4.out]; exact ⟨x0, x1, g19⟩
  refine tkv 0 (some 55) rfl ?_
  refine tkv 1 (some 56) rfl ?_
  refine tkv 2 (some 57) rfl ?_
  refine tkv 3 (some 58) rfl ?_
  refine tkv 4 (some 59) rfl ?_
  refine tkv 5 (some 60) rfl ?_
  refine tkv 6 (some 61) rfl ?_
  refine tkv 7 (some 62) rfl ?_
  refine tkc 8 (some 63) rfl fun K hK => ?_
  rw [HE4.out]
  go_simp
  refine HCL.out.mono ?_
  rintro e w5 hq
  obtain ⟨u, rfl, h5, h6⟩ := CpQ.by_ hq _ HX4.out
  obtain ⟨w6, hput, hm6, hg6⟩ := (HMF.out.below h6).put Tryz.underlying3 Tryz.underlying105 (by have := HBB.out; unfold maxLen; omega) HXB.out u
  have HU5 := hid h5
  have HB5 := hid h6
  have HM6 := hid hm6
  have HG6 := hid (grown_chg hg6)
  have kp := And.intro ((HPD4.out.below h6).bp.cell 0) (And.intro ((HPD4.out.below h6).bp.cell 1) ((HBG4.out.next h6).cell 19))
  clear hq h5 h6 hm6 hg6
  go_simp
  refine hK.out _ _ kp (fun hHeld => ?_)
  clear hK K
  (try simp only [Act.put, tkA, tk0, tk1])
  refine tkc 9 (none) rfl fun K hK => ?_
  have HP6 := hid ((HPD4.out.below HB5.out).chg HG6.out HMP.out.1 HMP.out.2)
  have HBG6 := hid (HG6.out.bx (HBG4.out.next HB5.out) fun e => HGM.out e)
  have kq := And.intro (HP6.out.bp.cell 0) (And.intro (HP6.out.bp.cell 1) (HBG6.out.cell 19))
  go_simp
  refine hK.out _ _ kq (fun hHeld => ?_)
  clear hK K
  (try simp only [Act.put, tkA, tk0, tk1])
  refine wpAnyH_done (by kernel_rfl) ?_ _
  refine NoPanic.normal ?_
  go_upto_region 13 with fail
  go_wp2_with (first
    | (refine wpList_load_bx rfl 88 (.tmp 6) rfl q _ _ _ rfl HP6.out.bq Tryz.underlying88 rfl (by kernel_rfl) ?_)
    | (refine wpList_store_bx rfl 88 (.tmp 6) (.tmp 68) rfl rfl q _ _ #[.int .i64 0, .slice none 0 0] rfl rfl HP6.out.bq (by kernel_rfl) rfl (by simp [Value.oneCell']) ?_))
  refine bodyPost_ret (results_bx3 rfl _ rfl (HP6.out.bq.row (cs' := #[.int .i64 0, .slice none 0 0])) Tryz.underlying88 rfl (by kernel_rfl)) rfl ?_
  have HC7 := HG6
  have HM7 := HM6
  have hq7 : Chg w6 (w6.setRow q #[.int .i64 0, .slice none 0 0]) (· = q) (· = q) := chg_row _ _ _
  have hch7 : Chg w3.drew w6 (fun j => F j ∨ j = M) (fun j => F j ∨ j = M) := (HCH.out.wide fun j hj => .inl hj).trans ((Chg.of (on HB4.out HB5.out) _).trans (HC7.out.wide fun j hj => .inr hj))
  have hfm : ∀ j, F j → ¬ j = M := fun j hf e => HCD3.out.fM (e ▸ hf)
  have hxm : ∀ j, j = M → X j ∨ j = p ∨ j = q := fun j e => .inl (e ▸ HX.out.2.2.2)
  have hcm7 := HCD3.out.put_to hch7 (((HO4.out.below HB4.out).below HB5.out).chg HC7.out hfm) HTK0.out (by rw [HLK.out]; exact HK16.out) HM7.out (HU5.out.chg HC7.out hxm) (f := f) (fun x hx => by
    obtain ⟨u2, h1, h2⟩ := HFX.out x hx
    exact ⟨u2, h1, (h2.below HB5.out).chg HC7.out hxm⟩) (if_pos rfl) (fun x hx _ => if_neg hx)
  have hcm8 := hcm7.chg hq7 (fun j e => .inr (.inr e)) fun j e => ⟨fun hf => HFP.out.2 (e ▸ hf), fun e2 => (HXP.out G HX.out.2.2.1).2 (e2 ▸ e), fun e2 => HMP.out.2 (e.symm.trans e2)⟩
  have hcm9 := hcm8.less (Y := X) (fun j hj => .inl hj) fun j hj => hj.elim (HX.out.2.1 j) fun e => e.elim (fun e => e ▸ HX.out.2.2.1) fun e => e ▸ HX.out.2.2.2
  have hchw : Chg w (w6.setRow q #[.int .i64 0, .slice none 0 0]) (fun j => F j ∨ j = M) (fun j => F j ∨ j = M) := chg_fresh ((Chg.of HBD3.out _).trans hch7) (by have := HZ.out; omega) _
  exact ⟨0, .slice none 0 0, (by rw [HGN.out]; rfl), hcm9, hchw, (fun e => by rw [HGN.out] at e; cases e), fun _ => ⟨rfl, rfl⟩⟩
set_option maxRecDepth 20000 in
set_option maxHeartbeats 4000000 in
theorem cp_true_omm {C N L H : Nat} {m : Ms} (h : Cm w X G M F c A n cp hh T v (.mq C N L H m) D B) (hB : B ≤ 10000000) {l : List Int} (hd : By w X (.slice A1 k1 c1) l) (lv : Int) (hb : 0 ≤ b ∧ b < c 2) (hk : (k1 : Int) = c 3) (ht : (Ob.mq C N L H m).takes (c 5) T b lv = true) (hg : (Ob.mq C N L H m).gn b = true) :
    Calls Tryz.prog 92 #[.pointer (some ⟨G, 0, none⟩), .agg #[.int .i64 b, .slice A1 k1 c1], .int .i64 lv] w (PutQ w X F G M n cp T B c A hh v (.mq C N L H m) D b l) := by
  have HP0 := hid (pq_made w b A1 k1 c1)
  have hb0 := on (below_alloc w (.cells #[.int .i64 b, .slice A1 k1 c1] 88)) (below_alloc _ (.cells #[.int .i64 0, .slice none 0 0] 88))
  have h0 := h.with_pq b A1 k1 c1
  have HX := hid (And.intro h.lt (And.intro h.fx (And.intro h.xG h.xM)))
  have HC0 := hid h0
  have HB0 := hid hb0
  have HI := hid (decide_eq_true hb)
  have d3 : ((k1 : Int) != c 3) = false := by simpa using hk
  have HT := hid ht
  have HTK0 := hid (Ob.tk_of h hb ht)
  have HBB := hid hB
  have l2 : (1 : Int) ≤ c 2 ∧ c 2 ≤ 32 := h.rt.1 2 (by omega)
  have l3 : (1 : Int) ≤ c 3 ∧ c 3 ≤ 16 := h.rt.1 3 (by omega)
  have HXB := hid (wf_small (b := b) (by omega))
  have HGN := hid hg
  have HAM := hid (Ob.add_mem h.ok (Ob.tk_of h hb ht))
  have HWF := hid (fun x hx => h.wf (x := x) hx)
  have HK16 := hid (show k1 ≤ 16 from by omega)
  have hd0 := (hd.more (Y := fun j => X j ∨ j = w.heap.size ∨ j = w.heap.size + 1) fun j hj => hj.elim .inl fun e => .inr (by omega)).below hb0
  have HD0 := hid hd0
  have HLK := hid hd.at_.2
  obtain ⟨g, rfl, -⟩ := omm_has h.ord h.ok b
  have hm : ∀ w : World, (method 394 158 (.pointer (some ⟨g, 0, none⟩)) "Add").run Tryz.prog w = .ok (220, .pointer (some ⟨g, 0, none⟩)) w := fun _ => by kernel_rfl
  clear h h0 hb0 hb hk ht hB hg l2 l3 hd hd0
  go_enter Tryz.func92, Tryz.ntmps92
  go_upto_region 3 with fail
  obtain ⟨W0, hW0⟩ : ∃ x, (w.alloc (.cells #[.int .i64 b, .slice A1 k1 c1] 88)).alloc (.cells #[.int .i64 0, .slice none 0 0] 88) = x := ⟨_, rfl⟩
  obtain ⟨q, hq⟩ : ∃ x, w.heap.size + 1 = x := ⟨_, rfl⟩
  obtain ⟨p, hp⟩ : ∃ x, w.heap.size = x := ⟨_, rfl⟩
  rw [hW0, hq, hp] at HP0 HC0 HD0
  rw [hW0] at HB0 ⊢
  rw [hq, hp]
  have HXP := hid (show ∀ j, X j → j ≠ p ∧ j ≠ q from fun j hj => by have := HX.out.1 j hj; omega)
  have HZ := hid (And.intro hp hq)
  clear hW0 hp hq
  have HCD := hid (HC0.out.draws 1)
  have HPD := hid (HP0.out.below (below_draws (Below.refl _ _) 1))
  have HBD := hid (show Below w.heap.size w W0.drew from below_draws HB0.out 1)
  refine wp_region_noPanic ?_
  refine wp_region_held_drew (S := fun w' => w'.rangeAt G 0 (cfgC c A n cp).toList ∧ w'.cell? ⟨p, 0, none⟩ = some (.int .i64 b)) (by kernel_rfl) ?_ (fun hHeld => ?_)
  · exact ⟨HCD.out.range, HPD.out.bp.cell 0⟩
  refine tkv 0 (some 16) rfl ?_
  refine tkv 1 (some 17) rfl ?_
  refine tkv 2 (some 18) rfl ?_
  refine wpAnyH_take (i := 3) (oi := ⟨some 19, _, _, _, _, _⟩) (v := _) rfl (by kernel_rfl) (by kernel_rfl) (by kernel_rfl) (fun _ _ _ h => h) (yieldsIf_load_mid (by rfl) 25 (.tmp 18) rfl G 0 rfl (cfgC c A n cp).toList _ (fun w hw => hw.1) Tryz.underlying25 rfl (by kernel_rfl)) (by assumption) ?_
  (try simp only [Act.put, tkA, tk0, tk1])
  refine tkv 4 (some 20) rfl ?_
  refine tkv 5 (some 21) rfl ?_
  refine tkc 6 (some 22) rfl fun K hK => ?_
  go_simp
  refine (isblk_any c A n cp b _).mono ?_
  rintro e w1 ⟨rfl, hb⟩
  have HC1 := hid (HCD.out.below hb)
  have HP1 := hid (HPD.out.below hb)
  have HB1 := hid (on HBD.out hb); have HD1 := hid (HD0.out.below (on (below_draws (Below.refl _ _) 1) hb))
  have kp := And.intro HC1.out.range (HP1.out.bp.cell 0)
  clear hb
  rw [HI.out]
  go_simp
  refine hK.out _ _ kp (fun hHeld => ?_)
  clear hK K
  (try simp only [Act.put, tkA, tk0, tk1])
  refine tkv 7 (some 23) rfl ?_
  refine tkv 8 (some 15) rfl ?_
  refine wpAnyH_done (by kernel_rfl) ?_ _
  refine NoPanic.normal ?_
  go_upto_region 5 with fail
  have x1 := HP1.out.bp.cell 1
  have x1 : w1.cell? ⟨p, 1, none⟩ = some (.slice A1 k1 c1) := x1
  have x3 := HC1.out.c3
  go_quiet (fail)
  have HC2 := hid (HC1.out.draws nq)
  have HP2 := hid (HP1.out.below (below_draws (Below.refl _ _) nq))
  have HD2 := hid (HD1.out.below (below_draws (Below.refl _ _) nq))
  have HB2 := hid (below_draws HB1.out nq)
  clear x1 x3
  generalize w1.drewN nq = w2 at *
  go_upto_region 7 with fail
  have x0 : w2.cell? ⟨p, 0, none⟩ = some (.int .i64 b) := HP2.out.bp.cell 0
  have HTK := hid (cm_takes HC2.out b lv)
  rw [HT.out] at HTK
  go_upto_region 9 with (go_at_call 130; refine HTK.out.mono ?_; rintro e w3 ⟨rfl, hb⟩; have HC3 := hid (HC2.out.below hb); have HP3 := hid (HP2.out.below hb); have HB3 := hid (on HB2.out hb); have HD3 := hid (HD2.out.below hb); clear hb)
  clear x0
  have HCD3 := hid (HC3.out.draws 1)
  have HPD3 := hid (HP3.out.below (below_draws (Below.refl _ _) 1))
  have HBD3 := hid (show Below w.heap.size w w3.drew from below_draws HB3.out 1)
  have HDD3 := hid (HD3.out.below (below_draws (Below.refl _ _) 1))
  have x0 : w3.drew.cell? ⟨p, 0, none⟩ = some (.int .i64 b) := HPD3.out.bp.cell 0
  have g18 : w3.drew.cell? ⟨G, 18, none⟩ = some (.iface 158 (.pointer (some ⟨g, 0, none⟩))) := HCD3.out.c18
  obtain ⟨g', he, hca⟩ := omm_add HCD3.out.ord HCD3.out.ok (Nat.le_trans HCD3.out.tm HBB.out) HTK0.out
  cases he
  rw [HGN.out] at hca
  have HCA := hid hca
  clear hca
  have HGM := hid HCD3.out.gm
  have HMP := hid (show ¬ p = M ∧ ¬ q = M from ⟨fun e => (HXP.out M HX.out.2.2.2).1 e.symm, fun e => (HXP.out M HX.out.2.2.2).2 e.symm⟩)
  have HFP := hid (show ¬ F p ∧ ¬ F q from ⟨fun hf => (HXP.out p (HX.out.2.1 _ hf)).1 rfl, fun hf => (HXP.out q (HX.out.2.1 _ hf)).2 rfl⟩)
  refine wp_region_noPanic ?_
  refine wp_region_held_drew (S := fun w' => w'.cell? ⟨p, 0, none⟩ = some (.int .i64 b) ∧ w'.cell? ⟨G, 18, none⟩ = some (.iface 158 (.pointer (some ⟨g, 0, none⟩)))) (by kernel_rfl) ?_ (fun hHeld => ?_)
  · exact ⟨x0, g18⟩
  refine tkv 0 (some 45) rfl ?_
  refine tkv 1 (some 46) rfl ?_
  refine tkv 2 (some 47) rfl ?_
  refine tkv 3 (some 48) rfl ?_
  refine tkv 4 (some 49) rfl ?_
  refine tkv 5 (some 50) rfl ?_
  refine tkc 6 (some 51) rfl fun K hK => ?_
  go_simp
  refine HCA.out.mono ?_
  rintro e w4 ⟨rfl, ho, hch⟩
  have HO4 := hid ho
  have HCH := hid hch
  have HP4 := hid (HPD3.out.chg hch HFP.out.1 HFP.out.2)
  have kp := And.intro (HP4.out.bp.cell 0) ((hch.bx HCD3.out.box HCD3.out.fG).cell 18)
  clear ho hch
  go_simp
  refine hK.out _ _ kp (fun hHeld => ?_)
  clear hK K
  (try simp only [Act.put, tkA, tk0, tk1])
  refine tkv 7 (some 44) rfl ?_
  refine tkv 8 (some 52) rfl ?_
  refine tkv 9 (some 53) rfl ?_
  refine tkv 10 (some 54) rfl ?_
  refine tkv 11 (some 9) rfl ?_
  refine tkv 12 (some 7) rfl ?_
  refine tkv 13 (some 10) rfl ?_
  refine wpAnyH_done (by kernel_rfl) ?_ _
  refine NoPanic.normal ?_
  clear x0 g18
  go_upto_region 10 with fail
  have HPD4 := hid (show Pq w w4.drew p q b A1 k1 c1 #[.int .i64 0, .slice none 0 0] from HP4.out.below (below_draws (Below.refl _ _) 1))
  have x0 : w4.drew.cell? ⟨p, 0, none⟩ = some (.int .i64 b) := HPD4.out.bp.cell 0
  have x1 : w4.drew.cell? ⟨p, 1, none⟩ = some (.slice A1 k1 c1) := HPD4.out.bp.cell 1
  have HBG := hid (HCH.out.bx HCD3.out.box HCD3.out.fG)
  have g19 : w4.drew.cell? ⟨G, 19, none⟩ = some (.map (some M)) := HBG.out.cell 19
  obtain ⟨f, hmf, hfx⟩ := HCD3.out.map
  have HMF := hid (show Mc w4.drew M B f from (hmf.same (HCH.out.block M hmf.lt HCD3.out.fM)).below (below_draws (Below.refl _ _) 1))
  have HFX := hid (show ∀ x, x ∈ (Ob.mq C N L H m).all → ∃ u, f x = some u ∧ By w4.drew _ u (D x) from fun x hx => by
    obtain ⟨u, h1, h2⟩ := hfx x hx
    exact ⟨u, h1, (h2.chg HCH.out HCD3.out.fx).below (below_draws (Below.refl _ _) 1)⟩)
  have HX4 := hid (show ∀ j, X j ∨ j = p ∨ j = q → j < w4.drew.heap.size from fun j hj => Nat.lt_of_lt_of_le (HCD3.out.lt j hj) HCH.out.size)
  have HD4 := hid (show By w4.drew _ (.slice A1 k1 c1) l from (HDD3.out.chg HCH.out HCD3.out.fx).below (below_draws (Below.refl w4.heap.size w4) 1))
  have HCL := hid (clone_bytes A1 k1 c1 l w4.drew HLK.out (by have := HK16.out; omega) HD4.out.at_.1)
  clear hmf hfx
  obtain ⟨W4, hW4⟩ : ∃ x, w4.drew = x := ⟨_, rfl⟩
  rw [hW4] at HPD4 HMF HFX HX4 HD4 HCL x0 x1 g19
  have HE4 := hid hW4
  have HB4 := hid (show Below w4.heap.size w4 W4 from hW4 ▸ below_draws (Below.refl _ _) 1)
  have HBG4 := hid (HBG.out.next HB4.out)
  refine wp_region_noPanic ?_
  refine wp_region_held_drew (S := fun w' => w'.cell? ⟨p, 0, none⟩ = some (.int .i64 b) ∧ w'.cell? ⟨p, 1, none⟩ = some (.slice A1 k1 c1) ∧ w'.cell? ⟨G, 19, none⟩ = some (.map (some M))) (by kernel_rfl) ?_ (fun hHeld => ?_)
  · rw [HE4.out]; exact ⟨x0, x1, g19⟩
  refine tkv 0 (some 55) rfl ?_
  refine tkv 1 (some 56) rfl ?_
  refine tkv 2 (some 57) rfl ?_
  refine tkv 3 (some 58) rfl ?_
  refine tkv 4 (some 59) rfl ?_
  refine tkv 5 (some 60) rfl ?_
  refine tkv 6 (some 61) rfl ?_
  refine tkv 7 (some 62) rfl ?_
  refine tkc 8 (some 63) rfl fun K hK => ?_
  rw [HE4.out]
  go_simp
  refine HCL.out.mono ?_
  rintro e w5 hq
  obtain ⟨u, rfl, h5, h6⟩ := CpQ.by_ hq _ HX4.out
  obtain ⟨w6, hput, hm6, hg6⟩ := (HMF.out.below h6).put Tryz.underlying3 Tryz.underlying105 (by have := HBB.out; unfold maxLen; omega) HXB.out u
  have HU5 := hid h5
  have HB5 := hid h6
  have HM6 := hid hm6
  have HG6 := hid (grown_chg hg6)
  have kp := And.intro ((HPD4.out.below h6).bp.cell 0) (And.intro ((HPD4.out.below h6).bp.cell 1) ((HBG4.out.next h6).cell 19))
  clear hq h5 h6 hm6 hg6
  go_simp
  refine hK.out _ _ kp (fun hHeld => ?_)
  clear hK K
  (try simp only [Act.put, tkA, tk0, tk1])
  refine tkc 9 (none) rfl fun K hK => ?_
  have HP6 := hid ((HPD4.out.below HB5.out).chg HG6.out HMP.out.1 HMP.out.2)
  have HBG6 := hid (HG6.out.bx (HBG4.out.next HB5.out) fun e => HGM.out e)
  have kq := And.intro (HP6.out.bp.cell 0) (And.intro (HP6.out.bp.cell 1) (HBG6.out.cell 19))
  go_simp
  refine hK.out _ _ kq (fun hHeld => ?_)
  clear hK K
  (try simp only [Act.put, tkA, tk0, tk1])
  refine wpAnyH_done (by kernel_rfl) ?_ _
  refine NoPanic.normal ?_
  obtain ⟨hnb, hvi, hvb⟩ := HAM.out.2 HGN.out
  obtain ⟨uv, hv1, hv2⟩ := HFX.out _ hvi
  have hul : ∃ A5 k5 c5, uv = .slice A5 k5 c5 := by
    obtain ⟨A5, c5, rfl, -⟩ := hv2
    exact ⟨A5, _, c5, rfl⟩
  obtain ⟨A5, k5, c5, rfl⟩ := hul
  have HV := hid hv2
  have HVB := hid hvb
  have HTA := hid (cm_take (HBG6.out.cell 19) HM6.out (b := (Ob.mq C N L H m).vi b) ((if_neg hvb).trans hv1) (HWF.out _ hvi))
  clear hnb hvi hvb hv1 hv2
  go_upto_region 13 with (first
    | (go_at_call 131; refine HTA.out.mono ?_; rintro e w7 ⟨rfl, hm7, hc7⟩; have HM7 := hid hm7; have HC67 := hid hc7; have HP7 := hid (HP6.out.chg hc7 HMP.out.1 HMP.out.2); clear hm7 hc7)
    | (refine wpList_store_bx rfl 88 (.tmp 6) (.tmp 67) rfl rfl q _ _ #[.int .i64 ((Ob.mq C N L H m).vi b), .slice A5 k5 c5] rfl rfl HP7.out.bq (by kernel_rfl) rfl (by simp [Value.oneCell']) ?_))
  have HC7 := hid (HG6.out.trans HC67.out)
  have HP8 := hid (HP7.out.row (cs' := #[.int .i64 ((Ob.mq C N L H m).vi b), .slice A5 k5 c5]))
  obtain ⟨W8, hW8⟩ : ∃ x, w7.setRow q #[.int .i64 ((Ob.mq C N L H m).vi b), .slice A5 k5 c5] = x := ⟨_, rfl⟩
  rw [hW8] at HP8 ⊢
  have HE8 := hid hW8
  clear hW8
  go_wp2_with (first
    | (refine wpList_load_bx rfl 88 (.tmp 6) rfl q _ _ _ rfl HP8.out.bq Tryz.underlying88 rfl (by kernel_rfl) ?_)
    | (refine wpList_store_bx rfl 88 (.tmp 6) (.tmp 68) rfl rfl q _ _ #[.int .i64 ((Ob.mq C N L H m).vi b), .slice A5 k5 c5] rfl rfl HP8.out.bq (by kernel_rfl) rfl (by simp [Value.oneCell']) ?_))
  refine bodyPost_ret (results_bx3 rfl _ rfl (HP8.out.bq.row (cs' := #[.int .i64 ((Ob.mq C N L H m).vi b), .slice A5 k5 c5])) Tryz.underlying88 rfl (by kernel_rfl)) rfl ?_
  rw [← HE8.out]
  have hq7 : Chg w7 ((w7.setRow q #[.int .i64 ((Ob.mq C N L H m).vi b), .slice A5 k5 c5]).setRow q #[.int .i64 ((Ob.mq C N L H m).vi b), .slice A5 k5 c5]) (· = q) (· = q) := (chg_row _ _ _).trans (chg_row _ _ _)
  have hch7 : Chg w3.drew w7 (fun j => F j ∨ j = M) (fun j => F j ∨ j = M) := (HCH.out.wide fun j hj => .inl hj).trans ((Chg.of (on HB4.out HB5.out) _).trans (HC7.out.wide fun j hj => .inr hj))
  have hfm : ∀ j, F j → ¬ j = M := fun j hf e => HCD3.out.fM (e ▸ hf)
  have hxm : ∀ j, j = M → X j ∨ j = p ∨ j = q := fun j e => .inl (e ▸ HX.out.2.2.2)
  have hcm7 := HCD3.out.put_to hch7 (((HO4.out.below HB4.out).below HB5.out).chg HC7.out hfm) HTK0.out (by rw [HLK.out]; exact HK16.out) HM7.out (HU5.out.chg HC7.out hxm) (f := f) (fun x hx => by
    obtain ⟨u2, h1, h2⟩ := HFX.out x hx
    exact ⟨u2, h1, (h2.below HB5.out).chg HC7.out hxm⟩) ((if_neg fun e => HVB.out e.symm).trans (if_pos rfl)) (fun x hx hm => (if_neg fun e => ((HAM.out.1 x).1 hm).elim hx fun h => h.2 ⟨HGN.out, e⟩).trans (if_neg hx))
  have hcm8 := hcm7.chg hq7 (fun j e => .inr (.inr e)) fun j e => ⟨fun hf => HFP.out.2 (e ▸ hf), fun e2 => (HXP.out G HX.out.2.2.1).2 (e2 ▸ e), fun e2 => HMP.out.2 (e.symm.trans e2)⟩
  have hcm9 := hcm8.less (Y := X) (fun j hj => .inl hj) fun j hj => hj.elim (HX.out.2.1 j) fun e => e.elim (fun e => e ▸ HX.out.2.2.1) fun e => e ▸ HX.out.2.2.2
  have hchw : Chg w ((w7.setRow q #[.int .i64 ((Ob.mq C N L H m).vi b), .slice A5 k5 c5]).setRow q #[.int .i64 ((Ob.mq C N L H m).vi b), .slice A5 k5 c5]) (fun j => F j ∨ j = M) (fun j => F j ∨ j = M) := chg_fresh (chg_fresh ((Chg.of HBD3.out _).trans hch7) (by have := HZ.out; omega) _) (by have := HZ.out; omega) _
  have hby := (((HV.out.below HB5.out).chg HC7.out hxm).chg hq7 fun j e => .inr (.inr e)).less (Y := X) fun j hj => .inl hj
  exact ⟨(Ob.mq C N L H m).vi b, .slice A5 k5 c5, (by rw [HGN.out]; rfl), hcm9, hchw, fun _ => ⟨rfl, hby⟩, fun e => by rw [HGN.out] at e; cases e⟩
set_option maxRecDepth 20000 in
set_option maxHeartbeats 4000000 in
theorem cp_false_omm {C N L H : Nat} {m : Ms} (h : Cm w X G M F c A n cp hh T v (.mq C N L H m) D B) (hB : B ≤ 10000000) {l : List Int} (hd : By w X (.slice A1 k1 c1) l) (lv : Int) (hb : 0 ≤ b ∧ b < c 2) (hk : (k1 : Int) = c 3) (ht : (Ob.mq C N L H m).takes (c 5) T b lv = true) (hg : (Ob.mq C N L H m).gn b = false) :
    Calls Tryz.prog 92 #[.pointer (some ⟨G, 0, none⟩), .agg #[.int .i64 b, .slice A1 k1 c1], .int .i64 lv] w (PutQ w X F G M n cp T B c A hh v (.mq C N L H m) D b l) := by
  have HP0 := hid (pq_made w b A1 k1 c1)
  have hb0 := on (below_alloc w (.cells #[.int .i64 b, .slice A1 k1 c1] 88)) (below_alloc _ (.cells #[.int .i64 0, .slice none 0 0] 88))
  have h0 := h.with_pq b A1 k1 c1
  have HX := hid (And.intro h.lt (And.intro h.fx (And.intro h.xG h.xM)))
  have HC0 := hid h0
  have HB0 := hid hb0
  have HI := hid (decide_eq_true hb)
  have d3 : ((k1 : Int) != c 3) = false := by simpa using hk
  have HT := hid ht
  have HTK0 := hid (Ob.tk_of h hb ht)
  have HBB := hid hB
  have l2 : (1 : Int) ≤ c 2 ∧ c 2 ≤ 32 := h.rt.1 2 (by omega)
  have l3 : (1 : Int) ≤ c 3 ∧ c 3 ≤ 16 := h.rt.1 3 (by omega)
  have HXB := hid (wf_small (b := b) (by omega))
  have HGN := hid hg
  have HAM := hid (Ob.add_mem h.ok (Ob.tk_of h hb ht))
  have HWF := hid (fun x hx => h.wf (x := x) hx)
  have HK16 := hid (show k1 ≤ 16 from by omega)
  have hd0 := (hd.more (Y := fun j => X j ∨ j = w.heap.size ∨ j = w.heap.size + 1) fun j hj => hj.elim .inl fun e => .inr (by omega)).below hb0
  have HD0 := hid hd0
  have HLK := hid hd.at_.2
  obtain ⟨g, rfl, -⟩ := omm_has h.ord h.ok b
  have hm : ∀ w : World, (method 394 158 (.pointer (some ⟨g, 0, none⟩)) "Add").run Tryz.prog w = .ok (220, .pointer (some ⟨g, 0, none⟩)) w := fun _ => by kernel_rfl
  clear h h0 hb0 hb hk ht hB hg l2 l3 hd hd0
  go_enter Tryz.func92, Tryz.ntmps92
  go_upto_region 3 with fail
  obtain ⟨W0, hW0⟩ : ∃ x, (w.alloc (.cells #[.int .i64 b, .slice A1 k1 c1] 88)).alloc (.cells #[.int .i64 0, .slice none 0 0] 88) = x := ⟨_, rfl⟩
  obtain ⟨q, hq⟩ : ∃ x, w.heap.size + 1 = x := ⟨_, rfl⟩
  obtain ⟨p, hp⟩ : ∃ x, w.heap.size = x := ⟨_, rfl⟩
  rw [hW0, hq, hp] at HP0 HC0 HD0
  rw [hW0] at HB0 ⊢
  rw [hq, hp]
  have HXP := hid (show ∀ j, X j → j ≠ p ∧ j ≠ q from fun j hj => by have := HX.out.1 j hj; omega)
  have HZ := hid (And.intro hp hq)
  clear hW0 hp hq
  have HCD := hid (HC0.out.draws 1)
  have HPD := hid (HP0.out.below (below_draws (Below.refl _ _) 1))
  have HBD := hid (show Below w.heap.size w W0.drew from below_draws HB0.out 1)
  refine wp_region_noPanic ?_
  refine wp_region_held_drew (S := fun w' => w'.rangeAt G 0 (cfgC c A n cp).toList ∧ w'.cell? ⟨p, 0, none⟩ = some (.int .i64 b)) (by kernel_rfl) ?_ (fun hHeld => ?_)
  · exact ⟨HCD.out.range, HPD.out.bp.cell 0⟩
  refine tkv 0 (some 16) rfl ?_
  refine tkv 1 (some 17) rfl ?_
  refine tkv 2 (some 18) rfl ?_
  refine wpAnyH_take (i := 3) (oi := ⟨some 19, _, _, _, _, _⟩) (v := _) rfl (by kernel_rfl) (by kernel_rfl) (by kernel_rfl) (fun _ _ _ h => h) (yieldsIf_load_mid (by rfl) 25 (.tmp 18) rfl G 0 rfl (cfgC c A n cp).toList _ (fun w hw => hw.1) Tryz.underlying25 rfl (by kernel_rfl)) (by assumption) ?_
  (try simp only [Act.put, tkA, tk0, tk1])
  refine tkv 4 (some 20) rfl ?_
  refine tkv 5 (some 21) rfl ?_
  refine tkc 6 (some 22) rfl fun K hK => ?_
  go_simp
  refine (isblk_any c A n cp b _).mono ?_
  rintro e w1 ⟨rfl, hb⟩
  have HC1 := hid (HCD.out.below hb)
  have HP1 := hid (HPD.out.below hb)
  have HB1 := hid (on HBD.out hb); have HD1 := hid (HD0.out.below (on (below_draws (Below.refl _ _) 1) hb))
  have kp := And.intro HC1.out.range (HP1.out.bp.cell 0)
  clear hb
  rw [HI.out]
  go_simp
  refine hK.out _ _ kp (fun hHeld => ?_)
  clear hK K
  (try simp only [Act.put, tkA, tk0, tk1])
  refine tkv 7 (some 23) rfl ?_
  refine tkv 8 (some 15) rfl ?_
  refine wpAnyH_done (by kernel_rfl) ?_ _
  refine NoPanic.normal ?_
  go_upto_region 5 with fail
  have x1 := HP1.out.bp.cell 1
  have x1 : w1.cell? ⟨p, 1, none⟩ = some (.slice A1 k1 c1) := x1
  have x3 := HC1.out.c3
  go_quiet (fail)
  have HC2 := hid (HC1.out.draws nq)
  have HP2 := hid (HP1.out.below (below_draws (Below.refl _ _) nq))
  have HD2 := hid (HD1.out.below (below_draws (Below.refl _ _) nq))
  have HB2 := hid (below_draws HB1.out nq)
  clear x1 x3
  generalize w1.drewN nq = w2 at *
  go_upto_region 7 with fail
  have x0 : w2.cell? ⟨p, 0, none⟩ = some (.int .i64 b) := HP2.out.bp.cell 0
  have HTK := hid (cm_takes HC2.out b lv)
  rw [HT.out] at HTK
  go_upto_region 9 with (go_at_call 130; refine HTK.out.mono ?_; rintro e w3 ⟨rfl, hb⟩; have HC3 := hid (HC2.out.below hb); have HP3 := hid (HP2.out.below hb); have HB3 := hid (on HB2.out hb); have HD3 := hid (HD2.out.below hb); clear hb)
  clear x0
  have HCD3 := hid (HC3.out.draws 1)
  have HPD3 := hid (HP3.out.below (below_draws (Below.refl _ _) 1))
  have HBD3 := hid (show Below w.heap.size w w3.drew from below_draws HB3.out 1)
  have HDD3 := hid (HD3.out.below (below_draws (Below.refl _ _) 1))
  have x0 : w3.drew.cell? ⟨p, 0, none⟩ = some (.int .i64 b) := HPD3.out.bp.cell 0
  have g18 : w3.drew.cell? ⟨G, 18, none⟩ = some (.iface 158 (.pointer (some ⟨g, 0, none⟩))) := HCD3.out.c18
  obtain ⟨g', he, hca⟩ := omm_add HCD3.out.ord HCD3.out.ok (Nat.le_trans HCD3.out.tm HBB.out) HTK0.out
  cases he
  rw [HGN.out] at hca
  have HCA := hid hca
  clear hca
  have HGM := hid HCD3.out.gm
  have HMP := hid (show ¬ p = M ∧ ¬ q = M from ⟨fun e => (HXP.out M HX.out.2.2.2).1 e.symm, fun e => (HXP.out M HX.out.2.2.2).2 e.symm⟩)
  have HFP := hid (show ¬ F p ∧ ¬ F q from ⟨fun hf => (HXP.out p (HX.out.2.1 _ hf)).1 rfl, fun hf => (HXP.out q (HX.out.2.1 _ hf)).2 rfl⟩)
  refine wp_region_noPanic ?_
  refine wp_region_held_drew (S := fun w' => w'.cell? ⟨p, 0, none⟩ = some (.int .i64 b) ∧ w'.cell? ⟨G, 18, none⟩ = some (.iface 158 (.pointer (some ⟨g, 0, none⟩)))) (by kernel_rfl) ?_ (fun hHeld => ?_)
  · exact ⟨x0, g18⟩
  refine tkv 0 (some 45) rfl ?_
  refine tkv 1 (some 46) rfl ?_
  refine tkv 2 (some 47) rfl ?_
  refine tkv 3 (some 48) rfl ?_
  refine tkv 4 (some 49) rfl ?_
  refine tkv 5 (some 50) rfl ?_
  refine tkc 6 (some 51) rfl fun K hK => ?_
  go_simp
  refine HCA.out.mono ?_
  rintro e w4 ⟨rfl, ho, hch⟩
  have HO4 := hid ho
  have HCH := hid hch
  have HP4 := hid (HPD3.out.chg hch HFP.out.1 HFP.out.2)
  have kp := And.intro (HP4.out.bp.cell 0) ((hch.bx HCD3.out.box HCD3.out.fG).cell 18)
  clear ho hch
  go_simp
  refine hK.out _ _ kp (fun hHeld => ?_)
  clear hK K
  (try simp only [Act.put, tkA, tk0, tk1])
  refine tkv 7 (some 44) rfl ?_
  refine tkv 8 (some 52) rfl ?_
  refine tkv 9 (some 53) rfl ?_
  refine tkv 10 (some 54) rfl ?_
  refine tkv 11 (some 9) rfl ?_
  refine tkv 12 (some 7) rfl ?_
  refine tkv 13 (some 10) rfl ?_
  refine wpAnyH_done (by kernel_rfl) ?_ _
  refine NoPanic.normal ?_
  clear x0 g18
  go_upto_region 10 with fail
  have HPD4 := hid (show Pq w w4.drew p q b A1 k1 c1 #[.int .i64 0, .slice none 0 0] from HP4.out.below (below_draws (Below.refl _ _) 1))
  have x0 : w4.drew.cell? ⟨p, 0, none⟩ = some (.int .i64 b) := HPD4.out.bp.cell 0
  have x1 : w4.drew.cell? ⟨p, 1, none⟩ = some (.slice A1 k1 c1) := HPD4.out.bp.cell 1
  have HBG := hid (HCH.out.bx HCD3.out.box HCD3.out.fG)
  have g19 : w4.drew.cell? ⟨G, 19, none⟩ = some (.map (some M)) := HBG.out.cell 19
  obtain ⟨f, hmf, hfx⟩ := HCD3.out.map
  have HMF := hid (show Mc w4.drew M B f from (hmf.same (HCH.out.block M hmf.lt HCD3.out.fM)).below (below_draws (Below.refl _ _) 1))
  have HFX := hid (show ∀ x, x ∈ (Ob.mq C N L H m).all → ∃ u, f x = some u ∧ By w4.drew _ u (D x) from fun x hx => by
    obtain ⟨u, h1, h2⟩ := hfx x hx
    exact ⟨u, h1, (h2.chg HCH.out HCD3.out.fx).below (below_draws (Below.refl _ _) 1)⟩)
  have HX4 := hid (show ∀ j, X j ∨ j = p ∨ j = q → j < w4.drew.heap.size from fun j hj => Nat.lt_of_lt_of_le (HCD3.out.lt j hj) HCH.out.size)
  have HD4 := hid (show By w4.drew _ (.slice A1 k1 c1) l from (HDD3.out.chg HCH.out HCD3.out.fx).below (below_draws (Below.refl w4.heap.size w4) 1))
  have HCL := hid (clone_bytes A1 k1 c1 l w4.drew HLK.out (by have := HK16.out; omega) HD4.out.at_.1)
  clear hmf hfx
  obtain ⟨W4, hW4⟩ : ∃ x, w4.drew = x := ⟨_, rfl⟩
  rw [hW4] at HPD4 HMF HFX HX4 HD4 HCL x0 x1 g19
  have HE4 := hid hW4
  have HB4 := hid (show Below w4.heap.size w4 W4 from hW4 ▸ below_draws (Below.refl _ _) 1)
  have HBG4 := hid (HBG.out.next HB4.out)
  refine wp_region_noPanic ?_
  refine wp_region_held_drew (S := fun w' => w'.cell? ⟨p, 0, none⟩ = some (.int .i64 b) ∧ w'.cell? ⟨p, 1, none⟩ = some (.slice A1 k1 c1) ∧ w'.cell? ⟨G, 19, none⟩ = some (.map (some M))) (by kernel_rfl) ?_ (fun hHeld => ?_)
  · rw [HE4.out]; exact ⟨x0, x1, g19⟩
  refine tkv 0 (some 55) rfl ?_
  refine tkv 1 (some 56) rfl ?_
  refine tkv 2 (some 57) rfl ?_
  refine tkv 3 (some 58) rfl ?_
  refine tkv 4 (some 59) rfl ?_
  refine tkv 5 (some 60) rfl ?_
  refine tkv 6 (some 61) rfl ?_
  refine tkv 7 (some 62) rfl ?_
  refine tkc 8 (some 63) rfl fun K hK => ?_
  rw [HE4.out]
  go_simp
  refine HCL.out.mono ?_
  rintro e w5 hq
  obtain ⟨u, rfl, h5, h6⟩ := CpQ.by_ hq _ HX4.out
  obtain ⟨w6, hput, hm6, hg6⟩ := (HMF.out.below h6).put Tryz.underlying3 Tryz.underlying105 (by have := HBB.out; unfold maxLen; omega) HXB.out u
  have HU5 := hid h5
  have HB5 := hid h6
  have HM6 := hid hm6
  have HG6 := hid (grown_chg hg6)
  have kp := And.intro ((HPD4.out.below h6).bp.cell 0) (And.intro ((HPD4.out.below h6).bp.cell 1) ((HBG4.out.next h6).cell 19))
  clear hq h5 h6 hm6 hg6
  go_simp
  refine hK.out _ _ kp (fun hHeld => ?_)
  clear hK K
  (try simp only [Act.put, tkA, tk0, tk1])
  refine tkc 9 (none) rfl fun K hK => ?_
  have HP6 := hid ((HPD4.out.below HB5.out).chg HG6.out HMP.out.1 HMP.out.2)
  have HBG6 := hid (HG6.out.bx (HBG4.out.next HB5.out) fun e => HGM.out e)
  have kq := And.intro (HP6.out.bp.cell 0) (And.intro (HP6.out.bp.cell 1) (HBG6.out.cell 19))
  go_simp
  refine hK.out _ _ kq (fun hHeld => ?_)
  clear hK K
  (try simp only [Act.put, tkA, tk0, tk1])
  refine wpAnyH_done (by kernel_rfl) ?_ _
  refine NoPanic.normal ?_
  go_upto_region 13 with fail
  go_wp2_with (first
    | (refine wpList_load_bx rfl 88 (.tmp 6) rfl q _ _ _ rfl HP6.out.bq Tryz.underlying88 rfl (by kernel_rfl) ?_)
    | (refine wpList_store_bx rfl 88 (.tmp 6) (.tmp 68) rfl rfl q _ _ #[.int .i64 0, .slice none 0 0] rfl rfl HP6.out.bq (by kernel_rfl) rfl (by simp [Value.oneCell']) ?_))
  refine bodyPost_ret (results_bx3 rfl _ rfl (HP6.out.bq.row (cs' := #[.int .i64 0, .slice none 0 0])) Tryz.underlying88 rfl (by kernel_rfl)) rfl ?_
  have HC7 := HG6
  have HM7 := HM6
  have hq7 : Chg w6 (w6.setRow q #[.int .i64 0, .slice none 0 0]) (· = q) (· = q) := chg_row _ _ _
  have hch7 : Chg w3.drew w6 (fun j => F j ∨ j = M) (fun j => F j ∨ j = M) := (HCH.out.wide fun j hj => .inl hj).trans ((Chg.of (on HB4.out HB5.out) _).trans (HC7.out.wide fun j hj => .inr hj))
  have hfm : ∀ j, F j → ¬ j = M := fun j hf e => HCD3.out.fM (e ▸ hf)
  have hxm : ∀ j, j = M → X j ∨ j = p ∨ j = q := fun j e => .inl (e ▸ HX.out.2.2.2)
  have hcm7 := HCD3.out.put_to hch7 (((HO4.out.below HB4.out).below HB5.out).chg HC7.out hfm) HTK0.out (by rw [HLK.out]; exact HK16.out) HM7.out (HU5.out.chg HC7.out hxm) (f := f) (fun x hx => by
    obtain ⟨u2, h1, h2⟩ := HFX.out x hx
    exact ⟨u2, h1, (h2.below HB5.out).chg HC7.out hxm⟩) (if_pos rfl) (fun x hx _ => if_neg hx)
  have hcm8 := hcm7.chg hq7 (fun j e => .inr (.inr e)) fun j e => ⟨fun hf => HFP.out.2 (e ▸ hf), fun e2 => (HXP.out G HX.out.2.2.1).2 (e2 ▸ e), fun e2 => HMP.out.2 (e.symm.trans e2)⟩
  have hcm9 := hcm8.less (Y := X) (fun j hj => .inl hj) fun j hj => hj.elim (HX.out.2.1 j) fun e => e.elim (fun e => e ▸ HX.out.2.2.1) fun e => e ▸ HX.out.2.2.2
  have hchw : Chg w (w6.setRow q #[.int .i64 0, .slice none 0 0]) (fun j => F j ∨ j = M) (fun j => F j ∨ j = M) := chg_fresh ((Chg.of HBD3.out _).trans hch7) (by have := HZ.out; omega) _
  exact ⟨0, .slice none 0 0, (by rw [HGN.out]; rfl), hcm9, hchw, (fun e => by rw [HGN.out] at e; cases e), fun _ => ⟨rfl, rfl⟩⟩
set_option maxRecDepth 20000 in
set_option maxHeartbeats 4000000 in
theorem cp_true_omp {rg : Int → Option Nat} {pt : Nat → Nat} {lp : Nat → Bool} {n2 : Nat} {S : List (List Int)} (h : Cm w X G M F c A n cp hh T v (.prt rg pt lp n2 S) D B) (hB : B ≤ 10000000) {l : List Int} (hd : By w X (.slice A1 k1 c1) l) (lv : Int) (hb : 0 ≤ b ∧ b < c 2) (hk : (k1 : Int) = c 3) (ht : (Ob.prt rg pt lp n2 S).takes (c 5) T b lv = true) (hg : (Ob.prt rg pt lp n2 S).gn b = true) :
    Calls Tryz.prog 92 #[.pointer (some ⟨G, 0, none⟩), .agg #[.int .i64 b, .slice A1 k1 c1], .int .i64 lv] w (PutQ w X F G M n cp T B c A hh v (.prt rg pt lp n2 S) D b l) := by
  have HP0 := hid (pq_made w b A1 k1 c1)
  have hb0 := on (below_alloc w (.cells #[.int .i64 b, .slice A1 k1 c1] 88)) (below_alloc _ (.cells #[.int .i64 0, .slice none 0 0] 88))
  have h0 := h.with_pq b A1 k1 c1
  have HX := hid (And.intro h.lt (And.intro h.fx (And.intro h.xG h.xM)))
  have HC0 := hid h0
  have HB0 := hid hb0
  have HI := hid (decide_eq_true hb)
  have d3 : ((k1 : Int) != c 3) = false := by simpa using hk
  have HT := hid ht
  have HTK0 := hid (Ob.tk_of h hb ht)
  have HBB := hid hB
  have l2 : (1 : Int) ≤ c 2 ∧ c 2 ≤ 32 := h.rt.1 2 (by omega)
  have l3 : (1 : Int) ≤ c 3 ∧ c 3 ≤ 16 := h.rt.1 3 (by omega)
  have HXB := hid (wf_small (b := b) (by omega))
  have HGN := hid hg
  have HAM := hid (Ob.add_mem h.ok (Ob.tk_of h hb ht))
  have HWF := hid (fun x hx => h.wf (x := x) hx)
  have HK16 := hid (show k1 ≤ 16 from by omega)
  have hd0 := (hd.more (Y := fun j => X j ∨ j = w.heap.size ∨ j = w.heap.size + 1) fun j hj => hj.elim .inl fun e => .inr (by omega)).below hb0
  have HD0 := hid hd0
  have HLK := hid hd.at_.2
  obtain ⟨g, rfl⟩ := omp_shape h.ord
  have hm : ∀ w : World, (method 394 155 (.pointer (some ⟨g, 0, none⟩)) "Add").run Tryz.prog w = .ok (199, .pointer (some ⟨g, 0, none⟩)) w := fun _ => by kernel_rfl
  clear h h0 hb0 hb hk ht hB hg l2 l3 hd hd0
  go_enter Tryz.func92, Tryz.ntmps92
  go_upto_region 3 with fail
  obtain ⟨W0, hW0⟩ : ∃ x, (w.alloc (.cells #[.int .i64 b, .slice A1 k1 c1] 88)).alloc (.cells #[.int .i64 0, .slice none 0 0] 88) = x := ⟨_, rfl⟩
  obtain ⟨q, hq⟩ : ∃ x, w.heap.size + 1 = x := ⟨_, rfl⟩
  obtain ⟨p, hp⟩ : ∃ x, w.heap.size = x := ⟨_, rfl⟩
  rw [hW0, hq, hp] at HP0 HC0 HD0
  rw [hW0] at HB0 ⊢
  rw [hq, hp]
  have HXP := hid (show ∀ j, X j → j ≠ p ∧ j ≠ q from fun j hj => by have := HX.out.1 j hj; omega)
  have HZ := hid (And.intro hp hq)
  clear hW0 hp hq
  have HCD := hid (HC0.out.draws 1)
  have HPD := hid (HP0.out.below (below_draws (Below.refl _ _) 1))
  have HBD := hid (show Below w.heap.size w W0.drew from below_draws HB0.out 1)
  refine wp_region_noPanic ?_
  refine wp_region_held_drew (S := fun w' => w'.rangeAt G 0 (cfgC c A n cp).toList ∧ w'.cell? ⟨p, 0, none⟩ = some (.int .i64 b)) (by kernel_rfl) ?_ (fun hHeld => ?_)
  · exact ⟨HCD.out.range, HPD.out.bp.cell 0⟩
  refine tkv 0 (some 16) rfl ?_
  refine tkv 1 (some 17) rfl ?_
  refine tkv 2 (some 18) rfl ?_
  refine wpAnyH_take (i := 3) (oi := ⟨some 19, _, _, _, _, _⟩) (v := _) rfl (by kernel_rfl) (by kernel_rfl) (by kernel_rfl) (fun _ _ _ h => h) (yieldsIf_load_mid (by rfl) 25 (.tmp 18) rfl G 0 rfl (cfgC c A n cp).toList _ (fun w hw => hw.1) Tryz.underlying25 rfl (by kernel_rfl)) (by assumption) ?_
  (try simp only [Act.put, tkA, tk0, tk1])
  refine tkv 4 (some 20) rfl ?_
  refine tkv 5 (some 21) rfl ?_
  refine tkc 6 (some 22) rfl fun K hK => ?_
  go_simp
  refine (isblk_any c A n cp b _).mono ?_
  rintro e w1 ⟨rfl, hb⟩
  have HC1 := hid (HCD.out.below hb)
  have HP1 := hid (HPD.out.below hb)
  have HB1 := hid (on HBD.out hb); have HD1 := hid (HD0.out.below (on (below_draws (Below.refl _ _) 1) hb))
  have kp := And.intro HC1.out.range (HP1.out.bp.cell 0)
  clear hb
  rw [HI.out]
  go_simp
  refine hK.out _ _ kp (fun hHeld => ?_)
  clear hK K
  (try simp only [Act.put, tkA, tk0, tk1])
  refine tkv 7 (some 23) rfl ?_
  refine tkv 8 (some 15) rfl ?_
  refine wpAnyH_done (by kernel_rfl) ?_ _
  refine NoPanic.normal ?_
  go_upto_region 5 with fail
  have x1 := HP1.out.bp.cell 1
  have x1 : w1.cell? ⟨p, 1, none⟩ = some (.slice A1 k1 c1) := x1
  have x3 := HC1.out.c3
  go_quiet (fail)
  have HC2 := hid (HC1.out.draws nq)
  have HP2 := hid (HP1.out.below (below_draws (Below.refl _ _) nq))
  have HD2 := hid (HD1.out.below (below_draws (Below.refl _ _) nq))
  have HB2 := hid (below_draws HB1.out nq)
  clear x1 x3
  generalize w1.drewN nq = w2 at *
  go_upto_region 7 with fail
  have x0 : w2.cell? ⟨p, 0, none⟩ = some (.int .i64 b) := HP2.out.bp.cell 0
  have HTK := hid (cm_takes HC2.out b lv)
  rw [HT.out] at HTK
  go_upto_region 9 with (go_at_call 130; refine HTK.out.mono ?_; rintro e w3 ⟨rfl, hb⟩; have HC3 := hid (HC2.out.below hb); have HP3 := hid (HP2.out.below hb); have HB3 := hid (on HB2.out hb); have HD3 := hid (HD2.out.below hb); clear hb)
  clear x0
  have HCD3 := hid (HC3.out.draws 1)
  have HPD3 := hid (HP3.out.below (below_draws (Below.refl _ _) 1))
  have HBD3 := hid (show Below w.heap.size w w3.drew from below_draws HB3.out 1)
  have HDD3 := hid (HD3.out.below (below_draws (Below.refl _ _) 1))
  have x0 : w3.drew.cell? ⟨p, 0, none⟩ = some (.int .i64 b) := HPD3.out.bp.cell 0
  have g18 : w3.drew.cell? ⟨G, 18, none⟩ = some (.iface 155 (.pointer (some ⟨g, 0, none⟩))) := HCD3.out.c18
  obtain ⟨g', he, hca⟩ := omp_add HCD3.out.ord HTK0.out
  cases he
  rw [HGN.out] at hca
  have HCA := hid hca
  clear hca
  have HGM := hid HCD3.out.gm
  have HMP := hid (show ¬ p = M ∧ ¬ q = M from ⟨fun e => (HXP.out M HX.out.2.2.2).1 e.symm, fun e => (HXP.out M HX.out.2.2.2).2 e.symm⟩)
  have HFP := hid (show ¬ F p ∧ ¬ F q from ⟨fun hf => (HXP.out p (HX.out.2.1 _ hf)).1 rfl, fun hf => (HXP.out q (HX.out.2.1 _ hf)).2 rfl⟩)
  refine wp_region_noPanic ?_
  refine wp_region_held_drew (S := fun w' => w'.cell? ⟨p, 0, none⟩ = some (.int .i64 b) ∧ w'.cell? ⟨G, 18, none⟩ = some (.iface 155 (.pointer (some ⟨g, 0, none⟩)))) (by kernel_rfl) ?_ (fun hHeld => ?_)
  · exact ⟨x0, g18⟩
  refine tkv 0 (some 45) rfl ?_
  refine tkv 1 (some 46) rfl ?_
  refine tkv 2 (some 47) rfl ?_
  refine tkv 3 (some 48) rfl ?_
  refine tkv 4 (some 49) rfl ?_
  refine tkv 5 (some 50) rfl ?_
  refine tkc 6 (some 51) rfl fun K hK => ?_
  go_simp
  refine HCA.out.mono ?_
  rintro e w4 ⟨rfl, ho, hch⟩
  have HO4 := hid ho
  have HCH := hid hch
  have HP4 := hid (HPD3.out.chg hch HFP.out.1 HFP.out.2)
  have kp := And.intro (HP4.out.bp.cell 0) ((hch.bx HCD3.out.box HCD3.out.fG).cell 18)
  clear ho hch
  go_simp
  refine hK.out _ _ kp (fun hHeld => ?_)
  clear hK K
  (try simp only [Act.put, tkA, tk0, tk1])
  refine tkv 7 (some 44) rfl ?_
  refine tkv 8 (some 52) rfl ?_
  refine tkv 9 (some 53) rfl ?_
  refine tkv 10 (some 54) rfl ?_
  refine tkv 11 (some 9) rfl ?_
  refine tkv 12 (some 7) rfl ?_
  refine tkv 13 (some 10) rfl ?_
  refine wpAnyH_done (by kernel_rfl) ?_ _
  refine NoPanic.normal ?_
  clear x0 g18
  go_upto_region 10 with fail
  have HPD4 := hid (show Pq w w4.drew p q b A1 k1 c1 #[.int .i64 0, .slice none 0 0] from HP4.out.below (below_draws (Below.refl _ _) 1))
  have x0 : w4.drew.cell? ⟨p, 0, none⟩ = some (.int .i64 b) := HPD4.out.bp.cell 0
  have x1 : w4.drew.cell? ⟨p, 1, none⟩ = some (.slice A1 k1 c1) := HPD4.out.bp.cell 1
  have HBG := hid (HCH.out.bx HCD3.out.box HCD3.out.fG)
  have g19 : w4.drew.cell? ⟨G, 19, none⟩ = some (.map (some M)) := HBG.out.cell 19
  obtain ⟨f, hmf, hfx⟩ := HCD3.out.map
  have HMF := hid (show Mc w4.drew M B f from (hmf.same (HCH.out.block M hmf.lt HCD3.out.fM)).below (below_draws (Below.refl _ _) 1))
  have HFX := hid (show ∀ x, x ∈ (Ob.prt rg pt lp n2 S).all → ∃ u, f x = some u ∧ By w4.drew _ u (D x) from fun x hx => by
    obtain ⟨u, h1, h2⟩ := hfx x hx
    exact ⟨u, h1, (h2.chg HCH.out HCD3.out.fx).below (below_draws (Below.refl _ _) 1)⟩)
  have HX4 := hid (show ∀ j, X j ∨ j = p ∨ j = q → j < w4.drew.heap.size from fun j hj => Nat.lt_of_lt_of_le (HCD3.out.lt j hj) HCH.out.size)
  have HD4 := hid (show By w4.drew _ (.slice A1 k1 c1) l from (HDD3.out.chg HCH.out HCD3.out.fx).below (below_draws (Below.refl w4.heap.size w4) 1))
  have HCL := hid (clone_bytes A1 k1 c1 l w4.drew HLK.out (by have := HK16.out; omega) HD4.out.at_.1)
  clear hmf hfx
  obtain ⟨W4, hW4⟩ : ∃ x, w4.drew = x := ⟨_, rfl⟩
  rw [hW4] at HPD4 HMF HFX HX4 HD4 HCL x0 x1 g19
  have HE4 := hid hW4
  have HB4 := hid (show Below w4.heap.size w4 W4 from hW4 ▸ below_draws (Below.refl _ _) 1)
  have HBG4 := hid (HBG.out.next HB4.out)
  refine wp_region_noPanic ?_
  refine wp_region_held_drew (S := fun w' => w'.cell? ⟨p, 0, none⟩ = some (.int .i64 b) ∧ w'.cell? ⟨p, 1, none⟩ = some (.slice A1 k1 c1) ∧ w'.cell? ⟨G, 19, none⟩ = some (.map (some M))) (by kernel_rfl) ?_ (fun hHeld => ?_)
  · rw [HE4.out]; exact ⟨x0, x1, g19⟩
  refine tkv 0 (some 55) rfl ?_
  refine tkv 1 (some 56) rfl ?_
  refine tkv 2 (some 57) rfl ?_
  refine tkv 3 (some 58) rfl ?_
  refine tkv 4 (some 59) rfl ?_
  refine tkv 5 (some 60) rfl ?_
  refine tkv 6 (some 61) rfl ?_
  refine tkv 7 (some 62) rfl ?_
  refine tkc 8 (some 63) rfl fun K hK => ?_
  rw [HE4.out]
  go_simp
  refine HCL.out.mono ?_
  rintro e w5 hq
  obtain ⟨u, rfl, h5, h6⟩ := CpQ.by_ hq _ HX4.out
  obtain ⟨w6, hput, hm6, hg6⟩ := (HMF.out.below h6).put Tryz.underlying3 Tryz.underlying105 (by have := HBB.out; unfold maxLen; omega) HXB.out u
  have HU5 := hid h5
  have HB5 := hid h6
  have HM6 := hid hm6
  have HG6 := hid (grown_chg hg6)
  have kp := And.intro ((HPD4.out.below h6).bp.cell 0) (And.intro ((HPD4.out.below h6).bp.cell 1) ((HBG4.out.next h6).cell 19))
  clear hq h5 h6 hm6 hg6
  go_simp
  refine hK.out _ _ kp (fun hHeld => ?_)
  clear hK K
  (try simp only [Act.put, tkA, tk0, tk1])
  refine tkc 9 (none) rfl fun K hK => ?_
  have HP6 := hid ((HPD4.out.below HB5.out).chg HG6.out HMP.out.1 HMP.out.2)
  have HBG6 := hid (HG6.out.bx (HBG4.out.next HB5.out) fun e => HGM.out e)
  have kq := And.intro (HP6.out.bp.cell 0) (And.intro (HP6.out.bp.cell 1) (HBG6.out.cell 19))
  go_simp
  refine hK.out _ _ kq (fun hHeld => ?_)
  clear hK K
  (try simp only [Act.put, tkA, tk0, tk1])
  refine wpAnyH_done (by kernel_rfl) ?_ _
  refine NoPanic.normal ?_
  obtain ⟨hnb, hvi, hvb⟩ := HAM.out.2 HGN.out
  obtain ⟨uv, hv1, hv2⟩ := HFX.out _ hvi
  have hul : ∃ A5 k5 c5, uv = .slice A5 k5 c5 := by
    obtain ⟨A5, c5, rfl, -⟩ := hv2
    exact ⟨A5, _, c5, rfl⟩
  obtain ⟨A5, k5, c5, rfl⟩ := hul
  have HV := hid hv2
  have HVB := hid hvb
  have HTA := hid (cm_take (HBG6.out.cell 19) HM6.out (b := (Ob.prt rg pt lp n2 S).vi b) ((if_neg hvb).trans hv1) (HWF.out _ hvi))
  clear hnb hvi hvb hv1 hv2
  go_upto_region 13 with (first
    | (go_at_call 131; refine HTA.out.mono ?_; rintro e w7 ⟨rfl, hm7, hc7⟩; have HM7 := hid hm7; have HC67 := hid hc7; have HP7 := hid (HP6.out.chg hc7 HMP.out.1 HMP.out.2); clear hm7 hc7)
    | (refine wpList_store_bx rfl 88 (.tmp 6) (.tmp 67) rfl rfl q _ _ #[.int .i64 ((Ob.prt rg pt lp n2 S).vi b), .slice A5 k5 c5] rfl rfl HP7.out.bq (by kernel_rfl) rfl (by simp [Value.oneCell']) ?_))
  have HC7 := hid (HG6.out.trans HC67.out)
  have HP8 := hid (HP7.out.row (cs' := #[.int .i64 ((Ob.prt rg pt lp n2 S).vi b), .slice A5 k5 c5]))
  obtain ⟨W8, hW8⟩ : ∃ x, w7.setRow q #[.int .i64 ((Ob.prt rg pt lp n2 S).vi b), .slice A5 k5 c5] = x := ⟨_, rfl⟩
  rw [hW8] at HP8 ⊢
  have HE8 := hid hW8
  clear hW8
  go_wp2_with (first
    | (refine wpList_load_bx rfl 88 (.tmp 6) rfl q _ _ _ rfl HP8.out.bq Tryz.underlying88 rfl (by kernel_rfl) ?_)
    | (refine wpList_store_bx rfl 88 (.tmp 6) (.tmp 68) rfl rfl q _ _ #[.int .i64 ((Ob.prt rg pt lp n2 S).vi b), .slice A5 k5 c5] rfl rfl HP8.out.bq (by kernel_rfl) rfl (by simp [Value.oneCell']) ?_))
  refine bodyPost_ret (results_bx3 rfl _ rfl (HP8.out.bq.row (cs' := #[.int .i64 ((Ob.prt rg pt lp n2 S).vi b), .slice A5 k5 c5])) Tryz.underlying88 rfl (by kernel_rfl)) rfl ?_
  rw [← HE8.out]
  have hq7 : Chg w7 ((w7.setRow q #[.int .i64 ((Ob.prt rg pt lp n2 S).vi b), .slice A5 k5 c5]).setRow q #[.int .i64 ((Ob.prt rg pt lp n2 S).vi b), .slice A5 k5 c5]) (· = q) (· = q) := (chg_row _ _ _).trans (chg_row _ _ _)
  have hch7 : Chg w3.drew w7 (fun j => F j ∨ j = M) (fun j => F j ∨ j = M) := (HCH.out.wide fun j hj => .inl hj).trans ((Chg.of (on HB4.out HB5.out) _).trans (HC7.out.wide fun j hj => .inr hj))
  have hfm : ∀ j, F j → ¬ j = M := fun j hf e => HCD3.out.fM (e ▸ hf)
  have hxm : ∀ j, j = M → X j ∨ j = p ∨ j = q := fun j e => .inl (e ▸ HX.out.2.2.2)
  have hcm7 := HCD3.out.put_to hch7 (((HO4.out.below HB4.out).below HB5.out).chg HC7.out hfm) HTK0.out (by rw [HLK.out]; exact HK16.out) HM7.out (HU5.out.chg HC7.out hxm) (f := f) (fun x hx => by
    obtain ⟨u2, h1, h2⟩ := HFX.out x hx
    exact ⟨u2, h1, (h2.below HB5.out).chg HC7.out hxm⟩) ((if_neg fun e => HVB.out e.symm).trans (if_pos rfl)) (fun x hx hm => (if_neg fun e => ((HAM.out.1 x).1 hm).elim hx fun h => h.2 ⟨HGN.out, e⟩).trans (if_neg hx))
  have hcm8 := hcm7.chg hq7 (fun j e => .inr (.inr e)) fun j e => ⟨fun hf => HFP.out.2 (e ▸ hf), fun e2 => (HXP.out G HX.out.2.2.1).2 (e2 ▸ e), fun e2 => HMP.out.2 (e.symm.trans e2)⟩
  have hcm9 := hcm8.less (Y := X) (fun j hj => .inl hj) fun j hj => hj.elim (HX.out.2.1 j) fun e => e.elim (fun e => e ▸ HX.out.2.2.1) fun e => e ▸ HX.out.2.2.2
  have hchw : Chg w ((w7.setRow q #[.int .i64 ((Ob.prt rg pt lp n2 S).vi b), .slice A5 k5 c5]).setRow q #[.int .i64 ((Ob.prt rg pt lp n2 S).vi b), .slice A5 k5 c5]) (fun j => F j ∨ j = M) (fun j => F j ∨ j = M) := chg_fresh (chg_fresh ((Chg.of HBD3.out _).trans hch7) (by have := HZ.out; omega) _) (by have := HZ.out; omega) _
  have hby := (((HV.out.below HB5.out).chg HC7.out hxm).chg hq7 fun j e => .inr (.inr e)).less (Y := X) fun j hj => .inl hj
  exact ⟨(Ob.prt rg pt lp n2 S).vi b, .slice A5 k5 c5, (by rw [HGN.out]; rfl), hcm9, hchw, fun _ => ⟨rfl, hby⟩, fun e => by rw [HGN.out] at e; cases e⟩
set_option maxRecDepth 20000 in
set_option maxHeartbeats 4000000 in
theorem cp_false_omp {rg : Int → Option Nat} {pt : Nat → Nat} {lp : Nat → Bool} {n2 : Nat} {S : List (List Int)} (h : Cm w X G M F c A n cp hh T v (.prt rg pt lp n2 S) D B) (hB : B ≤ 10000000) {l : List Int} (hd : By w X (.slice A1 k1 c1) l) (lv : Int) (hb : 0 ≤ b ∧ b < c 2) (hk : (k1 : Int) = c 3) (ht : (Ob.prt rg pt lp n2 S).takes (c 5) T b lv = true) (hg : (Ob.prt rg pt lp n2 S).gn b = false) :
    Calls Tryz.prog 92 #[.pointer (some ⟨G, 0, none⟩), .agg #[.int .i64 b, .slice A1 k1 c1], .int .i64 lv] w (PutQ w X F G M n cp T B c A hh v (.prt rg pt lp n2 S) D b l) := by
  have HP0 := hid (pq_made w b A1 k1 c1)
  have hb0 := on (below_alloc w (.cells #[.int .i64 b, .slice A1 k1 c1] 88)) (below_alloc _ (.cells #[.int .i64 0, .slice none 0 0] 88))
  have h0 := h.with_pq b A1 k1 c1
  have HX := hid (And.intro h.lt (And.intro h.fx (And.intro h.xG h.xM)))
  have HC0 := hid h0
  have HB0 := hid hb0
  have HI := hid (decide_eq_true hb)
  have d3 : ((k1 : Int) != c 3) = false := by simpa using hk
  have HT := hid ht
  have HTK0 := hid (Ob.tk_of h hb ht)
  have HBB := hid hB
  have l2 : (1 : Int) ≤ c 2 ∧ c 2 ≤ 32 := h.rt.1 2 (by omega)
  have l3 : (1 : Int) ≤ c 3 ∧ c 3 ≤ 16 := h.rt.1 3 (by omega)
  have HXB := hid (wf_small (b := b) (by omega))
  have HGN := hid hg
  have HAM := hid (Ob.add_mem h.ok (Ob.tk_of h hb ht))
  have HWF := hid (fun x hx => h.wf (x := x) hx)
  have HK16 := hid (show k1 ≤ 16 from by omega)
  have hd0 := (hd.more (Y := fun j => X j ∨ j = w.heap.size ∨ j = w.heap.size + 1) fun j hj => hj.elim .inl fun e => .inr (by omega)).below hb0
  have HD0 := hid hd0
  have HLK := hid hd.at_.2
  obtain ⟨g, rfl⟩ := omp_shape h.ord
  have hm : ∀ w : World, (method 394 155 (.pointer (some ⟨g, 0, none⟩)) "Add").run Tryz.prog w = .ok (199, .pointer (some ⟨g, 0, none⟩)) w := fun _ => by kernel_rfl
  clear h h0 hb0 hb hk ht hB hg l2 l3 hd hd0
  go_enter Tryz.func92, Tryz.ntmps92
  go_upto_region 3 with fail
  obtain ⟨W0, hW0⟩ : ∃ x, (w.alloc (.cells #[.int .i64 b, .slice A1 k1 c1] 88)).alloc (.cells #[.int .i64 0, .slice none 0 0] 88) = x := ⟨_, rfl⟩
  obtain ⟨q, hq⟩ : ∃ x, w.heap.size + 1 = x := ⟨_, rfl⟩
  obtain ⟨p, hp⟩ : ∃ x, w.heap.size = x := ⟨_, rfl⟩
  rw [hW0, hq, hp] at HP0 HC0 HD0
  rw [hW0] at HB0 ⊢
  rw [hq, hp]
  have HXP := hid (show ∀ j, X j → j ≠ p ∧ j ≠ q from fun j hj => by have := HX.out.1 j hj; omega)
  have HZ := hid (And.intro hp hq)
  clear hW0 hp hq
  have HCD := hid (HC0.out.draws 1)
  have HPD := hid (HP0.out.below (below_draws (Below.refl _ _) 1))
  have HBD := hid (show Below w.heap.size w W0.drew from below_draws HB0.out 1)
  refine wp_region_noPanic ?_
  refine wp_region_held_drew (S := fun w' => w'.rangeAt G 0 (cfgC c A n cp).toList ∧ w'.cell? ⟨p, 0, none⟩ = some (.int .i64 b)) (by kernel_rfl) ?_ (fun hHeld => ?_)
  · exact ⟨HCD.out.range, HPD.out.bp.cell 0⟩
  refine tkv 0 (some 16) rfl ?_
  refine tkv 1 (some 17) rfl ?_
  refine tkv 2 (some 18) rfl ?_
  refine wpAnyH_take (i := 3) (oi := ⟨some 19, _, _, _, _, _⟩) (v := _) rfl (by kernel_rfl) (by kernel_rfl) (by kernel_rfl) (fun _ _ _ h => h) (yieldsIf_load_mid (by rfl) 25 (.tmp 18) rfl G 0 rfl (cfgC c A n cp).toList _ (fun w hw => hw.1) Tryz.underlying25 rfl (by kernel_rfl)) (by assumption) ?_
  (try simp only [Act.put, tkA, tk0, tk1])
  refine tkv 4 (some 20) rfl ?_
  refine tkv 5 (some 21) rfl ?_
  refine tkc 6 (some 22) rfl fun K hK => ?_
  go_simp
  refine (isblk_any c A n cp b _).mono ?_
  rintro e w1 ⟨rfl, hb⟩
  have HC1 := hid (HCD.out.below hb)
  have HP1 := hid (HPD.out.below hb)
  have HB1 := hid (on HBD.out hb); have HD1 := hid (HD0.out.below (on (below_draws (Below.refl _ _) 1) hb))
  have kp := And.intro HC1.out.range (HP1.out.bp.cell 0)
  clear hb
  rw [HI.out]
  go_simp
  refine hK.out _ _ kp (fun hHeld => ?_)
  clear hK K
  (try simp only [Act.put, tkA, tk0, tk1])
  refine tkv 7 (some 23) rfl ?_
  refine tkv 8 (some 15) rfl ?_
  refine wpAnyH_done (by kernel_rfl) ?_ _
  refine NoPanic.normal ?_
  go_upto_region 5 with fail
  have x1 := HP1.out.bp.cell 1
  have x1 : w1.cell? ⟨p, 1, none⟩ = some (.slice A1 k1 c1) := x1
  have x3 := HC1.out.c3
  go_quiet (fail)
  have HC2 := hid (HC1.out.draws nq)
  have HP2 := hid (HP1.out.below (below_draws (Below.refl _ _) nq))
  have HD2 := hid (HD1.out.below (below_draws (Below.refl _ _) nq))
  have HB2 := hid (below_draws HB1.out nq)
  clear x1 x3
  generalize w1.drewN nq = w2 at *
  go_upto_region 7 with fail
  have x0 : w2.cell? ⟨p, 0, none⟩ = some (.int .i64 b) := HP2.out.bp.cell 0
  have HTK := hid (cm_takes HC2.out b lv)
  rw [HT.out] at HTK
  go_upto_region 9 with (go_at_call 130; refine HTK.out.mono ?_; rintro e w3 ⟨rfl, hb⟩; have HC3 := hid (HC2.out.below hb); have HP3 := hid (HP2.out.below hb); have HB3 := hid (on HB2.out hb); have HD3 := hid (HD2.out.below hb); clear hb)
  clear x0
  have HCD3 := hid (HC3.out.draws 1)
  have HPD3 := hid (HP3.out.below (below_draws (Below.refl _ _) 1))
  have HBD3 := hid (show Below w.heap.size w w3.drew from below_draws HB3.out 1)
  have HDD3 := hid (HD3.out.below (below_draws (Below.refl _ _) 1))
  have x0 : w3.drew.cell? ⟨p, 0, none⟩ = some (.int .i64 b) := HPD3.out.bp.cell 0
  have g18 : w3.drew.cell? ⟨G, 18, none⟩ = some (.iface 155 (.pointer (some ⟨g, 0, none⟩))) := HCD3.out.c18
  obtain ⟨g', he, hca⟩ := omp_add HCD3.out.ord HTK0.out
  cases he
  rw [HGN.out] at hca
  have HCA := hid hca
  clear hca
  have HGM := hid HCD3.out.gm
  have HMP := hid (show ¬ p = M ∧ ¬ q = M from ⟨fun e => (HXP.out M HX.out.2.2.2).1 e.symm, fun e => (HXP.out M HX.out.2.2.2).2 e.symm⟩)
  have HFP := hid (show ¬ F p ∧ ¬ F q from ⟨fun hf => (HXP.out p (HX.out.2.1 _ hf)).1 rfl, fun hf => (HXP.out q (HX.out.2.1 _ hf)).2 rfl⟩)
  refine wp_region_noPanic ?_
  refine wp_region_held_drew (S := fun w' => w'.cell? ⟨p, 0, none⟩ = some (.int .i64 b) ∧ w'.cell? ⟨G, 18, none⟩ = some (.iface 155 (.pointer (some ⟨g, 0, none⟩)))) (by kernel_rfl) ?_ (fun hHeld => ?_)
  · exact ⟨x0, g18⟩
  refine tkv 0 (some 45) rfl ?_
  refine tkv 1 (some 46) rfl ?_
  refine tkv 2 (some 47) rfl ?_
  refine tkv 3 (some 48) rfl ?_
  refine tkv 4 (some 49) rfl ?_
  refine tkv 5 (some 50) rfl ?_
  refine tkc 6 (some 51) rfl fun K hK => ?_
  go_simp
  refine HCA.out.mono ?_
  rintro e w4 ⟨rfl, ho, hch⟩
  have HO4 := hid ho
  have HCH := hid hch
  have HP4 := hid (HPD3.out.chg hch HFP.out.1 HFP.out.2)
  have kp := And.intro (HP4.out.bp.cell 0) ((hch.bx HCD3.out.box HCD3.out.fG).cell 18)
  clear ho hch
  go_simp
  refine hK.out _ _ kp (fun hHeld => ?_)
  clear hK K
  (try simp only [Act.put, tkA, tk0, tk1])
  refine tkv 7 (some 44) rfl ?_
  refine tkv 8 (some 52) rfl ?_
  refine tkv 9 (some 53) rfl ?_
  refine tkv 10 (some 54) rfl ?_
  refine tkv 11 (some 9) rfl ?_
  refine tkv 12 (some 7) rfl ?_
  refine tkv 13 (some 10) rfl ?_
  refine wpAnyH_done (by kernel_rfl) ?_ _
  refine NoPanic.normal ?_
  clear x0 g18
  go_upto_region 10 with fail
  have HPD4 := hid (show Pq w w4.drew p q b A1 k1 c1 #[.int .i64 0, .slice none 0 0] from HP4.out.below (below_draws (Below.refl _ _) 1))
  have x0 : w4.drew.cell? ⟨p, 0, none⟩ = some (.int .i64 b) := HPD4.out.bp.cell 0
  have x1 : w4.drew.cell? ⟨p, 1, none⟩ = some (.slice A1 k1 c1) := HPD4.out.bp.cell 1
  have HBG := hid (HCH.out.bx HCD3.out.box HCD3.out.fG)
  have g19 : w4.drew.cell? ⟨G, 19, none⟩ = some (.map (some M)) := HBG.out.cell 19
  obtain ⟨f, hmf, hfx⟩ := HCD3.out.map
  have HMF := hid (show Mc w4.drew M B f from (hmf.same (HCH.out.block M hmf.lt HCD3.out.fM)).below (below_draws (Below.refl _ _) 1))
  have HFX := hid (show ∀ x, x ∈ (Ob.prt rg pt lp n2 S).all → ∃ u, f x = some u ∧ By w4.drew _ u (D x) from fun x hx => by
    obtain ⟨u, h1, h2⟩ := hfx x hx
    exact ⟨u, h1, (h2.chg HCH.out HCD3.out.fx).below (below_draws (Below.refl _ _) 1)⟩)
  have HX4 := hid (show ∀ j, X j ∨ j = p ∨ j = q → j < w4.drew.heap.size from fun j hj => Nat.lt_of_lt_of_le (HCD3.out.lt j hj) HCH.out.size)
  have HD4 := hid (show By w4.drew _ (.slice A1 k1 c1) l from (HDD3.out.chg HCH.out HCD3.out.fx).below (below_draws (Below.refl w4.heap.size w4) 1))
  have HCL := hid (clone_bytes A1 k1 c1 l w4.drew HLK.out (by have := HK16.out; omega) HD4.out.at_.1)
  clear hmf hfx
  obtain ⟨W4, hW4⟩ : ∃ x, w4.drew = x := ⟨_, rfl⟩
  rw [hW4] at HPD4 HMF HFX HX4 HD4 HCL x0 x1 g19
  have HE4 := hid hW4
  have HB4 := hid (show Below w4.heap.size w4 W4 from hW4 ▸ below_draws (Below.refl _ _) 1)
  have HBG4 := hid (HBG.out.next HB4.out)
  refine wp_region_noPanic ?_
  refine wp_region_held_drew (S := fun w' => w'.cell? ⟨p, 0, none⟩ = some (.int .i64 b) ∧ w'.cell? ⟨p, 1, none⟩ = some (.slice A1 k1 c1) ∧ w'.cell? ⟨G, 19, none⟩ = some (.map (some M))) (by kernel_rfl) ?_ (fun hHeld => ?_)
  · rw [HE4.out]; exact ⟨x0, x1, g19⟩
  refine tkv 0 (some 55) rfl ?_
  refine tkv 1 (some 56) rfl ?_
  refine tkv 2 (some 57) rfl ?_
  refine tkv 3 (some 58) rfl ?_
  refine tkv 4 (some 59) rfl ?_
  refine tkv 5 (some 60) rfl ?_
  refine tkv 6 (some 61) rfl ?_
  refine tkv 7 (some 62) rfl ?_
  refine tkc 8 (some 63) rfl fun K hK => ?_
  rw [HE4.out]
  go_simp
  refine HCL.out.mono ?_
  rintro e w5 hq
  obtain ⟨u, rfl, h5, h6⟩ := CpQ.by_ hq _ HX4.out
  obtain ⟨w6, hput, hm6, hg6⟩ := (HMF.out.below h6).put Tryz.underlying3 Tryz.underlying105 (by have := HBB.out; unfold maxLen; omega) HXB.out u
  have HU5 := hid h5
  have HB5 := hid h6
  have HM6 := hid hm6
  have HG6 := hid (grown_chg hg6)
  have kp := And.intro ((HPD4.out.below h6).bp.cell 0) (And.intro ((HPD4.out.below h6).bp.cell 1) ((HBG4.out.next h6).cell 19))
  clear hq h5 h6 hm6 hg6
  go_simp
  refine hK.out _ _ kp (fun hHeld => ?_)
  clear hK K
  (try simp only [Act.put, tkA, tk0, tk1])
  refine tkc 9 (none) rfl fun K hK => ?_
  have HP6 := hid ((HPD4.out.below HB5.out).chg HG6.out HMP.out.1 HMP.out.2)
  have HBG6 := hid (HG6.out.bx (HBG4.out.next HB5.out) fun e => HGM.out e)
  have kq := And.intro (HP6.out.bp.cell 0) (And.intro (HP6.out.bp.cell 1) (HBG6.out.cell 19))
  go_simp
  refine hK.out _ _ kq (fun hHeld => ?_)
  clear hK K
  (try simp only [Act.put, tkA, tk0, tk1])
  refine wpAnyH_done (by kernel_rfl) ?_ _
  refine NoPanic.normal ?_
  go_upto_region 13 with fail
  go_wp2_with (first
    | (refine wpList_load_bx rfl 88 (.tmp 6) rfl q _ _ _ rfl HP6.out.bq Tryz.underlying88 rfl (by kernel_rfl) ?_)
    | (refine wpList_store_bx rfl 88 (.tmp 6) (.tmp 68) rfl rfl q _ _ #[.int .i64 0, .slice none 0 0] rfl rfl HP6.out.bq (by kernel_rfl) rfl (by simp [Value.oneCell']) ?_))
  refine bodyPost_ret (results_bx3 rfl _ rfl (HP6.out.bq.row (cs' := #[.int .i64 0, .slice none 0 0])) Tryz.underlying88 rfl (by kernel_rfl)) rfl ?_
  have HC7 := HG6
  have HM7 := HM6
  have hq7 : Chg w6 (w6.setRow q #[.int .i64 0, .slice none 0 0]) (· = q) (· = q) := chg_row _ _ _
  have hch7 : Chg w3.drew w6 (fun j => F j ∨ j = M) (fun j => F j ∨ j = M) := (HCH.out.wide fun j hj => .inl hj).trans ((Chg.of (on HB4.out HB5.out) _).trans (HC7.out.wide fun j hj => .inr hj))
  have hfm : ∀ j, F j → ¬ j = M := fun j hf e => HCD3.out.fM (e ▸ hf)
  have hxm : ∀ j, j = M → X j ∨ j = p ∨ j = q := fun j e => .inl (e ▸ HX.out.2.2.2)
  have hcm7 := HCD3.out.put_to hch7 (((HO4.out.below HB4.out).below HB5.out).chg HC7.out hfm) HTK0.out (by rw [HLK.out]; exact HK16.out) HM7.out (HU5.out.chg HC7.out hxm) (f := f) (fun x hx => by
    obtain ⟨u2, h1, h2⟩ := HFX.out x hx
    exact ⟨u2, h1, (h2.below HB5.out).chg HC7.out hxm⟩) (if_pos rfl) (fun x hx _ => if_neg hx)
  have hcm8 := hcm7.chg hq7 (fun j e => .inr (.inr e)) fun j e => ⟨fun hf => HFP.out.2 (e ▸ hf), fun e2 => (HXP.out G HX.out.2.2.1).2 (e2 ▸ e), fun e2 => HMP.out.2 (e.symm.trans e2)⟩
  have hcm9 := hcm8.less (Y := X) (fun j hj => .inl hj) fun j hj => hj.elim (HX.out.2.1 j) fun e => e.elim (fun e => e ▸ HX.out.2.2.1) fun e => e ▸ HX.out.2.2.2
  have hchw : Chg w (w6.setRow q #[.int .i64 0, .slice none 0 0]) (fun j => F j ∨ j = M) (fun j => F j ∨ j = M) := chg_fresh ((Chg.of HBD3.out _).trans hch7) (by have := HZ.out; omega) _
  exact ⟨0, .slice none 0 0, (by rw [HGN.out]; rfl), hcm9, hchw, (fun e => by rw [HGN.out] at e; cases e), fun _ => ⟨rfl, rfl⟩⟩
end Go.Proofs.YtbcejfonkehjgaaGreatDoor
