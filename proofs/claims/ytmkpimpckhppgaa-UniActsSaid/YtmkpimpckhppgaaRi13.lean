/-
  What is proved: the reference's Use and Drop. Condition: the stack lies in memory as one.
-/
import Derived.Test.YtmkpimpckhppgaaRh13
import Derived.Deep.RegionHeld3
namespace Go.Proofs.Ytmkpimpckhppgaa
open Go.RowKit

/-- while a use is being prepared: the struct's row is v -/
structure Up (w0 w : World) (X : Nat → Prop) (h : Nat) (E : Option Addr) (ce : Nat) (c : Nat → Nat) (r4 r5 lev : Nat) (v : Value) : Prop where
  bxh : Bx w h 60 #[v, .slice E 4 ce]
  cps : Rv w w.heap.size E (ints (rcl c))
  cof : ∀ ad, E = some ad → ad.block ≠ h ∧ ¬ X ad.block
  hX : ¬ X h
  xlt : ∀ j, X j → j < w0.heap.size
  b4 : Bx w r4 39 #[.int .i64 0, .slice none 0 0]
  b5 : Bx w r5 39 #[.int .i64 lev, .slice none 0 0]
  n4 : w0.heap.size ≤ r4 ∧ r4 ≠ r5 ∧ w0.heap.size ≤ r5
  ho : h < w0.heap.size
  eo : ∀ ad, E = some ad → ad.block < w0.heap.size
  chg : Chg w0 w (· = h) (· = h)
section
variable {w0 w w' : World} {X : Nat → Prop} {h : Nat} {E : Option Addr} {ce : Nat} {c : Nat → Nat} {r4 r5 lev : Nat} {v v' : Value}
theorem Up.below (u : Up w0 w X h E ce c r4 r5 lev v) (hb : Below w.heap.size w w') : Up w0 w' X h E ce c r4 r5 lev v :=
  ⟨u.bxh.next hb, u.cps.now hb, u.cof, u.hX, u.xlt, u.b4.next hb, u.b5.next hb, u.n4, u.ho, u.eo, u.chg.trans (Chg.of hb _)⟩
theorem Up.put (u : Up w0 w X h E ce c r4 r5 lev v) (v' : Value) : Up w0 (w.setCell ⟨h, 0, none⟩ v') X h E ce c r4 r5 lev v' := by
  have hch := one_chg (w := w) (r := h) 0 v'
  exact ⟨u.bxh.set 0 v', hch.rv u.cps (fun ad e => (u.cof ad e).1), u.cof, u.hX, u.xlt, hch.bx u.b4 (fun e => by have := u.n4.1; have := u.ho; omega), hch.bx u.b5 (fun e => by have := u.n4.2.2; have := u.ho; omega), u.n4, u.ho, u.eo, chg_set u.chg 0 v'⟩
/-- a row of the call's own has grown -/
theorem Up.grown (u : Up w0 w X h E ce c r4 r5 lev v) {a a' : Value} (hg : GrownV w w' a a') (ha : ∀ j, a.ownBlock = some j → w0.heap.size ≤ j ∧ j ≠ r4 ∧ j ≠ r5) : Up w0 w' X h E ce c r4 r5 lev v := by
  have hb : Below w0.heap.size w w' := ⟨hg.1.os, hg.1.tape, hg.1.output, hg.1.size, fun j hj => hg.1.block j (Nat.lt_of_lt_of_le hj u.chg.size) (fun e => by have := (ha j e.symm).1; omega)⟩
  have cps2 : Rv w' w'.heap.size E (ints (rcl c)) := fun j x hx => by
    obtain ⟨ad, e, h1, h2⟩ := u.cps j x hx
    have hl := u.eo ad e
    exact ⟨ad, e, Nat.lt_of_lt_of_le h1 hg.1.size, (hb.cell (p := ad.add j) (by rw [addBlk]; exact hl)).trans h2⟩
  exact ⟨u.bxh.apart hg.1 (fun e => by have := (ha h e.symm).1; have := u.ho; omega), cps2, u.cof, u.hX, u.xlt, u.b4.apart hg.1 (fun e => (ha r4 e.symm).2.1 rfl), u.b5.apart hg.1 (fun e => (ha r5 e.symm).2.2 rfl), u.n4, u.ho, u.eo, chg_bel u.chg hb⟩
end
/-- the row is there: a use is at work -/
theorem Up.uw {w0 w : World} {X : Nat → Prop} {h : Nat} {E : Option Addr} {ce : Nat} {c : Nat → Nat} {r4 r5 lev g cp : Nat} {s : Us} (u : Up w0 w X h E ce c r4 r5 lev (.slice (some ⟨g, 0, none⟩) s.L.length cp)) (hi : Its w w0.heap.size (.slice (some ⟨g, 0, none⟩) s.L.length cp) s.L s.v) (hg : g ≠ r4 ∧ g ≠ r5) :
    Uw w0 w X h g cp E ce c s r4 r5 lev (.slice none 0 0) [] := by
  have hlt := World.ownsRow.lt hi g rfl
  obtain ⟨A, cp', e, hr, hc⟩ := OwnV.read hi
  simp only [Value.slice.injEq] at e
  obtain ⟨rfl, -, rfl⟩ := e
  exact ⟨⟨u.bxh, hr, u.cps, hc, (fun ad e => by injection e with e; subst e; exact ⟨by have := u.ho; show g ≠ h; omega, fun hx => by have h3 : g < w0.heap.size := u.xlt _ hx; have h2 : w0.heap.size ≤ g := hlt.1; omega⟩), u.cof, u.hX, fun j e => Nat.lt_of_lt_of_le (u.xlt j e) u.chg.size⟩,
    hi, u.b4, u.b5, ownV_nil _ _ _ _, u.n4, ⟨hg.1, hg.2, hlt.1⟩, (fun j e => by simp [Value.ownBlock] at e), u.ho, u.eo, u.chg⟩
section
variable {w : World} {X : Nat → Prop} {h : Nat} {A E : Option Addr} {cp ce : Nat} {c : Nat → Nat} {s : Us}
/-- what a use tells, and what is there then -/
def RUse (w : World) (X : Nat → Prop) (h : Nat) (E : Option Addr) (ce : Nat) (c : Nat → Nat) (s : Us) (b : Int) (e : Ending) (w' : World) : Prop :=
  ∃ A' cp' mv, e = .returned (.agg #[.int .i64 (s.nx c b), mv]) ∧ Mvs w' w.heap.size mv (s.ust c b).2 ∧ Ur w' X h A' cp' E ce c (s.us c b) ∧ Chg w w' (· = h) (· = h)
set_option maxRecDepth 10000 in
set_option maxHeartbeats 4000000 in
theorem r_use (u : Ur w X h A cp E ce c s) (ok : Oku s) {b : Int} (hv : vb b) : Calls Try.prog 15 #[.pointer (some ⟨h, 0, none⟩), .int .i64 b] w (RUse w X h E ce c s b) := by
  have HU := hid u
  have HK := hid ok
  have HB1 := hid (below_alloc w (.cells #[.int .i64 0, .slice none 0 0] 39))
  have HB4 := hid (Bx.new w 39 #[.int .i64 0, .slice none 0 0])
  obtain ⟨r4, hr4⟩ : ∃ r, w.heap.size = r := ⟨_, rfl⟩
  rw [hr4] at HB4
  have HR4 := hid hr4
  clear hr4 u ok
  go_enter Try.func15, Try.ntmps15
  go_upto_region 1 with fail
  rw [HR4.out]
  have HU1 := hid (HU.out.below HB1.out)
  generalize w.alloc (.cells #[.int .i64 0, .slice none 0 0] 39) = w1 at *
  go_upto_region 2 with (go_at_call 32; refine (r_next HU1.out HK.out b).mono ?_; rintro e w2 ⟨rfl, hb⟩; have HB2 := hid hb; clear hb)
  have hn14 := nx_le (c := c) s b
  generalize hnx : s.nx c b = nx at *
  have HNX := hid hnx
  have HB5 := hid (Bx.new w2 39 #[.int .i64 nx, .slice none 0 0])
  have HB3 := hid (below_alloc w2 (.cells #[.int .i64 nx, .slice none 0 0] 39))
  have hr5 : ∃ r, w2.heap.size = r := ⟨_, rfl⟩
  obtain ⟨r5, hr5⟩ := hr5
  rw [hr5] at HB5 ⊢
  have HS2 := hid hr5
  clear hr5 hnx
  have HU3 := hid ((HU1.out.below HB2.out).below HB3.out)
  have HB43 := hid ((HB4.out.next HB2.out).next HB3.out)
  have HB03 := hid (on (on HB1.out HB2.out) HB3.out)
  have HRR := hid (show r4 ≠ r5 from fun e => by have := (HB4.out.next HB2.out).lt; have := HS2.out; omega)
  generalize w2.alloc (.cells #[.int .i64 nx, .slice none 0 0] 39) = w3 at *
  go_upto_region 3 with (first
    | (go_at_call 18; refine (r_place HU3.out HK.out b).mono ?_; rintro e w' ⟨rfl, rfl⟩)
    | (go_at_call 26; refine (r_without HU3.out HK.out b).mono ?_; rintro e w4 ⟨v6, rfl, ho, hb⟩; have HO4 := hid ho; have HB34 := hid hb; clear ho hb))
  have HU4 := hid (HU3.out.below HB34.out)
  have HB44 := hid (HB43.out.next HB34.out)
  have HB54 := hid (HB5.out.next HB34.out)
  have HB04 := hid (on HB03.out HB34.out)
  have c0 := HU4.out.c0
  have f0 := HU4.out.free
  go_upto_region 4 with fail
  have HP5 := hid (show Up w (w4.setCell ⟨h, 0, none⟩ (.slice none 0 0)) X h E ce c r4 r5 nx (.slice none 0 0) from by
    have u := HU4.out
    have hch := one_chg (w := w4) (r := h) 0 (.slice none 0 0)
    have hh : h < w.heap.size := HU.out.box.lt
    have n4 : w.heap.size ≤ r4 := by rw [HR4.out]; exact Nat.le_refl _
    have n5 : w.heap.size ≤ r5 := by have := HS2.out; have := HB1.out.size; have := HB2.out.size; omega
    exact ⟨u.box.set 0 _, hch.rv u.cps (fun ad e => (u.cof ad e).1), u.cof, u.hX, HU.out.xlt, hch.bx HB44.out (fun e => by omega), hch.bx HB54.out (fun e => by omega), ⟨n4, HRR.out, n5⟩, hh,
      (fun ad e => by obtain ⟨ad2, e2, h2, -⟩ := HU.out.cps 0 _ rfl; rw [e] at e2; injection e2 with e2; rw [e2]; exact h2), (Chg.of HB04.out (· = h)).trans hch⟩)
  have HO5 := hid (show Its (w4.setCell ⟨h, 0, none⟩ (.slice none 0 0)) w3.heap.size v6 (wo b s.L) s.v from own_heap HO4.out (fun j e _ => Below.heap_setCell w4 _ _ j (fun e2 => by
    have h1 := (World.ownsRow.lt HO4.out j e).1
    have h2 : h < w.heap.size := HU.out.box.lt
    have h3 := HB03.out.size
    have h4 : j = h := e2
    omega)))
  have HSW := hid (show w.heap.size ≤ w3.heap.size ∧ r4 < w3.heap.size ∧ r5 < w3.heap.size from ⟨HB03.out.size, HB43.out.lt, HB5.out.lt⟩)
  have HO5W := hid (show w3.heap.size ≤ (w4.setCell ⟨h, 0, none⟩ (.slice none 0 0)).heap.size from by rw [setSize]; exact HB34.out.size)
  clear c0 f0 HU4 HB44 HB54 HB04 HB34 HO4
  generalize w4.setCell ⟨h, 0, none⟩ (.slice none 0 0) = w5 at *
  obtain ⟨c0, c5⟩ : w5.cell? ⟨h, 0, none⟩ = some (.slice none 0 0) ∧ w5.cell? ⟨r5, 0, none⟩ = some (.int .i64 nx) := ⟨HP5.out.bxh.cell 0, HP5.out.b5.cell 0⟩
  go_cut [] from 21 to 33 (fun wx => ∃ g7 q7, Up w wx X h E ce c r4 r5 nx (.slice (some ⟨g7, 0, none⟩) 1 q7) ∧ OwnV wx w3.heap.size 66 2 (.slice (some ⟨g7, 0, none⟩) 1 q7) 1 [.int .i64 b, .int .i64 nx] ∧ Its wx w3.heap.size v6 (wo b s.L) s.v ∧ v6.ownBlock ≠ some g7)
  case first =>
    have HPD := hid (show Up w w5.drew X h E ce c r4 r5 nx (.slice none 0 0) from HP5.out.below (below_draws (Below.refl _ _) 1))
    have HOD := hid (show Its w5.drew w3.heap.size v6 (wo b s.L) s.v from OwnV.below HO5.out (below_draws (Below.refl _ _) 1))
    refine wp_region_noPanic ?_
    refine wp_region_held_drew (S := fun w' => w'.cell? ⟨r5, 0, none⟩ = some (.int .i64 nx)) (by kernel_rfl) ?_ (fun hHeld => ?_)
    · exact c5
    refine wpAnyH_take (i := 0) (oi := ⟨some 21, _, _, _, _, _⟩) (v := ?_) rfl (by kernel_rfl) (by kernel_rfl) (by kernel_rfl) (fun _ _ _ h => h) (Or.inl ⟨by rfl, ?_⟩) (by assumption) ?_
    rotate_left 1
    · intro w0 hSw
      try dsimp only at hSw
      go_simp
      try with_reducible rfl
    (try simp only [Act.put, List.setIfInBounds_toArray, List.set_cons_zero, List.set_cons_succ])
    refine wpAnyH_take (i := 1) (oi := ⟨some 22, _, _, _, _, _⟩) (v := ?_) rfl (by kernel_rfl) (by kernel_rfl) (by kernel_rfl) (fun _ _ _ h => h) (Or.inl ⟨by rfl, ?_⟩) (by assumption) ?_
    rotate_left 1
    · intro w0 hSw
      try dsimp only at hSw
      go_simp
      try with_reducible rfl
    (try simp only [Act.put, List.setIfInBounds_toArray, List.set_cons_zero, List.set_cons_succ])
    refine wpAnyH_take (i := 2) (oi := ⟨some 23, _, _, _, _, _⟩) (v := ?_) rfl (by kernel_rfl) (by kernel_rfl) (by kernel_rfl) (fun _ _ _ h => h) (Or.inl ⟨by rfl, ?_⟩) (by assumption) ?_
    rotate_left 1
    · intro w0 hSw
      try dsimp only at hSw
      go_simp
      try with_reducible rfl
    (try simp only [Act.put, List.setIfInBounds_toArray, List.set_cons_zero, List.set_cons_succ])
    refine wpAnyH_take (i := 3) (oi := ⟨some 24, _, _, _, _, _⟩) (v := ?_) rfl (by kernel_rfl) (by kernel_rfl) (by kernel_rfl) (fun _ _ _ h => h) (Or.inl ⟨by rfl, ?_⟩) (by assumption) ?_
    rotate_left 1
    · intro w0 hSw
      try dsimp only at hSw
      go_simp
      try with_reducible rfl
    (try simp only [Act.put, List.setIfInBounds_toArray, List.set_cons_zero, List.set_cons_succ])
    refine wpAnyH_take (i := 5) (oi := ⟨some 26, _, _, _, _, _⟩) (v := ?_) rfl (by kernel_rfl) (by kernel_rfl) (by kernel_rfl) (fun _ _ _ h => h) (Or.inl ⟨by rfl, ?_⟩) (by assumption) ?_
    rotate_left 1
    · intro w0 hSw
      try dsimp only at hSw
      go_simp
      try with_reducible rfl
    (try simp only [Act.put, List.setIfInBounds_toArray, List.set_cons_zero, List.set_cons_succ])
    refine wpAnyH_take (i := 6) (oi := ⟨some 27, _, _, _, _, _⟩) (v := ?_) rfl (by kernel_rfl) (by kernel_rfl) (by kernel_rfl) (fun _ _ _ h => h) (Or.inl ⟨by rfl, ?_⟩) (by assumption) ?_
    rotate_left 1
    · intro w0 hSw
      try dsimp only at hSw
      go_simp
      try with_reducible rfl
    (try simp only [Act.put, List.setIfInBounds_toArray, List.set_cons_zero, List.set_cons_succ])
    refine wpAnyH_take (i := 7) (oi := ⟨some 28, _, _, _, _, _⟩) (v := ?_) rfl (by kernel_rfl) (by kernel_rfl) (by kernel_rfl) (fun _ _ _ h => h) (Or.inl ⟨by rfl, ?_⟩) (by assumption) ?_
    rotate_left 1
    · intro w0 hSw
      try dsimp only at hSw
      go_simp
      try with_reducible rfl
    (try simp only [Act.put, List.setIfInBounds_toArray, List.set_cons_zero, List.set_cons_succ])
    refine wpAnyH_take (i := 8) (oi := ⟨some 29, _, _, _, _, _⟩) (v := ?_) rfl (by kernel_rfl) (by kernel_rfl) (by kernel_rfl) (fun _ _ _ h => h) (Or.inl ⟨by rfl, ?_⟩) (by assumption) ?_
    rotate_left 1
    · intro w0 hSw
      try dsimp only at hSw
      go_simp
      try with_reducible rfl
    (try simp only [Act.put, List.setIfInBounds_toArray, List.set_cons_zero, List.set_cons_succ])
    refine wpAnyH_ready (rs := [4, 9]) (by kernel_rfl) (by simp) ?_
    refine (AllReadyH.cons (o := ⟨some 25, _, _, _, _, _⟩) rfl (fun K hK => ?_) (AllReadyH.cons (o := ⟨some 30, _, _, _, _, _⟩) rfl (fun K hK => ?_) AllReadyH.nil))
    · rw [if_pos (by rfl)]
      go_simp
      refine hK.out _ _ hHeld (fun hHeld => ?_)
      clear hK K
      (try simp only [Act.put, List.setIfInBounds_toArray, List.set_cons_zero, List.set_cons_succ])
      refine wpAnyH_ready (rs := [9]) (by kernel_rfl) (by simp) ?_
      refine AllReadyH.cons (o := ⟨some 30, _, _, _, _, _⟩) rfl (fun K hK => ?_) AllReadyH.nil
      rw [if_pos (by rfl)]
      have c0b : (w5.alloc (.cells #[.int .i64 b, .int .i64 nx] 66)).cell? ⟨h, 0, none⟩ = some (.slice none 0 0) := (HP5.out.below (below_alloc _ _)).bxh.cell 0
      have HP6 := hid (HPD.out.below (below_alloc _ (.cells #[.int .i64 b, .int .i64 nx] 66)))
      have HO6 := hid (OwnV.below HOD.out (below_alloc _ (.cells #[.int .i64 b, .int .i64 nx] 66)))
      have HR6 := hid (rv_new w5.drew 66 #[.int .i64 b, .int .i64 nx])
      have kp := HP6.out.b5.cell 0
      have HS6 := hid HP6.out.chg.size
      have hlt6 := HSW.out
      have hs6 : w3.heap.size ≤ (w5.drew.alloc (.cells #[.int .i64 b, .int .i64 nx] 66)).heap.size := by rw [World.size_alloc]; have := HP5.out.b5.lt; have := HO5W.out; show w3.heap.size ≤ w5.heap.size + 1; omega
      have HS36 := hid hs6
      clear hlt6 hs6
      go_simp
      refine hK.out _ _ kp (fun hHeld => ?_)
      clear hK K
      (try simp only [Act.put, List.setIfInBounds_toArray, List.set_cons_zero, List.set_cons_succ])
      refine wpAnyH_ready (rs := [10]) (by kernel_rfl) (by simp) ?_
      refine AllReadyH.cons (o := ⟨some 31, _, _, _, _, _⟩) rfl (fun K hK => ?_) AllReadyH.nil
      rw [if_pos (by rfl)]
      refine wp_appV elt_item (.tmp 25) (.tmp 30) rfl w3.heap.size _ 0 [] (ownV_nil _ _ _ _) rfl _ _ 1 1 [.int .i64 b, .int .i64 nx] rfl rfl HR6.out (fun u hu => by simp at hu; rcases hu with rfl | rfl <;> rfl) (by unfold maxLen; omega) (by omega) HS36.out ?_
      intro v7 w7 ho7 hg7
      have HP7 := hid (HP6.out.grown hg7 (fun j e => by simp [Value.ownBlock] at e))
      have HO7 := hid (OwnV.below HO6.out (hg7.below (b := _) (ownV_nil _ _ 66 2) (Nat.le_refl _)))
      have HI7 := hid (show OwnV w7 w3.heap.size 66 2 v7 1 [.int .i64 b, .int .i64 nx] from ho7)
      have kq := HP7.out.b5.cell 0
      obtain ⟨g7, q7, rfl, hg37, hg7l, hq1, hqm⟩ := ownV_place ho7 (by omega)
      have HG7 := hid (show v6.ownBlock ≠ some g7 from fun e => by rcases hg7.2 with e2 | e2 <;> simp [Value.ownBlock] at e2; have h1 := (World.ownsRow.lt HO6.out g7 e).2; (try simp at h1); omega)
      have HG37 := hid hg37
      have ff := HP7.out.bxh.free 0
      have xh : w7.cell? ⟨h, 0, none⟩ = some (.slice none 0 0) := HP7.out.bxh.cell 0
      clear ho7 hg7 hg7l hq1 hqm hg37
      refine hK.out _ _ kq (fun hHeld => ?_)
      clear hK K
      (try simp only [Act.put, List.setIfInBounds_toArray, List.set_cons_zero, List.set_cons_succ])
      refine wpAnyH_take (i := 11) (oi := ⟨some 32, _, _, _, _, _⟩) (v := ?_) rfl (by kernel_rfl) (by kernel_rfl) (by kernel_rfl) (fun _ _ _ h => h) (Or.inl ⟨by rfl, ?_⟩) (by assumption) ?_
      rotate_left 1
      · intro w0 hSw
        try dsimp only at hSw
        go_simp
        try with_reducible rfl
      (try simp only [Act.put, List.setIfInBounds_toArray, List.set_cons_zero, List.set_cons_succ])
      refine wpAnyH_take (i := 12) (oi := ⟨some 33, _, _, _, _, _⟩) (v := ?_) rfl (by kernel_rfl) (by kernel_rfl) (by kernel_rfl) (fun _ _ _ h => h) (Or.inl ⟨by rfl, ?_⟩) (by assumption) ?_
      rotate_left 1
      · intro w0 hSw
        try dsimp only at hSw
        go_simp
        try with_reducible rfl
      (try simp only [Act.put, List.setIfInBounds_toArray, List.set_cons_zero, List.set_cons_succ])
      refine wpAnyH_ready (rs := [13]) (by kernel_rfl) (by simp) ?_
      refine AllReadyH.cons (o := ⟨none, _, _, _, _, _⟩) rfl (fun K hK => ?_) AllReadyH.nil
      rw [if_pos (by rfl)]
      have HP8 := hid (HP7.out.put (.slice (some ⟨g7, 0, none⟩) 1 q7))
      have HI8 := hid (show OwnV (w7.setCell ⟨h, 0, none⟩ (.slice (some ⟨g7, 0, none⟩) 1 q7)) w3.heap.size 66 2 (.slice (some ⟨g7, 0, none⟩) 1 q7) 1 [.int .i64 b, .int .i64 nx] from own_heap HI7.out (fun j e _ => Below.heap_setCell w7 _ _ j (fun e2 => by have h1 := (World.ownsRow.lt HI7.out j e).1; have h2 := HP7.out.ho; have h3 := HSW.out.1; have h4 : j = h := e2; omega)))
      have HO8 := hid (show Its (w7.setCell ⟨h, 0, none⟩ (.slice (some ⟨g7, 0, none⟩) 1 q7)) w3.heap.size v6 (wo b s.L) s.v from own_heap HO7.out (fun j e _ => Below.heap_setCell w7 _ _ j (fun e2 => by have h1 := (World.ownsRow.lt HO7.out j e).1; have h2 := HP7.out.ho; have h3 := HSW.out.1; have h4 : j = h := e2; omega)))
      have kr := HP8.out.b5.cell 0
      go_simp
      refine hK.out _ _ kr (fun hHeld => ?_)
      clear hK K
      (try simp only [Act.put, List.setIfInBounds_toArray, List.set_cons_zero, List.set_cons_succ])
      refine wpAnyH_done (by kernel_rfl) ?_ _
      refine NoPanic.normal ?_
      go_wp2_with fail
      go_meet
      exact ⟨_, _, HP8.out, HI8.out, HO8.out, HG7.out⟩
    · rw [if_pos (by rfl)]
      have c0b : (w5.alloc (.cells #[.int .i64 b, .int .i64 nx] 66)).cell? ⟨h, 0, none⟩ = some (.slice none 0 0) := (HP5.out.below (below_alloc _ _)).bxh.cell 0
      have HP6 := hid (HPD.out.below (below_alloc _ (.cells #[.int .i64 b, .int .i64 nx] 66)))
      have HO6 := hid (OwnV.below HOD.out (below_alloc _ (.cells #[.int .i64 b, .int .i64 nx] 66)))
      have HR6 := hid (rv_new w5.drew 66 #[.int .i64 b, .int .i64 nx])
      have kp := HP6.out.b5.cell 0
      have HS6 := hid HP6.out.chg.size
      have hlt6 := HSW.out
      have hs6 : w3.heap.size ≤ (w5.drew.alloc (.cells #[.int .i64 b, .int .i64 nx] 66)).heap.size := by rw [World.size_alloc]; have := HP5.out.b5.lt; have := HO5W.out; show w3.heap.size ≤ w5.heap.size + 1; omega
      have HS36 := hid hs6
      clear hlt6 hs6
      go_simp
      refine hK.out _ _ kp (fun hHeld => ?_)
      clear hK K
      (try simp only [Act.put, List.setIfInBounds_toArray, List.set_cons_zero, List.set_cons_succ])
      refine wpAnyH_ready (rs := [4]) (by kernel_rfl) (by simp) ?_
      refine AllReadyH.cons (o := ⟨some 25, _, _, _, _, _⟩) rfl (fun K hK => ?_) AllReadyH.nil
      rw [if_pos (by rfl)]
      go_simp
      refine hK.out _ _ hHeld (fun hHeld => ?_)
      clear hK K
      (try simp only [Act.put, List.setIfInBounds_toArray, List.set_cons_zero, List.set_cons_succ])
      refine wpAnyH_ready (rs := [10]) (by kernel_rfl) (by simp) ?_
      refine AllReadyH.cons (o := ⟨some 31, _, _, _, _, _⟩) rfl (fun K hK => ?_) AllReadyH.nil
      rw [if_pos (by rfl)]
      refine wp_appV elt_item (.tmp 25) (.tmp 30) rfl w3.heap.size _ 0 [] (ownV_nil _ _ _ _) rfl _ _ 1 1 [.int .i64 b, .int .i64 nx] rfl rfl HR6.out (fun u hu => by simp at hu; rcases hu with rfl | rfl <;> rfl) (by unfold maxLen; omega) (by omega) HS36.out ?_
      intro v7 w7 ho7 hg7
      have HP7 := hid (HP6.out.grown hg7 (fun j e => by simp [Value.ownBlock] at e))
      have HO7 := hid (OwnV.below HO6.out (hg7.below (b := _) (ownV_nil _ _ 66 2) (Nat.le_refl _)))
      have HI7 := hid (show OwnV w7 w3.heap.size 66 2 v7 1 [.int .i64 b, .int .i64 nx] from ho7)
      have kq := HP7.out.b5.cell 0
      obtain ⟨g7, q7, rfl, hg37, hg7l, hq1, hqm⟩ := ownV_place ho7 (by omega)
      have HG7 := hid (show v6.ownBlock ≠ some g7 from fun e => by rcases hg7.2 with e2 | e2 <;> simp [Value.ownBlock] at e2; have h1 := (World.ownsRow.lt HO6.out g7 e).2; (try simp at h1); omega)
      have HG37 := hid hg37
      have ff := HP7.out.bxh.free 0
      have xh : w7.cell? ⟨h, 0, none⟩ = some (.slice none 0 0) := HP7.out.bxh.cell 0
      clear ho7 hg7 hg7l hq1 hqm hg37
      refine hK.out _ _ kq (fun hHeld => ?_)
      clear hK K
      (try simp only [Act.put, List.setIfInBounds_toArray, List.set_cons_zero, List.set_cons_succ])
      refine wpAnyH_take (i := 11) (oi := ⟨some 32, _, _, _, _, _⟩) (v := ?_) rfl (by kernel_rfl) (by kernel_rfl) (by kernel_rfl) (fun _ _ _ h => h) (Or.inl ⟨by rfl, ?_⟩) (by assumption) ?_
      rotate_left 1
      · intro w0 hSw
        try dsimp only at hSw
        go_simp
        try with_reducible rfl
      (try simp only [Act.put, List.setIfInBounds_toArray, List.set_cons_zero, List.set_cons_succ])
      refine wpAnyH_take (i := 12) (oi := ⟨some 33, _, _, _, _, _⟩) (v := ?_) rfl (by kernel_rfl) (by kernel_rfl) (by kernel_rfl) (fun _ _ _ h => h) (Or.inl ⟨by rfl, ?_⟩) (by assumption) ?_
      rotate_left 1
      · intro w0 hSw
        try dsimp only at hSw
        go_simp
        try with_reducible rfl
      (try simp only [Act.put, List.setIfInBounds_toArray, List.set_cons_zero, List.set_cons_succ])
      refine wpAnyH_ready (rs := [13]) (by kernel_rfl) (by simp) ?_
      refine AllReadyH.cons (o := ⟨none, _, _, _, _, _⟩) rfl (fun K hK => ?_) AllReadyH.nil
      rw [if_pos (by rfl)]
      have HP8 := hid (HP7.out.put (.slice (some ⟨g7, 0, none⟩) 1 q7))
      have HI8 := hid (show OwnV (w7.setCell ⟨h, 0, none⟩ (.slice (some ⟨g7, 0, none⟩) 1 q7)) w3.heap.size 66 2 (.slice (some ⟨g7, 0, none⟩) 1 q7) 1 [.int .i64 b, .int .i64 nx] from own_heap HI7.out (fun j e _ => Below.heap_setCell w7 _ _ j (fun e2 => by have h1 := (World.ownsRow.lt HI7.out j e).1; have h2 := HP7.out.ho; have h3 := HSW.out.1; have h4 : j = h := e2; omega)))
      have HO8 := hid (show Its (w7.setCell ⟨h, 0, none⟩ (.slice (some ⟨g7, 0, none⟩) 1 q7)) w3.heap.size v6 (wo b s.L) s.v from own_heap HO7.out (fun j e _ => Below.heap_setCell w7 _ _ j (fun e2 => by have h1 := (World.ownsRow.lt HO7.out j e).1; have h2 := HP7.out.ho; have h3 := HSW.out.1; have h4 : j = h := e2; omega)))
      have kr := HP8.out.b5.cell 0
      go_simp
      refine hK.out _ _ kr (fun hHeld => ?_)
      clear hK K
      (try simp only [Act.put, List.setIfInBounds_toArray, List.set_cons_zero, List.set_cons_succ])
      refine wpAnyH_done (by kernel_rfl) ?_ _
      refine NoPanic.normal ?_
      go_wp2_with fail
      go_meet
      exact ⟨_, _, HP8.out, HI8.out, HO8.out, HG7.out⟩
  case rest =>
  obtain ⟨g7, q7, h1, h2, h3, h4⟩ := hcut
  have HP8 := hid h1
  have HI8 := hid h2
  have HO8 := hid h3
  have HG7 := hid h4
  clear h1 h2 h3 h4 HP5 HO5 HO5W c0 c5
  generalize wc = w8 at *
  go_upto_region 5 with fail
  obtain ⟨A6, c6, e6, hr6, -, -⟩ := OwnV.read HO8.out
  subst e6
  have HR6 := hid hr6
  have hm64 : (wo b s.L).length ≤ 63 := by
    have h1 := (HK.out.pt (b := b) (l := 1) hv (by omega)).len
    have h2 : (s.pt b 1).L.length = (wo b s.L).length + 1 := rfl
    omega
  have HSZ8 := hid (show w3.heap.size ≤ w8.heap.size from Nat.le_trans (World.ownsRow.lt HI8.out g7 rfl).1 (Nat.le_of_lt (World.ownsRow.lt HI8.out g7 rfl).2))
  have HG7B := hid (show w.heap.size ≤ g7 ∧ g7 ≠ r4 ∧ g7 ≠ r5 from by
    have h1 := (World.ownsRow.lt HI8.out g7 rfl).1
    have h2 := HSW.out
    omega)
  have HPTL := hid (show 1 + (wo b s.L).length = (s.pt b nx).L.length from by show _ = (wo b s.L).length + 1; omega)
  have HPTI := hid (show [.int .i64 b, .int .i64 nx] ++ itc (wo b s.L) s.v = itc (s.pt b nx).L (s.pt b nx).v from by
    show _ = [.int .i64 b, .int .i64 (upd s.v b nx b)] ++ itc (wo b s.L) (upd s.v b nx)
    rw [upd_same, itc_congr (v := upd s.v b nx) (v' := s.v) fun x hx => upd_ne _ _ (mem_wo.1 hx).2])
  generalize hml : (wo b s.L).length = m at *
  have HML := hid (show (itc (wo b s.L) s.v).length = m * 2 from by rw [itc_len, hml])
  have c8 : w8.cell? ⟨h, 0, none⟩ = some (.slice (some ⟨g7, 0, none⟩) 1 q7) := HP8.out.bxh.cell 0
  clear hr6 hml
  go_upto_region 6 with (at_builtin; (refine wpList_appV elt_item rfl (.tmp 38) (.tmp 39) rfl w3.heap.size _ 1 _ HI8.out rfl _ A6 m c6 (itc (wo b s.L) s.v) rfl HML.out HR6.out (itc_one _ _) (by unfold maxLen; omega) (by omega) HSZ8.out ?_); intro v9 w9 ho9 hg9; rw [HPTL.out, HPTI.out] at ho9; have HP9 := hid (HP8.out.grown hg9 (fun j e => by simp [Value.ownBlock] at e; subst e; exact HG7B.out)); obtain ⟨g9, q9, rfl, hb9, hl9, -, -⟩ := ownV_place ho9 (by rw [← HPTL.out]; omega); have HI9 := hid ho9; have HG9 := hid (show g9 ≠ r4 ∧ g9 ≠ r5 from by have h2 := HSW.out; omega); have x9 : w9.cell? ⟨h, 0, none⟩ = some (.slice (some ⟨g7, 0, none⟩) 1 q7) := HP9.out.bxh.cell 0; have f9 := HP9.out.bxh.free 0; clear ho9 hg9 hb9 hl9)
  have HUW0 := hid (show Uw w (w9.setCell ⟨h, 0, none⟩ (.slice (some ⟨g9, 0, none⟩) (s.pt b nx).L.length q9)) X h g9 q9 E ce c (s.pt b nx) r4 r5 nx (.slice none 0 0) [] from
    (HP9.out.put _).uw (OwnV.lower (own_heap HI9.out (fun j e _ => Below.heap_setCell w9 _ _ j (fun e2 => by
      have h1 := (World.ownsRow.lt HI9.out j e).1
      have h2 := HP9.out.ho
      have h3 := HSW.out.1
      have h4 : j = h := e2
      omega))) HSW.out.1) HG9.out)
  clear c8 x9 f9 HP9 HI9 HP8 HI8 HO8 HR6 HML HSZ8 HG7B
  generalize w9.setCell ⟨h, 0, none⟩ (.slice (some ⟨g9, 0, none⟩) (s.pt b nx).L.length q9) = w10 at *
  have c5 : w10.cell? ⟨r5, 0, none⟩ = some (.int .i64 nx) := HUW0.out.b5.cell 0
  go_wp2
  have HT0 := hid (show s.ust c b = (s.pt b nx).stl c (4 - nx) from by unfold Us.ust; rw [HNX.out])
  have HOK := hid (HK.out.pt (b := b) (l := nx) hv (by omega))
  have HOKT := hid (HK.out.ust (c := c) hv)
  have HUS := hid (show s.us c b = (s.ust c b).1.trm from rfl)
  have HLM := hid (show (s.ust c b).2.length ≤ 4 from by rw [HT0.out]; have := stl_le (c := c) (k := 4 - nx) (s := s.pt b nx); omega)
  obtain ⟨T, hT⟩ : ∃ T, s.ust c b = T := ⟨_, rfl⟩
  have HT := hid hT
  rw [hT] at HT0 HOKT HUS HLM
  clear c5 hT HG9
  go_loopg [7] (4 - nx) (fun gk t wr => ∃ (l : Nat) (s' : Us) (cq : Nat) (mv : Value) (M : List (Int × Nat)), l + gk = 4 ∧ 1 ≤ l ∧ t = .int .i64 l ∧ M.length + gk ≤ 4 ∧ M ++ (s'.stl c gk).2 = T.2 ∧ (s'.stl c gk).1 = T.1 ∧ Oku s' ∧ Uw w wr X h g9 cq E ce c s' r4 r5 nx mv M)
  case atStart => exact ⟨nx, _, _, _, [], by omega, by omega, rfl, by simp, by rw [← HT0.out]; rfl, by rw [← HT0.out], HOK.out, HUW0.out⟩
  case round =>
    obtain ⟨l, s', cq, mv, M, hl, hl1, rfl, hM, hm, he, ok, hu⟩ := hrel
    have HM := hid hm
    have HE := hid he
    have HK1 := hid ok
    have HU1 := hid hu
    clear hm he ok hu HUW0
    cases gk with
    | zero =>
      obtain rfl : l = 4 := by omega
      have HE2 := hid (show M = T.2 from by have := HM.out; unfold Us.stl at this; rw [List.append_nil] at this; exact this)
      have HE1 := hid (show s' = T.1 from HE.out)
      go_upto_region 7 with fail
      go_quiet (fail)
      have HU2 := hid (HU1.out.draws nq)
      obtain ⟨A5, c5, e5, -⟩ := OwnV.read HU1.out.mvs
      subst e5
      have HMS := hid (World.ownsRow.lt HU1.out.mvs)
      clear HU1
      generalize wr.drewN nq = w11 at *
      have HPR := hid (r_prune HU2.out.ur HK1.out)
      go_upto_region 13 with (go_at_call 27; refine HPR.out.mono ?_; rintro e w12 ⟨rfl, hu, hc⟩; have HU12 := hid hu; have HC12 := hid hc; clear hu hc)
      have HB4E := hid (HC12.out.bx HU2.out.b4 (fun e => by have := HU2.out.n4; have := HU2.out.ho; omega))
      have HB5E := hid (HC12.out.bx HU2.out.b5 (fun e => by have := HU2.out.n4; have := HU2.out.ho; omega))
      have HMV := hid (show Mvs w12 w.heap.size (.slice A5 M.length c5) M from own_heap HU2.out.mvs (fun j e hl => HC12.out.block j hl (fun e2 => by
        have h1 := (World.ownsRow.lt HU2.out.mvs j e).1
        have h2 := HU2.out.ho
        have h3 : j = h := e2
        omega)))
      have HMO := hid HU2.out.mo
      have HCE := hid (HU2.out.chg.trans HC12.out)
      have HN4 := hid (And.intro HU2.out.n4 (And.intro HU2.out.go (And.intro HU2.out.ho HU2.out.eo)))
      clear HPR HU2 HC12
      go_wp2_with (first
        | (refine wpList_load_bx rfl 39 (.tmp 5) rfl r5 _ _ _ rfl HB5E.out Try.underlying39 rfl (by kernel_rfl) ?_)
        | (refine wpList_store_bx rfl 39 (.tmp 4) (.tmp 93) rfl rfl r4 _ _ #[.int .i64 nx, .slice A5 M.length c5] rfl rfl HB4E.out (by kernel_rfl) rfl (by simp [Value.oneCell']) ?_))
      refine bodyPost_ret (results_bx1 rfl _ rfl (HB4E.out.row (cs' := #[.int .i64 nx, .slice A5 M.length c5])) Try.underlying39 rfl (by kernel_rfl)) rfl ?_
      have hrc := row_chg w12 r4 #[.int .i64 nx, .slice A5 M.length c5]
      obtain ⟨k1, k2, k3, k4⟩ := HN4.out
      refine ⟨some ⟨g9, 0, none⟩, cq, .slice A5 M.length c5, by rw [HNX.out], ?_, ?_, chg_bel HCE.out (hrc.bel HCE.out.size (fun j e => by rw [e]; exact k1.1))⟩
      · rw [HT.out, ← HE2.out]
        exact own_heap HMV.out (fun j e hl => hrc.block j hl (fun e2 => (HMO.out j e).2.1 e2))
      · rw [HUS.out, ← HE1.out]
        exact HU12.out.apart hrc (fun e => by omega) (fun ad e f => by injection e with e; subst e; exact k2.1 f) (fun ad e f => by have := k4 ad e; omega)
    | succ kk =>
      have hl3 : l + kk = 3 := by omega
      have hll : (l : Int) ≤ 3 := by omega
      have hl4 : (l : Int) < 4 := by omega
      obtain ⟨ae, rfl, hce⟩ := HU1.out.ur.cap hl1 (show l ≤ 3 from by omega)
      have c1 := HU1.out.ur.c1
      have HCT := hid (fun (n : Nat) => r_count (HU1.out.ur.draws n) HK1.out l)
      by_cases hc : c l < s'.ct l
      · have H60 := hid (stl_yes hc hl3)
        have hyp := Us.ct_pos (show 0 < s'.ct l from by omega)
        obtain ⟨p, ep, hpl, hat, hyv⟩ := Us.yp_some hyp
        have HYD := hid (fun (y : World) (hy : Ur y X h (some ⟨g9, 0, none⟩) cq (some ae) ce c s') => r_yard hy HK1.out l)
        rw [ep] at HYD
        have HKS := hid (HK1.out.sv (List.mem_of_getElem? hat) (l := (l + 1 : Nat)) (by omega))
        have HAT := hid hat
        generalize s'.yb l = y at *
        generalize s'.ct l = n1 at *
        generalize hcl : c l = n2 at *
        have hd : decide (n2 < n1) = true := by simpa using hc
        have h64 := HK1.out.len
        generalize hln : s'.L.length = n at *
        have HLN := hid hln
        have hpn : (p : Int) < (n : Int) := by omega
        have hwr : IntKind.i64.wrap ((l : Int) + 1) = ((l + 1 : Nat) : Int) := by rw [IntKind.wrap_i64]; omega
        clear hc hcl hyp ep hpl hat hln hyv
        go_upto_region 7 with fail
        go_quiet (first | (go_at_call 33; exact quietL (HCT.out _)))
        have HU2 := hid (HU1.out.draws nq)
        clear HU1 c1 hce HCT
        generalize wr.drewN nq = w11 at *
        go_upto_region 9 with (go_at_call 34; refine (HYD.out _ HU2.out.ur).mono ?_; rintro e w' ⟨rfl, rfl⟩)
        have c0 := HU2.out.ur.c0
        rw [HLN.out] at c0
        have yc : w11.cell? ⟨g9, p * 2 + 1, none⟩ = some (.int .i64 (s'.v y)) := (own_cell (i := p * 2 + 1) HU2.out.its).2 _ (itc_at HAT.out 1 (by omega))
        have yf := (own_cell (i := p * 2 + 1) HU2.out.its).1
        go_upto_region 10 with fail
        have HU3 := hid (show Uw w (w11.setCell ⟨g9, p * 2 + 1, none⟩ (.int .i64 ((l : Int) + 1))) X h g9 cq (some ae) ce c (s'.sv y (l + 1 : Nat)) r4 r5 nx mv M from by rw [show ((l + 1 : Nat) : Int) = (l : Int) + 1 from by omega]; exact HU2.out.sv HK1.out HAT.out)
        clear c0 yc yf HU2
        generalize w11.setCell ⟨g9, p * 2 + 1, none⟩ (.int .i64 ((l : Int) + 1)) = w13 at *
        obtain ⟨A5, c5, e5, -⟩ := OwnV.read HU3.out.mvs
        subst e5
        have c0 := HU3.out.ur.c0
        rw [show (s'.sv y (l + 1 : Nat)).L.length = n from HLN.out] at c0
        have yc : w13.cell? ⟨g9, p * 2, none⟩ = some (.int .i64 y) := (own_cell (i := p * 2) HU3.out.its).2 _ (itc_at (L := s'.L) HAT.out 0 (by omega))
        have mc : w13.cell? ⟨r5, 1, none⟩ = some (.slice A5 M.length c5) := HU3.out.b5.cell 1
        go_cut [] from 72 to 88 (fun wx => ∃ mv2, Uw w wx X h g9 cq (some ae) ce c (s'.sv y (l + 1 : Nat)) r4 r5 nx mv2 (M ++ [(y, l)]))
        case first =>
          have HUD := hid (show Uw w w13.drew X h g9 cq (some ae) ce c (s'.sv y (l + 1 : Nat)) r4 r5 nx (.slice A5 M.length c5) M from HU3.out.draws 1)
          have HM4 := hid (show M.length ≤ 4 from by omega)
          refine wp_region_noPanic ?_
          refine wp_region_held_drew (S := fun w' => w'.cell? ⟨h, 0, none⟩ = some (.slice (some ⟨g9, 0, none⟩) n cq) ∧ w'.cell? ⟨g9, p * 2, none⟩ = some (.int .i64 y)) (by kernel_rfl) ?_ (fun hHeld => ?_)
          · exact ⟨c0, yc⟩
          refine wpAnyH_take (i := 0) (oi := ⟨some 72, _, _, _, _, _⟩) (v := ?_) rfl (by kernel_rfl) (by kernel_rfl) (by kernel_rfl) (fun _ _ _ h => h) (Or.inl ⟨by rfl, ?_⟩) (by assumption) ?_
          rotate_left 1
          · intro w0 hSw
            obtain ⟨s0, s1⟩ := hSw
            go_simp
            try with_reducible rfl
          (try simp only [Act.put, List.setIfInBounds_toArray, List.set_cons_zero, List.set_cons_succ])
          refine wpAnyH_take (i := 2) (oi := ⟨some 74, _, _, _, _, _⟩) (v := ?_) rfl (by kernel_rfl) (by kernel_rfl) (by kernel_rfl) (fun _ _ _ h => h) (Or.inl ⟨by rfl, ?_⟩) (by assumption) ?_
          rotate_left 1
          · intro w0 hSw
            obtain ⟨s0, s1⟩ := hSw
            go_simp
            try with_reducible rfl
          (try simp only [Act.put, List.setIfInBounds_toArray, List.set_cons_zero, List.set_cons_succ])
          refine wpAnyH_take (i := 3) (oi := ⟨some 75, _, _, _, _, _⟩) (v := ?_) rfl (by kernel_rfl) (by kernel_rfl) (by kernel_rfl) (fun _ _ _ h => h) (Or.inl ⟨by rfl, ?_⟩) (by assumption) ?_
          rotate_left 1
          · intro w0 hSw
            obtain ⟨s0, s1⟩ := hSw
            go_simp
            try with_reducible rfl
          (try simp only [Act.put, List.setIfInBounds_toArray, List.set_cons_zero, List.set_cons_succ])
          refine wpAnyH_take (i := 4) (oi := ⟨some 76, _, _, _, _, _⟩) (v := ?_) rfl (by kernel_rfl) (by kernel_rfl) (by kernel_rfl) (fun _ _ _ h => h) (Or.inl ⟨by rfl, ?_⟩) (by assumption) ?_
          rotate_left 1
          · intro w0 hSw
            obtain ⟨s0, s1⟩ := hSw
            go_simp
            try with_reducible rfl
          (try simp only [Act.put, List.setIfInBounds_toArray, List.set_cons_zero, List.set_cons_succ])
          refine wpAnyH_take (i := 5) (oi := ⟨some 77, _, _, _, _, _⟩) (v := ?_) rfl (by kernel_rfl) (by kernel_rfl) (by kernel_rfl) (fun _ _ _ h => h) (Or.inl ⟨by rfl, ?_⟩) (by assumption) ?_
          rotate_left 1
          · intro w0 hSw
            obtain ⟨s0, s1⟩ := hSw
            go_simp
            try with_reducible rfl
          (try simp only [Act.put, List.setIfInBounds_toArray, List.set_cons_zero, List.set_cons_succ])
          refine wpAnyH_take (i := 6) (oi := ⟨some 78, _, _, _, _, _⟩) (v := ?_) rfl (by kernel_rfl) (by kernel_rfl) (by kernel_rfl) (fun _ _ _ h => h) (Or.inl ⟨by rfl, ?_⟩) (by assumption) ?_
          rotate_left 1
          · intro w0 hSw
            obtain ⟨s0, s1⟩ := hSw
            go_simp
            try with_reducible rfl
          (try simp only [Act.put, List.setIfInBounds_toArray, List.set_cons_zero, List.set_cons_succ])
          refine wpAnyH_take (i := 7) (oi := ⟨some 79, _, _, _, _, _⟩) (v := ?_) rfl (by kernel_rfl) (by kernel_rfl) (by kernel_rfl) (fun _ _ _ h => h) (Or.inl ⟨by rfl, ?_⟩) (by assumption) ?_
          rotate_left 1
          · intro w0 hSw
            obtain ⟨s0, s1⟩ := hSw
            go_simp
            try with_reducible rfl
          (try simp only [Act.put, List.setIfInBounds_toArray, List.set_cons_zero, List.set_cons_succ])
          refine wpAnyH_take (i := 8) (oi := ⟨some 80, _, _, _, _, _⟩) (v := ?_) rfl (by kernel_rfl) (by kernel_rfl) (by kernel_rfl) (fun _ _ _ h => h) (Or.inl ⟨by rfl, ?_⟩) (by assumption) ?_
          rotate_left 1
          · intro w0 hSw
            obtain ⟨s0, s1⟩ := hSw
            go_simp
            try with_reducible rfl
          (try simp only [Act.put, List.setIfInBounds_toArray, List.set_cons_zero, List.set_cons_succ])
          refine wpAnyH_take (i := 9) (oi := ⟨some 81, _, _, _, _, _⟩) (v := ?_) rfl (by kernel_rfl) (by kernel_rfl) (by kernel_rfl) (fun _ _ _ h => h) (Or.inl ⟨by rfl, ?_⟩) (by assumption) ?_
          rotate_left 1
          · intro w0 hSw
            obtain ⟨s0, s1⟩ := hSw
            go_simp
            try with_reducible rfl
          (try simp only [Act.put, List.setIfInBounds_toArray, List.set_cons_zero, List.set_cons_succ])
          refine wpAnyH_take (i := 10) (oi := ⟨some 82, _, _, _, _, _⟩) (v := ?_) rfl (by kernel_rfl) (by kernel_rfl) (by kernel_rfl) (fun _ _ _ h => h) (Or.inl ⟨by rfl, ?_⟩) (by assumption) ?_
          rotate_left 1
          · intro w0 hSw
            obtain ⟨s0, s1⟩ := hSw
            go_simp
            try with_reducible rfl
          (try simp only [Act.put, List.setIfInBounds_toArray, List.set_cons_zero, List.set_cons_succ])
          refine wpAnyH_take (i := 11) (oi := ⟨some 83, _, _, _, _, _⟩) (v := ?_) rfl (by kernel_rfl) (by kernel_rfl) (by kernel_rfl) (fun _ _ _ h => h) (Or.inl ⟨by rfl, ?_⟩) (by assumption) ?_
          rotate_left 1
          · intro w0 hSw
            obtain ⟨s0, s1⟩ := hSw
            go_simp
            try with_reducible rfl
          (try simp only [Act.put, List.setIfInBounds_toArray, List.set_cons_zero, List.set_cons_succ])
          refine wpAnyH_take (i := 12) (oi := ⟨some 84, _, _, _, _, _⟩) (v := ?_) rfl (by kernel_rfl) (by kernel_rfl) (by kernel_rfl) (fun _ _ _ h => h) (Or.inl ⟨by rfl, ?_⟩) (by assumption) ?_
          rotate_left 1
          · intro w0 hSw
            obtain ⟨s0, s1⟩ := hSw
            go_simp
            try with_reducible rfl
          (try simp only [Act.put, List.setIfInBounds_toArray, List.set_cons_zero, List.set_cons_succ])
          refine wpAnyH_take (i := 13) (oi := ⟨some 85, _, _, _, _, _⟩) (v := ?_) rfl (by kernel_rfl) (by kernel_rfl) (by kernel_rfl) (fun _ _ _ h => h) (Or.inl ⟨by rfl, ?_⟩) (by assumption) ?_
          rotate_left 1
          · intro w0 hSw
            obtain ⟨s0, s1⟩ := hSw
            go_simp
            try with_reducible rfl
          (try simp only [Act.put, List.setIfInBounds_toArray, List.set_cons_zero, List.set_cons_succ])
          refine wpAnyH_ready (rs := [1, 14]) (by kernel_rfl) (by simp) ?_
          refine (AllReadyH.cons (o := ⟨some 73, _, _, _, _, _⟩) rfl (fun K hK => ?_) (AllReadyH.cons (o := ⟨some 86, _, _, _, _, _⟩) rfl (fun K hK => ?_) AllReadyH.nil))
          · rw [if_pos (by rfl)]
            go_simp
            refine hK.out _ _ hHeld (fun hHeld => ?_)
            clear hK K
            (try simp only [Act.put, List.setIfInBounds_toArray, List.set_cons_zero, List.set_cons_succ])
            refine wpAnyH_ready (rs := [14]) (by kernel_rfl) (by simp) ?_
            refine AllReadyH.cons (o := ⟨some 86, _, _, _, _, _⟩) rfl (fun K hK => ?_) AllReadyH.nil
            rw [if_pos (by rfl)]
            have mcb : (w13.alloc (.cells #[.int .i64 y, .int .i64 l, .int .i64 ((l : Int) + 1)] 49)).cell? ⟨r5, 1, none⟩ = some (.slice A5 M.length c5) := (HU3.out.below (below_alloc _ _)).b5.cell 1
            have HU6 := hid (HUD.out.below (below_alloc _ (.cells #[.int .i64 y, .int .i64 l, .int .i64 ((l : Int) + 1)] 49)))
            have HR6 := hid (rv_new w13.drew 49 #[.int .i64 y, .int .i64 l, .int .i64 ((l : Int) + 1)])
            have HS6 := hid HU6.out.chg.size
            have kp := And.intro (HU6.out.ur.c0.trans (by rw [show (s'.sv y (l + 1 : Nat)).L.length = n from HLN.out])) ((own_cell (i := p * 2) HU6.out.its).2 _ (itc_at (L := s'.L) HAT.out 0 (by omega)))
            go_simp
            refine hK.out _ _ kp (fun hHeld => ?_)
            clear hK K
            (try simp only [Act.put, List.setIfInBounds_toArray, List.set_cons_zero, List.set_cons_succ])
            refine wpAnyH_ready (rs := [15]) (by kernel_rfl) (by simp) ?_
            refine AllReadyH.cons (o := ⟨some 87, _, _, _, _, _⟩) rfl (fun K hK => ?_) AllReadyH.nil
            rw [if_pos (by rfl)]
            refine wp_appV elt_move (.tmp 73) (.tmp 86) rfl w.heap.size _ M.length (mvc M) HU6.out.mvs rfl _ _ 1 1 [.int .i64 y, .int .i64 l, .int .i64 ((l : Int) + 1)] rfl rfl HR6.out (fun u hu => by simp at hu; rcases hu with rfl | rfl | rfl <;> rfl) (by unfold maxLen; have := HM4.out; omega) (by have := HM4.out; omega) HS6.out ?_
            intro mv2 w7 ho7 hg7
            obtain ⟨gm, cm, rfl, -⟩ := ownV_place ho7 (by omega)
            obtain ⟨hu8, x5, f5, xh, xg⟩ := HU6.out.move (m := (y, l)) ho7 hg7
            have HU8 := hid hu8
            have kq := And.intro (xh.trans (by rw [show (s'.sv y (l + 1 : Nat)).L.length = n from HLN.out])) (xg (p * 2) _ (itc_at (L := s'.L) HAT.out 0 (by omega)))
            clear ho7 hg7 hu8 xh xg
            refine hK.out _ _ kq (fun hHeld => ?_)
            clear hK K
            (try simp only [Act.put, List.setIfInBounds_toArray, List.set_cons_zero, List.set_cons_succ])
            refine wpAnyH_take (i := 16) (oi := ⟨some 88, _, _, _, _, _⟩) (v := ?_) rfl (by kernel_rfl) (by kernel_rfl) (by kernel_rfl) (fun _ _ _ h => h) (Or.inl ⟨by rfl, ?_⟩) (by assumption) ?_
            rotate_left 1
            · intro w0 hSw
              obtain ⟨s0, s1⟩ := hSw
              go_simp
              try with_reducible rfl
            (try simp only [Act.put, List.setIfInBounds_toArray, List.set_cons_zero, List.set_cons_succ])
            refine wpAnyH_ready (rs := [17]) (by kernel_rfl) (by simp) ?_
            refine AllReadyH.cons (o := ⟨none, _, _, _, _, _⟩) rfl (fun K hK => ?_) AllReadyH.nil
            rw [if_pos (by rfl)]
            have kr := And.intro (HU8.out.ur.c0.trans (by rw [show (s'.sv y (l + 1 : Nat)).L.length = n from HLN.out])) ((own_cell (i := p * 2) HU8.out.its).2 _ (itc_at (L := s'.L) HAT.out 0 (by omega)))
            go_simp
            refine hK.out _ _ kr (fun hHeld => ?_)
            clear hK K
            (try simp only [Act.put, List.setIfInBounds_toArray, List.set_cons_zero, List.set_cons_succ])
            refine wpAnyH_done (by kernel_rfl) ?_ _
            refine NoPanic.normal ?_
            go_wp2_with fail
            go_meet
            exact ⟨_, HU8.out⟩
          · rw [if_pos (by rfl)]
            have mcb : (w13.alloc (.cells #[.int .i64 y, .int .i64 l, .int .i64 ((l : Int) + 1)] 49)).cell? ⟨r5, 1, none⟩ = some (.slice A5 M.length c5) := (HU3.out.below (below_alloc _ _)).b5.cell 1
            have HU6 := hid (HUD.out.below (below_alloc _ (.cells #[.int .i64 y, .int .i64 l, .int .i64 ((l : Int) + 1)] 49)))
            have HR6 := hid (rv_new w13.drew 49 #[.int .i64 y, .int .i64 l, .int .i64 ((l : Int) + 1)])
            have HS6 := hid HU6.out.chg.size
            have kp := And.intro (HU6.out.ur.c0.trans (by rw [show (s'.sv y (l + 1 : Nat)).L.length = n from HLN.out])) ((own_cell (i := p * 2) HU6.out.its).2 _ (itc_at (L := s'.L) HAT.out 0 (by omega)))
            go_simp
            refine hK.out _ _ kp (fun hHeld => ?_)
            clear hK K
            (try simp only [Act.put, List.setIfInBounds_toArray, List.set_cons_zero, List.set_cons_succ])
            refine wpAnyH_ready (rs := [1]) (by kernel_rfl) (by simp) ?_
            refine AllReadyH.cons (o := ⟨some 73, _, _, _, _, _⟩) rfl (fun K hK => ?_) AllReadyH.nil
            rw [if_pos (by rfl)]
            go_simp
            refine hK.out _ _ hHeld (fun hHeld => ?_)
            clear hK K
            (try simp only [Act.put, List.setIfInBounds_toArray, List.set_cons_zero, List.set_cons_succ])
            refine wpAnyH_ready (rs := [15]) (by kernel_rfl) (by simp) ?_
            refine AllReadyH.cons (o := ⟨some 87, _, _, _, _, _⟩) rfl (fun K hK => ?_) AllReadyH.nil
            rw [if_pos (by rfl)]
            refine wp_appV elt_move (.tmp 73) (.tmp 86) rfl w.heap.size _ M.length (mvc M) HU6.out.mvs rfl _ _ 1 1 [.int .i64 y, .int .i64 l, .int .i64 ((l : Int) + 1)] rfl rfl HR6.out (fun u hu => by simp at hu; rcases hu with rfl | rfl | rfl <;> rfl) (by unfold maxLen; have := HM4.out; omega) (by have := HM4.out; omega) HS6.out ?_
            intro mv2 w7 ho7 hg7
            obtain ⟨gm, cm, rfl, -⟩ := ownV_place ho7 (by omega)
            obtain ⟨hu8, x5, f5, xh, xg⟩ := HU6.out.move (m := (y, l)) ho7 hg7
            have HU8 := hid hu8
            have kq := And.intro (xh.trans (by rw [show (s'.sv y (l + 1 : Nat)).L.length = n from HLN.out])) (xg (p * 2) _ (itc_at (L := s'.L) HAT.out 0 (by omega)))
            clear ho7 hg7 hu8 xh xg
            refine hK.out _ _ kq (fun hHeld => ?_)
            clear hK K
            (try simp only [Act.put, List.setIfInBounds_toArray, List.set_cons_zero, List.set_cons_succ])
            refine wpAnyH_take (i := 16) (oi := ⟨some 88, _, _, _, _, _⟩) (v := ?_) rfl (by kernel_rfl) (by kernel_rfl) (by kernel_rfl) (fun _ _ _ h => h) (Or.inl ⟨by rfl, ?_⟩) (by assumption) ?_
            rotate_left 1
            · intro w0 hSw
              obtain ⟨s0, s1⟩ := hSw
              go_simp
              try with_reducible rfl
            (try simp only [Act.put, List.setIfInBounds_toArray, List.set_cons_zero, List.set_cons_succ])
            refine wpAnyH_ready (rs := [17]) (by kernel_rfl) (by simp) ?_
            refine AllReadyH.cons (o := ⟨none, _, _, _, _, _⟩) rfl (fun K hK => ?_) AllReadyH.nil
            rw [if_pos (by rfl)]
            have kr := And.intro (HU8.out.ur.c0.trans (by rw [show (s'.sv y (l + 1 : Nat)).L.length = n from HLN.out])) ((own_cell (i := p * 2) HU8.out.its).2 _ (itc_at (L := s'.L) HAT.out 0 (by omega)))
            go_simp
            refine hK.out _ _ kr (fun hHeld => ?_)
            clear hK K
            (try simp only [Act.put, List.setIfInBounds_toArray, List.set_cons_zero, List.set_cons_succ])
            refine wpAnyH_done (by kernel_rfl) ?_ _
            refine NoPanic.normal ?_
            go_wp2_with fail
            go_meet
            exact ⟨_, HU8.out⟩
        case rest =>
        obtain ⟨mv2, hu⟩ := hcut
        have HU14 := hid hu
        clear hu HU3 c0 yc mc
        go_wp2
        go_roundg kk
        case measure => omega
        case rel => exact ⟨l + 1, _, _, _, M ++ [(y, l)], by omega, by omega, by go_num, by simp; omega, by rw [List.append_assoc, List.singleton_append]; have := HM.out; rw [H60.out] at this; exact this, by have := HE.out; rw [H60.out] at this; exact this, HKS.out, HU14.out⟩
      · have H60 := hid (stl_no hc hl3)
        have HE2 := hid (show M = T.2 from by have := HM.out; rw [H60.out, List.append_nil] at this; exact this)
        have HE1 := hid (show s' = T.1 from by have := HE.out; rw [H60.out] at this; exact this)
        generalize s'.ct l = n1 at *
        generalize c l = n2 at *
        have hd : decide (n2 < n1) = false := by simpa using hc
        clear hc
        go_upto_region 7 with fail
        go_quiet (first | (go_at_call 33; exact quietL (HCT.out _)))
        have HU2 := hid (HU1.out.draws nq)
        obtain ⟨A5, c5, e5, -⟩ := OwnV.read HU1.out.mvs
        subst e5
        have HMS := hid (World.ownsRow.lt HU1.out.mvs)
        clear HU1
        generalize wr.drewN nq = w11 at *
        have HPR := hid (r_prune HU2.out.ur HK1.out)
        go_upto_region 13 with (go_at_call 27; refine HPR.out.mono ?_; rintro e w12 ⟨rfl, hu, hc⟩; have HU12 := hid hu; have HC12 := hid hc; clear hu hc)
        have HB4E := hid (HC12.out.bx HU2.out.b4 (fun e => by have := HU2.out.n4; have := HU2.out.ho; omega))
        have HB5E := hid (HC12.out.bx HU2.out.b5 (fun e => by have := HU2.out.n4; have := HU2.out.ho; omega))
        have HMV := hid (show Mvs w12 w.heap.size (.slice A5 M.length c5) M from own_heap HU2.out.mvs (fun j e hl => HC12.out.block j hl (fun e2 => by
          have h1 := (World.ownsRow.lt HU2.out.mvs j e).1
          have h2 := HU2.out.ho
          have h3 : j = h := e2
          omega)))
        have HMO := hid HU2.out.mo
        have HCE := hid (HU2.out.chg.trans HC12.out)
        have HN4 := hid (And.intro HU2.out.n4 (And.intro HU2.out.go (And.intro HU2.out.ho HU2.out.eo)))
        clear HPR HU2 HC12
        go_wp2_with (first
          | (refine wpList_load_bx rfl 39 (.tmp 5) rfl r5 _ _ _ rfl HB5E.out Try.underlying39 rfl (by kernel_rfl) ?_)
          | (refine wpList_store_bx rfl 39 (.tmp 4) (.tmp 93) rfl rfl r4 _ _ #[.int .i64 nx, .slice A5 M.length c5] rfl rfl HB4E.out (by kernel_rfl) rfl (by simp [Value.oneCell']) ?_))
        refine bodyPost_ret (results_bx1 rfl _ rfl (HB4E.out.row (cs' := #[.int .i64 nx, .slice A5 M.length c5])) Try.underlying39 rfl (by kernel_rfl)) rfl ?_
        have hrc := row_chg w12 r4 #[.int .i64 nx, .slice A5 M.length c5]
        obtain ⟨k1, k2, k3, k4⟩ := HN4.out
        refine ⟨some ⟨g9, 0, none⟩, cq, .slice A5 M.length c5, by rw [HNX.out], ?_, ?_, chg_bel HCE.out (hrc.bel HCE.out.size (fun j e => by rw [e]; exact k1.1))⟩
        · rw [HT.out, ← HE2.out]
          exact own_heap HMV.out (fun j e hl => hrc.block j hl (fun e2 => (HMO.out j e).2.1 e2))
        · rw [HUS.out, ← HE1.out]
          exact HU12.out.apart hrc (fun e => by omega) (fun ad e f => by injection e with e; subst e; exact k2.1 f) (fun ad e f => by have := k4 ad e; omega)
end
end Go.Proofs.Ytmkpimpckhppgaa
