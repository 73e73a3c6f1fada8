/-
  What is proved: the reference's Hints tells whether hints may be, of so many blocks; what it writes lies in new memory. Condition: the hints are read as such.
-/
import Derived.Test.YtbcejfonkehjgaaGreatDoorK12
import Derived.Test.YtbcejfonkehjgaaGreatDoorK13
namespace Go.Proofs.YtbcejfonkehjgaaGreatDoor
open Go.RowKit

end Go.Proofs.YtbcejfonkehjgaaGreatDoor
namespace Go.Proofs.YtbcejfonkehjgaaGreatDoor
open Go.RowKit

abbrev f4 (a b c d : Int) (i : Nat) : Int := [a, b, c, d].getD i 0
def pvs (P : Nat → Nat → Int) (m : Nat) : List Value := (List.range (m * 4)).map fun j => .int .i64 (P (j / 4) (j % 4))
theorem pvs_length (P : Nat → Nat → Int) (m : Nat) : (pvs P m).length = m * 4 := by simp [pvs]
theorem pvs_one (P : Nat → Nat → Int) (m : Nat) : ∀ u ∈ pvs P m, u.oneCell' = true := fun u hu => by
  obtain ⟨j, _, rfl⟩ := List.mem_map.1 hu
  rfl
theorem pvs_at (P : Nat → Nat → Int) {m i t : Nat} (hi : i < m) (ht : t < 4) : (pvs P m)[i * 4 + t]? = some (.int .i64 (P i t)) := by
  unfold pvs
  rw [List.getElem?_map, List.getElem?_range (by omega)]
  show some (Value.int .i64 (P ((i * 4 + t) / 4) ((i * 4 + t) % 4))) = _
  rw [show (i * 4 + t) / 4 = i by omega, show (i * 4 + t) % 4 = t by omega]
structure PAt (w : World) (a : Addr) (x : Nat → Int) : Prop where
  lt : a.block < w.heap.size
  c0 : w.cell? a = some (.int .i64 (x 0))
  c1 : w.cell? ⟨a.block, a.off + 1, none⟩ = some (.int .i64 (x 1))
  c2 : w.cell? ⟨a.block, a.off + 2, none⟩ = some (.int .i64 (x 2))
  c3 : w.cell? ⟨a.block, a.off + 3, none⟩ = some (.int .i64 (x 3))
theorem Rv.part {w : World} {A : Option Addr} {P : Nat → Nat → Int} {m q : Nat} (hr : Rv w w.heap.size A (pvs P m)) (hq : q < m) : ∃ ad, A = some ad ∧ PAt w (ad.add (q * 4)) (P q) := by
  obtain ⟨ad, rfl, hb, c0⟩ := hr _ _ (pvs_at P hq (t := 0) (by omega))
  obtain ⟨_, e1, _, c1⟩ := hr _ _ (pvs_at P hq (t := 1) (by omega))
  obtain ⟨_, e2, _, c2⟩ := hr _ _ (pvs_at P hq (t := 2) (by omega))
  obtain ⟨_, e3, _, c3⟩ := hr _ _ (pvs_at P hq (t := 3) (by omega))
  injection e1 with e1
  injection e2 with e2
  injection e3 with e3
  subst e1 e2 e3
  rw [addSucc _ _ _ (by omega)] at c1 c2 c3
  rw [Nat.add_zero] at c0
  exact ⟨ad, rfl, by rw [addBlk]; exact hb, c0, c1, c2, c3⟩
theorem PAt.next {w w' : World} {a : Addr} {x : Nat → Int} (hh : PAt w a x) (hb : Below w.heap.size w w') : PAt w' a x :=
  ⟨Nat.lt_of_lt_of_le hh.lt hb.size, (hb.cell hh.lt).trans hh.c0, (hb.cell (p := ⟨a.block, a.off + 1, none⟩) hh.lt).trans hh.c1, (hb.cell (p := ⟨a.block, a.off + 2, none⟩) hh.lt).trans hh.c2, (hb.cell (p := ⟨a.block, a.off + 3, none⟩) hh.lt).trans hh.c3⟩

























end Go.Proofs.YtbcejfonkehjgaaGreatDoor
namespace Go.Proofs.YtbcejfonkehjgaaGreatDoor
open Go.RowKit

theorem made_same {z : Array Value} {u : Value} (h0 : 0 < z.size) (h : ∀ j, j < z.size → z[j]! = u) (m : Nat) : madeCells z m = (List.replicate m u).toArray := by
  unfold madeCells
  refine Array.ext (by simp) fun j h1 h2 => ?_
  simp only [Array.getElem_map, Array.getElem_range, List.getElem_toArray, List.getElem_replicate]
  exact h _ (Nat.mod_lt _ h0)
theorem wpList_makeS {P : Program} {S e : TypeId} {z : Value} {size bytes : Nat} (E : Elt P S e z size bytes) (u : Value) (hz1 : ∀ j, j < z.cells.size → z.cells[j]! = u) {w : World} {ops : Array Oper} {rest : List Oper} {o : Oper} {a : Act} {Q : Exit → Act → World → Prop} (hgd : o.guard = none) (x y : Operand)
    (ho : o.op = .makeSlice S x y) (n : Nat) (hx : a.eval x = .int .i64 n) (hy : a.eval y = .int .i64 n) (hbytes : bytes * n ≤ 281474976710656) (hn : n ≤ maxLen)
    (h : ∀ w1, Hid (w1 = w.alloc (.cells (List.replicate (n * size) u).toArray e)) → wpList P ops Q rest (a.put o.dst (.slice (some ⟨w.heap.size, 0, none⟩) n n)) w1) : wpList P ops Q (o :: rest) a w := by
  obtain ⟨i, hi, hz, hs, hb⟩ := info_parts E.info
  refine wpList_plain hgd fun K hK => ?_
  have hn' : (n : Int) ≤ 9223372036854775807 := by
    have := hn
    simp [maxLen] at this
    omega
  have hb' : (i.bytes : Int) * (n : Int) ≤ 281474976710656 := by
    have h : ((i.bytes * n : Nat) : Int) ≤ 281474976710656 := by rw [hb]; omega
    rwa [Int.natCast_mul] at h
  have hrun := run_make (P := P) w S e i z E.und hi hz .i64 .i64 n n (by omega) (Int.le_refl _) hb' hn'
  rw [made_same (by rw [E.zc]; exact E.pos) hz1, Int.toNat_natCast, hs] at hrun
  unfold Oper.wp execOp
  simp only [ho, hx, hy, hrun, Sem.run_bind, Sem.run_pure, Result.andThen_ok]
  exact hK _ _ (h _ rfl)
theorem infoFrac : (Tryz.prog.info? 248).map (fun i => (i.zero, i.size, i.bytes)) = some (some (.agg #[.int .i64 0, .int .i64 0]), 2, 16) := by kernel_rfl
theorem elt_frac : Elt Tryz.prog 246 248 (.agg #[.int .i64 0, .int .i64 0]) 2 16 := ⟨Tryz.underlying246, infoFrac, rfl, by decide⟩
theorem frac_same : ∀ j, j < (Value.agg #[.int .i64 0, .int .i64 0]).cells.size → (Value.agg #[.int .i64 0, .int .i64 0]).cells[j]! = .int .i64 0 := fun j hj => by
  have h : j < 2 := hj
  have h2 : j = 0 ∨ j = 1 := by omega
  rcases h2 with rfl | rfl <;> rfl
def dns (hh : Nat → Hn) (q j : Nat) : Value := .int .i64 (if j / 2 < q then (if j % 2 = 0 then (hh (j / 2)).o else (hh (j / 2)).s) else 0)
def DensQ (hh : Nat → Hn) (n : Nat) (w : World) (e : Ending) (w' : World) : Prop :=
  ∃ (k : Nat) (d : Nat → Nat), e = .returned (.slice (some ⟨k, 0, none⟩) n n) ∧ (∀ i, i < n → w'.cell? ⟨k, i, none⟩ = some (.int .i64 (d i : Nat))) ∧ OrdH hh n d ∧ Below w.heap.size w w' ∧ w.heap.size ≤ k
set_option maxHeartbeats 1000000 in
theorem densest_any (A : Option Addr) (n c : Nat) (hh : Nat → Hn) (b : Int) (w : World) (hP : HintsP hh n b) (hr : Rv w w.heap.size A (hvs hh n)) :
    Calls Tryz.prog 159 #[.slice A n c] w (DensQ hh n w) := by
  have hn8 := hP.1
  have HR := hid hr
  have HP := hid hP
  clear hr hP
  go_enter Tryz.func159, Tryz.ntmps159
  go_upto_region 2 with (at_make; refine wpList_makeS elt_frac (.int .i64 0) frac_same rfl (.tmp 9) (.tmp 9) rfl n rfl rfl (by omega) (by unfold maxLen; omega) ?_; intro w1 hw1)
  obtain ⟨g, hg⟩ : ∃ g, w.heap.size = g := ⟨_, rfl⟩
  have hb1 : Below w.heap.size w w1 := by rw [hw1.out]; exact below_alloc w _
  have ha1 : Arr w1 g (n * 2) (dns hh 0) := by
    rw [hw1.out, ← hg]
    refine arr_new w _ _ _ fun j hj => ?_
    simp [dns, hj]
  rw [hg]
  have HB1 := hid hb1
  have HA1 := hid ha1
  have HG := hid hg
  clear hb1 ha1 hg hw1
  go_wp2
  go_loopg [13] n (fun gk t13 wr => ∃ q : Nat, q + gk = n ∧ t13 = .int .i64 q ∧ Below w.heap.size w wr ∧ Arr wr g (n * 2) (dns hh q))
  case atStart => exact ⟨0, by omega, rfl, HB1.out, HA1.out⟩
  case round =>
    clear HB1 HA1
    obtain ⟨q, hq, rfl, hb, ha⟩ := hrel
    have HB := hid hb
    have HA := hid ha
    clear hb ha
    by_cases hlt : q < n
    · have hlt' : (q : Int) < (n : Int) := by omega
      obtain ⟨ad, rfl, hat⟩ := (HR.out.now HB.out).hint hlt
      obtain ⟨⟨f, s, o, l⟩, hH⟩ : ∃ x, hh q = x := ⟨_, rfl⟩
      rw [hH] at hat
      have c0 := hat.f
      have c1 := hat.s
      have c2 := hat.o
      have c3 := hat.l
      dsimp only at c0 c1 c2 c3
      have HH := hid hH
      have hbx := below_alloc wr (.cells #[.int .i64 f, .int .i64 s, .int .i64 o, .bool l] 101)
      have HB3 := hid (on HB.out hbx)
      have HA3 := hid (HA.out.below hbx)
      have HH3 := hid (hbox_new wr ⟨f, s, o, l⟩ 101)
      have HGW := hid HA.out.lt
      clear hat hH hbx
      go_upto_region 5 with fail
      obtain ⟨hb, hhb⟩ : ∃ x, wr.heap.size = x := ⟨_, rfl⟩
      rw [hhb] at HH3 HGW ⊢
      clear c0 c1 c2 c3
      generalize wr.alloc (.cells #[.int .i64 f, .int .i64 s, .int .i64 o, .bool l] 101) = w3 at *
      have x1 := HH3.out.s
      have x2 := HH3.out.o
      dsimp only at x1 x2
      have a0 := HA3.out.cell (q * 2) (by omega)
      have a1 := HA3.out.cell (q * 2 + 1) (by omega)
      have b0 := HA3.out.free (q * 2) (by omega)
      have b1 := HA3.out.free (q * 2 + 1) (by omega)
      unfold dns at a0 a1
      have HB4 := hid (below_set (below_set HB3.out ⟨g, q * 2, none⟩ (.int .i64 o) (by rw [HG.out]; exact Nat.le_refl _)) ⟨g, q * 2 + 1, none⟩ (.int .i64 s) (by rw [HG.out]; exact Nat.le_refl _))
      have HA4 := hid (((HA3.out.set (i := q * 2) (by omega) (.int .i64 o)).set (i := q * 2 + 1) (by omega) (.int .i64 s)).alike (g := dns hh (q + 1)) fun j hj => by
        by_cases h1 : j = q * 2 + 1
        · rw [if_pos h1, h1]
          unfold dns
          rw [if_pos (by omega), if_neg (by omega), show (q * 2 + 1) / 2 = q by omega, HH.out]
        · rw [if_neg h1]
          by_cases h2 : j = q * 2
          · rw [if_pos h2, h2]
            unfold dns
            rw [if_pos (by omega), if_pos (by omega), show q * 2 / 2 = q by omega, HH.out]
          · rw [if_neg h2]
            unfold dns
            have h3 : j / 2 ≠ q := by omega
            by_cases h4 : j / 2 < q
            · rw [if_pos (by omega), if_pos h4]
            · rw [if_neg (by omega), if_neg h4])
      go_wp2
      go_roundg (gk - 1)
      case measure => omega
      case rel => exact ⟨q + 1, by omega, by go_num, HB4.out, HA4.out⟩
    · have hlt' : ¬ (q : Int) < (n : Int) := by omega
      obtain rfl : q = n := by omega
      have HOR := hid (fun wx (ha : Arr wx g (q * 2) (dns hh q)) => order_new wx (some ⟨g, 0, none⟩) g q q (fun i => (hh i).o) (fun i => (hh i).s) (by omega) (.inr rfl) (fun i hi => ⟨by
          rw [ha.cell (i * 2) (by omega)]
          unfold dns
          rw [if_pos (by omega), if_pos (by omega), show i * 2 / 2 = i by omega], by
          rw [ha.cell (i * 2 + 1) (by omega)]
          unfold dns
          rw [if_pos (by omega), if_neg (by omega), show (i * 2 + 1) / 2 = i by omega]⟩) (fun i hi => by
            have := HP.out.2.1 i hi
            unfold okH at this
            unfold okF plain
            omega))
      go_wp2_with (go_at_call 162; refine (HOR.out _ HA.out).mono ?_; rintro e w2 ⟨h | ⟨_, k, d, rfl, hd, hblk, hk⟩, hb⟩; exact absurd h.1 (by omega); have HD := hid hd; have HBK := hid hblk; have HK := hid (Nat.le_trans HB.out.size hk); have HB5 := hid (on HB.out hb); clear hd hblk hk hb)
      go_ret
      exact ⟨k, d, rfl, HD.out, ⟨fun i j h1 h2 => HBK.out.1 i j (Nat.zero_le _) h1 h2, fun i h => (HBK.out.2 i (Nat.zero_le _) h).2⟩, HB5.out, HK.out⟩
end Go.Proofs.YtbcejfonkehjgaaGreatDoor
namespace Go.Proofs.YtbcejfonkehjgaaGreatDoor
open Go.RowKit

theorem infoPart : (Tryz.prog.info? 237).map (fun i => (i.zero, i.size, i.bytes)) = some (some (.agg #[.int .i64 0, .int .i64 0, .int .i64 0, .int .i64 0]), 4, 32) := by kernel_rfl
theorem elt_part : Elt Tryz.prog 191 237 (.agg #[.int .i64 0, .int .i64 0, .int .i64 0, .int .i64 0]) 4 32 := ⟨Tryz.underlying191, infoPart, rfl, by decide⟩
theorem part_same : ∀ j, j < (Value.agg #[.int .i64 0, .int .i64 0, .int .i64 0, .int .i64 0]).cells.size → (Value.agg #[.int .i64 0, .int .i64 0, .int .i64 0, .int .i64 0]).cells[j]! = .int .i64 0 := fun j hj => by
  have h : j < 4 := hj
  have h2 : j = 0 ∨ j = 1 ∨ j = 2 ∨ j = 3 := by omega
  rcases h2 with rfl | rfl | rfl | rfl <;> rfl
def c3n (x : Nat → Nat) : Array Value := #[.int .i64 (x 0 : Nat), .int .i64 (x 1 : Nat), .int .i64 (x 2 : Nat)]
def rmv (r : Nat → Nat) (M t : Nat) : Value := .int .i64 (if t < 3 then r t else M : Nat)
def ptv (f : Nat → Nat → Nat) (j : Nat) : Value := .int .i64 (f (j / 4) (j % 4) : Nat)
theorem ptv_at (f : Nat → Nat → Nat) (i t : Nat) (ht : t < 4) : ptv f (i * 4 + t) = .int .i64 (f i t : Nat) := by unfold ptv; rw [show (i * 4 + t) / 4 = i by omega, show (i * 4 + t) % 4 = t by omega]
structure Alc (w w' : World) (g1 g2 k n : Nat) (d : Nat → Nat) (r : Nat → Nat) (M : Nat) (f : Nat → Nat → Nat) : Prop where
  bel : Below w.heap.size w w'
  rm : Arr w' g1 4 (rmv r M)
  pt : Arr w' g2 (n * 4) (ptv f)
  od : ∀ i, i < n → w'.cell? ⟨k, i, none⟩ = some (.int .i64 (d i : Nat))
def rA (r : Nat → Nat) (s a t : Nat) : Nat := if t < a then nr s r t else r t
def fA (f : Nat → Nat → Nat) (y s : Nat) (r : Nat → Nat) (a i t : Nat) : Nat := if i = y ∧ t < a then pr s r t else f i t
theorem Alc.part {w wr : World} {g1 g2 k n y s a M N : Nat} {d r : Nat → Nat} {f : Nat → Nat → Nat} (h : Alc w wr g1 g2 k n d (rA r s a) M (fA f y s r a)) (ha : a < 4) (hy : y < n) (z : Int) (hz : z = (N : Int)) (hpr : pr s r a = N) (hgg : g1 ≠ g2) (hk : k ≠ g2) (hw : w.heap.size ≤ g2) :
    Alc w (wr.setCell ⟨g2, y * 4 + a, none⟩ (.int .i64 z)) g1 g2 k n d (rA r s a) M (fA f y s r (a + 1)) where
  bel := below_set h.bel _ _ hw
  rm := h.rm.far _ _ fun e => hgg e.symm
  pt := (h.pt.set (i := y * 4 + a) (by omega) (.int .i64 z)).alike fun j hj => by
    by_cases e : j = y * 4 + a
    · subst e
      rw [if_pos rfl, ptv_at _ _ _ ha, hz, ← hpr]
      unfold fA
      rw [if_pos ⟨rfl, by omega⟩]
    · rw [if_neg e]
      unfold ptv fA
      by_cases h1 : j / 4 = y ∧ j % 4 < a
      · rw [if_pos h1, if_pos ⟨h1.1, by omega⟩]
      · rw [if_neg h1, if_neg (by omega)]
  od := fun i hi => by rw [World.cell?_setCell_other _ _ _ _ (by intro q; injection q with q; exact hk q.symm)]; exact h.od i hi
theorem Alc.room {w wr : World} {g1 g2 k n s a M M' R : Nat} {d r : Nat → Nat} {f : Nat → Nat → Nat} (h : Alc w wr g1 g2 k n d (rA r s a) M f) (ha : a < 4) (z : Int) (hz : z = (R : Int)) (hnr : a < 3 → nr s r a = R ∧ M' = M) (hM : a = 3 → M' = R) (hgg : g1 ≠ g2) (hk : k ≠ g1) (hw : w.heap.size ≤ g1) :
    Alc w (wr.setCell ⟨g1, a, none⟩ (.int .i64 z)) g1 g2 k n d (rA r s (a + 1)) M' f where
  bel := below_set h.bel _ _ hw
  rm := (h.rm.set (i := a) ha (.int .i64 z)).alike fun t ht => by
    by_cases e : t = a
    · subst e
      rw [if_pos rfl, hz]
      unfold rmv rA
      by_cases h3 : t < 3
      · rw [if_pos h3, if_pos (by omega), (hnr h3).1]
      · rw [if_neg h3, hM (by omega)]
    · rw [if_neg e]
      unfold rmv rA
      by_cases h3 : t < 3
      · rw [if_pos h3, if_pos h3]
        by_cases h4 : t < a
        · rw [if_pos h4, if_pos (by omega)]
        · rw [if_neg h4, if_neg (by omega)]
      · rw [if_neg h3, if_neg h3, (hnr (by omega)).2]
  pt := h.pt.far _ _ hgg
  od := fun i hi => by rw [World.cell?_setCell_other _ _ _ _ (by intro q; injection q with q; exact hk q.symm)]; exact h.od i hi
def AllocQ (hh : Nat → Hn) (n : Nat) (x : Nat → Nat) (w : World) (e : Ending) (w' : World) : Prop :=
  ∃ g d, e = .returned (.slice (some ⟨g, 0, none⟩) n n) ∧ OrdH hh n d ∧ Arr w' g (n * 4) (ptv (PP (sz hh) d x n)) ∧ Below w.heap.size w w' ∧ w.heap.size ≤ g
set_option maxHeartbeats 2000000 in
theorem allocate_any (A : Option Addr) (n c : Nat) (hh : Nat → Hn) (b : Int) (x : Nat → Nat) (w : World) (hP : HintsP hh n b) (hr : Rv w w.heap.size A (hvs hh n)) (hx : ∀ t, t < 3 → x t ≤ 1000) :
    Calls Tryz.prog 144 #[.slice A n c, .agg (c3n x)] w (AllocQ hh n x w) := by
  have hn8 := hP.1
  have HR := hid hr
  have HP := hid hP
  have hb0 := below_alloc w (.cells (c3n x) 22)
  have hx0 := Bx.new w 22 (c3n x)
  have p0 : (w.alloc (.cells (c3n x) 22)).cell? ⟨w.heap.size, 0, none⟩ = some (.int .i64 (x 0 : Nat)) := hx0.cell 0
  have p1 : (w.alloc (.cells (c3n x) 22)).cell? ⟨w.heap.size, 1, none⟩ = some (.int .i64 (x 1 : Nat)) := hx0.cell 1
  have p2 : (w.alloc (.cells (c3n x) 22)).cell? ⟨w.heap.size, 2, none⟩ = some (.int .i64 (x 2 : Nat)) := hx0.cell 2
  have HB0 := hid hb0
  have HXX := hid hx
  clear hb0 hx0 hr hP hx
  go_enter Tryz.func144, Tryz.ntmps144
  go_upto_region 1 with fail
  generalize w.alloc (.cells (c3n x) 22) = w0 at *
  go_upto_region 2 with fail
  have ha1 : Arr (w0.alloc (.cells #[.int .i64 (x 0 : Nat), .int .i64 (x 1 : Nat), .int .i64 (x 2 : Nat), .int .i64 32] 235)) w0.heap.size 4 (rmv x 32) := arr_new w0 _ _ 4 fun i hi => by
    have h4 : i = 0 ∨ i = 1 ∨ i = 2 ∨ i = 3 := by omega
    rcases h4 with rfl | rfl | rfl | rfl <;> rfl
  have hb1 := on HB0.out (below_alloc w0 (.cells #[.int .i64 (x 0 : Nat), .int .i64 (x 1 : Nat), .int .i64 (x 2 : Nat), .int .i64 32] 235))
  have hl1 := HB0.out.size
  clear p0 p1 p2 HB0
  obtain ⟨g1, hg1⟩ : ∃ g, w0.heap.size = g := ⟨_, rfl⟩
  rw [hg1] at ha1 hl1 ⊢
  generalize w0.alloc (.cells #[.int .i64 (x 0 : Nat), .int .i64 (x 1 : Nat), .int .i64 (x 2 : Nat), .int .i64 32] 235) = w1 at *
  have HA1 := hid ha1
  have HB1 := hid hb1
  have HL1 := hid hl1
  clear ha1 hb1 hl1 hg1
  go_upto_region 3 with (at_make; refine wpList_makeS elt_part (.int .i64 0) part_same rfl (.tmp 20) (.tmp 20) rfl n rfl rfl (by omega) (by unfold maxLen; omega) ?_; intro w2 hw2)
  have hbx : Below w1.heap.size w1 w2 := by rw [hw2.out]; exact below_alloc w1 _
  have ha2 : Arr w2 w1.heap.size (n * 4) (ptv fun _ _ => 0) := by
    rw [hw2.out]
    refine arr_new w1 _ _ _ fun j hj => ?_
    simp [ptv, hj]
  obtain ⟨g2, hg2⟩ : ∃ g, w1.heap.size = g := ⟨_, rfl⟩
  have HA3 := hid (HA1.out.below hbx)
  have HL2 := hid (show g1 < g2 from by rw [← hg2]; exact HA1.out.lt)
  rw [hg2] at ha2 ⊢
  have HB2 := hid (on HB1.out hbx)
  have HA2 := hid ha2
  clear ha2 hbx hw2 hg2 HA1 HB1
  have HDN := hid (densest_any A n c hh b w2 HP.out (HR.out.now HB2.out))
  go_upto_region 4 with (go_at_call 159; refine HDN.out.mono ?_; rintro e w3 ⟨k, d, rfl, hd, hor, hb, hk⟩; have HD := hid hd; have HOR := hid hor; have HK := hid (show g2 < k from Nat.lt_of_lt_of_le HA2.out.lt hk); have HAL := hid (show Alc w w3 g1 g2 k n d x 32 (fun _ _ => 0) from ⟨on HB2.out hb, HA3.out.below hb, HA2.out.below hb, hd⟩); clear hd hor hb hk)
  have HSUM := hid (fun q (hq : q ≤ n) => Nat.le_trans (sz_order (hh := hh) (K := q) (fun i j h1 h2 => HOR.out.inj i j h1 (by omega)) (fun i h => HOR.out.lt i (by omega))) (szs_sum HP.out))
  go_loopg [25] n (fun gk t25 wr => ∃ q M : Nat, q + gk = n ∧ t25 = .int .i64 q ∧ M ≤ 32 ∧ 32 ≤ M + sN (fun i => sz hh (d i)) q ∧ Alc w wr g1 g2 k n d (RM (sz hh) d x q) M (PP (sz hh) d x q))
  case atStart => exact ⟨0, 32, by omega, rfl, by omega, by omega, HAL.out⟩
  case round =>
    clear HAL HA3 HB2 HA2 HD HDN
    obtain ⟨q, M, hq, rfl, hM, hMs, hal⟩ := hrel
    have HAL := hid hal
    clear hal
    by_cases hlt : q < n
    · have hlt' : (q : Int) < (n : Int) := by omega
      have k0 := HAL.out.od q hlt
      have hy := HOR.out.lt q hlt
      have hrx : ∀ t, t < 3 → RM (sz hh) d x q t ≤ 1000 := fun t ht => Nat.le_trans (RM_le (Nat.zero_le q) t) (HXX.out t ht)
      have hsum := HSUM.out (q + 1) (by omega)
      have HRM := hid (show RM (sz hh) d x (q + 1) = nr (sz hh (d q)) (RM (sz hh) d x q) from rfl)
      have HPP := hid (show PP (sz hh) d x (q + 1) = fun i t => if i = d q then pr (sz hh (d q)) (RM (sz hh) d x q) t else PP (sz hh) d x q i t from rfl)
      have HSN := hid (show sN (fun i => sz hh (d i)) (q + 1) = sN (fun i => sz hh (d i)) q + sz hh (d q) from rfl)
      rw [HSN.out] at hsum
      generalize RM (sz hh) d x q = r at *
      generalize PP (sz hh) d x q = f at *
      generalize sN (fun i => sz hh (d i)) q = sm at *
      obtain ⟨y, hdy⟩ : ∃ y, d q = y := ⟨_, rfl⟩
      rw [hdy] at k0 hy hsum HRM HPP HSN
      have hy' : (y : Int) < (n : Int) := by omega
      obtain ⟨ad, rfl, hat⟩ := (HR.out.now HAL.out.bel).hint hy
      have ho := HP.out.2.1 y hy
      unfold okH at ho
      have c1 := hat.s
      obtain ⟨s, hs⟩ : ∃ s : Nat, sz hh y = s := ⟨_, rfl⟩
      have hs2 : (hh y).s = (s : Int) := by unfold sz at hs; omega
      rw [hs] at hsum HRM HPP HSN
      rw [hs2] at c1
      have HRX := hid hrx
      clear hdy hrx hat ho hs hs2
      generalize gk = K0 at *
      go_wp2
      go_loopg [9, 34] 4 (fun gk t9 t34 wr => ∃ a L M' : Nat, a + gk = 4 ∧ t9 = .int .i64 L ∧ t34 = .int .i64 a ∧ (a < 4 → L = lf s r a ∧ M' = M) ∧ L ≤ 32 ∧ M' ≤ 32 ∧ 32 ≤ M' + (sm + s) ∧ Alc w wr g1 g2 k n d (rA r s a) M' (fA f y s r a))
      case atStart => exact ⟨0, s, M, by omega, rfl, rfl, fun _ => ⟨rfl, rfl⟩, by omega, hM, by omega, ⟨HAL.out.bel, HAL.out.rm.alike fun t _ => by unfold rmv rA; simp, HAL.out.pt.alike fun j _ => by unfold ptv fA; simp, HAL.out.od⟩⟩
      case round =>
        clear HAL k0
        obtain ⟨a, L, M', ha, rfl, rfl, haL, hL, hM', hMs', hal⟩ := hrel
        have HAL := hid hal
        clear hal
        by_cases hlt4 : a < 4
        · obtain ⟨rfl, rfl⟩ := haL hlt4
          clear haL
          have hlt4' : (a : Int) < 4 := by omega
          obtain ⟨R, hRv, hR3, hR4⟩ : ∃ R : Nat, rmv (rA r s a) M' a = .int .i64 R ∧ (a < 3 → R = r a) ∧ (a = 3 → R = M') := by
            by_cases h3 : a < 3
            · exact ⟨r a, by unfold rmv rA; rw [if_pos h3, if_neg (Nat.lt_irrefl a)], fun _ => rfl, fun h => by omega⟩
            · exact ⟨M', by unfold rmv; rw [if_neg h3], fun h => absurd h h3, fun _ => rfl⟩
          have hRle : R ≤ 1000 := by
            by_cases h3 : a < 3
            · rw [hR3 h3]; exact HRX.out a h3
            · rw [hR4 (by omega)]; omega
          have hls := lf_le s r a
          have hpr3 : a < 3 → pr s r a = min (lf s r a) R := fun h3 => by unfold pr; rw [if_pos h3, hR3 h3]
          have hpr4 : a = 3 → pr s r a = lf s r a := fun h3 => by subst h3; rfl
          have hnr3 : a < 3 → nr s r a = R - lf s r a := fun h3 => by unfold nr; rw [hR3 h3]
          have hlf3 : a < 3 → lf s r (a + 1) = lf s r a - R := fun h3 => by rw [hR3 h3]; rfl
          have r0 := HAL.out.rm.cell a hlt4
          have s0 := HAL.out.pt.cell (y * 4 + a) (by omega)
          have s1 := HAL.out.pt.free (y * 4 + a) (by omega)
          have HPR3 := hid hpr3
          have HPR4 := hid hpr4
          have HNR3 := hid hnr3
          have HLF3 := hid hlf3
          have HR4 := hid hR4
          rw [hRv] at r0
          have HRV := hid hRv
          clear hpr3 hpr4 hnr3 hlf3 hR3 hR4 hRv
          generalize lf s r a = L at *
          by_cases hLR : L ≤ R
          · have hLR' : (L : Int) ≤ (R : Int) := by omega
            have HP1 := hid (HAL.out.part (N := L) hlt4 hy (L : Int) rfl (by
              by_cases h3 : a < 3
              · rw [HPR3.out h3]; omega
              · exact HPR4.out (by omega)) (by have := HL2.out; omega) (by have := HK.out; omega) (by have := HL1.out; have := HL2.out; omega))
            have HP2 := hid (HP1.out.room (M' := if a < 3 then M' else R - L) (R := R - L) hlt4 ((R : Int) - (L : Int)) (by omega) (fun h3 => ⟨HNR3.out h3, if_pos h3⟩) (fun h3 => if_neg (by omega)) (by have := HL2.out; omega) (by have := HL2.out; have := HK.out; omega) HL1.out)
            have q0 := HP1.out.rm.cell a hlt4
            have q1 := HP1.out.rm.free a hlt4
            rw [HRV.out] at q0
            go_upto_region 12 with fail
            generalize wr.setCell ⟨g2, y * 4 + a, none⟩ (.int .i64 (L : Int)) = w5 at *
            clear r0 s0 s1
            go_upto_region 13 with fail
            generalize w5.setCell ⟨g1, a, none⟩ (.int .i64 ((R : Int) - (L : Int))) = w6 at *
            clear q0 q1
            go_wp2
            go_roundg (gk - 1)
            case measure => omega
            case rel =>
              refine ⟨a + 1, 0, _, by omega, rfl, by go_num, fun h4 => ⟨?_, if_pos (by omega)⟩, by omega, ?_, ?_, HP2.out⟩
              · rw [HLF3.out (by omega)]; omega
              · split
                · omega
                · have := HR4.out (by omega); omega
              · split
                · omega
                · have := HR4.out (by omega); omega
          · have hLR' : ¬ (L : Int) ≤ (R : Int) := by omega
            have hLR2 : (R : Int) < (L : Int) := by omega
            have HP1 := hid (HAL.out.part (N := R) hlt4 hy (R : Int) rfl (by
              by_cases h3 : a < 3
              · rw [HPR3.out h3]; omega
              · have := HR4.out (by omega); omega) (by have := HL2.out; omega) (by have := HK.out; omega) (by have := HL1.out; have := HL2.out; omega))
            have HP2 := hid (HP1.out.room (M' := M') (R := 0) hlt4 0 rfl (fun h3 => ⟨by rw [HNR3.out h3]; omega, rfl⟩) (fun h3 => by have := HR4.out h3; omega) (by have := HL2.out; omega) (by have := HL2.out; have := HK.out; omega) HL1.out)
            have q0 := HP1.out.rm.cell a hlt4
            have q1 := HP1.out.rm.free a hlt4
            rw [HRV.out] at q0
            go_upto_region 12 with fail
            generalize wr.setCell ⟨g2, y * 4 + a, none⟩ (.int .i64 (R : Int)) = w5 at *
            clear r0 s0 s1
            go_upto_region 13 with fail
            generalize w5.setCell ⟨g1, a, none⟩ (.int .i64 0) = w6 at *
            clear q0 q1
            go_wp2
            go_roundg (gk - 1)
            case measure => omega
            case rel =>
              refine ⟨a + 1, L - R, M', by omega, by go_num, by go_num, fun h4 => ⟨?_, rfl⟩, by omega, hM', hMs', HP2.out⟩
              rw [HLF3.out (by omega)]
        · have hlt4' : ¬ (a : Int) < 4 := by omega
          obtain rfl : a = 4 := by omega
          clear haL
          go_wp2
          go_roundg (K0 - 1)
          case measure => omega
          case rel =>
            refine ⟨q + 1, M', by omega, by go_num, hM', by rw [HSN.out]; exact hMs', ⟨HAL.out.bel, HAL.out.rm.alike fun t _ => ?_, HAL.out.pt.alike fun j _ => ?_, HAL.out.od⟩⟩
            · rw [HRM.out]
              unfold rmv rA
              by_cases h3 : t < 3
              · rw [if_pos h3, if_pos h3, if_pos (by omega)]
              · rw [if_neg h3, if_neg h3]
            · rw [HPP.out]
              unfold ptv fA
              show Value.int .i64 ((if j / 4 = y then pr s r (j % 4) else f (j / 4) (j % 4) : Nat) : Int) = _
              by_cases h3 : j / 4 = y
              · rw [if_pos h3, if_pos ⟨h3, by omega⟩]
              · rw [if_neg h3, if_neg fun h => h3 h.1]
    · have hlt' : ¬ (q : Int) < (n : Int) := by omega
      obtain rfl : q = n := by omega
      go_wp2
      go_ret
      exact ⟨g2, d, rfl, HOR.out, HAL.out.pt, HAL.out.bel, by have := HL1.out; have := HL2.out; omega⟩
end Go.Proofs.YtbcejfonkehjgaaGreatDoor
