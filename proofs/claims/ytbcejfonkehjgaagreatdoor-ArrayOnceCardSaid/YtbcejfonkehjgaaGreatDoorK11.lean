/-
  What is proved: for all fractions the statement on comparing two returns true, and so does the one on three; what they write lies in new memory. No condition.
  (Left out here, as nothing of this law reaches it: comp_yes, comp_no, comp_walk.) -/
import Derived.Test.YtbcejfonkehjgaaGreatDoorK10
import Derived.Test.YtbcejfonkehjgaaGreatDoorK02
import Derived.Test.YtbcejfonkehjgaaGreatDoorK09
namespace Go.Proofs.YtbcejfonkehjgaaGreatDoor
open Go.RowKit

theorem cmp3 (x y : Nat) : (x < y ∧ cmpI x y = -1 ∧ cmpI y x = 1) ∨ (x = y ∧ cmpI x y = 0 ∧ cmpI y x = 0) ∨ (y < x ∧ cmpI x y = 1 ∧ cmpI y x = -1) := by
  unfold cmpI
  rcases Nat.lt_trichotomy x y with h | h | h
  · exact .inl ⟨h, by rw [if_pos h], by rw [if_neg (by omega), if_pos h]⟩
  · subst h; exact .inr (.inl ⟨rfl, by rw [if_neg (Nat.lt_irrefl _), if_neg (Nat.lt_irrefl _)], by rw [if_neg (Nat.lt_irrefl _), if_neg (Nat.lt_irrefl _)]⟩)
  · exact .inr (.inr ⟨h, by rw [if_neg (by omega), if_pos h], by rw [if_pos h]⟩)

end Go.Proofs.YtbcejfonkehjgaaGreatDoor
namespace Go.Proofs.YtbcejfonkehjgaaGreatDoor
open Go.RowKit










theorem trip (t1 b1 t2 b2 t3 b3 : Nat) (h1 : 0 < b1) (h2 : 0 < b2) (h3 : 0 < b3) :
    ∃ x y z : Int, cmpI (t1 * b2) (t2 * b1) = x ∧ cmpI (t2 * b3) (t3 * b2) = y ∧ cmpI (t1 * b3) (t3 * b1) = z ∧
      (x = -1 ∨ (x = 0 ∧ y = -1) ∨ (x = 1 ∧ y = -1) ∨ (x = 0 ∧ y = 0 ∧ z = 0) ∨ (x = 0 ∧ y = 1 ∧ z = 1) ∨ (x = 1 ∧ y = 0 ∧ z = 1) ∨ (x = 1 ∧ y = 1 ∧ z = 1)) := by
  have e1 : t1 * b2 * b3 = t1 * b3 * b2 := by rw [Nat.mul_assoc, Nat.mul_assoc, Nat.mul_comm b2]
  have e2 : t2 * b1 * b3 = t2 * b3 * b1 := by rw [Nat.mul_assoc, Nat.mul_assoc, Nat.mul_comm b1]
  have e3 : t3 * b2 * b1 = t3 * b1 * b2 := by rw [Nat.mul_assoc, Nat.mul_assoc, Nat.mul_comm b2]
  refine ⟨_, _, _, rfl, rfl, rfl, ?_⟩
  have lt : ∀ {a b c : Nat}, 0 < c → (a * c < b * c ↔ a < b) := fun h => Nat.mul_lt_mul_right h
  rcases cmp3 (t1 * b2) (t2 * b1) with ⟨l1, x1, _⟩ | ⟨l1, x1, _⟩ | ⟨l1, x1, _⟩
  · exact .inl x1
  · rcases cmp3 (t2 * b3) (t3 * b2) with ⟨l2, y1, _⟩ | ⟨l2, y1, _⟩ | ⟨l2, y1, _⟩
    · exact .inr (.inl ⟨x1, y1⟩)
    · have h : t1 * b3 = t3 * b1 := by
        refine Nat.eq_of_mul_eq_mul_right h2 ?_
        rw [← e1, l1, e2, l2, e3]
      rw [x1, y1, h]
      unfold cmpI
      simp
    · have h : t3 * b1 < t1 * b3 := by
        refine (lt h2).1 ?_
        rw [← e3, ← e1, l1, e2]
        exact (lt h1).2 l2
      rw [x1, y1]
      unfold cmpI
      simp [h]
      omega
  · rcases cmp3 (t2 * b3) (t3 * b2) with ⟨l2, y1, _⟩ | ⟨l2, y1, _⟩ | ⟨l2, y1, _⟩
    · exact .inr (.inr (.inl ⟨x1, y1⟩))
    · have h : t3 * b1 < t1 * b3 := by
        refine (lt h2).1 ?_
        rw [← e3, ← e1, ← l2, ← e2]
        exact (lt h3).2 l1
      rw [x1, y1]
      unfold cmpI
      simp [h]
      omega
    · have h : t3 * b1 < t1 * b3 := by
        refine (lt h2).1 ?_
        rw [← e3, ← e1]
        exact Nat.lt_trans ((lt h1).2 l2) (e2 ▸ (lt h3).2 l1)
      rw [x1, y1]
      unfold cmpI
      simp [h]
      omega




























































































































end Go.Proofs.YtbcejfonkehjgaaGreatDoor
namespace Go.Proofs.YtbcejfonkehjgaaGreatDoor
open Go.RowKit

def cfOf (top bot : Nat → Nat) (x y : Nat) : Int := cmpI (top y * bot x) (top x * bot y)
def lOf (top bot : Nat → Nat) (x y : Nat) : Prop := cfOf top bot x y = -1 ∨ (cfOf top bot x y = 0 ∧ x < y)

theorem cf_flip (top bot : Nat → Nat) (x y : Nat) : (cfOf top bot x y = -1 ∧ cfOf top bot y x = 1) ∨ (cfOf top bot x y = 0 ∧ cfOf top bot y x = 0) ∨ (cfOf top bot x y = 1 ∧ cfOf top bot y x = -1) := by
  unfold cfOf
  rcases cmp3 (top y * bot x) (top x * bot y) with h | h | h
  · exact .inl h.2
  · exact .inr (.inl h.2)
  · exact .inr (.inr h.2)

theorem ord_of (n : Nat) (top bot : Nat → Nat) (hb : ∀ i, i < n → 0 < bot i) : Ord n (cfOf top bot) (lOf top bot) where
  irr := fun x h => by
    rcases h with h | h
    · rcases cf_flip top bot x x with g | g | g <;> omega
    · omega
  trans := fun x y z hx hy hz h1 h2 => by
    obtain ⟨X, Y, Z, e1, e2, e3, hh⟩ := trip (top x) (bot x) (top y) (bot y) (top z) (bot z) (hb x hx) (hb y hy) (hb z hz)
    have f1 : cfOf top bot y x = X := e1
    have f2 : cfOf top bot z y = Y := e2
    have f3 : cfOf top bot z x = Z := e3
    unfold lOf at h1 h2 ⊢
    have g1 := cf_flip top bot x y
    have g2 := cf_flip top bot y z
    have g3 := cf_flip top bot x z
    omega
  ahead := fun x y _ _ h => by
    rcases cf_flip top bot x y with g | g | g
    · exact .inl g.1
    · omega
    · omega
  behind := fun x y hxy _ h => by
    rcases cf_flip top bot x y with g | g | g
    · omega
    · exact .inr ⟨g.2, hxy⟩
    · exact .inl g.2

def OFr (w : World) (g n : Nat) (top bot : Nat → Nat) : Prop :=
  ∀ i, i < n → w.cell? ⟨g, i * 2, none⟩ = some (.int .i64 (top i : Nat)) ∧ w.cell? ⟨g, i * 2 + 1, none⟩ = some (.int .i64 (bot i : Nat))

set_option maxRecDepth 1000000 in
set_option maxHeartbeats 1000000 in
theorem clos_ok (w0 : World) (k n c g : Nat) (cb : Addr) (top bot : Nat → Nat) (hcb : w0.cell? cb = some (.slice (some ⟨g, 0, none⟩) n c)) (hf : OFr w0 g n top bot) (hk1 : cb.block ≠ k) (hk2 : g ≠ k)
    (ht : ∀ i, i < n → top i ≤ 2147483647) (hb : ∀ i, i < n → bot i ≤ 2147483647) : CmpOk w0 k n cb (cfOf top bot) := by
  intro w hg x y hx hy
  have l1 := World.block_lt_of_cell? w0 _ hcb
  have hA : g < w0.heap.size := World.block_lt_of_cell? w0 _ (hf x hx).1
  have hc0 := (hg.cell_far cb l1 (by intro e; injection e with e; exact hk1 e)).trans hcb
  have far : ∀ i, w.cell? ⟨g, i, none⟩ = w0.cell? ⟨g, i, none⟩ := fun i => hg.cell_far ⟨g, i, none⟩ hA (by intro e; injection e with e; exact hk2 e)
  have x1 := (far _).trans (hf x hx).1
  have x2 := (far _).trans (hf x hx).2
  have y1 := (far _).trans (hf y hy).1
  have y2 := (far _).trans (hf y hy).2
  have kk : ∀ s : Since w, ∀ a v, w.cell? a = some v → s.at_.cell? a = some v := fun s a v h => (s.bel.cell (World.block_lt_of_cell? w _ h)).trans h
  have c0 := fun s => kk s _ _ hc0
  have c1 := fun s => kk s _ _ x1
  have c2 := fun s => kk s _ _ x2
  have c3 := fun s => kk s _ _ y1
  have c4 := fun s => kk s _ _ y2
  have g1 : (x : Int) < (n : Int) := by omega
  have g2 : (y : Int) < (n : Int) := by omega
  have tx := ht x hx
  have ty := ht y hy
  have bx := hb x hx
  have by' := hb y hy
  unfold cfOf
  generalize top x = tx' at *
  generalize bot x = bx' at *
  generalize top y = ty' at *
  generalize bot y = by'' at *
  clear kk far hc0 x1 x2 y1 y2 hf hcb
  go_enter Tryz.func166, Tryz.ntmps166
  go_wp2
  refine wp_region_since (by kernel_rfl) (by kernel_rfl) ?_
  repeat (quiet_step (first | (go_at_call 167; refine Calls.since _ (lcompare_any _ ty' by'' tx' bx' ty by' tx bx))))
  refine wpQuiet_nil ?_
  intro _ hw'
  obtain ⟨s, rfl⟩ := hw'
  go_wp2
  go_ret
  exact ⟨rfl, s.bel⟩

theorem sortf_ok (w0 : World) (k n c : Nat) (cb : Addr) (cf : Nat → Nat → Int) (L : Nat → Nat → Prop) (hO : Ord n cf L) (hcmp : CmpOk w0 k n cb cf) (hn : n ≤ 1000)
    (w : World) (h : SoSt w0 k n id w) :
    Calls Tryz.prog 165 #[.slice (some ⟨k, 0, none⟩) n c, .func (.func 166) #[] #[.pointer (some cb)]] w fun e w' =>
      e = .returned (.tuple #[]) ∧ ∃ d', SoSt w0 k n d' w' ∧ Blk L d' 0 n := by
  go_enter Tryz.func165, Tryz.ntmps165
  go_wp2_with fail
  refine (stable_ok w0 k n c cb cf L hO hcmp hn w h).mono ?_
  rintro e w1 ⟨rfl, d', S, B⟩
  go_wp2
  go_end0
  exact ⟨rfl, d', S, B⟩
end Go.Proofs.YtbcejfonkehjgaaGreatDoor
namespace Go.Proofs.YtbcejfonkehjgaaGreatDoor
open Go.RowKit

def FrI (w : World) (g n : Nat) (top bot : Nat → Int) : Prop :=
  ∀ i, i < n → w.cell? ⟨g, i * 2, none⟩ = some (.int .i64 (top i)) ∧ w.cell? ⟨g, i * 2 + 1, none⟩ = some (.int .i64 (bot i))
theorem FrI.now {w w' : World} {g n : Nat} {top bot : Nat → Int} (h : FrI w g n top bot) (hb : Below w.heap.size w w') : FrI w' g n top bot := fun i hi =>
  ⟨(hb.cell (World.block_lt_of_cell? w _ (h i hi).1)).trans (h i hi).1, (hb.cell (World.block_lt_of_cell? w _ (h i hi).2)).trans (h i hi).2⟩

theorem eInts : (Tryz.prog.info? 3).map (fun i => (i.zero, i.size, i.bytes)) = some (some (.int .i64 0), 1, 8) := by kernel_rfl

set_option maxRecDepth 1000000 in
set_option maxHeartbeats 8000000 in
theorem order_new (w : World) (A : Option Addr) (g n c : Nat) (top bot : Nat → Int) (hn : n ≤ 9223372036854775807) (hA : n = 0 ∨ A = some ⟨g, 0, none⟩) (hF : FrI w g n top bot) (hok : ∀ i, i < n → okF (top i) (bot i)) :
    Calls Tryz.prog 162 #[.slice A n c] w fun e w' =>
      ((1000 < n ∧ e = .returned (.tuple #[.slice none 0 0, .int .i64 4])) ∨
       (n ≤ 1000 ∧ ∃ (k : Nat) (d : Nat → Nat), e = .returned (.tuple #[.slice (some ⟨k, 0, none⟩) n n, .int .i64 0]) ∧ (∀ i, i < n → w'.cell? ⟨k, i, none⟩ = some (.int .i64 (d i : Nat))) ∧ Blk (lOf (fun i => (top i).toNat) (fun i => (bot i).toNat)) d 0 n ∧ w.heap.size ≤ k)) ∧ Below w.heap.size w w' := by
  have HF := hid hF
  have HO := hid hok
  clear hF hok
  go_enter Tryz.func162, Tryz.ntmps162
  go_wp2
  have hbel0 := below_alloc w (.cells #[.slice A n c] 246)
  have hcx : (w.alloc (.cells #[.slice A n c] 246)).cell? ⟨w.heap.size, 0, none⟩ = some (.slice A n c) := World.cell?_alloc_new w _ _ 0
  have hcx2 : w.heap.size < (w.alloc (.cells #[.slice A n c] 246)).heap.size := by rw [World.size_alloc]; omega
  obtain ⟨wx, hwx⟩ : ∃ wx, w.alloc (.cells #[.slice A n c] 246) = wx := ⟨_, rfl⟩
  rw [hwx] at hbel0 hcx hcx2 ⊢
  clear hwx
  go_loopw [10] (fun i wr => ∃ q : Nat, i = .int .i64 q ∧ q ≤ n ∧ Below wx.heap.size wx wr) (fun i _ => n - (intOf i).toNat)
  case atStart => exact ⟨0, rfl, Nat.zero_le _, Below.refl _ _⟩
  case round =>
    obtain ⟨q, rfl, hq, hb⟩ := hrel
    by_cases hlt0 : q < n
    · have hlt : (q : Int) < (n : Int) := by omega
      obtain ⟨x, hx⟩ : ∃ x, top q = x := ⟨_, rfl⟩
      obtain ⟨y, hy⟩ : ∃ y, bot q = y := ⟨_, rfl⟩
      obtain ⟨c1, c2⟩ := (HF.out.now (on hbel0 hb)) q (by omega)
      rw [hx] at c1
      rw [hy] at c2
      have hA' : A = some ⟨g, 0, none⟩ := by rcases hA with h | h; omega; exact h
      subst hA'
      clear hcx
      go_wp2_with fail
      refine (wright_any _ x y).mono ?_
      rintro e w2 ⟨rfl, hb2⟩
      replace hb := on (on hb (below_alloc wr _)) hb2
      clear hb2
      have : okF x y := by rw [← hx, ← hy]; exact HO.out q (by omega)
      rw [decide_eq_true this]
      go_wp2_with fail
      go_roundw
      case rel => exact ⟨q + 1, rfl, by omega, hb⟩
      case measure => simp [intOf]; omega
    · have hlt : ¬ (q : Int) < (n : Int) := by omega
      have cx := (hb.cell (p := ⟨w.heap.size, 0, none⟩) hcx2).trans hcx
      have HB := hid (on hbel0 hb)
      by_cases hbig : 1000 < n
      · have hbig' : (n : Int) > 1000 := by omega
        go_wp2
        go_ret2
        first | exact ⟨.inl ⟨hbig, rfl⟩, HB.out⟩ | exact ⟨.inl rfl, HB.out⟩
      · have hbig' : ¬ (n : Int) > 1000 := by omega
        have hbr : wr.heap.size ≤ wr.heap.size := Nat.le_refl _
        obtain ⟨ii, hi1, hi2, hi3, hi4⟩ := info_parts eInts
        go_wp2_with (refine wpList_make_full wr rfl _ _ 48 rfl wr.heap.size 3 ii (.int .i64 0) 1 Tryz.underlying48 hi1 hi2 hi3 .i64 .i64 n n n rfl rfl rfl rfl (by rw [hi4]; omega) (by unfold maxLen; omega) (Nat.le_refl _) ?_; intro wm hown hgr)
        have hown' : wm.ownsRow wr.heap.size 3 1 (.slice (some ⟨wr.heap.size, 0, none⟩) n n) n (List.replicate n (.int .i64 0)) := by
          have e : (madeCells (Value.cells (.int .i64 0)) (n * 1)).toList = List.replicate n (.int .i64 0) := by
            rw [Nat.mul_one]; exact toList_madeCells_one _ n
          rw [← e]; exact hown
        have hkm : wr.heap.size < wm.heap.size := (World.ownsRow.lt hown' _ rfl).2
        have hbm : Below wr.heap.size wr wm := (Below.refl _ wr).grown hgr (Nat.le_refl _) (fun k e => by cases e)
        have S0 : SoSt wm wr.heap.size n (fun _ => 0) wm := by
          refine ⟨World.grownBy.refl wm _, hkm, fun i hi => ?_, fun i _ => World.ownsRow.frozenAt hown' i⟩
          rw [World.ownsRow.cellAt hown' i (by omega), List.getElem?_replicate, if_pos hi]
          rfl
        have cbm := (hbm.cell (p := ⟨w.heap.size, 0, none⟩) (Nat.lt_of_lt_of_le hcx2 hb.size)).trans cx
        have hwr : w.heap.size < wr.heap.size := Nat.lt_of_lt_of_le hcx2 hb.size
        have FM := HF.out.now (on HB.out hbm)
        have hOk := HO.out
        have hcmp : CmpOk wm wr.heap.size n ⟨w.heap.size, 0, none⟩ (cfOf (fun i => (top i).toNat) (fun i => (bot i).toNat)) := by
          by_cases h1 : n = 0
          · intro w1 _ x y hx
            omega
          · have h0 : A = some ⟨g, 0, none⟩ := by rcases hA with h | h; exact absurd h h1; exact h
            subst h0
            refine clos_ok wm wr.heap.size n c g _ _ _ cbm (fun i hi => ?_) (by show w.heap.size ≠ _; omega) ?_ (fun i hi => ?_) fun i hi => ?_
            · obtain ⟨f1, f2⟩ := FM i hi
              obtain ⟨⟨o1, _⟩, ⟨o2, _⟩, _⟩ := hOk i hi
              rw [f1, f2, Int.toNat_of_nonneg o1, Int.toNat_of_nonneg o2]
              exact ⟨rfl, rfl⟩
            · have := World.block_lt_of_cell? w _ (HF.out 0 (by omega)).1
              intro eg
              have : g < w.heap.size := this
              omega
            · have := (hOk i hi).1.2; show (top i).toNat ≤ _; omega
            · have := (hOk i hi).2.1.2; show (bot i).toNat ≤ _; omega
        have hord := ord_of n (fun i => (top i).toNat) (fun i => (bot i).toNat) (fun i hi => by have := (hOk i hi).2.2; show 0 < (bot i).toNat; omega)
        have HC := hid hcmp
        have HR := hid hord
        have HS0 := hid S0
        have HBM := hid (on HB.out hbm)
        clear hcmp hord S0 hOk FM cbm hown hown' hgr hbm cx
        generalize wr.heap.size = k at *
        go_loopw [26] (fun i w2 => ∃ (q : Nat) (d : Nat → Nat), i = .int .i64 q ∧ q ≤ n ∧ SoSt wm k n d w2 ∧ ∀ t, t < q → d t = t) (fun i _ => n - (intOf i).toNat)
        case atStart => exact ⟨0, _, rfl, Nat.zero_le _, HS0.out, fun t ht => absurd ht (Nat.not_lt_zero t)⟩
        case round =>
          obtain ⟨q2, d, rfl, hq2, hs2, hd⟩ := hrel
          have HS := hid hs2
          have HD := hid hd
          clear hd
          by_cases hlt2 : q2 < n
          · have hlt3 : (q2 : Int) < (n : Int) := by omega
            have c1 := hs2.cell q2 hlt2
            have f1 := hs2.free q2 hlt2
            clear hs2
            go_wp2
            go_roundw
            case rel =>
              refine ⟨q2 + 1, _, rfl, by omega, HS.out.set hlt2 q2, fun t ht => ?_⟩
              by_cases e : t = q2
              · rw [if_pos e, e]
              · rw [if_neg e]; exact HD.out t (by omega)
            case measure => simp [intOf]; omega
          · have hlt3 : ¬ (q2 : Int) < (n : Int) := by omega
            clear hs2
            have hmf : ∀ (fn : Fn) (first cap : Array Value) (w : World), (Instr.makeFunc fn first cap).run Tryz.prog w = .ok (.func fn first cap) w := fun _ _ _ _ => rfl
            go_wp2_with fail
            refine (sortf_ok wm k n n ⟨w.heap.size, 0, none⟩ _ _ HR.out HC.out (by omega) _ (HS.out.alike fun t ht => (HD.out t (by omega)).symm)).mono ?_
            rintro e w3 ⟨rfl, d3, S3, B3⟩
            have HB3 := hid B3
            have HS3 := hid S3
            clear B3 S3
            go_wp2
            go_ret2
            exact ⟨.inr ⟨by omega, k, d3, rfl, HS3.out.cell, HB3.out, by omega⟩, HBM.out.grown HS3.out.grown HBM.out.size fun j e => by injection e with e; omega⟩
end Go.Proofs.YtbcejfonkehjgaaGreatDoor
