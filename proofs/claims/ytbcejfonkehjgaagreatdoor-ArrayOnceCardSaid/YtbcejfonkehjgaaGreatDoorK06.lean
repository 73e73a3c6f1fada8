/-
  What is proved: what an LRU in memory is (a block of two cells: its space, its capacity); New, Use, Add, Remove, Has, All, Len, of one that is there and of none. Condition: the LRU lies in memory as one.
-/
import Derived.Test.YtbcejfonkehjgaaGreatDoorK03
import Derived.Test.YtbcejfonkehjgaaGreatDoorK04
import Derived.Deep.RegionHeld3
import Derived.BigQuiet
import Derived.Test.YtbcejfonkehjgaaGreatDoorK02
import Derived.Test.YtbcejfonkehjgaaGreatDoorRows
import Derived.BigRegion
import Derived.Deep.QuietTactic
import Derived.RegionTactic
namespace Go.Proofs.YtbcejfonkehjgaaGreatDoor
open Go.RowKit

theorem okp_one {L : List Int} {x : Int} : okp [L] 0 x ↔ vb x := by
  unfold okp isl
  simp
theorem putE_one (L : List Int) (x : Int) : putE [L] 0 x = if vb x then 0 else 3 := by
  unfold putE
  by_cases h : vb x
  · rw [if_pos h, if_pos (okp_one.2 h)]
  · rw [if_neg h, if_neg (fun e => h (okp_one.1 e))]
theorem front_one {L : List Int} {x : Int} (h : vb x) : frontS [L] 0 x = [x :: wo x L] := by
  unfold frontS
  rw [if_pos (okp_one.2 h)]
  rfl
theorem inS_one {L : List Int} {x : Int} : inS [L] x ↔ x ∈ L := by
  unfold inS
  constructor
  · rintro ⟨i, l, hi, hm⟩
    cases i with
    | zero => simp at hi; rw [hi]; exact hm
    | succ i => simp at hi
  · exact fun h => ⟨0, L, rfl, h⟩
theorem remE_one (L : List Int) (x : Int) (h : x ∈ L) (hv : vb x) : remE [L] x = 0 := by
  unfold remE
  rw [if_pos hv, dec_true (inS_one.2 h)]
  rfl
theorem wo_last : ∀ {l : List Int} (hn : l ≠ []), l.Nodup → wo (l.getLast hn) l = l.dropLast := by
  intro l hn hd
  have e := List.dropLast_concat_getLast hn
  have h2 : (l.dropLast ++ l.getLast hn :: []).Nodup := by rw [e]; exact hd
  have h3 := wo_split h2
  rw [e] at h3
  rw [h3, List.append_nil]
structure Lq (w : World) (g k C : Nat) (L : List Int) : Prop where
  box : Bx w g 204 #[.pointer (some ⟨k, 0, none⟩), .int .i64 C]
  sq : Sq w k [L]
  ne : g ≠ k
  cap : 1 ≤ C ∧ C ≤ 16
section
variable {w w' : World} {g k C : Nat} {L L' : List Int}
theorem Lq.below (h : Lq w g k C L) (hb : Below w.heap.size w w') : Lq w' g k C L := ⟨h.box.next hb, h.sq.below hb, h.ne, h.cap⟩
theorem Lq.draws (h : Lq w g k C L) (n : Nat) : Lq (w.drewN n) g k C L := h.below (below_draws (Below.refl _ _) n)
theorem Lq.step (h : Lq w g k C L) (hs : Sq w' k [L']) (hc : Chg w w' (· = k) (· = k)) : Lq w' g k C L' := ⟨hc.bx h.box h.ne, hs, h.ne, h.cap⟩
theorem Lq.chg {F G : Nat → Prop} (h : Lq w g k C L) (hc : Chg w w' F G) (h1 : ¬ F g) (h2 : ¬ F k) : Lq w' g k C L := ⟨hc.bx h.box h1, h.sq.same (hc.block k h.sq.lt h2), h.ne, h.cap⟩
theorem Lq.nd (h : Lq w g k C L) : L.Nodup := h.sq.wf.1.nd 0 L rfl
theorem Lq.vb (h : Lq w g k C L) {x : Int} (hx : x ∈ L) : vb x := h.sq.wf.1.lt 0 L x rfl hx
theorem Lq.c0 (h : Lq w g k C L) : w.cell? ⟨g, 0, none⟩ = some (.pointer (some ⟨k, 0, none⟩)) := h.box.cell 0
theorem Lq.c1 (h : Lq w g k C L) : w.cell? ⟨g, 1, none⟩ = some (.int .i64 C) := h.box.cell 1
end
def cp (m : Int) : Nat := (min (max m 1) 16).toNat
theorem cp_le (m : Int) : 1 ≤ cp m ∧ cp m ≤ 16 := by unfold cp; omega
set_option maxRecDepth 10000 in
set_option maxHeartbeats 1000000 in
theorem lru_new (m : Int) (w : World) : Calls Tryz.prog 81 #[.int .i64 m] w fun e w' => ∃ g k, e = .returned (.pointer (some ⟨g, 0, none⟩)) ∧ Lq w' g k (cp m) [] ∧ Below w.heap.size w w' ∧ w.heap.size ≤ g ∧ w.heap.size ≤ k := by
  have HE := hid (show (if 16 < (if m < 1 then (1 : Int) else m) then (16 : Int) else if m < 1 then 1 else m) = (cp m : Nat) from by
    unfold cp
    split <;> split <;> omega)
  have hle := cp_le m
  generalize cp m = C at *
  have h3 : (m < 1 ∧ C = 1) ∨ (¬ m < 1 ∧ 16 < m ∧ C = 16) ∨ (¬ m < 1 ∧ ¬ 16 < m ∧ m = C) := by
    have := HE.out
    split at this <;> split at this <;> omega
  clear HE
  rcases h3 with ⟨h1, rfl⟩ | ⟨h1, h2, rfl⟩ | ⟨h1, h2, rfl⟩
  all_goals
    go_enter Tryz.func81, Tryz.ntmps81
    go_wp2_with (go_at_call 112; refine (lnew_any 1 _).mono ?_; rintro e w1 ⟨k, rfl, hs, hb, hk⟩; rw [show empt (cl 1) = [[]] from by decide] at hs; have HS0 := hid hs; have HB0 := hid hb; have HK := hid hk; clear hs hb hk)
    go_ret
    exact ⟨w1.heap.size, k, rfl, ⟨Bx.new w1 _ _, HS0.out.below (below_alloc w1 _), fun e => by have := HS0.out.lt; omega, hle⟩, on HB0.out (below_alloc w1 _), HB0.out.size, HK.out⟩
section
variable {w : World} {g k C : Nat} {L : List Int}
set_option maxHeartbeats 400000 in
theorem lru_has (h : Lq w g k C L) (x : Int) : Calls Tryz.prog 239 #[.pointer (some ⟨g, 0, none⟩), .int .i64 x] w fun e w' => e = .returned (.bool (dec (x ∈ L))) ∧ w = w' := by
  have c0 := h.c0
  by_cases hx : x ∈ L
  · rw [dec_true hx]
    have HO := hid (of_yes h.sq (i := 0) (l := L) rfl hx)
    clear h hx
    go_enter Tryz.func239, Tryz.ntmps239
    go_wp2_with (go_at_call 210; refine HO.out.mono ?_; rintro e w' ⟨rfl, rfl⟩)
    go_ret
    exact ⟨rfl, rfl⟩
  · rw [dec_false hx]
    have HO := hid (of_no h.sq (x := x) (fun e => hx (inS_one.1 e)))
    clear h hx
    go_enter Tryz.func239, Tryz.ntmps239
    go_wp2_with (go_at_call 210; refine HO.out.mono ?_; rintro e w' ⟨rfl, rfl⟩)
    go_ret
    exact ⟨rfl, rfl⟩
set_option maxHeartbeats 400000 in
theorem lru_all (h : Lq w g k C L) : Calls Tryz.prog 238 #[.pointer (some ⟨g, 0, none⟩)] w (Told w L) := by
  have c0 := h.c0
  have HA := hid (all_in h.sq (i := 0) (l := L) rfl)
  clear h
  go_enter Tryz.func238, Tryz.ntmps238
  go_wp2_with (go_at_call 208; refine HA.out.mono ?_; rintro e w' ⟨A, c, rfl, ho, hg⟩; have HO := hid ho; have HG := hid hg; clear ho hg)
  go_ret
  exact ⟨A, c, rfl, HO.out, HG.out⟩
set_option maxHeartbeats 400000 in
theorem lru_len (h : Lq w g k C L) : Calls Tryz.prog 240 #[.pointer (some ⟨g, 0, none⟩)] w fun e w' => e = .returned (.int .i64 L.length) ∧ Below w.heap.size w w' := by
  have c0 := h.c0
  have HA := hid (len_in h.sq (i := 0) (l := L) rfl)
  clear h
  go_enter Tryz.func240, Tryz.ntmps240
  go_wp2_with (go_at_call 205; refine HA.out.mono ?_; rintro e w' ⟨rfl, hb⟩; have HB := hid hb; clear hb)
  go_ret
  exact ⟨rfl, HB.out⟩
noncomputable def useL (x : Int) (L : List Int) : List Int := if dec (x ∈ L) then x :: wo x L else L
set_option maxHeartbeats 400000 in
theorem lru_use (h : Lq w g k C L) (x : Int) : Calls Tryz.prog 242 #[.pointer (some ⟨g, 0, none⟩), .int .i64 x] w fun e w' => e = .returned (.bool (dec (x ∈ L))) ∧ Lq w' g k C (useL x L) ∧ Chg w w' (· = k) (· = k) := by
  have c0 := h.c0
  have HH := hid (lru_has h x)
  by_cases hx : x ∈ L
  · have hv := h.vb hx
    have e1 : useL x L = x :: wo x L := by unfold useL; rw [dec_true hx]; rfl
    rw [dec_true hx] at HH ⊢
    rw [e1]
    have HF := hid (front_any h.sq 0 x)
    rw [putE_one, if_pos hv, front_one hv] at HF
    have H := hid h
    clear h hx hv e1
    go_enter Tryz.func242, Tryz.ntmps242
    go_wp2_with (first | (go_at_call 239; refine HH.out.mono ?_; rintro e w' ⟨rfl, rfl⟩) | (go_at_call 207; refine HF.out.mono ?_; rintro e w' ⟨rfl, hs, hc⟩; have HS := hid hs; have HC := hid hc; clear hs hc))
    go_ret
    exact ⟨rfl, H.out.step HS.out HC.out, HC.out⟩
  · have e1 : useL x L = L := by unfold useL; rw [dec_false hx]; rfl
    rw [dec_false hx] at HH ⊢
    rw [e1]
    have H := hid h
    clear h hx e1
    go_enter Tryz.func242, Tryz.ntmps242
    go_wp2_with (go_at_call 239; refine HH.out.mono ?_; rintro e w' ⟨rfl, rfl⟩)
    go_ret
    exact ⟨rfl, H.out, Chg.refl _ _⟩
set_option maxHeartbeats 400000 in
theorem lru_remove (h : Lq w g k C L) (x : Int) : Calls Tryz.prog 241 #[.pointer (some ⟨g, 0, none⟩), .int .i64 x] w fun e w' => e = .returned (.bool (dec (x ∈ L))) ∧ Lq w' g k C (wo x L) ∧ Chg w w' (· = k) (· = k) := by
  have c0 := h.c0
  have HR := hid (remove_any h.sq x)
  rw [show woS x [L] = [wo x L] from rfl] at HR
  have e : (remE [L] x == 0) = dec (x ∈ L) := by
    by_cases hx : x ∈ L
    · rw [remE_one L x hx (h.vb hx), dec_true hx]; rfl
    · rw [dec_false hx]
      unfold remE
      rw [dec_false (fun e => hx (inS_one.1 e))]
      split <;> rfl
  have e2 : decide (remE [L] x = 0) = dec (x ∈ L) := by rw [← e]; rfl
  rw [← e2]
  generalize remE [L] x = z at *
  have H := hid h
  clear h e e2
  go_enter Tryz.func241, Tryz.ntmps241
  go_wp2_with (go_at_call 209; refine HR.out.mono ?_; rintro e w' ⟨rfl, hs, hc⟩; have HS := hid hs; have HC := hid hc; clear hs hc)
  go_ret
  exact ⟨rfl, H.out.step HS.out HC.out, HC.out⟩
def goes (C : Nat) (x : Int) (L : List Int) : Prop := vb x ∧ C < (x :: wo x L).length
instance (C : Nat) (x : Int) (L : List Int) : Decidable (goes C x L) := inferInstanceAs (Decidable (_ ∧ _))
def vict (C : Nat) (x : Int) (L : List Int) : Int := if goes C x L then (x :: wo x L).getLast (by simp) else 0
def addE (x : Int) : Int := if vb x then 0 else 3
def addL (C : Nat) (x : Int) (L : List Int) : List Int := if goes C x L then (x :: wo x L).dropLast else if vb x then x :: wo x L else L
set_option maxHeartbeats 1000000 in
theorem lru_add (h : Lq w g k C L) (x : Int) : Calls Tryz.prog 237 #[.pointer (some ⟨g, 0, none⟩), .int .i64 x] w fun e w' =>
    e = .returned (.tuple #[.int .i64 (vict C x L), .bool (decide (goes C x L)), .int .i64 (addE x)]) ∧ Lq w' g k C (addL C x L) ∧ Chg w w' (· = k) (· = k) := by
  have c0 := h.c0
  have HF := hid (front_any h.sq 0 x)
  rw [putE_one] at HF
  by_cases hv : vb x
  · have e1 : addE x = 0 := if_pos hv
    rw [if_pos hv, front_one hv] at HF
    rw [e1]
    by_cases hg : goes C x L
    · have e2 : vict C x L = (x :: wo x L).getLast (by simp) := if_pos hg
      have e3 : addL C x L = (x :: wo x L).dropLast := if_pos hg
      rw [e2, e3, decide_eq_true hg]
      have hlt := hg.2
      have H := hid h
      obtain ⟨n, hn⟩ : ∃ n, (x :: wo x L).length = n := ⟨_, rfl⟩
      rw [hn] at hlt
      have HN := hid hn
      have hlv : lastV (x :: wo x L) = .tuple #[.int .i64 ((x :: wo x L).getLast (by simp)), .bool true] := dif_neg (by simp)
      have HLV := hid hlv
      have hmem : (x :: wo x L).getLast (by simp) ∈ x :: wo x L := List.getLast_mem _
      have HM := hid hmem
      have hwl : ∀ hd : (x :: wo x L).Nodup, wo ((x :: wo x L).getLast (by simp)) (x :: wo x L) = (x :: wo x L).dropLast := fun hd => wo_last (by simp) hd
      have HWL := hid hwl
      clear h e1 e2 e3 hv hg hn hlv hmem hwl
      generalize (x :: wo x L).getLast (by simp) = v at *
      go_enter Tryz.func237, Tryz.ntmps237
      go_upto_region 6 with (go_at_call 207; refine HF.out.mono ?_; rintro e w1 ⟨rfl, hs, hc⟩; have HQ := hid (H.out.step hs hc); have HC := hid hc; clear hs hc)
      clear c0
      have c1 := HQ.out.c1
      have HQD := hid (show Lq w1.drew g k C (x :: wo x L) from HQ.out.draws 1)
      go_region_held3 (fun w' => w'.cell? ⟨g, 1, none⟩ = some (.int .i64 C)) (first | exact kp | exact c1) (first | (go_at_call 240; refine (lru_len HQD.out).mono ?_; rintro e w2 ⟨rfl, hb⟩; rw [HN.out]; have HQ2 := hid (HQD.out.below hb); have HC2 := hid (HC.out.trans ((Chg.of (below_draws (Below.refl _ _) 1) _).trans (Chg.of hb _))); have kp := HQ2.out.c1; clear hb))
      have c0 := HQ2.out.c0
      go_wp2_with (first | (go_at_call 212; refine (last_in HQ2.out.sq (i := 0) (l := x :: wo x L) rfl).mono ?_; rintro e w3 ⟨rfl, d, rfl⟩; rw [HLV.out]; have HQ3 := hid (HQ2.out.draws d); have HC3 := hid (Chg.draws HC2.out d)) | (go_at_call 241; refine (lru_remove HQ3.out v).mono ?_; rintro e w4 ⟨rfl, hq, hc⟩; rw [dec_true HM.out]; have HQ4 := hid hq; have HC4 := hid (HC3.out.trans hc); clear hq hc))
      go_ret3
      have hq := HQ4.out
      rw [HWL.out HQ3.out.nd] at hq
      exact ⟨rfl, hq, HC4.out⟩
    · have e2 : vict C x L = 0 := if_neg hg
      have e3 : addL C x L = x :: wo x L := by unfold addL; rw [if_neg hg, if_pos hv]
      rw [e2, e3, decide_eq_false hg]
      have hlt : ¬ C < (x :: wo x L).length := fun e => hg ⟨hv, e⟩
      have H := hid h
      obtain ⟨n, hn⟩ : ∃ n, (x :: wo x L).length = n := ⟨_, rfl⟩
      rw [hn] at hlt
      have HN := hid hn
      clear h e1 e2 e3 hv hg hn
      go_enter Tryz.func237, Tryz.ntmps237
      go_upto_region 6 with (go_at_call 207; refine HF.out.mono ?_; rintro e w1 ⟨rfl, hs, hc⟩; have HQ := hid (H.out.step hs hc); have HC := hid hc; clear hs hc)
      clear c0
      have c1 := HQ.out.c1
      have HQD := hid (show Lq w1.drew g k C (x :: wo x L) from HQ.out.draws 1)
      go_region_held3 (fun w' => w'.cell? ⟨g, 1, none⟩ = some (.int .i64 C)) (first | exact kp | exact c1) (first | (go_at_call 240; refine (lru_len HQD.out).mono ?_; rintro e w2 ⟨rfl, hb⟩; rw [HN.out]; have HQ2 := hid (HQD.out.below hb); have HC2 := hid (HC.out.trans ((Chg.of (below_draws (Below.refl _ _) 1) _).trans (Chg.of hb _))); have kp := HQ2.out.c1; clear hb))
      go_wp2
      go_ret3
      exact ⟨rfl, HQ2.out, HC2.out⟩
  · have hg : ¬ goes C x L := fun e => hv e.1
    have e1 : addE x = 3 := if_neg hv
    have e2 : vict C x L = 0 := if_neg hg
    have e3 : addL C x L = L := by unfold addL; rw [if_neg hg, if_neg hv]
    rw [if_neg hv, show frontS [L] 0 x = [L] from by unfold frontS; rw [if_neg (fun e => hv (okp_one.1 e))]] at HF
    rw [e1, e2, e3, decide_eq_false hg]
    have H := hid h
    clear h e1 e2 e3 hv hg
    go_enter Tryz.func237, Tryz.ntmps237
    go_wp2_with (go_at_call 207; refine HF.out.mono ?_; rintro e w1 ⟨rfl, hs, hc⟩; have HQ := hid (H.out.step hs hc); have HC := hid hc; clear hs hc)
    go_ret3
    exact ⟨rfl, HQ.out, HC.out⟩
end
end Go.Proofs.YtbcejfonkehjgaaGreatDoor
namespace Go.Proofs.YtbcejfonkehjgaaGreatDoor

open Go.RowKit

structure SoSt (w0 : World) (k n : Nat) (d : Nat → Nat) (w : World) : Prop where
  grown : w0.grownBy w (some k)
  lt : k < w0.heap.size
  cell : ∀ i, i < n → w.cell? ⟨k, i, none⟩ = some (.int .i64 (d i : Nat))
  free : ∀ i, i < n → w.frozen? ⟨k, i, none⟩ = false

def swp (d : Nat → Nat) (i j : Nat) : Nat → Nat := fun t => if t = j then d i else if t = i then d j else d t

section
variable {w0 w w' : World} {k n : Nat} {d d' : Nat → Nat}
theorem SoSt.here (h : SoSt w0 k n d w) : k < w.heap.size := Nat.lt_of_lt_of_le h.lt h.grown.size
theorem SoSt.below (h : SoSt w0 k n d w) (hb : Below w.heap.size w w') : SoSt w0 k n d w' where
  grown := h.grown.trans ⟨hb.os, hb.tape, hb.output, hb.size, fun j hj _ => hb.block j hj⟩
  lt := h.lt
  cell := fun i hi => (hb.cell (p := ⟨k, i, none⟩) h.here).trans (h.cell i hi)
  free := fun i hi => (hb.frozen (p := ⟨k, i, none⟩) h.here).trans (h.free i hi)
theorem SoSt.drewN (h : SoSt w0 k n d w) (m : Nat) : SoSt w0 k n d (w.drewN m) := h.below (below_drewN' w m)
  where below_drewN' (w : World) (m : Nat) : Below w.heap.size w (w.drewN m) := ⟨rfl, rfl, rfl, Nat.le_refl _, fun _ _ => rfl⟩
theorem SoSt.drew (h : SoSt w0 k n d w) : SoSt w0 k n d w.drew := h.below (Below.refl _ _).drew
theorem SoSt.alike (h : SoSt w0 k n d w) (hd : ∀ i, i < n → d' i = d i) : SoSt w0 k n d' w := ⟨h.grown, h.lt, fun i hi => by rw [hd i hi]; exact h.cell i hi, h.free⟩
theorem SoSt.set (h : SoSt w0 k n d w) {i : Nat} (hi : i < n) (x : Nat) : SoSt w0 k n (fun t => if t = i then x else d t) (w.setCell ⟨k, i, none⟩ (.int .i64 (x : Nat))) where
  grown := h.grown.trans (grown_set w ⟨k, i, none⟩ _)
  lt := h.lt
  cell := fun t ht => by
    by_cases e : t = i
    · subst e
      rw [World.cell?_setCell_same _ _ _ (h.cell t ht), if_pos rfl]
    · rw [World.cell?_setCell_other _ _ _ _ (by intro q; injection q with _ q; exact e q.symm), if_neg e]
      exact h.cell t ht
  free := fun t ht => by rw [World.frozen?_setCell]; exact h.free t ht
  where grown_set (w : World) (a : Addr) (u : Value) : w.grownBy (w.setCell a u) (some a.block) := by
          refine ⟨rfl, rfl, rfl, by unfold World.setCell; split <;> simp, fun j hj hne => ?_⟩
          exact Below.heap_setCell w a u j (by intro e; exact hne (by rw [e]))
theorem SoSt.swp (h : SoSt w0 k n d w) {i j : Nat} (hi : i < n) (hj : j < n) :
    SoSt w0 k n (swp d i j) ((w.setCell ⟨k, i, none⟩ (.int .i64 (d j : Nat))).setCell ⟨k, j, none⟩ (.int .i64 (d i : Nat))) :=
  ((h.set hi (d j)).set hj (d i)).alike fun _ _ => rfl
end

set_option maxRecDepth 1000000 in
set_option maxHeartbeats 1000000 in
theorem swapRange_ok (w0 : World) (k n c a b m : Nat) (fv : Value) (hn : n ≤ 1000) (ha : a + m ≤ b) (hb : b + m ≤ n) (d : Nat → Nat) (w : World) (h : SoSt w0 k n d w) :
    Calls Tryz.prog 178 #[.slice (some ⟨k, 0, none⟩) n c, .int .i64 a, .int .i64 b, .int .i64 m, fv] w fun e w' =>
      e = .returned (.tuple #[]) ∧ ∃ d', SoSt w0 k n d' w' ∧ (∀ t, t < m → d' (a + t) = d (b + t) ∧ d' (b + t) = d (a + t)) ∧ ∀ t, (∀ s, s < m → t ≠ a + s ∧ t ≠ b + s) → d' t = d t := by
  go_enter Tryz.func178, Tryz.ntmps178
  go_wp2
  go_loopw [10] (fun i wr => ∃ (q : Nat) (d' : Nat → Nat), i = .int .i64 q ∧ q ≤ m ∧ SoSt w0 k n d' wr ∧ (∀ t, t < q → d' (a + t) = d (b + t) ∧ d' (b + t) = d (a + t)) ∧ ∀ t, (∀ s, s < q → t ≠ a + s ∧ t ≠ b + s) → d' t = d t) (fun i _ => m - (intOf i).toNat)
  case atStart => exact ⟨0, d, rfl, Nat.zero_le _, h, fun t ht => absurd ht (Nat.not_lt_zero t), fun _ _ => rfl⟩
  case round =>
    obtain ⟨q, d', rfl, hq, hs, h1, h2⟩ := hrel
    have H1 := hid h1
    have H2 := hid h2
    have HS := hid hs
    clear h1 h2 h
    by_cases hlt : q < m
    · have hlt' : (q : Int) < (m : Int) := by omega
      obtain ⟨x, hx⟩ : ∃ x, d' (a + q) = x := ⟨_, rfl⟩
      obtain ⟨y, hy⟩ : ∃ y, d' (b + q) = y := ⟨_, rfl⟩
      have ca := hs.cell (a + q) (by omega)
      have cb := hs.cell (b + q) (by omega)
      rw [hx] at ca
      rw [hy] at cb
      have fa := hs.free (a + q) (by omega)
      have fb := hs.free (b + q) (by omega)
      have g1 : 0 ≤ (a : Int) + (q : Int) := by omega
      have g2 : (a : Int) + (q : Int) < (n : Int) := by omega
      have g3 : ((a : Int) + (q : Int)).toNat = a + q := by omega
      have g4 : 0 ≤ (b : Int) + (q : Int) := by omega
      have g5 : (b : Int) + (q : Int) < (n : Int) := by omega
      have g6 : ((b : Int) + (q : Int)).toNat = b + q := by omega
      clear hs
      go_wp2
      go_region
      go_wp2
      go_roundw
      case rel =>
        refine ⟨q + 1, swp d' (a + q) (b + q), by congr 1, by omega, ?_, ?_, ?_⟩
        · have := HS.out.swp (i := a + q) (j := b + q) (by omega) (by omega)
          rw [hx, hy] at this
          exact this.drew
        · intro t ht
          unfold swp
          by_cases e : t = q
          · subst e
            have h2 := H2.out
            have p1 : d' (a + t) = d (a + t) := h2 _ fun s hs => by omega
            have p2 : d' (b + t) = d (b + t) := h2 _ fun s hs => by omega
            rw [if_neg (by omega), if_pos rfl, if_pos rfl, p1, p2]
            exact ⟨rfl, rfl⟩
          · rw [if_neg (by omega), if_neg (by omega), if_neg (by omega), if_neg (by omega)]
            exact H1.out t (by omega)
        · intro t ht
          have := ht q (by omega)
          unfold swp
          rw [if_neg (by omega), if_neg (by omega)]
          exact H2.out t fun s hs => ht s (by omega)
      case measure => simp [intOf]; omega
    · have hge : ¬ (q : Int) < (m : Int) := by omega
      have : q = m := by omega
      subst this
      go_wp2
      go_end0
      exact ⟨rfl, d', HS.out, H1.out, fun t ht => H2.out t fun s hs => ht s hs⟩
end Go.Proofs.YtbcejfonkehjgaaGreatDoor
namespace Go.Proofs.YtbcejfonkehjgaaGreatDoor
open Go.RowKit

def rotF (d : Nat → Nat) (a m b : Nat) : Nat → Nat := fun t => if a ≤ t ∧ t < a + (b - m) then d (t + (m - a)) else if a + (b - m) ≤ t ∧ t < b then d (t - (b - m)) else d t

theorem swapped {d d2 : Nat → Nat} {a b m : Nat} (hab : a + m ≤ b) (h1 : ∀ t, t < m → d2 (a + t) = d (b + t) ∧ d2 (b + t) = d (a + t)) (h2 : ∀ t, (∀ s, s < m → t ≠ a + s ∧ t ≠ b + s) → d2 t = d t) :
    (∀ t, a ≤ t → t < a + m → d2 t = d (t + (b - a))) ∧ (∀ t, b ≤ t → t < b + m → d2 t = d (t - (b - a))) ∧ ∀ t, ¬ (a ≤ t ∧ t < a + m) → ¬ (b ≤ t ∧ t < b + m) → d2 t = d t := by
  refine ⟨fun t h3 h4 => ?_, fun t h3 h4 => ?_, fun t h3 h4 => h2 t fun s hs => by omega⟩
  · have h := (h1 (t - a) (by omega)).1
    rw [show a + (t - a) = t by omega] at h
    exact h.trans (congrArg d (by omega))
  · have h := (h1 (t - b) (by omega)).2
    rw [show b + (t - b) = t by omega] at h
    exact h.trans (congrArg d (by omega))

theorem rot_left {d d2 : Nat → Nat} {lo m hi : Nat} (hlo : lo + (hi - m) < m) (hm : m < hi)
    (A : ∀ t, lo ≤ t → t < lo + (hi - m) → d2 t = d (t + (m - lo))) (B : ∀ t, m ≤ t → t < m + (hi - m) → d2 t = d (t - (m - lo))) (C : ∀ t, ¬ (lo ≤ t ∧ t < lo + (hi - m)) → ¬ (m ≤ t ∧ t < m + (hi - m)) → d2 t = d t) (t : Nat) :
    rotF d2 (lo + (hi - m)) m hi t = rotF d lo m hi t := by
  unfold rotF
  by_cases c1 : t < lo
  · rw [if_neg (by omega), if_neg (by omega), if_neg (by omega), if_neg (by omega)]
    exact C t (by omega) (by omega)
  by_cases c2 : t < lo + (hi - m)
  · rw [if_neg (by omega), if_neg (by omega), if_pos (by omega)]
    exact A t (by omega) c2
  by_cases c3 : t < lo + (hi - m) + (hi - m)
  · rw [if_pos (by omega), if_neg (by omega), if_pos (by omega)]
    exact (B _ (by omega) (by omega)).trans (congrArg d (by omega))
  by_cases c4 : t < hi
  · rw [if_neg (by omega), if_pos (by omega), if_neg (by omega), if_pos (by omega)]
    exact C _ (by omega) (by omega)
  · rw [if_neg (by omega), if_neg (by omega), if_neg (by omega), if_neg (by omega)]
    exact C t (by omega) (by omega)

theorem rot_right {d d2 : Nat → Nat} {lo m hi i : Nat} (hi1 : i = m - lo) (h0 : lo < m) (hm : m + i < hi)
    (A : ∀ t, lo ≤ t → t < lo + i → d2 t = d (t + (hi - i - lo))) (B : ∀ t, hi - i ≤ t → t < hi - i + i → d2 t = d (t - (hi - i - lo))) (C : ∀ t, ¬ (lo ≤ t ∧ t < lo + i) → ¬ (hi - i ≤ t ∧ t < hi - i + i) → d2 t = d t) (t : Nat) :
    rotF d2 lo m (hi - i) t = rotF d lo m hi t := by
  unfold rotF
  by_cases c1 : t < lo
  · rw [if_neg (by omega), if_neg (by omega), if_neg (by omega), if_neg (by omega)]
    exact C t (by omega) (by omega)
  by_cases c2 : t < lo + (hi - i - m)
  · rw [if_pos (by omega), if_pos (by omega)]
    exact C _ (by omega) (by omega)
  by_cases c3 : t < hi - i
  · rw [if_neg (by omega), if_pos (by omega), if_pos (by omega)]
    exact (A _ (by omega) (by omega)).trans (congrArg d (by omega))
  by_cases c4 : t < hi
  · rw [if_neg (by omega), if_neg (by omega), if_neg (by omega), if_pos (by omega)]
    exact (B _ (by omega) (by omega)).trans (congrArg d (by omega))
  · rw [if_neg (by omega), if_neg (by omega), if_neg (by omega), if_neg (by omega)]
    exact C t (by omega) (by omega)

theorem rot_end {d d2 : Nat → Nat} {lo m hi i : Nat} (h1 : lo + i = m) (h2 : m + i = hi)
    (A : ∀ t, lo ≤ t → t < lo + i → d2 t = d (t + (m - lo))) (B : ∀ t, m ≤ t → t < m + i → d2 t = d (t - (m - lo))) (C : ∀ t, ¬ (lo ≤ t ∧ t < lo + i) → ¬ (m ≤ t ∧ t < m + i) → d2 t = d t) (t : Nat) :
    d2 t = rotF d lo m hi t := by
  unfold rotF
  by_cases c1 : lo ≤ t ∧ t < lo + (hi - m)
  · rw [if_pos c1]; exact A t (by omega) (by omega)
  by_cases c2 : lo + (hi - m) ≤ t ∧ t < hi
  · rw [if_neg c1, if_pos c2]; exact (B t (by omega) (by omega)).trans (congrArg d (by omega))
  · rw [if_neg c1, if_neg c2]; exact C t (by omega) (by omega)

set_option maxRecDepth 1000000 in
set_option maxHeartbeats 1000000 in
theorem rotate_ok (w0 : World) (k n c a m b : Nat) (fv : Value) (hn : n ≤ 1000) (ha : a < m) (hm : m < b) (hb : b ≤ n) (d : Nat → Nat) (w : World) (h : SoSt w0 k n d w) :
    Calls Tryz.prog 175 #[.slice (some ⟨k, 0, none⟩) n c, .int .i64 a, .int .i64 m, .int .i64 b, fv] w fun e w' =>
      e = .returned (.tuple #[]) ∧ SoSt w0 k n (rotF d a m b) w' := by
  have s1 : (m : Int) - (a : Int) = ((m - a : Nat) : Int) := by omega
  have s2 : (b : Int) - (m : Int) = ((b - m : Nat) : Int) := by omega
  go_enter Tryz.func175, Tryz.ntmps175
  go_wp2
  go_loopw [10, 11] (fun i j wr => ∃ (p q : Nat) (d' : Nat → Nat), i = .int .i64 p ∧ j = .int .i64 q ∧ 0 < p ∧ 0 < q ∧ a + p ≤ m ∧ m + q ≤ b ∧ SoSt w0 k n d' wr ∧ ∀ t, rotF d' (m - p) m (m + q) t = rotF d a m b t) (fun i j _ => (intOf i).toNat + (intOf j).toNat)
  case atStart => exact ⟨m - a, b - m, d, by congr 1, by congr 1, by omega, by omega, by omega, by omega, h, fun t => by rw [show m - (m - a) = a by omega, show m + (b - m) = b by omega]⟩
  case round =>
    obtain ⟨p, q, d', rfl, rfl, hp, hq, hpa, hqb, hs, hr⟩ := hrel
    have HR := hid hr
    have HS := hid hs
    clear hr h hs
    by_cases heq : p = q
    · subst heq
      have t1 : (m : Int) - (p : Int) = ((m - p : Nat) : Int) := by omega
      go_wp2_with fail
      refine (swapRange_ok w0 k n c (m - p) m p fv hn (by omega) (by omega) d' wr HS.out).mono ?_
      rintro e w2 ⟨rfl, d2, S2, h1, h2⟩
      obtain ⟨A, B, C⟩ := swapped (by omega) h1 h2
      go_wp2
      go_end0
      refine ⟨rfl, S2.alike fun t _ => ?_⟩
      rw [← HR.out t]
      exact (rot_end (by omega) (by omega) A B C t).symm
    · have hne : ¬ (p : Int) = (q : Int) := by omega
      by_cases hgt : p > q
      · have hgt' : (p : Int) > (q : Int) := by omega
        have t1 : (m : Int) - (p : Int) = ((m - p : Nat) : Int) := by omega
        have t3 : (p : Int) - (q : Int) = ((p - q : Nat) : Int) := by omega
        go_wp2_with fail
        refine (swapRange_ok w0 k n c (m - p) m q fv hn (by omega) (by omega) d' wr HS.out).mono ?_
        rintro e w2 ⟨rfl, d2, S2, h1, h2⟩
        obtain ⟨A, B, C⟩ := swapped (by omega) h1 h2
        clear h1 h2
        have HA := hid A
        have HB := hid B
        have HC := hid C
        have HS2 := hid S2
        clear A B C S2
        go_wp2
        go_roundw
        case rel =>
          refine ⟨p - q, q, d2, by congr 1, rfl, by omega, hq, by omega, hqb, HS2.out, fun t => ?_⟩
          rw [← HR.out t]
          have e1 : m - (p - q) = m - p + (m + q - m) := by omega
          have e2 : q = m + q - m := by omega
          rw [e1]
          refine rot_left (by omega) (by omega) ?_ ?_ ?_ t
          · rw [← e2]; exact HA.out
          · rw [← e2]; exact HB.out
          · rw [← e2]; exact HC.out
        case measure => simp [intOf]; omega
      · have hgt' : ¬ (p : Int) > (q : Int) := by omega
        have t1 : (m : Int) - (p : Int) = ((m - p : Nat) : Int) := by omega
        have t2 : (m : Int) + (q : Int) - (p : Int) = ((m + q - p : Nat) : Int) := by omega
        have t3 : (q : Int) - (p : Int) = ((q - p : Nat) : Int) := by omega
        go_wp2_with fail
        refine (swapRange_ok w0 k n c (m - p) (m + q - p) p fv hn (by omega) (by omega) d' wr HS.out).mono ?_
        rintro e w2 ⟨rfl, d2, S2, h1, h2⟩
        obtain ⟨A, B, C⟩ := swapped (by omega) h1 h2
        clear h1 h2
        have HA := hid A
        have HB := hid B
        have HC := hid C
        have HS2 := hid S2
        clear A B C S2
        go_wp2
        go_roundw
        case rel =>
          refine ⟨p, q - p, d2, rfl, by congr 1, hp, by omega, hpa, by omega, HS2.out, fun t => ?_⟩
          rw [← HR.out t]
          have e1 : m + (q - p) = m + q - p := by omega
          rw [e1]
          exact rot_right (by omega) (by omega) (by omega) HA.out HB.out HC.out t
        case measure => simp [intOf]; omega
end Go.Proofs.YtbcejfonkehjgaaGreatDoor
namespace Go.Proofs.YtbcejfonkehjgaaGreatDoor
open Go.RowKit





def CmpOk (w0 : World) (k n : Nat) (cb : Addr) (cf : Nat → Nat → Int) : Prop :=
  ∀ w, w0.grownBy w (some k) → ∀ x y, x < n → y < n → Calls Tryz.prog 166 #[.int .i64 (x : Nat), .int .i64 (y : Nat), .pointer (some cb)] w fun e w' => e = .returned (.int .i64 (cf x y)) ∧ Below w.heap.size w w'

structure Ord (n : Nat) (cf : Nat → Nat → Int) (L : Nat → Nat → Prop) : Prop where
  irr : ∀ x, ¬ L x x
  trans : ∀ x y z, x < n → y < n → z < n → L x y → L y z → L x z
  ahead : ∀ x y, y < x → x < n → cf x y < 0 → L x y
  behind : ∀ x y, y < x → x < n → ¬ cf x y < 0 → L y x

def Sorted (L : Nat → Nat → Prop) (d : Nat → Nat) (a b : Nat) : Prop := ∀ i j, a ≤ i → i < j → j < b → L (d i) (d j)
def From (d' d : Nat → Nat) (a b : Nat) : Prop := ∀ i, a ≤ i → i < b → ∃ j, a ≤ j ∧ j < b ∧ d' i = d j
def Same (d' d : Nat → Nat) (a b : Nat) : Prop := ∀ i, ¬ (a ≤ i ∧ i < b) → d' i = d i

def ins (d : Nat → Nat) (j i : Nat) : Nat → Nat := fun t => if t < j then d t else if t = j then d i else if t ≤ i then d (t - 1) else d t

theorem ins_here (d : Nat → Nat) (i t : Nat) : ins d i i t = d t := by
  unfold ins
  by_cases h : t < i
  · rw [if_pos h]
  · rw [if_neg h]
    by_cases g : t = i
    · rw [if_pos g, g]
    · rw [if_neg g, if_neg (by omega)]
theorem ins_down (d : Nat → Nat) (j i : Nat) (hj : j < i) (t : Nat) : swp (ins d (j + 1) i) (j + 1) j t = ins d j i t := by
  unfold swp ins
  by_cases h1 : t = j
  · subst h1
    rw [if_pos rfl, if_neg (by omega), if_pos rfl, if_neg (by omega), if_pos rfl]
  · rw [if_neg h1]
    by_cases h2 : t = j + 1
    · subst h2
      rw [if_pos rfl, if_pos (by omega), if_neg (by omega), if_neg (by omega), if_pos (by omega), Nat.add_sub_cancel]
    · rw [if_neg h2]
      by_cases h3 : t < j
      · rw [if_pos (by omega), if_pos h3]
      · rw [if_neg (by omega), if_neg h2, if_neg h3, if_neg h1]

theorem ins_done {n : Nat} {cf : Nat → Nat → Int} {L : Nat → Nat → Prop} (hO : Ord n cf L) {di dj d : Nat → Nat} {a q p : Nat} (hj : ∀ t, dj t = ins di q p t) (hl : ∀ t, q ≤ t → t < p → L (di p) (di t))
    (stop : q = a ∨ (a < q ∧ L (di (q - 1)) (di p))) (hqa : a ≤ q) (hqp : q ≤ p) (hv : ∀ t, a ≤ t → t ≤ p → di t < n) (h1 : Sorted L di a p) (h2 : From di d a p) (h3 : Same di d a p) :
    Sorted L dj a (p + 1) ∧ From dj d a (p + 1) ∧ Same dj d a (p + 1) := by
  refine ⟨fun i j hi hij hjp => ?_, fun i hi hip => ?_, fun i hi => ?_⟩
  · rw [hj i, hj j]
    unfold ins
    by_cases c1 : i < q
    · rw [if_pos c1]
      by_cases c2 : j < q
      · rw [if_pos c2]; exact h1 i j hi hij (by omega)
      · rw [if_neg c2]
        by_cases c3 : j = q
        · rw [if_pos c3]
          rcases stop with e | ⟨_, e⟩
          · omega
          · by_cases c4 : i = q - 1
            · rw [c4]; exact e
            · exact hO.trans _ _ _ (hv _ hi (by omega)) (hv _ (by omega) (by omega)) (hv _ (by omega) (Nat.le_refl _)) (h1 i (q - 1) hi (by omega) (by omega)) e
        · rw [if_neg c3, if_pos (by omega)]
          exact h1 i (j - 1) hi (by omega) (by omega)
    · rw [if_neg c1]
      by_cases c3 : i = q
      · rw [if_pos c3, if_neg (by omega), if_neg (by omega), if_pos (by omega)]; exact hl (j - 1) (by omega) (by omega)
      · rw [if_neg c3, if_pos (by omega), if_neg (by omega), if_neg (by omega), if_pos (by omega)]
        exact h1 (i - 1) (j - 1) (by omega) (by omega) (by omega)
  · have old : ∀ t, a ≤ t → t ≤ p → ∃ s, a ≤ s ∧ s < p + 1 ∧ di t = d s := fun t t1 t2 => by
      by_cases e : t = p
      · exact ⟨p, by omega, by omega, by rw [e]; exact h3 p (by omega)⟩
      · obtain ⟨s, s1, s2, s3⟩ := h2 t t1 (by omega)
        exact ⟨s, s1, by omega, s3⟩
    rw [hj i]
    unfold ins
    by_cases c1 : i < q
    · rw [if_pos c1]; exact old i hi (by omega)
    · rw [if_neg c1]
      by_cases c2 : i = q
      · rw [if_pos c2]; exact old p (by omega) (Nat.le_refl _)
      · rw [if_neg c2, if_pos (by omega)]; exact old (i - 1) (by omega) (by omega)
  · rw [hj i]
    unfold ins
    by_cases c1 : i < q
    · rw [if_pos c1]; exact h3 i (by omega)
    · rw [if_neg c1, if_neg (by omega), if_neg (by omega)]; exact h3 i (by omega)

set_option maxRecDepth 1000000 in
set_option maxHeartbeats 16000000 in
theorem insertion_ok (w0 : World) (k n c a b : Nat) (cb : Addr) (cf : Nat → Nat → Int) (L : Nat → Nat → Prop) (hO : Ord n cf L) (hcmp : CmpOk w0 k n cb cf) (hn : n ≤ 1000) (hab : a ≤ b) (hb : b ≤ n)
    (d : Nat → Nat) (hv : ∀ t, t < n → d t < n) (hup : ∀ s t, a ≤ s → s < t → t < b → d s < d t) (w : World) (h : SoSt w0 k n d w) :
    Calls Tryz.prog 172 #[.slice (some ⟨k, 0, none⟩) n c, .int .i64 a, .int .i64 b, .func (.func 166) #[] #[.pointer (some cb)]] w fun e w' =>
      e = .returned (.tuple #[]) ∧ ∃ d', SoSt w0 k n d' w' ∧ Sorted L d' a b ∧ From d' d a b ∧ Same d' d a b := by
  go_enter Tryz.func172, Tryz.ntmps172
  go_wp2
  go_loopw [8] (fun i wr => ∃ (p : Nat) (di : Nat → Nat), i = .int .i64 p ∧ a + 1 ≤ p ∧ (p ≤ b ∨ p = a + 1) ∧ SoSt w0 k n di wr ∧ Sorted L di a p ∧ From di d a p ∧ Same di d a p) (fun i _ => n + 1 - (intOf i).toNat)
  case atStart => exact ⟨a + 1, d, by congr 1, Nat.le_refl _, .inr rfl, h, fun i j h1 h2 h3 => by omega, fun i h1 h2 => ⟨i, h1, h2, rfl⟩, fun _ _ => rfl⟩
  case round =>
    obtain ⟨p, di, rfl, hp, hpb, hs, h1, h2, h3⟩ := hrel
    have H1 := hid h1
    have H2 := hid h2
    have H3 := hid h3
    have HS := hid hs
    have HV := hid hv
    have HU := hid hup
    clear h1 h2 h3 h hs hv hup
    by_cases hlt : p < b
    · have hlt' : (p : Int) < (b : Int) := by omega
      have dip : di p = d p := H3.out p (by omega)
      have old : ∀ t, a ≤ t → t < p → ∃ s, a ≤ s ∧ s < p ∧ di t = d s := H2.out
      have less : ∀ t, a ≤ t → t < p → di t < di p ∧ di p < n := fun t ht1 ht2 => by
        obtain ⟨s, hs1, hs2, e⟩ := old t ht1 ht2
        rw [e, dip]
        exact ⟨HU.out s p hs1 hs2 hlt, HV.out p (by omega)⟩
      have vv : ∀ t, a ≤ t → t ≤ p → di t < n := fun t t1 t2 => by
        by_cases e : t = p
        · rw [e, dip]; exact HV.out p (by omega)
        · have := less t t1 (by omega); omega
      have VV := hid vv
      clear vv
      have HL := hid less
      clear less old
      obtain ⟨x, hx⟩ : ∃ x, di p = x := ⟨_, rfl⟩
      go_wp2
      go_loopw [9] (fun j w2 => ∃ (q : Nat) (dj : Nat → Nat), j = .int .i64 q ∧ a ≤ q ∧ q ≤ p ∧ SoSt w0 k n dj w2 ∧ (∀ t, dj t = ins di q p t) ∧ ∀ t, q ≤ t → t < p → L (di p) (di t)) (fun j _ => (intOf j).toNat)
      case atStart => exact ⟨p, di, rfl, by omega, Nat.le_refl _, HS.out, fun t => (ins_here di p t).symm, fun t h1 h2 => by omega⟩
      case round =>
        obtain ⟨q, dj, rfl, hqa, hqp, hs2, hj1, hj2⟩ := hrel
        have HJ1 := hid hj1
        have HJ2 := hid hj2
        have HS2 := hid hs2
        clear hj1 hj2
        by_cases hqa' : a < q
        · obtain ⟨q, rfl⟩ : ∃ r, q = r + 1 := ⟨q - 1, by omega⟩
          have hg : (a : Int) < (q : Int) + 1 := by omega
          obtain ⟨y, hy⟩ : ∃ y, di q = y := ⟨_, rfl⟩
          have vx : dj (q + 1) = x := by rw [HJ1.out]; unfold ins; rw [if_neg (by omega), if_pos rfl, hx]
          have vy : dj q = y := by rw [HJ1.out]; unfold ins; rw [if_pos (by omega), hy]
          have hyx := HL.out q (by omega) (by omega)
          rw [hx, hy] at hyx
          have hxn : x < n := hyx.2
          have hyn : y < n := by omega
          have c1 : ∀ s : Since wr, s.at_.cell? ⟨k, q + 1, none⟩ = some (.int .i64 (x : Nat)) := fun s => by have := (HS2.out.below s.bel).cell (q + 1) (by omega); rwa [vx] at this
          have c2 : ∀ s : Since wr, s.at_.cell? ⟨k, q, none⟩ = some (.int .i64 (y : Nat)) := fun s => by have := (HS2.out.below s.bel).cell q (by omega); rwa [vy] at this
          have g1 : (q : Int) + 1 < (n : Int) := by omega
          have g3 : 0 ≤ (q : Int) + 1 := by omega
          have g5 : IntKind.i64.wrap (q : Int) = (q : Int) := by rw [IntKind.wrap_i64]; omega
          have g4 : ((q : Int) + 1).toNat = q + 1 := by omega
          have g2 : (q : Int) < (n : Int) := by omega
          have hc : ∀ s : Since wr, w0.grownBy s.at_ (some k) := fun s => (HS2.out.below s.bel).grown
          clear hs2
          go_wp2_with fail
          refine wp_region_since (by kernel_rfl) (by kernel_rfl) ?_
          repeat (quiet_step (first | (go_at_call 166; refine Calls.since _ (hcmp _ (hc _) x y hxn hyn))))
          refine wpQuiet_nil ?_
          intro _ hw'
          obtain ⟨s, rfl⟩ := hw'
          have HS3 := hid (HS2.out.below s.bel)
          clear c1 c2 hc HS2
          generalize s.at_ = w3 at HS3 ⊢
          by_cases hcf : cf x y < 0
          · have c1 := HS3.out.cell (q + 1) (by omega)
            have c2 := HS3.out.cell q (by omega)
            have f1 := HS3.out.free (q + 1) (by omega)
            have f2 := HS3.out.free q (by omega)
            rw [vx] at c1
            rw [vy] at c2
            go_wp2
            go_region
            go_wp2
            go_roundw
            case rel =>
              refine ⟨q, swp dj (q + 1) q, rfl, by omega, by omega, ?_, ?_, ?_⟩
              · have := HS3.out.swp (i := q + 1) (j := q) (by omega) (by omega)
                rw [vx, vy] at this
                exact this.drew
              · intro t
                rw [← ins_down di q p (by omega) t]
                unfold swp
                rw [HJ1.out, HJ1.out, HJ1.out]
              · intro t h1 h2
                by_cases e : t = q
                · subst e
                  rw [hx, hy]
                  exact hO.ahead x y hyx.1 hxn hcf
                · exact HJ2.out t (by omega) h2
            case measure => simp [intOf]
          · go_wp2
            go_roundw
            case rel =>
              obtain ⟨r1, r2, r3⟩ := ins_done hO (a := a) (q := q + 1) (p := p) HJ1.out HJ2.out (.inr ⟨by omega, by rw [Nat.add_sub_cancel, hx, hy]; exact hO.behind x y hyx.1 hxn hcf⟩) (by omega) hqp VV.out H1.out H2.out H3.out
              exact ⟨p + 1, dj, rfl, by omega, by omega, HS3.out, r1, r2, r3⟩
            case measure => simp [intOf]; omega
        · have : q = a := by omega
          subst this
          have hg : decide ((q : Int) < (q : Int)) = false := by simp
          go_wp2_with fail
          go_region
          go_wp2
          go_roundw
          case rel =>
            obtain ⟨r1, r2, r3⟩ := ins_done hO (a := q) (q := q) (p := p) HJ1.out HJ2.out (.inl rfl) (by omega) hqp VV.out H1.out H2.out H3.out
            exact ⟨p + 1, dj, rfl, by omega, by omega, HS2.out.drew, r1, r2, r3⟩
          case measure => simp [intOf]; omega
    · have hlt' : ¬ (p : Int) < (b : Int) := by omega
      go_wp2
      go_end0
      refine ⟨rfl, di, HS.out, ?_, ?_, ?_⟩
      · exact fun i j h1 h2 h3 => H1.out i j h1 h2 (by omega)
      · intro i h1 h2
        obtain ⟨j, e1, e2, e3⟩ := H2.out i h1 (by omega)
        refine ⟨j, e1, ?_, e3⟩
        omega
      · intro i h1
        by_cases hi : a ≤ i ∧ i < p
        · obtain ⟨j, e1, e2, e3⟩ := H2.out i hi.1 hi.2
          rw [e3]
          congr 1
          omega
        · exact H3.out i hi
end Go.Proofs.YtbcejfonkehjgaaGreatDoor
