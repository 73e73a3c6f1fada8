/-
  What is proved: what an LRU in memory is (a block of two cells: its space, its capacity); New, Use, Add, Remove, Has, All, Len, of one that is there and of none. Condition: the LRU lies in memory as one.
-/
import Derived.Test.YtmkdamkahjiccaaLk10
import Derived.Test.YtmkdamkahjiccaaAl10
import Derived.Test.YtmkdamkahjiccaaNw10
import Derived.Deep.RegionHeld3
import Derived.BigQuiet
namespace Go.Proofs.Ytmkdamkahjiccaa
open Go.RowKit

/-- the space's only list -/
theorem okp_one {L : List Int} {x : Int} : okp [L] 0 x ↔ vb x := by
  unfold okp isl
  simp
theorem putE_one (L : List Int) (x : Int) : putE [L] 0 x = if vb x then 0 else 3 := by
  unfold putE
  by_cases h : vb x
  · rw [if_pos h, if_pos (okp_one.2 h)]
  · rw [if_neg h, if_neg (fun e => h (okp_one.1 e))]
theorem front_one {L : List Int} {x : Int} (h : vb x) : frontS [L] 0 x = [x :: wo x L] := by
  unfold frontS
  rw [if_pos (okp_one.2 h)]
  rfl
theorem inS_one {L : List Int} {x : Int} : inS [L] x ↔ x ∈ L := by
  unfold inS
  constructor
  · rintro ⟨i, l, hi, hm⟩
    cases i with
    | zero => simp at hi; rw [hi]; exact hm
    | succ i => simp at hi
  · exact fun h => ⟨0, L, rfl, h⟩
theorem remE_one (L : List Int) (x : Int) (h : x ∈ L) (hv : vb x) : remE [L] x = 0 := by
  unfold remE
  rw [if_pos hv, dec_true (inS_one.2 h)]
  rfl
theorem wo_last : ∀ {l : List Int} (hn : l ≠ []), l.Nodup → wo (l.getLast hn) l = l.dropLast := by
  intro l hn hd
  have e := List.dropLast_concat_getLast hn
  have h2 : (l.dropLast ++ l.getLast hn :: []).Nodup := by rw [e]; exact hd
  have h3 := wo_split h2
  rw [e] at h3
  rw [h3, List.append_nil]
/-- block g is an LRU of this capacity, its space lies at k; these are its blocks -/
structure Lq (w : World) (g k C : Nat) (L : List Int) : Prop where
  box : Bx w g 48 #[.pointer (some ⟨k, 0, none⟩), .int .i64 C]
  sq : Sq w k [L]
  ne : g ≠ k
  cap : 1 ≤ C ∧ C ≤ 16
/-- which blocks of memory are an LRU's -/
def Lf (g k : Nat) (j : Nat) : Prop := j = g ∨ j = k
section
variable {w w' : World} {g k C : Nat} {L L' : List Int}
theorem Lq.below (h : Lq w g k C L) (hb : Below w.heap.size w w') : Lq w' g k C L := ⟨h.box.next hb, h.sq.below hb, h.ne, h.cap⟩
theorem Lq.draws (h : Lq w g k C L) (n : Nat) : Lq (w.drewN n) g k C L := h.below (below_draws (Below.refl _ _) n)
theorem Lq.step (h : Lq w g k C L) (hs : Sq w' k [L']) (hc : Chg w w' (· = k) (· = k)) : Lq w' g k C L' := ⟨hc.bx h.box h.ne, hs, h.ne, h.cap⟩
theorem Lq.chg {F G : Nat → Prop} (h : Lq w g k C L) (hc : Chg w w' F G) (h1 : ¬ F g) (h2 : ¬ F k) : Lq w' g k C L := ⟨hc.bx h.box h1, h.sq.same (hc.block k h.sq.lt h2), h.ne, h.cap⟩
theorem Lq.nd (h : Lq w g k C L) : L.Nodup := h.sq.wf.1.nd 0 L rfl
theorem Lq.vb (h : Lq w g k C L) {x : Int} (hx : x ∈ L) : vb x := h.sq.wf.1.lt 0 L x rfl hx
theorem Lq.c0 (h : Lq w g k C L) : w.cell? ⟨g, 0, none⟩ = some (.pointer (some ⟨k, 0, none⟩)) := h.box.cell 0
theorem Lq.c1 (h : Lq w g k C L) : w.cell? ⟨g, 1, none⟩ = some (.int .i64 C) := h.box.cell 1
end
/-- a capacity, held within its bounds -/
def cp (m : Int) : Nat := (min (max m 1) 16).toNat
theorem cp_le (m : Int) : 1 ≤ cp m ∧ cp m ≤ 16 := by unfold cp; omega
set_option maxRecDepth 10000 in
set_option maxHeartbeats 1000000 in
theorem lru_new (m : Int) (w : World) : Calls Try.prog 9 #[.int .i64 m] w fun e w' => ∃ g k, e = .returned (.pointer (some ⟨g, 0, none⟩)) ∧ Lq w' g k (cp m) [] ∧ Below w.heap.size w w' ∧ w.heap.size ≤ g ∧ w.heap.size ≤ k := by
  have HE := hid (show (if 16 < (if m < 1 then (1 : Int) else m) then (16 : Int) else if m < 1 then 1 else m) = (cp m : Nat) from by
    unfold cp
    split <;> split <;> omega)
  have hle := cp_le m
  generalize cp m = C at *
  have h3 : (m < 1 ∧ C = 1) ∨ (¬ m < 1 ∧ 16 < m ∧ C = 16) ∨ (¬ m < 1 ∧ ¬ 16 < m ∧ m = C) := by
    have := HE.out
    split at this <;> split at this <;> omega
  clear HE
  rcases h3 with ⟨h1, rfl⟩ | ⟨h1, h2, rfl⟩ | ⟨h1, h2, rfl⟩
  all_goals
    go_enter Try.func9, Try.ntmps9
    go_wp2_with (go_at_call 20; refine (lnew_any 1 _).mono ?_; rintro e w1 ⟨k, rfl, hs, hb, hk⟩; rw [show empt (cl 1) = [[]] from by decide] at hs; have HS0 := hid hs; have HB0 := hid hb; have HK := hid hk; clear hs hb hk)
    go_ret
    exact ⟨w1.heap.size, k, rfl, ⟨Bx.new w1 _ _, HS0.out.below (below_alloc w1 _), fun e => by have := HS0.out.lt; omega, hle⟩, on HB0.out (below_alloc w1 _), HB0.out.size, HK.out⟩
section
variable {w : World} {g k C : Nat} {L : List Int}
set_option maxHeartbeats 400000 in
theorem lru_has (h : Lq w g k C L) (x : Int) : Calls Try.prog 18 #[.pointer (some ⟨g, 0, none⟩), .int .i64 x] w fun e w' => e = .returned (.bool (dec (x ∈ L))) ∧ w = w' := by
  have c0 := h.c0
  by_cases hx : x ∈ L
  · rw [dec_true hx]
    have HO := hid (of_yes h.sq (i := 0) (l := L) rfl hx)
    clear h hx
    go_enter Try.func18, Try.ntmps18
    go_wp2_with (go_at_call 28; refine HO.out.mono ?_; rintro e w' ⟨rfl, rfl⟩)
    go_ret
    exact ⟨rfl, rfl⟩
  · rw [dec_false hx]
    have HO := hid (of_no h.sq (x := x) (fun e => hx (inS_one.1 e)))
    clear h hx
    go_enter Try.func18, Try.ntmps18
    go_wp2_with (go_at_call 28; refine HO.out.mono ?_; rintro e w' ⟨rfl, rfl⟩)
    go_ret
    exact ⟨rfl, rfl⟩
set_option maxHeartbeats 400000 in
theorem lru_has_nil (w : World) (x : Int) : Calls Try.prog 18 #[.pointer none, .int .i64 x] w fun e w' => e = .returned (.bool false) ∧ w = w' := by
  go_enter Try.func18, Try.ntmps18
  go_wp2
  go_ret
  exact ⟨rfl, rfl⟩
set_option maxHeartbeats 400000 in
theorem lru_all (h : Lq w g k C L) : Calls Try.prog 16 #[.pointer (some ⟨g, 0, none⟩)] w (Told w L) := by
  have c0 := h.c0
  have HA := hid (all_in h.sq (i := 0) (l := L) rfl)
  clear h
  go_enter Try.func16, Try.ntmps16
  go_wp2_with (go_at_call 26; refine HA.out.mono ?_; rintro e w' ⟨A, c, rfl, ho, hg⟩; have HO := hid ho; have HG := hid hg; clear ho hg)
  go_ret
  exact ⟨A, c, rfl, HO.out, HG.out⟩
set_option maxHeartbeats 400000 in
theorem lru_all_nil (w : World) : Calls Try.prog 16 #[.pointer none] w fun e w' => e = .returned (.slice none 0 0) ∧ w = w' := by
  go_enter Try.func16, Try.ntmps16
  go_wp2
  go_ret
  exact ⟨rfl, rfl⟩
set_option maxHeartbeats 400000 in
theorem lru_len (h : Lq w g k C L) : Calls Try.prog 17 #[.pointer (some ⟨g, 0, none⟩)] w fun e w' => e = .returned (.int .i64 L.length) ∧ Below w.heap.size w w' := by
  have c0 := h.c0
  have HA := hid (len_in h.sq (i := 0) (l := L) rfl)
  clear h
  go_enter Try.func17, Try.ntmps17
  go_wp2_with (go_at_call 27; refine HA.out.mono ?_; rintro e w' ⟨rfl, hb⟩; have HB := hid hb; clear hb)
  go_ret
  exact ⟨rfl, HB.out⟩
set_option maxHeartbeats 400000 in
theorem lru_len_nil (w : World) : Calls Try.prog 17 #[.pointer none] w fun e w' => e = .returned (.int .i64 0) ∧ w = w' := by
  go_enter Try.func17, Try.ntmps17
  go_wp2
  go_ret
  exact ⟨rfl, rfl⟩
/-- behind Use -/
noncomputable def useL (x : Int) (L : List Int) : List Int := if dec (x ∈ L) then x :: wo x L else L
set_option maxHeartbeats 400000 in
theorem lru_use (h : Lq w g k C L) (x : Int) : Calls Try.prog 12 #[.pointer (some ⟨g, 0, none⟩), .int .i64 x] w fun e w' => e = .returned (.bool (dec (x ∈ L))) ∧ Lq w' g k C (useL x L) ∧ Chg w w' (· = k) (· = k) := by
  have c0 := h.c0
  have HH := hid (lru_has h x)
  by_cases hx : x ∈ L
  · have hv := h.vb hx
    have e1 : useL x L = x :: wo x L := by unfold useL; rw [dec_true hx]; rfl
    rw [dec_true hx] at HH ⊢
    rw [e1]
    have HF := hid (front_any h.sq 0 x)
    rw [putE_one, if_pos hv, front_one hv] at HF
    have H := hid h
    clear h hx hv e1
    go_enter Try.func12, Try.ntmps12
    go_wp2_with (first | (go_at_call 18; refine HH.out.mono ?_; rintro e w' ⟨rfl, rfl⟩) | (go_at_call 23; refine HF.out.mono ?_; rintro e w' ⟨rfl, hs, hc⟩; have HS := hid hs; have HC := hid hc; clear hs hc))
    go_ret
    exact ⟨rfl, H.out.step HS.out HC.out, HC.out⟩
  · have e1 : useL x L = L := by unfold useL; rw [dec_false hx]; rfl
    rw [dec_false hx] at HH ⊢
    rw [e1]
    have H := hid h
    clear h hx e1
    go_enter Try.func12, Try.ntmps12
    go_wp2_with (go_at_call 18; refine HH.out.mono ?_; rintro e w' ⟨rfl, rfl⟩)
    go_ret
    exact ⟨rfl, H.out, Chg.refl _ _⟩
set_option maxHeartbeats 400000 in
theorem lru_use_nil (w : World) (x : Int) : Calls Try.prog 12 #[.pointer none, .int .i64 x] w fun e w' => e = .returned (.bool false) ∧ w = w' := by
  go_enter Try.func12, Try.ntmps12
  go_wp2_with (go_at_call 18; refine (lru_has_nil _ _).mono ?_; rintro e w' ⟨rfl, rfl⟩)
  go_ret
  exact ⟨rfl, rfl⟩
set_option maxHeartbeats 400000 in
theorem lru_remove (h : Lq w g k C L) (x : Int) : Calls Try.prog 14 #[.pointer (some ⟨g, 0, none⟩), .int .i64 x] w fun e w' => e = .returned (.bool (dec (x ∈ L))) ∧ Lq w' g k C (wo x L) ∧ Chg w w' (· = k) (· = k) := by
  have c0 := h.c0
  have HR := hid (remove_any h.sq x)
  rw [show woS x [L] = [wo x L] from rfl] at HR
  have e : (remE [L] x == 0) = dec (x ∈ L) := by
    by_cases hx : x ∈ L
    · rw [remE_one L x hx (h.vb hx), dec_true hx]; rfl
    · rw [dec_false hx]
      unfold remE
      rw [dec_false (fun e => hx (inS_one.1 e))]
      split <;> rfl
  have e2 : decide (remE [L] x = 0) = dec (x ∈ L) := by rw [← e]; rfl
  rw [← e2]
  generalize remE [L] x = z at *
  have H := hid h
  clear h e e2
  go_enter Try.func14, Try.ntmps14
  go_wp2_with (go_at_call 25; refine HR.out.mono ?_; rintro e w' ⟨rfl, hs, hc⟩; have HS := hid hs; have HC := hid hc; clear hs hc)
  go_ret
  exact ⟨rfl, H.out.step HS.out HC.out, HC.out⟩
set_option maxHeartbeats 400000 in
theorem lru_remove_nil (w : World) (x : Int) : Calls Try.prog 14 #[.pointer none, .int .i64 x] w fun e w' => e = .returned (.bool false) ∧ w = w' := by
  go_enter Try.func14, Try.ntmps14
  go_wp2
  go_ret
  exact ⟨rfl, rfl⟩
/-- behind Add: whether one goes, which one, what is there -/
def goes (C : Nat) (x : Int) (L : List Int) : Prop := vb x ∧ C < (x :: wo x L).length
instance (C : Nat) (x : Int) (L : List Int) : Decidable (goes C x L) := inferInstanceAs (Decidable (_ ∧ _))
def vict (C : Nat) (x : Int) (L : List Int) : Int := if goes C x L then (x :: wo x L).getLast (by simp) else 0
def addE (x : Int) : Int := if vb x then 0 else 3
def addL (C : Nat) (x : Int) (L : List Int) : List Int := if goes C x L then (x :: wo x L).dropLast else if vb x then x :: wo x L else L
set_option maxHeartbeats 1000000 in
theorem lru_add (h : Lq w g k C L) (x : Int) : Calls Try.prog 13 #[.pointer (some ⟨g, 0, none⟩), .int .i64 x] w fun e w' =>
    e = .returned (.tuple #[.int .i64 (vict C x L), .bool (decide (goes C x L)), .int .i64 (addE x)]) ∧ Lq w' g k C (addL C x L) ∧ Chg w w' (· = k) (· = k) := by
  have c0 := h.c0
  have HF := hid (front_any h.sq 0 x)
  rw [putE_one] at HF
  by_cases hv : vb x
  · have e1 : addE x = 0 := if_pos hv
    rw [if_pos hv, front_one hv] at HF
    rw [e1]
    by_cases hg : goes C x L
    · have e2 : vict C x L = (x :: wo x L).getLast (by simp) := if_pos hg
      have e3 : addL C x L = (x :: wo x L).dropLast := if_pos hg
      rw [e2, e3, decide_eq_true hg]
      have hlt := hg.2
      have H := hid h
      obtain ⟨n, hn⟩ : ∃ n, (x :: wo x L).length = n := ⟨_, rfl⟩
      rw [hn] at hlt
      have HN := hid hn
      have hlv : lastV (x :: wo x L) = .tuple #[.int .i64 ((x :: wo x L).getLast (by simp)), .bool true] := dif_neg (by simp)
      have HLV := hid hlv
      have hmem : (x :: wo x L).getLast (by simp) ∈ x :: wo x L := List.getLast_mem _
      have HM := hid hmem
      have hwl : ∀ hd : (x :: wo x L).Nodup, wo ((x :: wo x L).getLast (by simp)) (x :: wo x L) = (x :: wo x L).dropLast := fun hd => wo_last (by simp) hd
      have HWL := hid hwl
      clear h e1 e2 e3 hv hg hn hlv hmem hwl
      generalize (x :: wo x L).getLast (by simp) = v at *
      go_enter Try.func13, Try.ntmps13
      go_upto_region 6 with (go_at_call 23; refine HF.out.mono ?_; rintro e w1 ⟨rfl, hs, hc⟩; have HQ := hid (H.out.step hs hc); have HC := hid hc; clear hs hc)
      clear c0
      have c1 := HQ.out.c1
      have HQD := hid (show Lq w1.drew g k C (x :: wo x L) from HQ.out.draws 1)
      go_region_held3 (fun w' => w'.cell? ⟨g, 1, none⟩ = some (.int .i64 C)) (first | exact kp | exact c1) (first | (go_at_call 17; refine (lru_len HQD.out).mono ?_; rintro e w2 ⟨rfl, hb⟩; rw [HN.out]; have HQ2 := hid (HQD.out.below hb); have HC2 := hid (HC.out.trans ((Chg.of (below_draws (Below.refl _ _) 1) _).trans (Chg.of hb _))); have kp := HQ2.out.c1; clear hb))
      have c0 := HQ2.out.c0
      go_wp2_with (first | (go_at_call 24; refine (last_in HQ2.out.sq (i := 0) (l := x :: wo x L) rfl).mono ?_; rintro e w3 ⟨rfl, d, rfl⟩; rw [HLV.out]; have HQ3 := hid (HQ2.out.draws d); have HC3 := hid (Chg.draws HC2.out d)) | (go_at_call 14; refine (lru_remove HQ3.out v).mono ?_; rintro e w4 ⟨rfl, hq, hc⟩; rw [dec_true HM.out]; have HQ4 := hid hq; have HC4 := hid (HC3.out.trans hc); clear hq hc))
      go_ret3
      have hq := HQ4.out
      rw [HWL.out HQ3.out.nd] at hq
      exact ⟨rfl, hq, HC4.out⟩
    · have e2 : vict C x L = 0 := if_neg hg
      have e3 : addL C x L = x :: wo x L := by unfold addL; rw [if_neg hg, if_pos hv]
      rw [e2, e3, decide_eq_false hg]
      have hlt : ¬ C < (x :: wo x L).length := fun e => hg ⟨hv, e⟩
      have H := hid h
      obtain ⟨n, hn⟩ : ∃ n, (x :: wo x L).length = n := ⟨_, rfl⟩
      rw [hn] at hlt
      have HN := hid hn
      clear h e1 e2 e3 hv hg hn
      go_enter Try.func13, Try.ntmps13
      go_upto_region 6 with (go_at_call 23; refine HF.out.mono ?_; rintro e w1 ⟨rfl, hs, hc⟩; have HQ := hid (H.out.step hs hc); have HC := hid hc; clear hs hc)
      clear c0
      have c1 := HQ.out.c1
      have HQD := hid (show Lq w1.drew g k C (x :: wo x L) from HQ.out.draws 1)
      go_region_held3 (fun w' => w'.cell? ⟨g, 1, none⟩ = some (.int .i64 C)) (first | exact kp | exact c1) (first | (go_at_call 17; refine (lru_len HQD.out).mono ?_; rintro e w2 ⟨rfl, hb⟩; rw [HN.out]; have HQ2 := hid (HQD.out.below hb); have HC2 := hid (HC.out.trans ((Chg.of (below_draws (Below.refl _ _) 1) _).trans (Chg.of hb _))); have kp := HQ2.out.c1; clear hb))
      go_wp2
      go_ret3
      exact ⟨rfl, HQ2.out, HC2.out⟩
  · have hg : ¬ goes C x L := fun e => hv e.1
    have e1 : addE x = 3 := if_neg hv
    have e2 : vict C x L = 0 := if_neg hg
    have e3 : addL C x L = L := by unfold addL; rw [if_neg hg, if_neg hv]
    rw [if_neg hv, show frontS [L] 0 x = [L] from by unfold frontS; rw [if_neg (fun e => hv (okp_one.1 e))]] at HF
    rw [e1, e2, e3, decide_eq_false hg]
    have H := hid h
    clear h e1 e2 e3 hv hg
    go_enter Try.func13, Try.ntmps13
    go_wp2_with (go_at_call 23; refine HF.out.mono ?_; rintro e w1 ⟨rfl, hs, hc⟩; have HQ := hid (H.out.step hs hc); have HC := hid hc; clear hs hc)
    go_ret3
    exact ⟨rfl, HQ.out, HC.out⟩
set_option maxHeartbeats 400000 in
theorem lru_add_nil (w : World) (x : Int) : Calls Try.prog 13 #[.pointer none, .int .i64 x] w fun e w' => e = .returned (.tuple #[.int .i64 0, .bool false, .int .i64 7]) ∧ w = w' := by
  go_enter Try.func13, Try.ntmps13
  go_wp2
  go_ret3
  exact ⟨rfl, rfl⟩
end
end Go.Proofs.Ytmkdamkahjiccaa
