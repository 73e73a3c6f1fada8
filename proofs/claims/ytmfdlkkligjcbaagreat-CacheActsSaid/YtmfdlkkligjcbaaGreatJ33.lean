/-
  What is proved: what the laws of this layer share: a plan that is made, as a parted cache sees it; a layout's box beside a cache that a law has made. Condition: the hints are read as such.
  (Left out here, as nothing of this law reaches it: Lb15, Lb15.below, Lb15.draws, Lb15.step, Lb15.far.) -/
import Derived.Test.YtmfdlkkligjcbaaGreatJ27
import Derived.Test.YtmfdlkkligjcbaaGreatJ29
namespace Go.Proofs.YtmfdlkkligjcbaaGreat
open Go.RowKit

theorem lsum_sN (f : Nat → Nat) : ∀ n, lsum f n = sN f n
  | 0 => rfl
  | n + 1 => by
    show lsum f n + f n = sN f n + f n
    rw [lsum_sN f n]
section
variable {A : Option Addr} {n c T : Nat} {hh : Nat → Hn} {b : Int} {w : World} {u : Nat → Nat}
end






section
variable {w0 w1 w w' : World} {s m c g k q T n : Nat} {A : Option Addr} {b x y z : Int} {rg : Int → Option Nat} {pt : Nat → Nat} {lp : Nat → Bool} {S S' : List (List Int)}







end
theorem empt_gd (m i : Nat) : (empt m).getD i [] = [] := gd_empty m i
end Go.Proofs.YtmfdlkkligjcbaaGreat
namespace Go.Proofs.YtmfdlkkligjcbaaGreat
open Go.RowKit

/-- the block of a place -/
def bk (B : Option Addr) : Option Nat := B.map Addr.block
/-- the parts' cells, as the reference has them -/
structure Rp (w : World) (X : Nat → Prop) (r gp : Nat) (b : Int) (A : Option Addr) (c : Nat) (hh : Nat → Hn) (pf : Nat → Nat → Nat) (B : Option Addr) (cv : Nat) (us : List Value) (T : Nat) (rg : Int → Option Nat) (pt : Nat → Nat) (lp : Nat → Bool) (n : Nat) (S : List (List Int)) : Prop where
  box : Bx w r 116 #[.slice A n c, .slice (some ⟨gp, 0, none⟩) (4 * n) (4 * n), .int .i64 T, .slice B n cv]
  hr : Rv w w.heap.size A (hvs hh n)
  pr : Arr w gp (n * 4) (ptv pf)
  row : OwnW w 43 (.slice B n cv) us
  way : ∀ i u, us[i]? = some u → Rt w X u (S.getD i [])
  ul : us.length = n
  hP : HintsP hh n b
  rgE : ∀ z, rgi hh z n = rg z
  ptE : ∀ i, pf i (T - 1) = pt i
  lpE : ∀ i, (hh i).l = lp i
  nS : n ≤ S.length
  t1 : 1 ≤ T
  t3 : T ≤ 3
  xb : ∀ j, X j → j < w.heap.size
  xB : ∀ j, bk B = some j → X j
  xr : ¬ X r
  xg : ¬ X gp
  xA : ∀ ad, A = some ad → ¬ X ad.block
  ltA : ∀ ad, A = some ad → ad.block < w.heap.size
section
variable {w w' : World} {X F G : Nat → Prop} {r gp c cv T n : Nat} {b : Int} {A B : Option Addr} {hh : Nat → Hn} {pf : Nat → Nat → Nat} {us : List Value} {rg : Int → Option Nat} {pt : Nat → Nat} {lp : Nat → Bool} {S : List (List Int)}
theorem Rt.bel {u : Value} {l : List Int} (h : Rt w X u l) (hb : Below w.heap.size w w') : Rt w' X u l := h.below hb
theorem Rp.below (h : Rp w X r gp b A c hh pf B cv us T rg pt lp n S) (hb : Below w.heap.size w w') : Rp w' X r gp b A c hh pf B cv us T rg pt lp n S :=
  { h with box := h.box.next hb, hr := h.hr.now hb, pr := h.pr.below hb, row := h.row.below hb, way := fun i u hu => (h.way i u hu).bel hb, xb := fun j hj => Nat.lt_of_lt_of_le (h.xb j hj) hb.size, ltA := fun ad e => Nat.lt_of_lt_of_le (h.ltA ad e) hb.size }
theorem Rp.draws (h : Rp w X r gp b A c hh pf B cv us T rg pt lp n S) (d : Nat) : Rp (w.drewN d) X r gp b A c hh pf B cv us T rg pt lp n S := h.below (below_draws (Below.refl _ _) d)
theorem Arr.chg {f : Nat → Value} {k m : Nat} (h : Arr w k m f) (hc : Chg w w' F G) (hk : ¬ F k) : Arr w' k m f where
  lt := Nat.lt_of_lt_of_le h.lt hc.size
  cell := fun i hi => (hc.cell (p := ⟨k, i, none⟩) h.lt hk).trans (h.cell i hi)
  free := fun i hi => (World.frozen?_of_block (hc.block k h.lt hk)).trans (h.free i hi)
/-- blocks of X that are not its own row change -/
theorem Rp.chg (h : Rp w X r gp b A c hh pf B cv us T rg pt lp n S) (hc : Chg w w' F G) (hF : ∀ j, F j → X j) (hn : ∀ j, F j → bk B ≠ some j) : Rp w' X r gp b A c hh pf B cv us T rg pt lp n S :=
  { h with
    box := hc.bx h.box fun hf => h.xr (hF _ hf)
    hr := hc.rv h.hr fun ad e hf => h.xA ad e (hF _ hf)
    pr := h.pr.chg hc fun hf => h.xg (hF _ hf)
    row := h.row.kept fun g hg => by
      have hgb : bk B = some g := by cases B <;> simp_all [Value.ownBlock, bk]
      exact hc.block g (h.xb g (h.xB g hgb)) fun hf => hn g hf hgb
    way := fun i u hu => (h.way i u hu).chg hc hF
    xb := fun j hj => Nat.lt_of_lt_of_le (h.xb j hj) hc.size
    ltA := fun ad e => Nat.lt_of_lt_of_le (h.ltA ad e) hc.size }
theorem Rp.less {Y : Nat → Prop} (h : Rp w X r gp b A c hh pf B cv us T rg pt lp n S) (hY : ∀ j, Y j → X j) (hB : ∀ j, bk B = some j → Y j) : Rp w Y r gp b A c hh pf B cv us T rg pt lp n S :=
  { h with way := fun i u hu => (h.way i u hu).less hY, xb := fun j hj => h.xb j (hY j hj), xB := hB, xr := fun hx => h.xr (hY _ hx), xg := fun hx => h.xg (hY _ hx), xA := fun ad e hx => h.xA ad e (hY _ hx) }
/-- blocks that are new are put into X, in a world in which they are -/
theorem Rp.more {Y : Nat → Prop} (h : Rp w X r gp b A c hh pf B cv us T rg pt lp n S) (hb : Below w.heap.size w w') (hY : ∀ j, Y j ↔ X j ∨ (w.heap.size ≤ j ∧ j < w'.heap.size)) : Rp w' Y r gp b A c hh pf B cv us T rg pt lp n S :=
  { h with
    box := h.box.next hb
    hr := h.hr.now hb
    pr := h.pr.below hb
    row := h.row.below hb
    way := fun i u hu => ((h.way i u hu).more fun j hj => ((hY j).1 hj).imp id (·.1)).bel hb
    xb := fun j hj => by
      rcases (hY j).1 hj with h1 | h1
      · exact Nat.lt_of_lt_of_le (h.xb j h1) hb.size
      · exact h1.2
    xB := fun j hj => (hY j).2 (.inl (h.xB j hj))
    xr := fun hx => by
      rcases (hY r).1 hx with h1 | h1
      · exact h.xr h1
      · have := h.box.lt; omega
    xg := fun hx => by
      rcases (hY gp).1 hx with h1 | h1
      · exact h.xg h1
      · have := h.pr.lt; omega
    xA := fun ad e hx => by
      rcases (hY _).1 hx with h1 | h1
      · exact h.xA ad e h1
      · have := h.ltA ad e; omega
    ltA := fun ad e => Nat.lt_of_lt_of_le (h.ltA ad e) hb.size }
theorem Rp.c0 (h : Rp w X r gp b A c hh pf B cv us T rg pt lp n S) : w.cell? ⟨r, 0, none⟩ = some (.slice A n c) := h.box.cell 0
theorem Rp.c1 (h : Rp w X r gp b A c hh pf B cv us T rg pt lp n S) : w.cell? ⟨r, 1, none⟩ = some (.slice (some ⟨gp, 0, none⟩) (4 * n) (4 * n)) := h.box.cell 1
theorem Rp.c2 (h : Rp w X r gp b A c hh pf B cv us T rg pt lp n S) : w.cell? ⟨r, 2, none⟩ = some (.int .i64 T) := h.box.cell 2
theorem Rp.c3 (h : Rp w X r gp b A c hh pf B cv us T rg pt lp n S) : w.cell? ⟨r, 3, none⟩ = some (.slice B n cv) := h.box.cell 3
theorem Rp.n8 (h : Rp w X r gp b A c hh pf B cv us T rg pt lp n S) : n ≤ 8 := h.hP.1
/-- a range's row -/
theorem Rp.at_ (h : Rp w X r gp b A c hh pf B cv us T rg pt lp n S) {i : Nat} (hi : i < n) :
    ∃ a A2 c2, B = some ⟨a, 0, none⟩ ∧ us[i]? = some (.slice A2 (S.getD i []).length c2) ∧ w.cell? ⟨a, i, none⟩ = some (.slice A2 (S.getD i []).length c2) ∧ w.frozen? ⟨a, i, none⟩ = false ∧ Rw w A2 (S.getD i []) ∧ (S.getD i []).length ≤ c2 ∧ c2 ≤ maxLen := by
  have hl : i < us.length := by rw [h.ul]; exact hi
  obtain ⟨A2, c2, e1, hr, h1, h2, -⟩ := h.way i _ (List.getElem?_eq_getElem hl)
  obtain ⟨a, cp, e3⟩ := h.row.place (by omega)
  have e4 : B = some ⟨a, 0, none⟩ := by injection e3
  have hrow := h.row
  rw [e4] at hrow
  obtain ⟨k1, k2⟩ := hrow.cellAt hl
  have e2 : us[i]? = some (.slice A2 (S.getD i []).length c2) := by rw [← e1]; exact List.getElem?_eq_getElem hl
  exact ⟨a, A2, c2, e4, e2, k1.trans e2, k2, hr, h1, h2⟩
/-- a range's row is another one -/
theorem Rp.setR {a : Nat} (h : Rp w X r gp b A c hh pf (some ⟨a, 0, none⟩) cv us T rg pt lp n S) {i : Nat} (hi : i < n) {u : Value} {l : List Int} (hu : Rt w X u l) : Rp (w.setCell ⟨a, i, none⟩ u) X r gp b A c hh pf (some ⟨a, 0, none⟩) cv (us.set i u) T rg pt lp n (S.set i l) := by
  have hc := chg_set (Chg.refl w (· = a)) i u
  have hXa : X a := h.xB a rfl
  have hF : ∀ j, j = a → X j := fun j e => by rw [e]; exact hXa
  have hl : i < us.length := by rw [h.ul]; exact hi
  exact { h with
    box := hc.bx h.box fun e => h.xr (hF _ e)
    hr := hc.rv h.hr fun ad e hf => h.xA ad e (hF _ hf)
    pr := h.pr.chg hc fun hf => h.xg (hF _ hf)
    row := (h.row.set hl).1
    way := fun j v hv => by
      rw [gd_set _ (Nat.lt_of_lt_of_le hi h.nS)]
      by_cases e : i = j
      · subst e
        rw [List.getElem?_set_self hl] at hv
        injection hv with hv
        subst hv
        rw [if_pos rfl]
        exact hu.chg hc hF
      · rw [List.getElem?_set_ne e] at hv
        rw [if_neg e]
        exact (h.way j v hv).chg hc hF
    ul := by rw [List.length_set]; exact h.ul
    nS := by rw [List.length_set]; exact h.nS
    xb := fun j hj => by rw [setSize]; exact h.xb j hj
    ltA := fun ad e => by rw [setSize]; exact h.ltA ad e }
theorem drewN_two (w : World) (d e : Nat) : (w.drewN d).drewN e = w.drewN (d + e) := by simp
/-- numbers of 64 bits -/
def zb (z : Int) : Prop := -9223372036854775808 ≤ z ∧ z ≤ 9223372036854775807
theorem rp_range (h : Rp w X r gp b A c hh pf B cv us T rg pt lp n S) {z : Int} (hz : zb z) : Calls Tryz.prog 54 #[.slice A n c, .int .i64 z] w fun e w' => e = .returned (.int .i64 (rrV (rg z))) ∧ ∃ k, w' = w.drewN k := by
  rw [← h.rgE]
  exact rrange_any A n c hh b z w hz.1 hz.2 h.hP h.hr
theorem Rp.rl (h : Rp w X r gp b A c hh pf B cv us T rg pt lp n S) {z : Int} {i : Nat} (hz : rg z = some i) : i < n := by
  rw [← h.rgE] at hz
  exact (rgi_lt hz).1
set_option maxHeartbeats 400000 in
theorem rp_part (h : Rp w X r gp b A c hh pf B cv us T rg pt lp n S) {z : Int} (hz : zb z) : Calls Tryz.prog 49 #[.pointer (some ⟨r, 0, none⟩), .int .i64 z] w fun e w' => e = .returned (.int .i64 (ptO pt (rg z) : Nat)) ∧ ∃ d, w' = w.drewN d := by
  have c0 := h.c0
  have HRG := hid (rp_range h hz)
  have H := hid h
  cases ho : rg z with
  | none =>
    rw [ho] at HRG
    rw [show rrV none = -1 from rfl] at HRG
    clear h hz ho
    go_enter Tryz.func49, Tryz.ntmps49
    go_wp2_with (go_at_call 54; refine HRG.out.mono ?_; rintro e w2 ⟨rfl, d, rfl⟩)
    go_ret
    exact ⟨rfl, d, rfl⟩
  | some i =>
    rw [ho] at HRG
    rw [show rrV (some i) = (i : Nat) from rfl] at HRG
    have hi := h.rl ho
    have hn8 := h.n8
    have ht1 := h.t1
    have ht3 := h.t3
    obtain ⟨M0, hM0⟩ : ∃ x : Nat, 4 * i = x := ⟨_, rfl⟩
    obtain ⟨M, hM⟩ : ∃ x : Nat, M0 + T = x := ⟨_, rfl⟩
    obtain ⟨J, hJ⟩ : ∃ x : Nat, M = x + 1 := ⟨M - 1, by omega⟩
    obtain ⟨N, hN⟩ : ∃ x : Nat, 4 * n = x := ⟨_, rfl⟩
    have e0 : 4 * (i : Int) = (M0 : Int) := by omega
    have e1 : (M0 : Int) + (T : Int) = (M : Int) := by omega
    have e2 : (M : Int) - 1 = (J : Int) := by omega
    have b0 : (0 : Int) ≤ (J : Int) := by omega
    have b1 : (J : Int) < (N : Int) := by omega
    have b2 : (M : Int) < 100 := by omega
    have b3 : (M0 : Int) < 100 := by omega
    have b4 : (T : Int) ≤ 3 := by omega
    have b5 : (i : Int) < 8 := by omega
    have hcell : w.cell? ⟨gp, J, none⟩ = some (.int .i64 (pt i : Nat)) := by
      rw [h.pr.cell J (by omega)]
      unfold ptv
      rw [show J / 4 = i from by omega, show J % 4 = T - 1 from by omega, ← h.ptE]
    have c1 := h.c1
    have c2 := h.c2
    rw [hN] at c1
    rw [show ptO pt (some i) = pt i from rfl]
    generalize pt i = P at *
    clear h hz ho hM0 hM hJ hN hi hn8 ht1 ht3
    go_enter Tryz.func49, Tryz.ntmps49
    go_upto_region 4 with (go_at_call 54; refine HRG.out.mono ?_; rintro e w2 ⟨rfl, d, rfl⟩)
    go_quiet (fail)
    go_wp2
    go_ret
    exact ⟨rfl, d + nq, drewN_two w d nq⟩
set_option maxHeartbeats 400000 in
theorem rp_has (h : Rp w X r gp b A c hh pf B cv us T rg pt lp n S) (ok : Okp rg pt n S) {z : Int} (hz : zb z) : Calls Tryz.prog 86 #[.pointer (some ⟨r, 0, none⟩), .int .i64 z] w fun e w' => e = .returned (.bool (dec (inS S z))) ∧ ∃ d, w' = w.drewN d := by
  have c0 := h.c0
  have HRG := hid (rp_range h hz)
  have H := hid h
  cases ho : rg z with
  | none =>
    rw [ho] at HRG
    rw [show rrV none = -1 from rfl] at HRG
    rw [dec_false (okp_none ok ho)]
    clear h hz ho ok
    go_enter Tryz.func86, Tryz.ntmps86
    go_wp2_with (go_at_call 54; refine HRG.out.mono ?_; rintro e w2 ⟨rfl, d, rfl⟩)
    go_ret
    exact ⟨rfl, d, rfl⟩
  | some i =>
    rw [ho] at HRG
    rw [show rrV (some i) = (i : Nat) from rfl] at HRG
    have hi := h.rl ho
    rw [dec_congr (show inS S z ↔ z ∈ S.getD i [] from ⟨fun hs => by
      obtain ⟨j, h1, h2⟩ := ok.in_.1 hs
      rw [ho] at h1
      injection h1 with h1
      subst h1
      exact h2, fun hm => ok.in_.2 ⟨i, ho, hm⟩⟩)]
    obtain ⟨a, A2, c2, rfl, -, q0, -, hrw, -⟩ := h.at_ hi
    have c3 := h.c3
    have hl64 : (S.getD i []).length ≤ 64 := ok.wf.len (gd_some (Nat.lt_of_lt_of_le hi h.nS))
    have HHS := hid (fun d => rhas_any A2 (S.getD i []).length c2 (S.getD i []) z (w.drewN d) _ rfl (by unfold maxLen; omega) (hrw.draws d).rd)
    have b1 : (i : Int) < (n : Int) := by omega
    have b0 : (0 : Int) ≤ (i : Int) := by omega
    generalize dec (z ∈ S.getD i []) = D at *
    generalize (S.getD i []).length = N at *
    clear h hz ho ok hrw hi
    go_enter Tryz.func86, Tryz.ntmps86
    go_wp2_with (first | (go_at_call 54; refine HRG.out.mono ?_; rintro e w2 ⟨rfl, d, rfl⟩) | (go_at_call 46; refine (HHS.out d).mono ?_; rintro e w3 ⟨rfl, rfl⟩))
    go_ret
    exact ⟨rfl, d, rfl⟩
set_option maxRecDepth 10000 in
set_option maxHeartbeats 1000000 in
theorem rp_all (h : Rp w X r gp b A c hh pf B cv us T rg pt lp n S) (ok : Okp rg pt n S) : Calls Tryz.prog 44 #[.pointer (some ⟨r, 0, none⟩)] w (Told w (allp S n)) := by
  have hn8 := h.n8
  have H := hid h
  have OK := hid ok
  have HG0 := hid (GrW.refl w nl)
  clear h ok
  go_enter Tryz.func44, Tryz.ntmps44
  go_wp2
  go_loopg [3, 4] n (fun gk s t wr => ∃ (j : Nat) (v : Value), j + gk = n ∧ v = s ∧ t = .int .i64 j ∧ OwnW wr 3 v (ints (allp S j)) ∧ GrW w wr nl v)
  case atStart => exact ⟨0, _, by omega, rfl, rfl, ownW_nil _ _, HG0.out⟩
  case round =>
    obtain ⟨j, v, hj, rfl, rfl, ho, hg⟩ := hrel
    have HP := hid (H.out.below hg.nilBelow)
    have c3 := HP.out.c3
    by_cases hlt : j < n
    · have hlt' : (j : Int) < (n : Int) := by omega
      have b0 : (0 : Int) ≤ (j : Int) := by omega
      obtain ⟨a, A2, c2, hB, -, q0, -, hrw, hc1, hc2⟩ := HP.out.at_ hlt
      subst hB
      have hjS : j < S.length := Nat.lt_of_lt_of_le hlt H.out.nS
      have HT := hid (allp_succ S j)
      obtain ⟨m, hm⟩ : ∃ m, (ints (allp S j)).length = m := ⟨_, rfl⟩
      have hm64 : m ≤ 64 := by rw [← hm, ints_length]; exact OK.out.len64 j
      obtain ⟨m2, hm2⟩ : ∃ m, (S.getD j []).length = m := ⟨_, rfl⟩
      have hm264 : m2 ≤ 64 := by rw [← hm2]; exact OK.out.wf.len (gd_some hjS)
      rw [hm2] at q0 hc1
      have HM := hid hm
      have HML := hid (show (ints (S.getD j [])).length = m2 from by rw [ints_length]; exact hm2)
      have HO := hid ho
      have HG := hid hg
      have HRW := hid hrw
      obtain ⟨D, cb, e0, -⟩ := ho.read
      rw [hm] at e0
      subst e0
      clear ho hg hm hm2 hjS hrw
      generalize S.getD j [] = l at *
      go_wp2_with (at_builtin; (refine wpList_appW elt_int rfl _ _ rfl _ _ HO.out rfl _ _ m2 c2 (ints l) rfl HML.out HRW.out.rd (ints_one _) (by rw [HM.out]; unfold maxLen; omega) (by rw [HM.out]; omega) ?_); (intro v2 w3 hown3 hg3; have HG3 := hid (HG.out.trans hg3); have HO3 := hid hown3; clear hown3 hg3))
      go_roundg (gk - 1)
      case measure => omega
      case rel => exact ⟨j + 1, v2, by omega, rfl, by go_num, by rw [HT.out]; exact HO3.out, HG3.out⟩
    · have hlt' : ¬ (j : Int) < (n : Int) := by omega
      obtain rfl : j = n := by omega
      have HO := hid ho
      have HG := hid hg
      obtain ⟨D, cb, e0, -⟩ := ho.read
      rw [ints_length] at e0
      subst e0
      clear ho hg
      go_wp2
      go_ret
      exact ⟨_, _, rfl, HO.out, HG.out⟩
end
end Go.Proofs.YtmfdlkkligjcbaaGreat
namespace Go.Proofs.YtmfdlkkligjcbaaGreat
open Go.RowKit

/-- behind p rounds: the block is r, the world ahead of it w -/
structure Mk15 (w wr : World) (r : Nat) (c0 c1 c2 : Value) (p : Nat) (v : Value) : Prop where
  box : Bx wr r 116 #[c0, c1, c2, v]
  row : OwnW wr 43 v (List.replicate p nl)
  bel : Below w.heap.size w wr
  ne : v.ownBlock ≠ some r
  low : ∀ g, v.ownBlock = some g → w.heap.size ≤ g
  hr : w.heap.size ≤ r
section
variable {w wr w2 : World} {r p : Nat} {c0 c1 c2 v v2 : Value}
theorem Mk15.alloc (h : Mk15 w wr r c0 c1 c2 p v) (o : Obj) : Mk15 w (wr.alloc o) r c0 c1 c2 p v :=
  ⟨h.box.alloc o, h.row.below (below_alloc wr o), h.bel.trans ((below_alloc wr o).mono h.bel.size), h.ne, h.low, h.hr⟩
theorem Mk15.more (h : Mk15 w wr r c0 c1 c2 p v) (ho : OwnW w2 43 v2 (List.replicate p nl ++ [nl])) (hg : GrW wr w2 v v2) :
    Bx w2 r 116 #[c0, c1, c2, v] ∧ Mk15 w (w2.setCell ⟨r, 3, none⟩ v2) r c0 c1 c2 (p + 1) v2 := by
  have hx : Bx w2 r 116 #[c0, c1, c2, v] := (hg.other h.box.lt h.ne).trans h.box
  have hlow : ∀ g, v2.ownBlock = some g → w.heap.size ≤ g ∧ g ≠ r := fun g e => by
    rcases hg.at_ with e1 | e1
    · rw [e1] at e
      exact ⟨h.low g e, fun e2 => h.ne (by rw [e, e2])⟩
    · have := e1 g e
      have := h.box.lt
      have := h.hr
      omega
  have hb : Below w.heap.size w w2 := ⟨hg.gr.os.trans h.bel.os, hg.gr.tape.trans h.bel.tape, hg.gr.output.trans h.bel.output, Nat.le_trans h.bel.size hg.gr.size, fun j hj => (hg.gr.block j (Nat.lt_of_lt_of_le hj h.bel.size) (fun e => by have := h.low j e.symm; omega)).trans (h.bel.block j hj)⟩
  refine ⟨hx, ?_, ?_, hb.setCell h.hr _, fun e => (hlow _ e).2 rfl, fun g e => (hlow g e).1, h.hr⟩
  · have := hx.set 3 v2
    simpa using this
  · rw [List.replicate_succ']
    exact ho.kept fun j hj => Below.heap_setCell w2 _ _ j (fun e2 => (hlow j hj).2 e2)
end
/-- what New makes -/
def Nw15 (w : World) (K : Nat → Prop) (b : Int) (A : Option Addr) (c : Nat) (hh : Nat → Hn) (T : Nat) (rg : Int → Option Nat) (pt : Nat → Nat) (lp : Nat → Bool) (n : Nat) (e : Ending) (w' : World) : Prop :=
  ∃ r gp pf B cv us, e = .returned (.pointer (some ⟨r, 0, none⟩)) ∧ Rp w' (fun j => K j ∨ bk B = some j) r gp b A c hh pf B cv us T rg pt lp n (empt (cl n)) ∧ Below w.heap.size w w' ∧ (∀ j, bk B = some j → w.heap.size ≤ j)
set_option maxRecDepth 10000 in
set_option maxHeartbeats 1000000 in
theorem rp_new {A : Option Addr} {n c T : Nat} {hh : Nat → Hn} {b : Int} {u : Nat → Nat} {w : World} {K : Nat → Prop} {rg : Int → Option Nat} {pt : Nat → Nat} {lp : Nat → Bool}
    (hP : HintsP hh n b) (hr : Rv w w.heap.size A (hvs hh n)) (hx : ∀ t, t < 3 → u t ≤ 1000) (t1 : 1 ≤ T) (t3 : T ≤ 3) (hA : ∀ ad, A = some ad → ad.block < w.heap.size ∧ ¬ K ad.block) (hK : ∀ j, K j → j < w.heap.size)
    (e1 : ∀ z, rg z = rgi hh z n) (e2 : ∀ i, pt i = KP hh n u i (T - 1)) (e3 : ∀ i, lp i = (hh i).l) :
    Calls Tryz.prog 38 #[.slice A n c, .agg #[.int .i64 (u 0 : Nat), .int .i64 (u 1 : Nat), .int .i64 (u 2 : Nat)], .int .i64 T] w (Nw15 w K b A c hh T rg pt lp n) := by
  have hn8 := hP.1
  have HB0 := hid (below_alloc w (.cells #[.int .i64 (u 0 : Nat), .int .i64 (u 1 : Nat), .int .i64 (u 2 : Nat)] 22))
  have HPA := hid (fun (y : World) (hb : Below w.heap.size w y) => rparts_new (c := c) (u := u) hP (hr.now hb) hx)
  have HFIN := hid (fun (w1 y : World) (gp p : Nat) (cv : Nat) (B : Option Addr) (hb : Below w.heap.size w w1) (ha : Arr w1 gp (n * 4) (ptv (KP hh n u))) (hg : w.heap.size ≤ gp ∧ gp < w1.heap.size) (hm : Mk15 w1 y w1.heap.size (.slice A n c) (.slice (some ⟨gp, 0, none⟩) (4 * n) (4 * n)) (.int .i64 T) p (.slice B p cv)) (hp : p = n) =>
    show Nw15 w K b A c hh T rg pt lp n (.returned (.pointer (some ⟨w1.heap.size, 0, none⟩))) y from by
      subst hp
      have hby : Below w.heap.size w y := on hb hm.bel
      have hbk : ∀ j, bk B = some j → w1.heap.size ≤ j ∧ j ≠ w1.heap.size ∧ j < y.heap.size := fun j e => by
        have e2 : (Value.slice B p cv).ownBlock = some j := by cases B <;> simp_all [Value.ownBlock, bk]
        exact ⟨hm.low j e2, fun e3 => hm.ne (by rw [e2, e3]), hm.row.lt e2⟩
      refine ⟨w1.heap.size, gp, KP hh p u, B, cv, _, rfl, ⟨hm.box, hr.now hby, ha.below hm.bel, hm.row, fun i v hv => ?_, List.length_replicate, hP, fun z => (e1 z).symm, fun i => (e2 i).symm, fun i => (e3 i).symm, ?_, t1, t3, fun j hj => ?_, fun j hj => .inr hj, fun hx => ?_, fun hx => ?_, fun ad e hx => ?_, fun ad e => Nat.lt_of_lt_of_le (hA ad e).1 hby.size⟩, hby, fun j hj => ?_⟩
      · rw [List.eq_of_mem_replicate (List.mem_of_getElem? hv), empt_gd]
        exact ⟨none, 0, rfl, rw_nil _, Nat.le_refl _, by unfold maxLen; omega, fun ad e => by cases e⟩
      · unfold empt cl
        rw [List.length_replicate]
        omega
      · rcases hj with hj | hj
        · exact Nat.lt_of_lt_of_le (hK j hj) hby.size
        · exact (hbk j hj).2.2
      · rcases hx with hx | hx
        · have := hK _ hx
          have := hb.size
          omega
        · exact (hbk _ hx).2.1 rfl
      · rcases hx with hx | hx
        · have := hK _ hx
          omega
        · have := hbk _ hx
          omega
      · rcases hx with hx | hx
        · exact (hA ad e).2 hx
        · have := hbk _ hx
          have := (hA ad e).1
          have := hb.size
          omega
      · have := hbk j hj
        have := hb.size
        omega)
  clear hP hr hx t1 t3 hA hK e1 e2 e3
  go_enter Tryz.func38, Tryz.ntmps38
  go_upto_region 1 with fail
  have HBX := hid (Bx.new w 22 #[.int .i64 (u 0 : Nat), .int .i64 (u 1 : Nat), .int .i64 (u 2 : Nat)])
  generalize w.alloc (.cells #[.int .i64 (u 0 : Nat), .int .i64 (u 1 : Nat), .int .i64 (u 2 : Nat)] 22) = w1 at *
  have q0 := HBX.out.cell 0
  have q1 := HBX.out.cell 1
  have q2 := HBX.out.cell 2
  go_upto_region 2 with (go_at_call 55; refine (HPA.out _ HB0.out).mono ?_; rintro e w2 ⟨gp, rfl, ha, hb, hg⟩; have HA := hid ha; have HB := hid (on HB0.out hb); have HG := hid (show w.heap.size ≤ gp ∧ gp < w2.heap.size from ⟨Nat.le_trans HB0.out.size hg, ha.lt⟩); clear ha hb hg)
  have HFI := hid (fun (y : World) (p cv : Nat) (B : Option Addr) => HFIN.out w2 y gp p cv B HB.out HA.out HG.out)
  have M0 : Mk15 w2 (w2.alloc (.cells #[.slice A n c, .slice (some ⟨gp, 0, none⟩) (4 * n) (4 * n), .int .i64 T, .slice none 0 0] 116)) w2.heap.size (.slice A n c) (.slice (some ⟨gp, 0, none⟩) (4 * n) (4 * n)) (.int .i64 T) 0 (.slice none 0 0) :=
    ⟨Bx.new w2 _ _, ownW_nil _ _, below_alloc w2 _, by simp [Value.ownBlock], fun g e => by simp [Value.ownBlock] at e, Nat.le_refl _⟩
  have HM0 := hid M0
  obtain ⟨r, hr⟩ : ∃ r, w2.heap.size = r := ⟨_, rfl⟩
  rw [hr] at HM0 HFI
  rw [hr]
  have HRR := hid hr
  obtain ⟨C1, hC1⟩ : ∃ v, Value.slice (some ⟨gp, 0, none⟩) (4 * n) (4 * n) = v := ⟨_, rfl⟩
  have HC1 := hid hC1
  rw [hC1] at HM0 HFI ⊢
  generalize w2.alloc (.cells #[.slice A n c, C1, .int .i64 T, .slice none 0 0] 116) = w3 at *
  clear M0 hr hC1 q0 q1 q2 HFIN HPA HBX
  go_wp2
  go_loopg [8] n (fun gk t wr => ∃ (p : Nat) (v : Value), p + gk = n ∧ t = .int .i64 p ∧ Mk15 w2 wr r (.slice A n c) C1 (.int .i64 T) p v)
  case atStart => exact ⟨0, _, by omega, rfl, HM0.out⟩
  case round =>
    obtain ⟨p, v, hp, rfl, hm⟩ := hrel
    obtain ⟨D, cd, e, rd, hc, hcm⟩ := hm.row.read
    rw [List.length_replicate] at e
    subst e
    by_cases hlt : p < n
    · have h1 : (p : Int) < (n : Int) := by omega
      have c3 : wr.cell? ⟨r, 3, none⟩ = some (.slice D p cd) := hm.box.cell 3
      have HM1 := hid (hm.alloc (.cells #[.slice none 0 0] 43))
      have HR1 := hid (rv_new wr 43 #[.slice none 0 0])
      have HL := hid (show (List.replicate p nl).length = p from List.length_replicate)
      have hlt1 : r < wr.heap.size := hm.box.lt
      clear hm rd hc hcm
      go_upto_region 5 with fail
      go_wp2_with (at_builtin; (refine wpList_appW elt_row rfl (.tmp 26) (.tmp 27) rfl _ _ HM1.out.row rfl _ _ 1 1 [.slice none 0 0] rfl rfl HR1.out (fun u hu => by simp at hu; subst hu; rfl) (by rw [HL.out]; unfold maxLen; omega) (by rw [HL.out]; omega) ?_); intro v2 w4 hown2 hg2; obtain ⟨X2, M2⟩ := HM1.out.more hown2 hg2; obtain ⟨AA, nn, ac, rfl⟩ : ∃ A n c, v2 = .slice A n c := (by obtain ⟨A, c, e, -⟩ := hown2.read; exact ⟨A, _, c, e⟩); have y0 := X2.cell 3; have y1 := X2.free 3; have HM2 := hid M2; clear X2 M2 hown2 hg2)
      go_roundg (gk - 1)
      case measure => omega
      case rel => exact ⟨p + 1, _, by omega, by go_num, HM2.out⟩
    · obtain rfl : p = n := by omega
      have h1 : ¬ (p : Int) < (p : Int) := by omega
      have HE := hid (HFI.out wr p cd D hm rfl)
      clear hm rd hc hcm
      go_wp2
      go_ret
      exact HE.out
end Go.Proofs.YtmfdlkkligjcbaaGreat
