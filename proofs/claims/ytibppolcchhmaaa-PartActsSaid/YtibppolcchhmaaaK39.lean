/-
  What is proved: the walk of PartActs: whatever is used, added and removed, one behind the other, what goes, and what is there, range by range, is what the document says. Condition: the hints and the acts are read as such.
-/
import Derived.Test.YtibppolcchhmaaaK37
import Derived.Test.YtibppolcchhmaaaK38
namespace Go.Proofs.Ytibppolcchhmaaa
open Go.RowKit

theorem wp_app15 {P : Program} {S e : TypeId} {z : Value} {size bytes : Nat} (Z : Elt P S e z size bytes) {w : World} {o : Oper} {a : Act} {K : Act → World → Prop} {Q : Exit → Act → World → Prop} (s x : Operand)
    (ho : o.op = .call { callee := .builtin .append, args := #[s, x], argTypes := #[S, S] }) (b : Nat) (v : Value) (n : Nat) (us : List Value) (hown : OwnV w b e size v n us) (hs : a.eval s = v) (C : Nat) (A : Option Addr) (m c : Nat) (news : List Value)
    (hx : a.eval x = .slice A m c) (hm : news.length = m * size) (hr : Rv w C A news) (h1 : ∀ u ∈ news, u.oneCell' = true) (hlen : n + m ≤ maxLen) (hbytes : (n + m) * bytes ≤ 140737488355328) (hbase : b ≤ w.heap.size)
    (h : ∀ v' w', OwnV w' b e size v' (n + m) (us ++ news) → GrownV w w' v v' → K (a.put o.dst v') w') : o.wp P a w K Q := by
  obtain ⟨v', w', hrun, h2, h3⟩ := run_appV Z w o.type b v n us hown C A m c news hm hr h1 hlen hbytes hbase
  unfold Oper.wp execOp
  simp only [ho, resolve, invoke, builtin, Sem.run_bind, Sem.run_pure, Result.andThen_ok, List.map_toArray, List.map_cons, List.map_nil, hs, hx, hrun]
  exact h v' w' h2 h3
theorem own_row3 {w w' : World} {b s n : Nat} {e : TypeId} {v : Value} {us : List Value} (h : OwnV w' b e s v n us) (hb : w.heap.size ≤ b) : ∃ A c, v = .slice A n c ∧ Rv w' w'.heap.size A us ∧ ∀ ad, A = some ad → w.heap.size ≤ ad.block ∧ ad.block < w'.heap.size := by
  obtain ⟨A, c, e, hr, h1, h2⟩ := OwnV.read h
  refine ⟨A, c, e, hr, fun ad ea => ?_⟩
  have h3 := World.ownsRow.lt h ad.block (by rw [e, ea]; rfl)
  exact ⟨Nat.le_trans hb h3.1, h3.2⟩
set_option maxRecDepth 20000 in
set_option maxHeartbeats 8000000 in
theorem acts15_ok (A : Option Addr) (n c : Nat) (hh : Nat → Hn) (b : Int) (u : Nat → Nat) (T : Nat) (D : Option Addr) (m c2 : Nat) (f : Nat → A2) (w : World) (hcA : A = none → c = 0) (hr : Rv w w.heap.size A (hvs hh n))
    (hcp : CapP b (u 0 : Nat) (u 1 : Nat) (u 2 : Nat)) (hu : cN (u 0 : Nat) (u 1 : Nat) (u 2 : Nat) = u) (hu16 : ∀ t, t < 3 → u t ≤ 16) (hhp : HintsP hh n b) (hT1 : 1 ≤ T) (hT3 : T ≤ 3) (hm : m ≤ 150) (hac : Acts w D m f) (hzb : ∀ i, i < m → zb (f i).b) :
    Calls Try.prog 3 #[.agg #[.slice A n c, .int .i64 b, .int .i64 (u 0 : Nat), .int .i64 (u 1 : Nat), .int .i64 (u 2 : Nat)], .int .i64 T, .slice D m c2] w fun e w' => e = .returned (.bool true) ∧ Below w.heap.size w w' := by
  have hn8 := hhp.1
  have HLO := hid (fun w => long15 A n c b (u 0 : Nat) (u 1 : Nat) (u 2 : Nat) D m c2 w)
  rw [decide_eq_false (show ¬ (20 < n ∨ 150 < m) by omega)] at HLO
  have HR := hid hr
  have HAC := hid hac
  have HZB := hid hzb
  have HX0 := hid (Lx.new w A n c b (u 0 : Nat) (u 1 : Nat) (u 2 : Nat))
  obtain ⟨s, hs⟩ : ∃ q, w.heap.size = q := ⟨_, rfl⟩
  have HS2 := hid hs
  rw [hs] at HX0
  have HN := hid (fun w (hr : Rv w w.heap.size A (hvs hh n)) => new_pn (u := u) (w := w) (c := c) (by omega) hcA hr hcp hu hhp hT1 hT3)
  have HRN := hid (fun (w : World) (A : Option Addr) (c : Nat) (k : Nat) rg pt lp hr hA hK e1 e2 e3 => rp_new (A := A) (c := c) (T := T) (hh := hh) (b := b) (u := u) (w := w) (K := (· = k)) (rg := rg) (pt := pt) (lp := lp) hhp hr (fun t ht => by have := hu16 t ht; omega) hT1 hT3 hA hK e1 e2 e3)
  have h1 : ¬ (T : Int) < 1 := by omega
  have h3 : ¬ 3 < (T : Int) := by omega
  clear hr hs hcp hu hu16 hhp hcA hac hzb hT1 hT3
  go_enter Try.func3, Try.ntmps3
  go_upto_region 1 with fail
  rw [HS2.out]
  generalize w.alloc (.cells #[.slice A n c, .int .i64 b, .int .i64 (u 0 : Nat), .int .i64 (u 1 : Nat), .int .i64 (u 2 : Nat)] 25) = w1 at *
  go_upto_region 8 with (first
    | (go_at_call 7; refine (wakes15 _).mono ?_; rintro e w2 ⟨rfl, hb⟩; have HX2 := hid (HX0.out.below hb); obtain ⟨p0, p1, p2, p3, p4⟩ := HX2.out.all; clear hb)
    | (go_at_call 8; refine (HLO.out _).mono ?_; rintro e w3 ⟨rfl, hb⟩; have HX3 := hid (HX2.out.below hb); obtain ⟨r0, r1, r2, r3, r4⟩ := HX3.out.all; clear hb)
    | (go_at_call 9; refine (HN.out _ (HR.out.now HX3.out.bel)).mono ?_; rintro e w4 ⟨q, rg, pt, lp, rfl, hpn, hls, e1, e2, e3, hb⟩; have HPN := hid hpn; have HEE := hid (And.intro e1 (And.intro e2 e3)); have HX4 := hid (HX3.out.below hb); clear hpn hls e1 e2 e3 hb))
  clear p0 p1 p2 p3 p4 r0 r1 r2 r3 r4 HX0 HX2 HX3 HN HLO
  go_upto_region 11 with (go_at_call 10; refine (pt_new HPN.out).mono ?_; rintro e w5 ⟨g, k, rfl, hp⟩; have HL5 := hid (show Lb w w4 w5 s A n c b (u 0 : Nat) (u 1 : Nat) (u 2 : Nat) g k q T rg pt lp n (empt (cl n)) from ⟨HX4.out.below hp.bel, hp, HX4.out.lt, HX4.out.bel.size⟩); clear hp)
  clear h1 h3
  have HLD := hid (show Lb w w4 w5.drew s A n c b (u 0 : Nat) (u 1 : Nat) (u 2 : Nat) g k q T rg pt lp n (empt (cl n)) from HL5.out.draws 1)
  have HO := hid (show OwnV (w5.drew.alloc (.cells #[] 58)) w5.heap.size 58 4 (.slice (some ⟨w5.heap.size, 0, none⟩) 0 0) 0 [] from World.ownsRow_lit (size := 4) (e := 58) (base := w5.heap.size) w5.drew #[] 0 (Nat.le_refl _) (by unfold maxLen; omega) rfl)
  have HM := hid (show Rv (w5.drew.alloc (.cells #[] 58)) w5.heap.size A (hvs hh n) from (show Rv w5.drew w5.drew.heap.size A (hvs hh n) from HR.out.now HLD.out.x.bel).below (below_alloc w5.drew _) (Nat.le_refl _))
  have HGK := hid (show g < w5.heap.size ∧ k < w5.heap.size ∧ w4.heap.size ≤ w5.heap.size from ⟨HL5.out.p.box.lt, HL5.out.p.sq.lt, HL5.out.p.bel.size⟩)
  refine wp_region_noPanic ?_
  refine wp_region_held_drew (S := fun w' => w'.cell? ⟨s, 0, none⟩ = some (.slice A n c) ∧ w'.cell? ⟨s, 1, none⟩ = some (.int .i64 b) ∧ w'.cell? ⟨s, 2, none⟩ = some (.int .i64 (u 0 : Nat)) ∧ w'.cell? ⟨s, 3, none⟩ = some (.int .i64 (u 1 : Nat)) ∧ w'.cell? ⟨s, 4, none⟩ = some (.int .i64 (u 2 : Nat))) (by kernel_rfl) ?_ (fun hHeld => ?_)
  · exact HLD.out.x.all
  refine wpAnyH_take (i := 1) (oi := ⟨some 54, _, _, _, _, _⟩) (v := ?_) rfl (by kernel_rfl) (by kernel_rfl) (by kernel_rfl) (fun _ _ _ h => h) (Or.inl ⟨by rfl, ?_⟩) (by assumption) ?_
  rotate_left 1
  · intro w0 hSw
    obtain ⟨s0, s1, s2, s3, s4⟩ := hSw
    go_simp
    try with_reducible rfl
  (try simp only [Act.put, List.setIfInBounds_toArray, List.set_cons_zero, List.set_cons_succ])
  refine wpAnyH_take (i := 2) (oi := ⟨some 55, _, _, _, _, _⟩) (v := ?_) rfl (by kernel_rfl) (by kernel_rfl) (by kernel_rfl) (fun _ _ _ h => h) (Or.inl ⟨by rfl, ?_⟩) (by assumption) ?_
  rotate_left 1
  · intro w0 hSw
    obtain ⟨s0, s1, s2, s3, s4⟩ := hSw
    go_simp
    try with_reducible rfl
  (try simp only [Act.put, List.setIfInBounds_toArray, List.set_cons_zero, List.set_cons_succ])
  refine wpAnyH_take (i := 4) (oi := ⟨some 57, _, _, _, _, _⟩) (v := ?_) rfl (by kernel_rfl) (by kernel_rfl) (by kernel_rfl) (fun _ _ _ h => h) (Or.inl ⟨by rfl, ?_⟩) (by assumption) ?_
  rotate_left 1
  · intro w0 hSw
    obtain ⟨s0, s1, s2, s3, s4⟩ := hSw
    go_simp
    try with_reducible rfl
  (try simp only [Act.put, List.setIfInBounds_toArray, List.set_cons_zero, List.set_cons_succ])
  refine wpAnyH_take (i := 5) (oi := ⟨some 58, _, _, _, _, _⟩) (v := ?_) rfl (by kernel_rfl) (by kernel_rfl) (by kernel_rfl) (fun _ _ _ h => h) (Or.inl ⟨by rfl, ?_⟩) (by assumption) ?_
  rotate_left 1
  · intro w0 hSw
    obtain ⟨s0, s1, s2, s3, s4⟩ := hSw
    go_simp
    try with_reducible rfl
  (try simp only [Act.put, List.setIfInBounds_toArray, List.set_cons_zero, List.set_cons_succ])
  refine wpAnyH_take (i := 6) (oi := ⟨some 59, _, _, _, _, _⟩) (v := ?_) rfl (by kernel_rfl) (by kernel_rfl) (by kernel_rfl) (fun _ _ _ h => h) (Or.inl ⟨by rfl, ?_⟩) (by assumption) ?_
  rotate_left 1
  · intro w0 hSw
    obtain ⟨s0, s1, s2, s3, s4⟩ := hSw
    go_simp
    try with_reducible rfl
  (try simp only [Act.put, List.setIfInBounds_toArray, List.set_cons_zero, List.set_cons_succ])
  refine wpAnyH_ready (rs := [0]) (by kernel_rfl) (by simp) ?_
  refine AllReadyH.cons (o := ⟨some 53, _, _, _, _, _⟩) rfl (fun K hK => ?_) AllReadyH.nil
  rw [if_pos (by rfl)]
  go_simp
  refine hK.out _ _ (HLD.out.below (below_alloc _ _)).x.all (fun hHeld => ?_)
  clear hK K
  (try simp only [Act.put, List.setIfInBounds_toArray, List.set_cons_zero, List.set_cons_succ])
  refine wpAnyH_ready (rs := [3]) (by kernel_rfl) (by simp) ?_
  refine AllReadyH.cons (o := ⟨some 56, _, _, _, _, _⟩) rfl (fun K hK => ?_) AllReadyH.nil
  rw [if_pos (by rfl)]
  refine wp_app15 elt_hint (.tmp 53) (.tmp 55) rfl w5.heap.size _ 0 [] HO.out rfl _ _ n c (hvs hh n) rfl (hvs_length hh n) HM.out (hvs_one hh n) (by unfold maxLen; omega) (by omega) (by exact (below_alloc w5 (.cells #[] 58)).size) ?_
  intro v6 w6 hown hg6
  have hb6 : Below w5.drew.heap.size w5.drew w6 := (below_alloc w5.drew _).trans (hg6.below HO.out (by exact (below_alloc w5 (.cells #[] 58)).size))
  rw [List.nil_append, Nat.zero_add] at hown
  obtain ⟨A6, c6, rfl, hr6, hA6⟩ := own_row3 (w := w5.drew) hown (Nat.le_refl _)
  have HL6 := hid (HLD.out.below hb6)
  have HN6 := hid (HRN.out w6 A6 c6 k rg pt lp hr6 (fun ad e => by have h1 := hA6 ad e; have h2 := HGK.out.2.1; exact ⟨h1.2, fun e2 => by have h3 : w5.drew.heap.size = w5.heap.size := rfl; omega⟩) (fun j e => by have h1 := HL6.out.p.sq.lt; omega) HEE.out.1 HEE.out.2.1 HEE.out.2.2)
  have HS6 := hid (show w5.heap.size ≤ w6.heap.size from hb6.size)
  have kp := HL6.out.x.all
  clear hown hg6 hb6 hr6 hA6
  refine hK.out _ _ kp (fun hHeld => ?_)
  clear hK K
  (try simp only [Act.put, List.setIfInBounds_toArray, List.set_cons_zero, List.set_cons_succ])
  refine wpAnyH_ready (rs := [7]) (by kernel_rfl) (by simp) ?_
  refine AllReadyH.cons (o := ⟨some 60, _, _, _, _, _⟩) rfl (fun K hK => ?_) AllReadyH.nil
  rw [if_pos (by rfl)]
  go_simp
  refine HN6.out.mono ?_
  rintro e w7 ⟨r, gp, pf, B, cv, us, rfl, hrp, hb, hB⟩
  have HT0 := hid (show Tb w w4 w7 s A n c b (u 0 : Nat) (u 1 : Nat) (u 2 : Nat) g k q r B T rg pt lp n (empt (cl n)) (empt (cl n)) from ⟨HL6.out.below hb, ⟨gp, b, A6, c6, hh, pf, cv, us, hrp⟩, fun j e => by have h1 := hB j e; have h2 := HS6.out; have h3 := HGK.out; omega⟩)
  have kq := HT0.out.l.x.all
  clear hrp hb hB
  go_simp
  refine hK.out _ _ kq (fun hHeld => ?_)
  clear hK K
  (try simp only [Act.put, List.setIfInBounds_toArray, List.set_cons_zero, List.set_cons_succ])
  refine wpAnyH_take (i := 8) (oi := ⟨some 11, _, _, _, _, _⟩) (v := ?_) rfl (by kernel_rfl) (by kernel_rfl) (by kernel_rfl) (fun _ _ _ h => h) (Or.inl ⟨by rfl, ?_⟩) (by assumption) ?_
  rotate_left 1
  · intro w0 hSw
    obtain ⟨s0, s1, s2, s3, s4⟩ := hSw
    go_simp
    try with_reducible rfl
  (try simp only [Act.put, List.setIfInBounds_toArray, List.set_cons_zero, List.set_cons_succ])
  refine wpAnyH_done (by kernel_rfl) ?_ _
  refine NoPanic.normal ?_
  clear HLD HO HM HN6 HL6 HS6 HGK HL5 HX4 HEE HRN
  try clear kp kq
  go_wp2
  go_loopg [63] m (fun gk t wr => ∃ p : Nat, p + gk = m ∧ t = .int .i64 p ∧ ∃ S, Tb w w4 wr s A n c b (u 0 : Nat) (u 1 : Nat) (u 2 : Nat) g k q r B T rg pt lp n S S)
  case atStart => exact ⟨0, by omega, rfl, _, HT0.out⟩
  case round =>
    obtain ⟨p, hp, rfl, S, hT⟩ := hrel
    have HT := hid hT
    clear hT HT0
    by_cases hlt : p < m
    · obtain ⟨ad, rfl, hat⟩ := (HAC.out.below HT.out.l.x.bel) p hlt
      have hzv := HZB.out p hlt
      obtain ⟨⟨κ, v⟩, hH⟩ : ∃ y, f p = y := ⟨_, rfl⟩
      rw [hH] at hat hzv
      have HZV := hid (show zb v from hzv)
      obtain ⟨alt, c0, c1⟩ := hat
      dsimp only at c0 c1
      obtain ⟨qa, hg⟩ : ∃ g, wr.heap.size = g := ⟨_, rfl⟩
      obtain ⟨W, hW⟩ : ∃ W, wr.alloc (.cells #[.int .i64 κ, .int .i64 v] 39) = W := ⟨_, rfl⟩
      have BW : Below wr.heap.size wr W := by rw [← hW]; exact below_alloc _ _
      have HXW := hid (show Bx W qa 39 #[.int .i64 κ, .int .i64 v] from by rw [← hW, ← hg]; exact Bx.new _ _ _)
      have HQA := hid (show qa ≠ k ∧ bk B ≠ some qa from by
        have h1 := HT.out.l.p.sq.lt
        refine ⟨by omega, fun e => ?_⟩
        obtain ⟨gp, b', A', c', hh', pf, cv, us, h2⟩ := HT.out.r
        have h3 := h2.xb qa (.inr e)
        omega)
      have HTW := hid (HT.out.below BW)
      have HWW := hid hW
      have HGG := hid hg
      have hpm : (p : Int) < (m : Int) := by omega
      clear BW hH hW hg hzv
      go_upto_region 15 with fail
      rw [HGG.out, HWW.out]
      clear c0 c1 HGG HWW alt
      have y0 : W.cell? ⟨qa, 0, none⟩ = some (.int .i64 κ) := HXW.out.cell 0
      have y1 : W.cell? ⟨qa, 1, none⟩ = some (.int .i64 v) := HXW.out.cell 1
      by_cases hneg : κ < 0
      · have d1 : decide (κ < (0 : Int)) = true := by simpa using hneg
        clear hneg
        go_wp2_with fail
        go_roundg (gk - 1)
        case measure => omega
        case rel => exact ⟨p + 1, by omega, by go_num, _, HTW.out⟩
      by_cases hbig : 2 < κ
      · have d1 : decide (κ < (0 : Int)) = false := by simpa using hneg
        have d2 : decide ((2 : Int) < κ) = true := by simpa using hbig
        clear hneg hbig
        go_wp2_with fail
        go_roundg (gk - 1)
        case measure => omega
        case rel => exact ⟨p + 1, by omega, by go_num, _, HTW.out⟩
      have d1 : decide (κ < (0 : Int)) = false := by simpa using hneg
      have d2 : decide ((2 : Int) < κ) = false := by simpa using hbig
      have HKK := hid (show 0 ≤ κ ∧ κ ≤ 2 from by omega)
      clear hneg hbig
      have HDO := hid (rr_do HTW.out.r HTW.out.l.p.ok HZV.out HKK.out)
      obtain ⟨S2, hS2⟩ : ∃ x, dwS rg pt lp κ v S = x := ⟨_, rfl⟩
      obtain ⟨vi, hvi⟩ : ∃ x, dwV pt lp (rg v) κ v S = x := ⟨_, rfl⟩
      obtain ⟨gn, hgn⟩ : ∃ x, dwG pt (rg v) κ v S = x := ⟨_, rfl⟩
      obtain ⟨was, hwas⟩ : ∃ x, dec (inS S v) = x := ⟨_, rfl⟩
      obtain ⟨er, her⟩ : ∃ x, dwE pt (rg v) κ = x := ⟨_, rfl⟩
      rw [hS2, hvi, hgn, hwas, her] at HDO
      have HEQ := hid (And.intro hS2 (And.intro hvi (And.intro hgn (And.intro hwas her))))
      clear hS2 hvi hgn hwas her
      go_upto_region 16 with fail
      go_upto_region 17 with (go_at_call 12; refine HDO.out.mono ?_; rintro e w7 ⟨rfl, hr, hc⟩; have HT7 := hid (HTW.out.ref hr hc); have HX7 := hid (hc.bx HXW.out HQA.out.2); clear hr hc)
      clear y0 y1 HTW HXW HDO HT d1 d2
      have HT8 := hid (HT7.out.below (below_alloc w7 (.cells #[.slice none 0 0, .int .i64 vi, .bool gn, .bool was, .int .i64 er] 42)))
      have HX8 := hid (HX7.out.alloc (.cells #[.slice none 0 0, .int .i64 vi, .bool gn, .bool was, .int .i64 er] 42))
      have HZ8 := hid (Bx.new w7 42 #[.slice none 0 0, .int .i64 vi, .bool gn, .bool was, .int .i64 er])
      have HZK := hid (show w7.heap.size ≠ k from by have := HT7.out.l.p.sq.lt; omega)
      obtain ⟨zr, hzr⟩ : ∃ x, w7.heap.size = x := ⟨_, rfl⟩
      have HZZ := hid hzr
      rw [hzr] at HZ8 HZK
      clear hzr
      generalize w7.alloc (.cells #[.slice none 0 0, .int .i64 vi, .bool gn, .bool was, .int .i64 er] 42) = W8 at *
      rw [HZZ.out]
      clear HT7 HX7
      have hk3 : κ = 0 ∨ κ = 1 ∨ κ = 2 := by have := HKK.out; omega
      clear HKK
      rcases hk3 with rfl | rfl | rfl
      · have e1 : dwS rg pt lp 0 v S = usS rg v S := if_pos rfl
        have HU := hid (fun (y : World) (h : Pt w4 y g k q T rg pt lp n S) => pt_use h v)
        rw [← e1, HEQ.out.1, HEQ.out.2.2.2.1] at HU
        clear e1
        have z3 := HZ8.out.cell 3
        have y0 := HX8.out.cell 0
        have y1 := HX8.out.cell 1
        have HTD := hid (show Tb w w4 W8.drew s A n c b (u 0 : Nat) (u 1 : Nat) (u 2 : Nat) g k q r B T rg pt lp n S S2 from HT8.out.draws 1)
        have HXD := hid (show Bx W8.drew qa 39 #[.int .i64 0, .int .i64 v] from HX8.out)
        have HZD := hid (show Bx W8.drew zr 42 #[.slice none 0 0, .int .i64 vi, .bool gn, .bool was, .int .i64 er] from HZ8.out)
        have wnn : (was != was) = false := by simp
        go_upto_region 19 with fail
        go_region_held3 (fun w' => w'.cell? ⟨qa, 1, none⟩ = some (.int .i64 v) ∧ w'.cell? ⟨zr, 3, none⟩ = some (.bool was)) (first | exact kp | exact ⟨y1, z3⟩) (first
          | (go_at_call 13; (refine (HU.out _ HTD.out.l.p).mono ?_); rintro e w9 ⟨rfl, hq, hc⟩; have HT9 := hid (HTD.out.prog hq hc); have HX9 := hid (hc.bx HXD.out HQA.out.1); have HZ9 := hid (hc.bx HZD.out HZK.out); have kp := And.intro (HX9.out.cell 1) (HZ9.out.cell 3); clear hq hc))
        clear kp y0 y1 z3
        obtain ⟨L, hL⟩ : ∃ x, allp S2 n = x := ⟨_, rfl⟩
        obtain ⟨ln, hln⟩ : ∃ x, L.length = x := ⟨_, rfl⟩
        have HLN := hid hln
        have HOK := hid HT9.out.l.p.ok
        have hl64 : ln ≤ 64 := by rw [← hln, ← hL]; exact HOK.out.len64 n
        have HAL := hid (fun (y : World) (hy : Tb w w4 y s A n c b (u 0 : Nat) (u 1 : Nat) (u 2 : Nat) g k q r B T rg pt lp n S2 S2) => pt_all hy.l.p)
        have HLE := hid (fun (y : World) (hy : Tb w w4 y s A n c b (u 0 : Nat) (u 1 : Nat) (u 2 : Nat) g k q r B T rg pt lp n S2 S2) => pt_len hy.l.p)
        have HRA := hid (fun (y : World) (hy : Tb w w4 y s A n c b (u 0 : Nat) (u 1 : Nat) (u 2 : Nat) g k q r B T rg pt lp n S2 S2) => rr_all hy.r HOK.out)
        rw [hL] at HAL HLE HRA
        rw [hln] at HLE
        have HHS := hid (fun (y : World) (hy : Tb w w4 y s A n c b (u 0 : Nat) (u 1 : Nat) (u 2 : Nat) g k q r B T rg pt lp n S2 S2) => pt_has hy.l.p v)
        have HRH := hid (fun (y : World) (hy : Tb w w4 y s A n c b (u 0 : Nat) (u 1 : Nat) (u 2 : Nat) g k q r B T rg pt lp n S2 S2) => rr_has hy.r HOK.out HZV.out)
        have HTK := hid (fun (y : World) (hy : Tb w w4 y s A n c b (u 0 : Nat) (u 1 : Nat) (u 2 : Nat) g k q r B T rg pt lp n S2 S2) => pt_takes hy.l.p v)
        have HRP := hid (fun (y : World) (hy : Tb w w4 y s A n c b (u 0 : Nat) (u 1 : Nat) (u 2 : Nat) g k q r B T rg pt lp n S2 S2) => rr_part hy.r HZV.out)
        generalize dec (inS S2 v) = D1 at *
        obtain ⟨P, hP⟩ : ∃ x, ptO pt (rg v) = x := ⟨_, rfl⟩
        rw [hP] at HTK HRP
        clear hP
        obtain ⟨tk, htk⟩ : ∃ x, decide (0 < P) = x := ⟨_, rfl⟩
        rw [htk] at HTK
        have lnn : ((ln : Int) != (ln : Int)) = false := by simp
        have dnn : (D1 != D1) = false := by simp
        have tnn : (tk != tk) = false := by simp
        clear hL hln
        have y1 : w9.cell? ⟨qa, 1, none⟩ = some (.int .i64 v) := HX9.out.cell 1
        have HTA := hid (show Tb w w4 w9.drew s A n c b (u 0 : Nat) (u 1 : Nat) (u 2 : Nat) g k q r B T rg pt lp n S2 S2 from HT9.out.draws 1)
        have HXA := hid (show Bx w9.drew qa 39 #[.int .i64 0, .int .i64 v] from HX9.out)
        go_upto_region 28 with fail
        skip
        go_region_held3 (fun w' => w'.cell? ⟨qa, 1, none⟩ = some (.int .i64 v)) (first | exact kp | exact y1) (first
          | (go_at_call 17; (with_reducible refine (HAL.out _ HTA.out).mono ?_); rintro e w10 ⟨A9, c9, rfl, ho, hg⟩; have HR9 := hid (rw_told ho hg).1; have HTB := hid (HTA.out.below hg.nilBelow); have HXB := hid (HXA.out.next hg.nilBelow); rw [HLN.out]; have kp := HXB.out.cell 1; clear ho hg)
          | (go_at_call 18; (with_reducible refine (HRA.out _ HTB.out).mono ?_); rintro e w11 ⟨AA, ca, rfl, ho, hg⟩; have HRB := hid (rw_told ho hg).1; have HR9B := hid (HR9.out.below hg.nilBelow); have HTC := hid (HTB.out.below hg.nilBelow); have HXC := hid (HXB.out.next hg.nilBelow); rw [HLN.out]; have kp := HXC.out.cell 1; clear ho hg)
          | (go_at_call 16; (refine (sameints_yes A9 AA ln ln _ _ L _ _ _ HLN.out HLN.out (by unfold maxLen; omega) HR9B.out.rd HRB.out.rd).mono ?_); rintro e w12 ⟨rfl, d3, rfl⟩; have HTE := hid (HTC.out.draws d3); have HXE := hid ((HXC.out.draws d3)); have kp := HXE.out.cell 1)
          | (go_at_call 19; (with_reducible refine (HLE.out _ HTE.out).mono ?_); rintro e w13 ⟨rfl, hb⟩; have HTF := hid (HTE.out.below hb); have HXF := hid (HXE.out.next hb); have kp := HXF.out.cell 1; clear hb)
          | (go_at_call 18; (with_reducible refine (HRA.out _ HTF.out).mono ?_); rintro e w14 ⟨AC, cc, rfl, ho, hg⟩; have HTG := hid (HTF.out.below hg.nilBelow); have HXG := hid (HXF.out.next hg.nilBelow); rw [HLN.out]; have kp := HXG.out.cell 1; clear ho hg)
          | (go_at_call 20; (with_reducible refine (HHS.out _ HTG.out).mono ?_); rintro e w15 ⟨rfl, rfl⟩)
          | (go_at_call 21; (with_reducible refine (HRH.out _ HTG.out).mono ?_); rintro e w16 ⟨rfl, d4, rfl⟩; have HTH := hid (HTG.out.draws d4); have HXH := hid (HXG.out.draws d4); have kp := HXH.out.cell 1)
          | (go_at_call 22; (with_reducible refine (HTK.out _ HTH.out).mono ?_); rintro e w17 ⟨rfl, hb⟩; have HTI := hid (HTH.out.below hb); have HXI := hid (HXH.out.next hb); have kp := HXI.out.cell 1; clear hb)
          | (go_at_call 23; (with_reducible refine (HRP.out _ HTI.out).mono ?_); rintro e w18 ⟨rfl, d5, rfl⟩; have HTJ := hid (HTI.out.draws d5); have HXJ := hid (HXI.out.draws d5); have kp := HXJ.out.cell 1))
        all_goals
          go_wp2_with fail
          go_roundg (gk - 1)
          case measure => omega
          case rel => exact ⟨p + 1, by omega, by go_num, _, HTJ.out⟩
      · have e1 : dwS rg pt lp 1 v S = adS pt lp (rg v) v S := (if_neg (by omega)).trans (if_pos rfl)
        have e2 : dwV pt lp (rg v) 1 v S = adV pt lp (rg v) v S := if_pos rfl
        have e3 : dwG pt (rg v) 1 v S = adG pt (rg v) v S := if_pos rfl
        have e4 : dwE pt (rg v) 1 = adE pt (rg v) := if_pos rfl
        have HU := hid (pt_add HT8.out.l.p v)
        rw [← e1, ← e2, ← e3, ← e4, HEQ.out.1, HEQ.out.2.1, HEQ.out.2.2.1, HEQ.out.2.2.2.2] at HU
        clear e1 e2 e3 e4
        have y0 := HX8.out.cell 0
        have y1 := HX8.out.cell 1
        have vnn : (vi != vi) = false := by simp
        have enn : (er != er) = false := by simp
        have gnn : (gn != gn) = false := by simp
        go_upto_region 23 with (go_at_call 14; (refine HU.out.mono ?_); rintro e w9 ⟨rfl, hq, hc⟩; have HT9 := hid (HT8.out.prog hq hc); have HX9 := hid (hc.bx HX8.out HQA.out.1); have HZ9 := hid (hc.bx HZ8.out HZK.out); have z1 := HZ9.out.cell 1; have z2 := HZ9.out.cell 2; have z4 := HZ9.out.cell 4; clear hq hc)
        clear y0 y1
        obtain ⟨L, hL⟩ : ∃ x, allp S2 n = x := ⟨_, rfl⟩
        obtain ⟨ln, hln⟩ : ∃ x, L.length = x := ⟨_, rfl⟩
        have HLN := hid hln
        have HOK := hid HT9.out.l.p.ok
        have hl64 : ln ≤ 64 := by rw [← hln, ← hL]; exact HOK.out.len64 n
        have HAL := hid (fun (y : World) (hy : Tb w w4 y s A n c b (u 0 : Nat) (u 1 : Nat) (u 2 : Nat) g k q r B T rg pt lp n S2 S2) => pt_all hy.l.p)
        have HLE := hid (fun (y : World) (hy : Tb w w4 y s A n c b (u 0 : Nat) (u 1 : Nat) (u 2 : Nat) g k q r B T rg pt lp n S2 S2) => pt_len hy.l.p)
        have HRA := hid (fun (y : World) (hy : Tb w w4 y s A n c b (u 0 : Nat) (u 1 : Nat) (u 2 : Nat) g k q r B T rg pt lp n S2 S2) => rr_all hy.r HOK.out)
        rw [hL] at HAL HLE HRA
        rw [hln] at HLE
        have HHS := hid (fun (y : World) (hy : Tb w w4 y s A n c b (u 0 : Nat) (u 1 : Nat) (u 2 : Nat) g k q r B T rg pt lp n S2 S2) => pt_has hy.l.p v)
        have HRH := hid (fun (y : World) (hy : Tb w w4 y s A n c b (u 0 : Nat) (u 1 : Nat) (u 2 : Nat) g k q r B T rg pt lp n S2 S2) => rr_has hy.r HOK.out HZV.out)
        have HTK := hid (fun (y : World) (hy : Tb w w4 y s A n c b (u 0 : Nat) (u 1 : Nat) (u 2 : Nat) g k q r B T rg pt lp n S2 S2) => pt_takes hy.l.p v)
        have HRP := hid (fun (y : World) (hy : Tb w w4 y s A n c b (u 0 : Nat) (u 1 : Nat) (u 2 : Nat) g k q r B T rg pt lp n S2 S2) => rr_part hy.r HZV.out)
        generalize dec (inS S2 v) = D1 at *
        obtain ⟨P, hP⟩ : ∃ x, ptO pt (rg v) = x := ⟨_, rfl⟩
        rw [hP] at HTK HRP
        clear hP
        obtain ⟨tk, htk⟩ : ∃ x, decide (0 < P) = x := ⟨_, rfl⟩
        rw [htk] at HTK
        have lnn : ((ln : Int) != (ln : Int)) = false := by simp
        have dnn : (D1 != D1) = false := by simp
        have tnn : (tk != tk) = false := by simp
        clear hL hln
        have y1 : w9.cell? ⟨qa, 1, none⟩ = some (.int .i64 v) := HX9.out.cell 1
        have HTA := hid (show Tb w w4 w9.drew s A n c b (u 0 : Nat) (u 1 : Nat) (u 2 : Nat) g k q r B T rg pt lp n S2 S2 from HT9.out.draws 1)
        have HXA := hid (show Bx w9.drew qa 39 #[.int .i64 1, .int .i64 v] from HX9.out)
        go_upto_region 28 with fail
        clear z1 z2 z4
        go_region_held3 (fun w' => w'.cell? ⟨qa, 1, none⟩ = some (.int .i64 v)) (first | exact kp | exact y1) (first
          | (go_at_call 17; (with_reducible refine (HAL.out _ HTA.out).mono ?_); rintro e w10 ⟨A9, c9, rfl, ho, hg⟩; have HR9 := hid (rw_told ho hg).1; have HTB := hid (HTA.out.below hg.nilBelow); have HXB := hid (HXA.out.next hg.nilBelow); rw [HLN.out]; have kp := HXB.out.cell 1; clear ho hg)
          | (go_at_call 18; (with_reducible refine (HRA.out _ HTB.out).mono ?_); rintro e w11 ⟨AA, ca, rfl, ho, hg⟩; have HRB := hid (rw_told ho hg).1; have HR9B := hid (HR9.out.below hg.nilBelow); have HTC := hid (HTB.out.below hg.nilBelow); have HXC := hid (HXB.out.next hg.nilBelow); rw [HLN.out]; have kp := HXC.out.cell 1; clear ho hg)
          | (go_at_call 16; (refine (sameints_yes A9 AA ln ln _ _ L _ _ _ HLN.out HLN.out (by unfold maxLen; omega) HR9B.out.rd HRB.out.rd).mono ?_); rintro e w12 ⟨rfl, d3, rfl⟩; have HTE := hid (HTC.out.draws d3); have HXE := hid ((HXC.out.draws d3)); have kp := HXE.out.cell 1)
          | (go_at_call 19; (with_reducible refine (HLE.out _ HTE.out).mono ?_); rintro e w13 ⟨rfl, hb⟩; have HTF := hid (HTE.out.below hb); have HXF := hid (HXE.out.next hb); have kp := HXF.out.cell 1; clear hb)
          | (go_at_call 18; (with_reducible refine (HRA.out _ HTF.out).mono ?_); rintro e w14 ⟨AC, cc, rfl, ho, hg⟩; have HTG := hid (HTF.out.below hg.nilBelow); have HXG := hid (HXF.out.next hg.nilBelow); rw [HLN.out]; have kp := HXG.out.cell 1; clear ho hg)
          | (go_at_call 20; (with_reducible refine (HHS.out _ HTG.out).mono ?_); rintro e w15 ⟨rfl, rfl⟩)
          | (go_at_call 21; (with_reducible refine (HRH.out _ HTG.out).mono ?_); rintro e w16 ⟨rfl, d4, rfl⟩; have HTH := hid (HTG.out.draws d4); have HXH := hid (HXG.out.draws d4); have kp := HXH.out.cell 1)
          | (go_at_call 22; (with_reducible refine (HTK.out _ HTH.out).mono ?_); rintro e w17 ⟨rfl, hb⟩; have HTI := hid (HTH.out.below hb); have HXI := hid (HXH.out.next hb); have kp := HXI.out.cell 1; clear hb)
          | (go_at_call 23; (with_reducible refine (HRP.out _ HTI.out).mono ?_); rintro e w18 ⟨rfl, d5, rfl⟩; have HTJ := hid (HTI.out.draws d5); have HXJ := hid (HXI.out.draws d5); have kp := HXJ.out.cell 1))
        all_goals
          go_wp2_with fail
          go_roundg (gk - 1)
          case measure => omega
          case rel => exact ⟨p + 1, by omega, by go_num, _, HTJ.out⟩
      · have e1 : dwS rg pt lp 2 v S = woS v S := (if_neg (by omega)).trans (if_neg (by omega))
        have HU := hid (fun (y : World) (h : Pt w4 y g k q T rg pt lp n S) => pt_remove h v)
        rw [← e1, HEQ.out.1, HEQ.out.2.2.2.1] at HU
        clear e1
        have z3 := HZ8.out.cell 3
        have y0 := HX8.out.cell 0
        have y1 := HX8.out.cell 1
        have HTD := hid (show Tb w w4 W8.drew s A n c b (u 0 : Nat) (u 1 : Nat) (u 2 : Nat) g k q r B T rg pt lp n S S2 from HT8.out.draws 1)
        have HXD := hid (show Bx W8.drew qa 39 #[.int .i64 2, .int .i64 v] from HX8.out)
        have HZD := hid (show Bx W8.drew zr 42 #[.slice none 0 0, .int .i64 vi, .bool gn, .bool was, .int .i64 er] from HZ8.out)
        have wnn : (was != was) = false := by simp
        go_upto_region 26 with fail
        go_region_held3 (fun w' => w'.cell? ⟨qa, 1, none⟩ = some (.int .i64 v) ∧ w'.cell? ⟨zr, 3, none⟩ = some (.bool was)) (first | exact kp | exact ⟨y1, z3⟩) (first
          | (go_at_call 15; (refine (HU.out _ HTD.out.l.p).mono ?_); rintro e w9 ⟨rfl, hq, hc⟩; have HT9 := hid (HTD.out.prog hq hc); have HX9 := hid (hc.bx HXD.out HQA.out.1); have HZ9 := hid (hc.bx HZD.out HZK.out); have kp := And.intro (HX9.out.cell 1) (HZ9.out.cell 3); clear hq hc))
        clear kp y0 y1 z3
        obtain ⟨L, hL⟩ : ∃ x, allp S2 n = x := ⟨_, rfl⟩
        obtain ⟨ln, hln⟩ : ∃ x, L.length = x := ⟨_, rfl⟩
        have HLN := hid hln
        have HOK := hid HT9.out.l.p.ok
        have hl64 : ln ≤ 64 := by rw [← hln, ← hL]; exact HOK.out.len64 n
        have HAL := hid (fun (y : World) (hy : Tb w w4 y s A n c b (u 0 : Nat) (u 1 : Nat) (u 2 : Nat) g k q r B T rg pt lp n S2 S2) => pt_all hy.l.p)
        have HLE := hid (fun (y : World) (hy : Tb w w4 y s A n c b (u 0 : Nat) (u 1 : Nat) (u 2 : Nat) g k q r B T rg pt lp n S2 S2) => pt_len hy.l.p)
        have HRA := hid (fun (y : World) (hy : Tb w w4 y s A n c b (u 0 : Nat) (u 1 : Nat) (u 2 : Nat) g k q r B T rg pt lp n S2 S2) => rr_all hy.r HOK.out)
        rw [hL] at HAL HLE HRA
        rw [hln] at HLE
        have HHS := hid (fun (y : World) (hy : Tb w w4 y s A n c b (u 0 : Nat) (u 1 : Nat) (u 2 : Nat) g k q r B T rg pt lp n S2 S2) => pt_has hy.l.p v)
        have HRH := hid (fun (y : World) (hy : Tb w w4 y s A n c b (u 0 : Nat) (u 1 : Nat) (u 2 : Nat) g k q r B T rg pt lp n S2 S2) => rr_has hy.r HOK.out HZV.out)
        have HTK := hid (fun (y : World) (hy : Tb w w4 y s A n c b (u 0 : Nat) (u 1 : Nat) (u 2 : Nat) g k q r B T rg pt lp n S2 S2) => pt_takes hy.l.p v)
        have HRP := hid (fun (y : World) (hy : Tb w w4 y s A n c b (u 0 : Nat) (u 1 : Nat) (u 2 : Nat) g k q r B T rg pt lp n S2 S2) => rr_part hy.r HZV.out)
        generalize dec (inS S2 v) = D1 at *
        obtain ⟨P, hP⟩ : ∃ x, ptO pt (rg v) = x := ⟨_, rfl⟩
        rw [hP] at HTK HRP
        clear hP
        obtain ⟨tk, htk⟩ : ∃ x, decide (0 < P) = x := ⟨_, rfl⟩
        rw [htk] at HTK
        have lnn : ((ln : Int) != (ln : Int)) = false := by simp
        have dnn : (D1 != D1) = false := by simp
        have tnn : (tk != tk) = false := by simp
        clear hL hln
        have y1 : w9.cell? ⟨qa, 1, none⟩ = some (.int .i64 v) := HX9.out.cell 1
        have HTA := hid (show Tb w w4 w9.drew s A n c b (u 0 : Nat) (u 1 : Nat) (u 2 : Nat) g k q r B T rg pt lp n S2 S2 from HT9.out.draws 1)
        have HXA := hid (show Bx w9.drew qa 39 #[.int .i64 2, .int .i64 v] from HX9.out)
        go_upto_region 28 with fail
        skip
        go_region_held3 (fun w' => w'.cell? ⟨qa, 1, none⟩ = some (.int .i64 v)) (first | exact kp | exact y1) (first
          | (go_at_call 17; (with_reducible refine (HAL.out _ HTA.out).mono ?_); rintro e w10 ⟨A9, c9, rfl, ho, hg⟩; have HR9 := hid (rw_told ho hg).1; have HTB := hid (HTA.out.below hg.nilBelow); have HXB := hid (HXA.out.next hg.nilBelow); rw [HLN.out]; have kp := HXB.out.cell 1; clear ho hg)
          | (go_at_call 18; (with_reducible refine (HRA.out _ HTB.out).mono ?_); rintro e w11 ⟨AA, ca, rfl, ho, hg⟩; have HRB := hid (rw_told ho hg).1; have HR9B := hid (HR9.out.below hg.nilBelow); have HTC := hid (HTB.out.below hg.nilBelow); have HXC := hid (HXB.out.next hg.nilBelow); rw [HLN.out]; have kp := HXC.out.cell 1; clear ho hg)
          | (go_at_call 16; (refine (sameints_yes A9 AA ln ln _ _ L _ _ _ HLN.out HLN.out (by unfold maxLen; omega) HR9B.out.rd HRB.out.rd).mono ?_); rintro e w12 ⟨rfl, d3, rfl⟩; have HTE := hid (HTC.out.draws d3); have HXE := hid ((HXC.out.draws d3)); have kp := HXE.out.cell 1)
          | (go_at_call 19; (with_reducible refine (HLE.out _ HTE.out).mono ?_); rintro e w13 ⟨rfl, hb⟩; have HTF := hid (HTE.out.below hb); have HXF := hid (HXE.out.next hb); have kp := HXF.out.cell 1; clear hb)
          | (go_at_call 18; (with_reducible refine (HRA.out _ HTF.out).mono ?_); rintro e w14 ⟨AC, cc, rfl, ho, hg⟩; have HTG := hid (HTF.out.below hg.nilBelow); have HXG := hid (HXF.out.next hg.nilBelow); rw [HLN.out]; have kp := HXG.out.cell 1; clear ho hg)
          | (go_at_call 20; (with_reducible refine (HHS.out _ HTG.out).mono ?_); rintro e w15 ⟨rfl, rfl⟩)
          | (go_at_call 21; (with_reducible refine (HRH.out _ HTG.out).mono ?_); rintro e w16 ⟨rfl, d4, rfl⟩; have HTH := hid (HTG.out.draws d4); have HXH := hid (HXG.out.draws d4); have kp := HXH.out.cell 1)
          | (go_at_call 22; (with_reducible refine (HTK.out _ HTH.out).mono ?_); rintro e w17 ⟨rfl, hb⟩; have HTI := hid (HTH.out.below hb); have HXI := hid (HXH.out.next hb); have kp := HXI.out.cell 1; clear hb)
          | (go_at_call 23; (with_reducible refine (HRP.out _ HTI.out).mono ?_); rintro e w18 ⟨rfl, d5, rfl⟩; have HTJ := hid (HTI.out.draws d5); have HXJ := hid (HXI.out.draws d5); have kp := HXJ.out.cell 1))
        all_goals
          go_wp2_with fail
          go_roundg (gk - 1)
          case measure => omega
          case rel => exact ⟨p + 1, by omega, by go_num, _, HTJ.out⟩
    · obtain rfl : p = m := by omega
      have hpm : ¬ (p : Int) < (p : Int) := by omega
      go_wp2
      go_ret
      exact ⟨rfl, HT.out.l.x.bel⟩
set_option maxRecDepth 20000 in
set_option maxHeartbeats 1000000 in
theorem acts15_bad (A : Option Addr) (n c : Nat) (hh : Nat → Hn) (b x y z τ : Int) (D : Option Addr) (m c2 : Nat) (w : World) (hn : n ≤ 20) (hm : m ≤ 150) (hcA : A = none → c = 0) (hr : Rv w w.heap.size A (hvs hh n)) (hok : ¬ (CapP b x y z ∧ HintsP hh n b)) :
    Calls Try.prog 3 #[.agg #[.slice A n c, .int .i64 b, .int .i64 x, .int .i64 y, .int .i64 z], .int .i64 τ, .slice D m c2] w fun e w' => e = .returned (.bool true) ∧ Below w.heap.size w w' := by
  have HLO := hid (fun w => long15 A n c b x y z D m c2 w)
  rw [decide_eq_false (show ¬ (20 < n ∨ 150 < m) by omega)] at HLO
  have HR := hid hr
  have HX0 := hid (Lx.new w A n c b x y z)
  obtain ⟨q, hq⟩ : ∃ q, w.heap.size = q := ⟨_, rfl⟩
  have HQ2 := hid hq
  rw [hq] at HX0
  have HN := hid (fun w (hr : Rv w w.heap.size A (hvs hh n)) => new_bad (w := w) (c := c) (b := b) (x := x) (y := y) (z := z) (by omega) hcA hr hok)
  clear hr hq hok hcA
  go_enter Try.func3, Try.ntmps3
  go_upto_region 1 with fail
  rw [HQ2.out]
  generalize w.alloc (.cells #[.slice A n c, .int .i64 b, .int .i64 x, .int .i64 y, .int .i64 z] 25) = w1 at *
  go_wp2_with (first
    | (go_at_call 7; refine (wakes15 _).mono ?_; rintro e w2 ⟨rfl, hb⟩; have HX2 := hid (HX0.out.below hb); obtain ⟨p0, p1, p2, p3, p4⟩ := HX2.out.all; clear hb)
    | (go_at_call 8; refine (HLO.out _).mono ?_; rintro e w3 ⟨rfl, hb⟩; have HX3 := hid (HX2.out.below hb); obtain ⟨r0, r1, r2, r3, r4⟩ := HX3.out.all; clear hb)
    | (go_at_call 9; refine (HN.out _ (HR.out.now HX3.out.bel)).mono ?_; rintro e w4 ⟨r, rfl, -, hr0, hb⟩; have HX4 := hid (HX3.out.below hb); clear hb))
  go_ret
  exact ⟨rfl, HX4.out.bel⟩
set_option maxRecDepth 20000 in
set_option maxHeartbeats 1000000 in
theorem acts15_out (A : Option Addr) (n c : Nat) (hh : Nat → Hn) (b : Int) (u : Nat → Nat) (τ : Int) (D : Option Addr) (m c2 : Nat) (w : World) (hn : n ≤ 20) (hm : m ≤ 150) (hcA : A = none → c = 0) (hr : Rv w w.heap.size A (hvs hh n))
    (hcp : CapP b (u 0 : Nat) (u 1 : Nat) (u 2 : Nat)) (hu : cN (u 0 : Nat) (u 1 : Nat) (u 2 : Nat) = u) (hhp : HintsP hh n b) (hτ : τ < 1 ∨ 3 < τ) :
    Calls Try.prog 3 #[.agg #[.slice A n c, .int .i64 b, .int .i64 (u 0 : Nat), .int .i64 (u 1 : Nat), .int .i64 (u 2 : Nat)], .int .i64 τ, .slice D m c2] w fun e w' => e = .returned (.bool true) ∧ Below w.heap.size w w' := by
  have HLO := hid (fun w => long15 A n c b (u 0 : Nat) (u 1 : Nat) (u 2 : Nat) D m c2 w)
  rw [decide_eq_false (show ¬ (20 < n ∨ 150 < m) by omega)] at HLO
  have HR := hid hr
  have HX0 := hid (Lx.new w A n c b (u 0 : Nat) (u 1 : Nat) (u 2 : Nat))
  obtain ⟨q, hq⟩ : ∃ q, w.heap.size = q := ⟨_, rfl⟩
  have HQ2 := hid hq
  rw [hq] at HX0
  have HN := hid (fun w (hr : Rv w w.heap.size A (hvs hh n)) => new_ok (u := u) (w := w) (c := c) (by omega) hcA hr hcp hu hhp)
  have HPN := hid (fun w q => pt_new_out w q τ hτ)
  have h2 : τ < 1 ∨ (¬ τ < 1 ∧ 3 < τ) := by omega
  clear hr hq hcp hu hhp hcA hτ
  rcases h2 with h1 | ⟨h1, h3⟩
  all_goals
    go_enter Try.func3, Try.ntmps3
    go_upto_region 1 with fail
    rw [HQ2.out]
    generalize w.alloc (.cells #[.slice A n c, .int .i64 b, .int .i64 (u 0 : Nat), .int .i64 (u 1 : Nat), .int .i64 (u 2 : Nat)] 25) = w1 at *
    go_wp2_with (first
      | (go_at_call 7; refine (wakes15 _).mono ?_; rintro e w2 ⟨rfl, hb⟩; have HX2 := hid (HX0.out.below hb); obtain ⟨p0, p1, p2, p3, p4⟩ := HX2.out.all; clear hb)
      | (go_at_call 8; refine (HLO.out _).mono ?_; rintro e w3 ⟨rfl, hb⟩; have HX3 := hid (HX2.out.below hb); obtain ⟨r0, r1, r2, r3, r4⟩ := HX3.out.all; clear hb)
      | (go_at_call 9; refine (HN.out _ (HR.out.now HX3.out.bel)).mono ?_; rintro e w4 ⟨g, A1, c1, B1, d1, rfl, hp, hb, hg⟩; have HX4 := hid (HX3.out.below hb); clear hp hb hg)
      | (go_at_call 10; refine (HPN.out _ _).mono ?_; rintro e w5 ⟨rfl, rfl⟩))
    go_ret
    exact ⟨rfl, HX4.out.bel⟩
set_option maxRecDepth 20000 in
set_option maxHeartbeats 1000000 in
theorem acts15_walk (A : Option Addr) (n c : Nat) (hh : Nat → Hn) (b x y z τ : Int) (D : Option Addr) (m c2 : Nat) (f : Nat → A2) (w : World) (hcA : A = none → c = 0) (hr : Rv w w.heap.size A (hvs hh n)) (hac : Acts w D m f) (hzb : ∀ i, i < m → -9223372036854775808 ≤ (f i).b ∧ (f i).b ≤ 9223372036854775807) :
    Calls Try.prog 3 #[.agg #[.slice A n c, .int .i64 b, .int .i64 x, .int .i64 y, .int .i64 z], .int .i64 τ, .slice D m c2] w fun e w' => e = .returned (.bool true) ∧ Below w.heap.size w w' := by
  by_cases hn : 20 < n ∨ 150 < m
  · have HLO := hid (fun w => long15 A n c b x y z D m c2 w)
    rw [decide_eq_true hn] at HLO
    have HX0 := hid (Lx.new w A n c b x y z)
    obtain ⟨q, hq⟩ : ∃ q, w.heap.size = q := ⟨_, rfl⟩
    have HQ2 := hid hq
    rw [hq] at HX0
    clear hr hq hcA hn hac hzb
    go_enter Try.func3, Try.ntmps3
    go_upto_region 1 with fail
    rw [HQ2.out]
    generalize w.alloc (.cells #[.slice A n c, .int .i64 b, .int .i64 x, .int .i64 y, .int .i64 z] 25) = w1 at *
    go_wp2_with (first
      | (go_at_call 7; refine (wakes15 _).mono ?_; rintro e w2 ⟨rfl, hb⟩; have HX2 := hid (HX0.out.below hb); obtain ⟨p0, p1, p2, p3, p4⟩ := HX2.out.all; clear hb)
      | (go_at_call 8; refine (HLO.out _).mono ?_; rintro e w3 ⟨rfl, hb⟩; have HX3 := hid (HX2.out.below hb); clear hb))
    go_ret
    exact ⟨rfl, HX3.out.bel⟩
  · by_cases hok : CapP b x y z ∧ HintsP hh n b
    · obtain ⟨hcp, hhp⟩ := hok
      obtain ⟨u, hu, rfl, rfl, rfl, hu16⟩ := capN hcp
      by_cases hτ : τ < 1 ∨ 3 < τ
      · exact acts15_out A n c hh b u τ D m c2 w (by omega) (by omega) hcA hr hcp hu hhp hτ
      · obtain ⟨T, rfl⟩ : ∃ T : Nat, τ = (T : Int) := ⟨τ.toNat, by omega⟩
        exact acts15_ok A n c hh b u T D m c2 f w hcA hr hcp hu hu16 hhp (by omega) (by omega) (by omega) hac hzb
    · exact acts15_bad A n c hh b x y z τ D m c2 w (by omega) (by omega) hcA hr hok
end Go.Proofs.Ytibppolcchhmaaa
