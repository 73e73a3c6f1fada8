/-
  What is proved: the walk of SectorActs: whatever is done, one behind the other, each answers, and sectors have, what the document says. Condition: the acts are read as such.
-/
import Derived.Test.YtfhejadlkooklaaKeeps5
import Derived.Test.YtfhejadlkooklaaRefN5
import Derived.Deep.DeepCutAuto
import Derived.Deep.CutBlock
namespace Go.Proofs.Ytfhejadlkooklaa
open Go.RowKit

/-- what the reference's disk holds -/
def St.R (s : St) : St := ⟨s.L, max s.f (-1), s.d⟩
theorem R_told (s : St) (i : Int) (l : List Int) : s.R.told i l = s.told i l := by
  obtain ⟨L, f, d⟩ := s
  have : (max f (-1) = 0) ↔ f = 0 := by omega
  unfold St.told St.R
  simp only [this]
theorem R_write (s : St) (i : Int) (l : List Int) : s.R.write i l = (s.write i l).R := by
  obtain ⟨L, f, d⟩ := s
  have e1 : (max f (-1) = 0) ↔ f = 0 := by omega
  have e2 : (0 < max f (-1)) ↔ 0 < f := by omega
  unfold St.write St.R St.burn
  simp only [e1, e2]
  split
  · rfl
  · split
    · rfl
    · split
      · rfl
      · split
        · rename_i h; simp [h]
        · split
          · rename_i h; simp; omega
          · rfl
theorem R_fuse (s : St) (n : Int) : (s.fuse n).R = if s.d then s.R else { s.R with f := max n (-1) } := by
  unfold St.fuse
  split <;> rfl
theorem write_short (s : St) (i : Int) (l : List Int) (h : ∀ l ∈ s.L, l.length ≤ 64) : (∀ y ∈ (s.write i l).L, y.length ≤ 64) ∧ (s.write i l).L.length = s.L.length := by
  have key : (s.write i l).L = s.L ∨ (l.length ≤ 64 ∧ (s.write i l).L = s.L.set i.toNat l) := by
    unfold St.write
    by_cases h1 : s.d = true
    · left; rw [if_pos h1]
    · rw [if_neg h1]
      by_cases h2 : i < 0 ∨ (s.L.length : Int) ≤ i
      · left; rw [if_pos h2]
      · rw [if_neg h2]
        by_cases h3 : 64 < l.length
        · left; rw [if_pos h3]
        · rw [if_neg h3]
          by_cases h4 : s.f = 0
          · left; rw [if_pos h4]
          · right; rw [if_neg h4]; exact ⟨by omega, rfl⟩
  rcases key with e | ⟨h64, e⟩
  · rw [e]; exact ⟨h, rfl⟩
  · rw [e]; exact ⟨set_short h _ _ h64, List.length_set⟩

/-- both disks, side by side -/
structure Two (w0 w : World) (B C k q : Nat) (v u : Value) (s t : St) : Prop where
  a : Dk w 49 B k v s
  r : Dk w 39 C q u t
  bel : Below w0.heap.size w0 w
  short : ∀ l ∈ s.L, l.length ≤ 64
  kC : k < C
  vC : ∀ g, v.ownBlock = some g → g < C
  zB : w0.heap.size ≤ B
  zC : w0.heap.size ≤ C
section
variable {w0 w w' : World} {B C k q : Nat} {v u : Value} {s t s' : St}
theorem Two.below (h : Two w0 w B C k q v u s t) (hb : Below w.heap.size w w') : Two w0 w' B C k q v u s t :=
  ⟨h.a.below hb, h.r.below hb, on h.bel hb, h.short, h.kC, h.vC, h.zB, h.zC⟩
theorem Two.draws (h : Two w0 w B C k q v u s t) (n : Nat) : Two w0 (w.drewN n) B C k q v u s t := ⟨h.a.draws n, h.r.draws n, below_draws h.bel n, h.short, h.kC, h.vC, h.zB, h.zC⟩
theorem Two.drew (h : Two w0 w B C k q v u s t) : Two w0 w.drew B C k q v u s t := h.draws 1
/-- the first one has been at work -/
theorem Two.first (h : Two w0 w B C k q v u s t) (hk : Dk w' 49 B k v s') (ho : Only w w' k v) (hs : ∀ l ∈ s'.L, l.length ≤ 64) : Two w0 w' B C k q v u s' t :=
  ⟨hk, h.r.other' ho h.kC h.vC, h.bel.trans ((h.a.onlyBel ho (Nat.le_of_lt (Nat.lt_of_le_of_lt h.a.low h.a.box.lt))).mono h.zB), hs, h.kC, h.vC, h.zB, h.zC⟩
/-- the reference has been at work -/
theorem Two.second (h : Two w0 w B C k q v u s t) (hk : Dk w' 39 C q u s') (ho : Only w w' q u) : Two w0 w' B C k q v u s s' :=
  ⟨h.a.other ho h.kC h.vC h.r.low (fun _ e => (h.r.rowLt e).1), hk, h.bel.trans ((h.r.onlyBel ho (Nat.le_of_lt (Nat.lt_of_le_of_lt h.r.low h.r.box.lt))).mono h.zC), h.short, h.kC, h.vC, h.zB, h.zC⟩
/-- a block that neither disk has -/
theorem Two.apart (_ : Two w0 w B C k q v u s t) {g : Nat} {T : TypeId} {cs : Array Value} (hx : Bx w g T cs) (hg : k ≠ g ∧ v.ownBlock ≠ some g) (ho : Only w w' k v) : Bx w' g T cs :=
  (ho.block g hx.lt (fun e => hg.1 e.symm) (fun e => hg.2 e.symm)).trans hx
theorem apart_of {w w' : World} {k g : Nat} {v : Value} {T : TypeId} {cs : Array Value} (hx : Bx w g T cs) (h1 : k ≠ g) (h2 : v.ownBlock ≠ some g) (ho : Only w w' k v) : Bx w' g T cs :=
  (ho.block g hx.lt (fun e => h1 e.symm) (fun e => h2 e.symm)).trans hx
end
/-- behind an act: both disks hold the same, the act's own block is as it was -/
def After (w0 w : World) (B C k q : Nat) (v u : Value) (g : Nat) (cs : Array Value) : Prop := ∃ s, Two w0 w B C k q v u s s.R ∧ Bx w g 31 cs
theorem quietL {P : Program} {f : FuncId} {args : Array Value} {w : World} {n : Nat} {v : Value} (h : Calls P f args (w.drewN n) fun e w' => e = .returned v ∧ w.drewN n = w') :
    Calls P f args (w.drewN n) fun e w'' => e = .returned v ∧ ∃ m, w'' = w.drewN m := h.mono fun _ _ ⟨he, hm⟩ => ⟨he, n, hm.symm⟩

theorem fuse_short {s : St} {n : Int} (h : ∀ l ∈ s.L, l.length ≤ 64) : ∀ l ∈ (s.fuse n).L, l.length ≤ 64 := by
  have : (s.fuse n).L = s.L := by unfold St.fuse; split <;> rfl
  rw [this]; exact h
theorem quietAdd {P : Program} {f : FuncId} {args : Array Value} {w : World} {a n : Nat} {v : Value} (h : ∀ k, Calls P f args (w.drewN k) fun e w' => e = .returned v ∧ ∃ m, w' = (w.drewN k).drewN m) :
    Calls P f args (w.drewN (a + n)) fun e w'' => e = .returned v ∧ ∃ m, w'' = w.drewN (a + m) :=
  (h (a + n)).mono fun _ _ ⟨he, m, hm⟩ => ⟨he, n + m, by rw [hm, World.drewN_drewN, Nat.add_assoc]⟩
set_option maxRecDepth 100000 in
set_option maxHeartbeats 400000 in
theorem acts_walk (m : Int) (hm : -9223372036854775808 ≤ m ∧ m ≤ 9223372036854775807) (A : Option Addr) (n c : Nat) (f : Nat → Ac) (w : World) (hn : n ≤ maxLen) (h : Acts w A n f) :
    Calls Try.prog 3 #[.int .i64 m, .slice A n c] w fun e w' => e = .returned (.bool true) ∧ Below w.heap.size w w' := by
  have HNN := hid hn
  have HA := hid h
  unfold maxLen at hn
  clear h
  go_enter Try.func3, Try.ntmps3
  go_upto_region 3 with (go_at_call 7; refine (wakes_any _).mono ?_; rintro e w1 ⟨rfl, hb⟩; have HB := hid hb; clear hb)
  have HA1 := hid (HA.out.below HB.out)
  have hw1 : w.heap.size ≤ w1.heap.size := HB.out.size
  by_cases h20 : 20 < m ∧ m ≤ 256
  · obtain ⟨h20, h256⟩ := h20
    go_wp2_with fail
    refine (long_any A n c f _ HNN.out HA1.out).mono ?_
    rintro e w' ⟨b, rfl, rfl, hb⟩
    clear hb
    cases b
    all_goals
      go_wp2
      go_ret
      exact ⟨rfl, HB.out⟩
  have HC := hid (show (decide (20 < m) = true → decide (m ≤ 256) = false) from fun e1 => by simp at e1 ⊢; omega)
  clear h20
  go_cut [24] (fun s wx => (s = .bool true ∨ s = .bool false ∧ n ≤ 100 ∧ Hid (∀ i, i < n → (f i).l.length ≤ 200)) ∧ wx = w1)
  case first =>
    by_cases h20 : 20 < m
    · have h256 : decide (m ≤ 256) = false := HC.out (by simpa using h20)
      go_wp2_with fail
      refine (long_any A n c f _ HNN.out HA1.out).mono ?_
      rintro e w' ⟨b, rfl, rfl, hb⟩
      cases b
      · obtain ⟨hn1, hl2⟩ := hb rfl
        have HL2 := hid hl2
        clear hb hl2
        go_wp2_with fail
        go_meet
        exact ⟨.inr ⟨rfl, hn1, HL2⟩, rfl⟩
      · clear hb
        go_wp2_with fail
        go_meet
        exact ⟨.inl rfl, rfl⟩
    · go_wp2_with fail
      refine (long_any A n c f _ HNN.out HA1.out).mono ?_
      rintro e w' ⟨b, rfl, rfl, hb⟩
      cases b
      · obtain ⟨hn1, hl2⟩ := hb rfl
        have HL2 := hid hl2
        clear hb hl2
        go_wp2_with fail
        go_meet
        exact ⟨.inr ⟨rfl, hn1, HL2⟩, rfl⟩
      · clear hb
        go_wp2_with fail
        go_meet
        exact ⟨.inl rfl, rfl⟩
  case rest =>
    obtain ⟨hs, rfl⟩ := hcut
    rcases hs with rfl | ⟨rfl, hn1, HL2⟩
    · go_wp2
      go_ret
      exact ⟨rfl, HB.out⟩
    clear hn
    go_wp2_with (first | (go_at_call 9; refine (new_any m _).mono ?_; rintro e w2 ⟨k, v, rfl, hk, hb⟩; have HK := hid hk; have HB2 := hid hb; clear hk hb) | (go_at_call 10; refine (refnew_any m _).mono ?_; rintro e w3 ⟨q, u, rfl, hk, hb⟩; have HQ := hid hk; have HB3 := hid hb; clear hk hb))
    have HT0 := hid (show Two w w3 wc.heap.size w2.heap.size k q v u ⟨List.replicate (cl m) [], -1, false⟩ (St.R ⟨List.replicate (cl m) [], -1, false⟩) from
      ⟨HK.out.below HB3.out, HQ.out, on (on HB.out HB2.out) HB3.out, fun l hl => by rw [List.eq_of_mem_replicate hl]; simp, HK.out.box.lt, fun g e => (HK.out.rowLt e).2, hw1, Nat.le_trans hw1 HB2.out.size⟩)
    have hkq : k < q := Nat.lt_of_lt_of_le HT0.out.kC HT0.out.r.low
    generalize hB : wc.heap.size = B at HT0
    generalize hC : w2.heap.size = C at HT0
    clear hB hC HK HQ HB2 HB3 HA1 HC
    go_loopg [31] n (fun gk t wr => ∃ p : Nat, p + gk = n ∧ t = .int .i64 p ∧ ∃ s, Two w wr B C k q v u s s.R)
    case atStart => exact ⟨0, by omega, rfl, _, HT0.out⟩
    case round =>
      obtain ⟨p, hp, rfl, s, hT⟩ := hrel
      have HT := hid hT
      clear hT HT0
      by_cases hlt : p < n
      · obtain ⟨ad, rfl, hat⟩ := (HA.out.below HT.out.bel) p hlt
        have h200 := HL2.out p hlt
        obtain ⟨⟨ki, ai, Bi, ci, li⟩, hH⟩ : ∃ y, f p = y := ⟨_, rfl⟩
        rw [hH] at hat h200
        obtain ⟨alt, ck, ca, cb, cr, cle, cwa⟩ := hat
        dsimp only at ck ca cb cr cle cwa h200
        obtain ⟨ln, hli⟩ : ∃ x, li.length = x := ⟨_, rfl⟩
        rw [hli] at cb cle h200
        have HLI := hid hli
        obtain ⟨g, hg⟩ : ∃ g, wr.heap.size = g := ⟨_, rfl⟩
        obtain ⟨W, hW⟩ : ∃ W, wr.alloc (.cells #[.int .i64 ki, .int .i64 ai, .slice Bi ln ci] 31) = W := ⟨_, rfl⟩
        have BW : Below wr.heap.size wr W := by rw [← hW]; exact below_alloc _ _
        have XW : Bx W g 31 #[.int .i64 ki, .int .i64 ai, .slice Bi ln ci] := by rw [← hW, ← hg]; exact Bx.new _ _ _
        have HTW := hid (HT.out.below BW)
        have HXW := hid XW
        have HRW := hid (cr.now BW)
        have HG := hid (show (k ≠ g ∧ v.ownBlock ≠ some g) ∧ q ≠ g ∧ u.ownBlock ≠ some g from by
          have h1 := HT.out.a.box.lt
          have h2 := HT.out.r.box.lt
          refine ⟨⟨by omega, fun e => ?_⟩, by omega, fun e => ?_⟩
          · have := (HT.out.a.rowLt e).2; omega
          · have := (HT.out.r.rowLt e).2; omega)
        have HWW := hid hW
        have HGG := hid hg
        clear BW XW cr hH hW hg hli
        go_upto_region 9 with fail
        rw [HGG.out, HWW.out]
        have O2 := hid (show OwnV (W.alloc (.cells #[] 5)) W.heap.size 5 1 (.slice (some ⟨W.heap.size, 0, none⟩) 0 0) 0 [] from World.ownsRow_lit (size := 1) W #[] 0 (Nat.le_refl _) (by unfold maxLen; omega) rfl)
        have R2 := hid (HRW.out.alloc (.cells #[] 5))
        have x2 : (W.alloc (.cells #[] 5)).cell? ⟨g, 2, none⟩ = some (.slice Bi ln ci) := (HXW.out.alloc _).cell 2
        go_upto_block 2 with (at_builtin; go_loud (refine wpList_appV elt_byte rfl (.tmp 35) (.tmp 37) rfl W.heap.size _ 0 [] O2.out rfl _ Bi ln ci (bytes li) rfl (by rw [bytes_length, HLI.out, Nat.mul_one]) (rv_of_rd R2.out) (bytes_one li) (by unfold maxLen; omega) (by omega) (by rw [World.size_alloc]; omega) ?_); intro v3 W3 hown3 hg3; rw [Nat.zero_add, List.nil_append] at hown3; have B3 := hid ((below_alloc W (.cells #[] 5)).trans (hg3.below O2.out (by rw [World.size_alloc]; omega))); obtain ⟨A9, c9, rfl, r9, le9, lm9⟩ := ownV_bs hown3 HLI.out; have HT3 := hid (HTW.out.below B3.out); have HX3 := hid (HXW.out.next B3.out); have HB3 := hid (HRW.out.now B3.out); have HA3 := hid r9; have y0 := HX3.out.cell 0; clear hown3 hg3 r9)
        rw [HLI.out] at le9
        go_cut [] (fun wx => After w wx B C k q v u g #[.int .i64 ki, .int .i64 ai, .slice Bi ln ci])
        case first =>
          have y1 : W3.cell? ⟨g, 1, none⟩ = some (.int .i64 ai) := HX3.out.cell 1
          have y2 : W3.cell? ⟨g, 2, none⟩ = some (.slice Bi ln ci) := HX3.out.cell 2
          by_cases h0 : ki = 0
          · subst h0
            obtain ⟨z, hz⟩ : ∃ z, s.told ai li = z := ⟨_, rfl⟩
            have HZ := hid hz
            have HTD := hid HT3.out.drew
            have HXD := hid (show Bx W3.drew g 31 #[.int .i64 0, .int .i64 ai, .slice Bi ln ci] from HX3.out)
            have HAD := hid (show Rn W3.drew A9 li from HA3.out)
            have HBD := hid (show Rn W3.drew Bi li from HB3.out)
            have hll : li.length ≤ 140737488355328 := by have := HLI.out; omega
            have hlm : li.length ≤ maxLen := by unfold maxLen; omega
            have hln : ln ≤ 140737488355328 := by omega
            have HLL := hid hll
            have HLM := hid hlm
            clear hz hll hlm
            go_upto_region 12 with fail
            go_region_held3 (fun w' => w'.cell? ⟨g, 1, none⟩ = some (.int .i64 ai) ∧ w'.cell? ⟨g, 2, none⟩ = some (.slice Bi ln ci)) (first | exact kp | (exact ⟨by go_simp, by go_simp⟩)) (first
              | (go_at_call 11; (with_reducible refine (write_any HTD.out.a ai A9 li.length c9 li rfl HLL.out HAD.out).mono ?_); rintro e x4 ⟨rfl, hk, ho⟩; rw [HZ.out]; have P1 := hid (HTD.out.first hk ho (write_short s ai li HTD.out.short).1); have P2 := hid (apart_of HXD.out HG.out.1.1 HG.out.1.2 ho); have P3 := hid (HAD.out.stay ho.stay ho.size); have P4 := hid (HBD.out.stay ho.stay ho.size); have kp := And.intro (P2.out.cell 1) (P2.out.cell 2); clear hk ho)
              | (go_at_call 12; (with_reducible refine (refwrite_any P1.out.r ai Bi ln ci li HLI.out hln P4.out).mono ?_); rintro e x5 ⟨rfl, hk, ho⟩; rw [R_write] at hk; rw [R_told, HZ.out]; have Q1 := hid (P1.out.second hk ho); have Q2 := hid (apart_of P2.out HG.out.2.1 HG.out.2.2 ho); have Q3 := hid (show Rd x5 x5.heap.size A9 li from P3.out.stay ho.stay ho.size); have Q4 := hid (show Rd x5 x5.heap.size Bi li from P4.out.stay ho.stay ho.size); have kp := And.intro (Q2.out.cell 1) (Q2.out.cell 2); clear hk ho)
              | (go_at_call 12; (with_reducible refine (refwrite_any HTD.out.r ai Bi ln ci li HLI.out hln HBD.out).mono ?_); rintro e x4 ⟨rfl, hk, ho⟩; rw [R_write] at hk; rw [R_told, HZ.out]; have O1 := hid (HTD.out.second hk ho); have O2 := hid (apart_of HXD.out HG.out.2.1 HG.out.2.2 ho); have O3 := hid (HAD.out.stay ho.stay ho.size); have O4 := hid (HBD.out.stay ho.stay ho.size); have kp := And.intro (O2.out.cell 1) (O2.out.cell 2); clear hk ho)
              | (go_at_call 11; (with_reducible refine (write_any O1.out.a ai A9 li.length c9 li rfl HLL.out O3.out).mono ?_); rintro e x5 ⟨rfl, hk, ho⟩; rw [HZ.out]; have Q1 := hid (O1.out.first hk ho (write_short s ai li O1.out.short).1); have Q2 := hid (apart_of O2.out HG.out.1.1 HG.out.1.2 ho); have Q3 := hid (show Rd x5 x5.heap.size A9 li from O3.out.stay ho.stay ho.size); have Q4 := hid (show Rd x5 x5.heap.size Bi li from O4.out.stay ho.stay ho.size); have kp := And.intro (Q2.out.cell 1) (Q2.out.cell 2); clear hk ho)
              | (go_at_call 13; (with_reducible refine (same_yes A9 Bi li.length ln c9 ci li _ _ _ rfl HLI.out HLM.out Q3.out Q4.out).mono ?_); rintro e x6 ⟨rfl, d6, rfl⟩; have T1 := hid (Q1.out.draws d6); have T2 := hid (Q2.out.draws d6); have kp := And.intro (T2.out.cell 1) (T2.out.cell 2)))
            all_goals
              go_wp2_with fail
              go_meet
              exact ⟨s.write ai li, T1.out, T2.out⟩
          · by_cases h1 : ki = 1
            · subst h1
              obtain ⟨d0, hd0⟩ : ∃ d, s.d = d := ⟨_, rfl⟩
              have HD := hid hd0
              clear hd0
              cases d0
              · have HF := fun W (h : Two w W B C k q v u (s.fuse ai) s.R) => Dk.setF h.r (max ai (-1)) (by omega)
                have HF' := hid HF
                clear HF
                by_cases h9 : ai < -1
                all_goals
                  go_wp2_with (go_at_call 14; refine (fuse_any HT3.out.a ai cwa).mono ?_; rintro e W4 ⟨rfl, hk, ho⟩; have HT4 := hid (HT3.out.first hk ho (fuse_short HT3.out.short)); have HX4 := hid (apart_of HX3.out HG.out.1.1 HG.out.1.2 ho); have z1 : W4.cell? ⟨g, 1, none⟩ = some (.int .i64 ai) := HX4.out.cell 1; have z2 : W4.cell? ⟨q, 2, none⟩ = some (.bool s.d) := HT4.out.r.cells.2.2.1; rw [HD.out] at z2; obtain ⟨-, z3, -, -, z4, -⟩ := HT4.out.r.cells; clear hk ho)
                  go_meet
                  obtain ⟨r1, r2⟩ := HF'.out _ HT4.out
                  rw [show max ai (-1) = _ from by first | exact Int.max_eq_right (by omega) | exact Int.max_eq_left (by omega)] at r1 r2
                  refine ⟨s.fuse ai, ?_, apart_of HX4.out HG.out.2.1 HG.out.2.2 r2⟩
                  have := HT4.out.second r1 r2
                  have e : (s.fuse ai).R = { s.R with f := max ai (-1) } := by rw [R_fuse, if_neg (by rw [HD.out]; simp)]
                  rw [e, show max ai (-1) = _ from by first | exact Int.max_eq_right (by omega) | exact Int.max_eq_left (by omega)]
                  exact this
              · go_wp2_with (go_at_call 14; refine (fuse_any HT3.out.a ai cwa).mono ?_; rintro e W4 ⟨rfl, hk, ho⟩; have HT4 := hid (HT3.out.first hk ho (fuse_short HT3.out.short)); have HX4 := hid (apart_of HX3.out HG.out.1.1 HG.out.1.2 ho); have z2 : W4.cell? ⟨q, 2, none⟩ = some (.bool s.d) := HT4.out.r.cells.2.2.1; rw [HD.out] at z2; clear hk ho)
                go_meet
                exact ⟨s.fuse ai, by rw [R_fuse, if_pos HD.out]; exact HT4.out, HX4.out⟩
            · by_cases h2 : ki = 2
              · subst h2
                go_wp2_with (go_at_call 15; refine (up_any HT3.out.a).mono ?_; rintro e W4 ⟨rfl, hk, ho⟩; have HT4 := hid (HT3.out.first hk ho HT3.out.short); have HX4 := hid (apart_of HX3.out HG.out.1.1 HG.out.1.2 ho); obtain ⟨-, z1, z2, -, z4, z5⟩ := HT4.out.r.cells; have z6 : (W4.setCell ⟨q, 2, none⟩ (.bool false)).cell? ⟨q, 1, none⟩ = some (.int .i64 s.R.f) := (HT4.out.r.setD false).1.cells.2.1; have z7 := (HT4.out.r.setD false).1.cells.2.2.2.2.1; clear hk ho)
                go_meet
                obtain ⟨r1, r2⟩ := HT4.out.r.setD false
                obtain ⟨r3, r4⟩ := r1.setF (-1) (by omega)
                exact ⟨{ s with f := -1, d := false }, HT4.out.second r3 (r2.trans r4), apart_of HX4.out HG.out.2.1 HG.out.2.2 (r2.trans r4)⟩
              · go_wp2_with fail
                go_meet
                exact ⟨s, HT3.out, HX3.out⟩
        case rest =>
          obtain ⟨s2, hT2, hX2⟩ := hcut
          have HT4 := hid hT2
          have HX4 := hid hX2
          obtain ⟨AR, cR, rfl, -, -⟩ := hT2.r.shape
          obtain ⟨nL, hnL⟩ : ∃ x, s2.L.length = x := ⟨_, rfl⟩
          have HNL := hid hnL
          obtain ⟨d0, hd0⟩ : ∃ x, s2.d = x := ⟨_, rfl⟩
          have HD0 := hid hd0
          have y1 : wc.cell? ⟨g, 1, none⟩ = some (.int .i64 ai) := hX2.cell 1
          have y3 : wc.cell? ⟨q, 0, none⟩ = some (.slice AR s2.L.length cR) := hT2.r.cells.1
          have y4 : wc.cell? ⟨q, 2, none⟩ = some (.bool s2.d) := hT2.r.cells.2.2.1
          rw [hnL] at y3
          rw [hd0] at y4
          have hdd : (d0 != d0) = false := by simp
          have CD := fun n => down_any (hT2.a.draws n)
          have CL := fun n => len_any (hT2.a.draws n)
          rw [hd0] at CD
          rw [hnL] at CL
          have HCD := hid CD
          have HCL := hid CL
          clear hT2 hX2 hnL hd0 CD CL HT3 HX3 HB3 HA3 HTW HXW HRW HT
          go_upto_region 21 with fail
          go_quiet (first | ((go_at_call 16; exact quietL (HCD.out _))) | ((go_at_call 17; exact quietL (HCL.out _))))
          have HT5 := fun n => hid (HT4.out.draws n)
          have HX5 := fun n => hid (show Bx (wc.drewN n) g 31 #[.int .i64 ki, .int .i64 ai, .slice Bi ln ci] from HX4.out)
          clear y3 y4 hdd HCD HCL
          go_wp2_with fail
          refine (read_any (HT5 _).out.a HT4.out.short ai).mono ?_
          rintro e w7 ⟨u7, l7, c7, rfl, hu7, hb7, hor⟩
          obtain ⟨A7, x7, rfl, hr7, hx7, hm7⟩ := hu7
          have HT7 := hid ((HT5 _).out.below hb7)
          have HX7 := hid ((HX5 _).out.next hb7)
          have HR7 := hid hr7
          have z1 : w7.cell? ⟨g, 1, none⟩ = some (.int .i64 ai) := HX7.out.cell 1
          have z3 : w7.cell? ⟨q, 0, none⟩ = some (.slice AR s2.L.length cR) := HT7.out.r.cells.1
          rw [HNL.out] at z3
          have hor2 : (∃ j : Nat, ai = j ∧ j < nL ∧ s2.L[j]? = some l7 ∧ c7 = 0) ∨ ((ai < 0 ∨ (nL : Int) ≤ ai) ∧ c7 = 3) := by
            rcases hor with ⟨h1, h2, _⟩ | ⟨h1, h2, h3⟩
            · right; rw [HNL.out] at h1; exact ⟨h1, h2⟩
            · left
              refine ⟨ai.toNat, by omega, ?_, h2, h3⟩
              rw [← HNL.out]; exact (List.getElem?_eq_some_iff.1 h2).1
          clear hor hb7 hr7 HT4 HX4 HT5 HX5 y1
          rcases hor2 with ⟨j, rfl, hj, hl7, rfl⟩ | ⟨h1, rfl⟩
          · obtain ⟨gR, cc, u0, e, q1, q2, q3⟩ := HT7.out.r.sec (i := j) (l := l7) hl7
            injection e with e
            subst e
            obtain ⟨A0, x0, rfl, hr0, -, -⟩ := q3
            have HR0 := hid hr0
            have hjj : (j : Int) < (nL : Int) := by omega
            have hjd : decide ((j : Int) < (nL : Int)) = true := by simpa using hj
            have hjz : decide ((0 : Int) ≤ (j : Int)) = true := by simp
            have HSA := fun k => same_yes A7 A0 l7.length l7.length x7 x0 l7 (w7.drewN k) _ _ rfl rfl (Nat.le_trans hx7 hm7) (HR7.out.drewN k) (Rn.drewN HR0.out k)
            have HS1 := hid (fun a n => quietAdd (a := a) (n := n) HSA)
            have HS2 := hid (fun n => Calls.quiet_of (n := n) (HSA n))
            clear hr0 hl7 HSA q2 hx7 hm7
            go_wp2_with fail
            go_quiet (fail)
            go_wp2_with fail
            go_quiet (first | ((go_at_call 13; exact HS1.out _ _)))
            go_wp2_with fail
            go_roundg (gk - 1)
            case measure => omega
            case rel => first | exact ⟨p + 1, by omega, by go_num, s2, (HT7.out.draws _).draws _⟩ | exact ⟨p + 1, by omega, by go_num, s2, HT7.out.draws _⟩
          · by_cases h0 : ai < 0
            · have hd : decide (0 ≤ ai) = false := by simpa using h0
              clear h1
              go_wp2_with fail
              go_quiet (fail)
              go_wp2_with fail
              go_quiet (fail)
              go_wp2_with fail
              go_roundg (gk - 1)
              case measure => omega
              case rel => first | exact ⟨p + 1, by omega, by go_num, s2, (HT7.out.draws _).draws _⟩ | exact ⟨p + 1, by omega, by go_num, s2, HT7.out.draws _⟩
            · have h2 : 0 ≤ ai := by omega
              have h3 : (nL : Int) ≤ ai := by omega
              have hd : decide (ai < (nL : Int)) = false := by simpa using h3
              clear h1 h0
              go_wp2_with fail
              go_quiet (fail)
              go_wp2_with fail
              go_quiet (fail)
              go_wp2_with fail
              go_roundg (gk - 1)
              case measure => omega
              case rel => first | exact ⟨p + 1, by omega, by go_num, s2, (HT7.out.draws _).draws _⟩ | exact ⟨p + 1, by omega, by go_num, s2, HT7.out.draws _⟩
      · obtain rfl : p = n := by omega
        go_wp2
        go_ret
        exact ⟨rfl, HT.out.bel⟩
end Go.Proofs.Ytfhejadlkooklaa
