/-
  What is proved: uni's settle: yardsticks move, who moved is told in a row of the call's own. Condition: the stack lies in memory as one.
-/
import Derived.Test.YtmkpimpckhppgaaUx13
import Derived.Deep.DeepMust
namespace Go.Proofs.Ytmkpimpckhppgaa
open Go.RowKit

/-- moves as cells -/
def mvc (M : List (Int × Nat)) : List Value := M.flatMap fun m => [.int .i64 m.1, .int .i64 (m.2 : Nat), .int .i64 (m.2 + 1 : Nat)]
theorem mvc_app (M N : List (Int × Nat)) : mvc (M ++ N) = mvc M ++ mvc N := by unfold mvc; exact List.flatMap_append
theorem mvc_len (M : List (Int × Nat)) : (mvc M).length = M.length * 3 := by
  induction M with
  | nil => rfl
  | cons m M ih =>
    rw [show m :: M = [m] ++ M from rfl, mvc_app, List.length_append, List.length_append, ih]
    show 3 + _ = (1 + _) * 3
    omega
theorem infoMove : (Try.prog.info? 49).map (fun i => (i.zero, i.size, i.bytes)) = some (some (.agg #[.int .i64 0, .int .i64 0, .int .i64 0]), 3, 24) := by kernel_rfl
theorem elt_move : Elt Try.prog 35 49 (.agg #[.int .i64 0, .int .i64 0, .int .i64 0]) 3 24 := ⟨Try.underlying35, infoMove, rfl, by decide⟩
section
variable {w : World} {g k : Nat} {c : Nat → Nat} {s : Us}
theorem stl_no {kk l : Nat} (h : ¬ c l < s.ct l) (hl : l + kk = 3) : s.stl c (kk + 1) = (s, []) := by
  unfold Us.stl
  rw [show 3 - kk = l from by omega, if_neg h]
theorem stl_yes {kk l : Nat} (h : c l < s.ct l) (hl : l + kk = 3) : s.stl c (kk + 1) = (((s.sv (s.yb l) (l + 1 : Nat)).stl c kk).1, (s.yb l, l) :: ((s.sv (s.yb l) (l + 1 : Nat)).stl c kk).2) := by
  conv => lhs; unfold Us.stl
  rw [show 3 - kk = l from by omega, if_pos h]
theorem chg_bel {w w1 w2 : World} {F : Nat → Prop} (h : Chg w w1 F F) (hb : Below w.heap.size w1 w2) : Chg w w2 F F :=
  ⟨hb.os.trans h.os, hb.tape.trans h.tape, hb.output.trans h.output, Nat.le_trans h.size hb.size, fun j h1 h2 => (hb.block j h1).trans (h.block j h1 h2), fun _ e => .inl e⟩
theorem Un.bel {w' : World} {B : Nat} (h : Un w g k c s) (hb : Below B w w') (hg : g < B) (hk : k < B) : Un w' g k c s := ⟨(hb.block g hg).trans h.box, h.sq.same (hb.block k hk), h.ne, h.cap⟩
/-- moves that were told: a row of the call's own -/
def Mvs (w : World) (b : Nat) (v : Value) (M : List (Int × Nat)) : Prop := OwnV w b 49 3 v M.length (mvc M)
set_option maxRecDepth 10000 in
set_option maxHeartbeats 1000000 in
theorem un_settle (h : Un w g k c s) (ok : Oku s) {l : Nat} (h1 : 1 ≤ l) (h4 : l ≤ 4) : Calls Try.prog 31 #[.pointer (some ⟨g, 0, none⟩), .int .i64 l] w fun e w' =>
    ∃ v, e = .returned v ∧ Mvs w' w.heap.size v (s.stl c (4 - l)).2 ∧ Un w' g k c (s.stl c (4 - l)).1 ∧ Chg w w' (Uf g k) (Uf g k) := by
  have HU := hid h
  have HK := hid ok
  have HG := hid (And.intro h.box.lt h.sq.lt)
  obtain ⟨T, hT⟩ : ∃ T, s.stl c (4 - l) = T := ⟨_, rfl⟩
  rw [hT]
  have HT := hid hT
  clear h ok hT
  go_enter Try.func31, Try.ntmps31
  go_wp2
  go_loopg [1, 5] (4 - l) (fun gk t1 t5 wr => ∃ (v5 : Value) (l' : Nat) (s' : Us) (M : List (Int × Nat)), v5 = t5 ∧ l' + gk = 4 ∧ 1 ≤ l' ∧ t1 = .int .i64 l' ∧ M.length + gk ≤ 4 ∧ M ++ (s'.stl c gk).2 = T.2 ∧ (s'.stl c gk).1 = T.1 ∧ Oku s' ∧ Un wr g k c s' ∧ Mvs wr w.heap.size v5 M ∧ Chg w wr (Uf g k) (Uf g k))
  case atStart => exact ⟨_, l, s, [], rfl, by omega, h1, rfl, by simp, by rw [HT.out]; rfl, by rw [HT.out], HK.out, HU.out, ownV_nil _ _ _ _, Chg.refl _ _⟩
  case round =>
    obtain ⟨v5, l', s', M, rfl, hl, hl1, rfl, hM, hm, he, ok, hu, ho, hc⟩ := hrel
    have HM := hid hm
    have HE := hid he
    have HK1 := hid ok
    have HU1 := hid hu
    have HO1 := hid ho
    have HC1 := hid hc
    clear hm he ok hu ho hc HU HK
    have HI := hid (fun w => ulevel_any w (l' : Int))
    cases gk with
    | zero =>
      obtain rfl : l' = 4 := by omega
      rw [decide_eq_false (show ¬ lv (4 : Nat) from fun e => by have := e.2; omega)] at HI
      have e2 : M = T.2 := by have := HM.out; unfold Us.stl at this; rw [List.append_nil] at this; exact this
      have e1 : s' = T.1 := HE.out
      subst e2 e1
      go_wp2_with (go_at_call 35; refine (HI.out _).mono ?_; rintro e w' ⟨rfl, rfl⟩)
      go_ret
      exact ⟨_, rfl, HO1.out, HU1.out, HC1.out⟩
    | succ kk =>
      have hl3 : l' + kk = 3 := by omega
      rw [decide_eq_true (show lv l' from ⟨by omega, by omega⟩)] at HI
      have HCT := hid (un_count HU1.out HK1.out l')
      have HCP := hid (fun (w' : World) (hu : Un w' g k c s') => un_cap hu hl1 (show l' ≤ 3 from by omega))
      by_cases hc : c l' < s'.ct l'
      · have HST := hid (stl_yes hc hl3)
        have hy := Us.ct_pos (show 0 < s'.ct l' from by omega)
        obtain ⟨hym, hyv⟩ := Us.yb_mem hy
        have hlt := HK1.out.lt _ hym
        have HKS := hid (HK1.out.sv hym (l := (l' + 1 : Nat)) (by omega))
        have HY := hid (fun (w' : World) (hu : Un w' g k c s') => un_yard hu HK1.out l' ⟨by omega, by omega⟩)
        rw [show yv s' l' = .tuple #[.int .i64 (s'.yb l'), .bool true] from by unfold yv; rw [if_pos hy]] at HY
        generalize s'.yb l' = y at *
        generalize s'.ct l' = ct at *
        generalize hcl : c l' = cl at *
        obtain ⟨p, rfl⟩ : ∃ p : Nat, y = p := ⟨y.toNat, by omega⟩
        have hp : p < 64 := by omega
        have hpp : (p : Int) < 64 := by omega
        have hcc : (cl : Int) < (ct : Int) := by omega
        have hwr : IntKind.i64.wrap ((l' : Int) + 1) = ((l' + 1 : Nat) : Int) := by rw [IntKind.wrap_i64]; omega
        clear hy hym hyv hlt hcl hc
        go_upto_region 6 with (first
          | (go_at_call 35; refine (HI.out _).mono ?_; rintro e w' ⟨rfl, rfl⟩)
          | (go_at_call 20; refine HCT.out.mono ?_; rintro e w1 ⟨rfl, hb⟩; have HU2 := hid (HU1.out.below hb); have HO2 := hid (OwnV.below HO1.out hb); have HC2 := hid (HC1.out.trans (Chg.of hb _)); clear hb)
          | (go_at_call 45; refine (HCP.out _ HU2.out).mono ?_; rintro e w' ⟨rfl, rfl⟩)
          | (go_at_call 21; refine (HY.out _ HU2.out).mono ?_; rintro e w3 ⟨rfl, hb⟩; have HU3 := hid (HU2.out.below hb); have HO3 := hid (OwnV.below HO2.out hb); have HC3 := hid (HC2.out.trans (Chg.of hb _)); clear hb))
        have cV := HU3.out.cV hp
        have bf := HU3.out.free
        go_upto_region 7 with fail
        have HU4 := hid (show Un (w3.setCell ⟨g, 4 + p, none⟩ (.int .i64 ((l' : Int) + 1))) g k c (s'.sv p (l' + 1 : Nat)) from by rw [show ((l' + 1 : Nat) : Int) = (l' : Int) + 1 from by omega]; exact HU3.out.setV p _)
        have HO4 := hid (show Mvs (w3.setCell ⟨g, 4 + p, none⟩ (.int .i64 ((l' : Int) + 1))) w.heap.size v5 M from ownsRow_setCell_below HO3.out (a := ⟨g, 4 + p, none⟩) HG.out.1 _)
        have HC4 := hid (uf_set HC3.out (4 + p) (.int .i64 ((l' : Int) + 1)))
        generalize w3.setCell ⟨g, 4 + p, none⟩ (.int .i64 ((l' : Int) + 1)) = w4 at *
        clear cV bf
        have HR5 := hid (rv_new w4 49 #[.int .i64 p, .int .i64 l', .int .i64 ((l' : Int) + 1)])
        have HB5 := hid (below_alloc w4 (.cells #[.int .i64 p, .int .i64 l', .int .i64 ((l' : Int) + 1)] 49))
        have HU5 := hid (HU4.out.below HB5.out)
        have HO5 := hid (OwnV.below HO4.out HB5.out)
        have HC5 := hid (HC4.out.trans (Chg.of HB5.out _))
        have HSZ := hid HC5.out.size
        obtain ⟨A, cp, e5, -, -, -⟩ := OwnV.read HO4.out
        subst e5
        go_wp2_with (at_builtin; (refine wpList_appV elt_move rfl (.tmp 35) (.tmp 41) rfl w.heap.size _ M.length (mvc M) HO5.out rfl _ _ 1 1 [.int .i64 p, .int .i64 l', .int .i64 ((l' : Int) + 1)] rfl rfl HR5.out (fun u hu => by simp at hu; rcases hu with rfl | rfl | rfl <;> rfl) (by unfold maxLen; omega) (by omega) HSZ.out ?_); intro v6 w6 ho6 hg6; have HO6 := hid ho6; have HB6 := hid (GrownV.below hg6 HO5.out HSZ.out); have HU6 := hid (HU5.out.bel HB6.out HG.out.1 HG.out.2); have HC6 := hid (chg_bel HC5.out HB6.out); clear ho6 hg6)
        go_roundg kk
        case measure => omega
        case rel => exact ⟨_, l' + 1, _, M ++ [((p : Int), l')], rfl, by omega, by omega, by go_num, by simp; omega, by rw [List.append_assoc, List.singleton_append]; have := HM.out; rw [HST.out] at this; exact this, by have := HE.out; rw [HST.out] at this; exact this, HKS.out, HU6.out, by unfold Mvs; rw [mvc_app, List.length_append]; exact HO6.out, HC6.out⟩
      · have HST := hid (stl_no hc hl3)
        have e2 : M = T.2 := by have := HM.out; rw [HST.out, List.append_nil] at this; exact this
        have e1 : s' = T.1 := by have := HE.out; rw [HST.out] at this; exact this
        generalize s'.ct l' = ct at *
        generalize hcl : c l' = cl at *
        have hcc : ¬ (cl : Int) < (ct : Int) := by omega
        have hd : decide (cl < ct) = false := by simpa using hc
        clear hc hcl
        go_wp2_with (first
          | (go_at_call 35; refine (HI.out _).mono ?_; rintro e w' ⟨rfl, rfl⟩)
          | (go_at_call 20; refine HCT.out.mono ?_; rintro e w1 ⟨rfl, hb⟩; have HU2 := hid (HU1.out.below hb); have HO2 := hid (OwnV.below HO1.out hb); have HC2 := hid (HC1.out.trans (Chg.of hb _)); clear hb)
          | (go_at_call 45; refine (HCP.out _ HU2.out).mono ?_; rintro e w' ⟨rfl, rfl⟩))
        go_ret
        exact ⟨_, rfl, by rw [← e2]; exact HO2.out, by rw [← e1]; exact HU2.out, HC2.out⟩
end
end Go.Proofs.Ytmkpimpckhppgaa
