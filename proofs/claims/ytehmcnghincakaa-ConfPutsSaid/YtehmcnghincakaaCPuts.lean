/-
  What is proved: the walk of ConfPuts: any configuration is right, and has the bytes, as the document says; what is put is got; it stays as it was. No condition.
-/
import Derived.Test.YtehmcnghincakaaGetC
import Derived.Test.YtehmcnghincakaaRPutC
import Derived.Test.YtehmcnghincakaaCSame
import Derived.Test.YtehmcnghincakaaSame
import Derived.Test.YtehmcnghincakaaWake3
import Derived.Deep.DeepCutAuto
import Derived.Deep.CutBlock
import Derived.Deep.DeepMust
import Derived.BigFrame
namespace Go.Proofs.Ytehmcnghincakaa
open Go.RowKit

theorem cfgC_put (c : Nat → Int) (A B : Option Addr) (n cp m cq : Nat) : (cfgC c A n cp).setIfInBounds 16 (.slice B m cq) = cfgC c B m cq := by simp [cfgC]

theorem run_loadCells_bx {P : Program} {w : World} {g : Nat} {t : TypeId} {cs : Array Value} (h : Bx w g t cs) (n : Nat) (hn : cs.size = n) : (loadCellsFrom ⟨g, 0, none⟩ 0 n #[]).run P w = .ok cs w := by
  subst hn
  have := run_loadCells_list (P := P) w ⟨g, 0, none⟩ cs.toList (fun j v hv => by
    have hadd : (⟨g, 0, none⟩ : Addr).add j = ⟨g, j, none⟩ := by unfold Addr.add; split <;> simp_all
    rw [hadd, h.cell]
    simpa using hv)
  simpa [loadCells] using this
theorem quiet_load {P : Program} {C : World → Prop} {a : Act} {o : Oper} {K : Act → Prop} (ty : TypeId) (p : Operand) (ho : o.op = .load ty p) (g : Nat) (v : Value) (hp : a.eval p = .pointer (some ⟨g, 0, none⟩))
    (hl : ∀ w', C w' → (Instr.loadAt ty (.pointer (some ⟨g, 0, none⟩))).run P w' = .ok v w') (hk : K (a.put o.dst v)) : o.quiet P a C K :=
  ⟨v, fun w' hw' => by
    unfold Oper.quietAt execOp
    simp only [ho, hp, hl w' hw', Sem.run_bind, Sem.run_pure, Result.andThen_ok]
    exact ⟨rfl, rfl⟩, hk⟩
theorem wpList_load_bxg {P : Program} {w : World} {ops : Array Oper} {rest : List Oper} {o : Oper} {a : Act} {Q : Exit → Act → World → Prop} (hgd : Region.wanted o (yielded ops a.tmps) = true) (ty : TypeId) (p : Operand) (ho : o.op = .load ty p) (g : Nat) (t : TypeId) (cs : Array Value) (d : TypeDesc) (hp : a.eval p = .pointer (some ⟨g, 0, none⟩)) (hb : Bx w g t cs)
    (hu : P.underlying ty = some d) (hd : (match d with | .struct _ | .array _ _ => true | _ => false) = true) (hi : (P.info? ty).map (·.size) = some cs.size) (h : wpList P ops Q rest (a.put o.dst (.agg cs)) w) : wpList P ops Q (o :: rest) a w := by
  refine BigFrame.wpList_want hgd fun K hK => ?_
  have hrun := run_loadAt_bx (P := P) hb hu hd hi
  unfold Oper.wp execOp
  simp only [ho, hp, hrun, Sem.run_bind, Sem.run_pure, Result.andThen_ok]
  exact hK _ _ h
theorem right_yes (A : Option Addr) (n cp : Nat) (c : Nat → Int) (hh : Nat → Hn) (w : World) (hn : n ≤ maxLen) (hr : Rv w w.heap.size A (hvs hh n)) (hy : RightP c hh n) :
    Calls Try.prog 11 #[.agg (cfgC c A n cp)] w fun e w' => e = .returned (.bool true) ∧ Below w.heap.size w w' := by
  have h := right_any A n cp c hh w hn hr
  rw [dec_true hy] at h
  exact h
theorem right_no (A : Option Addr) (n cp : Nat) (c : Nat → Int) (hh : Nat → Hn) (w : World) (hn : n ≤ maxLen) (hr : Rv w w.heap.size A (hvs hh n)) (hy : ¬ RightP c hh n) :
    Calls Try.prog 11 #[.agg (cfgC c A n cp)] w fun e w' => e = .returned (.bool false) ∧ Below w.heap.size w w' := by
  have h := right_any A n cp c hh w hn hr
  rw [dec_false hy] at h
  exact h
theorem rright_yes (A : Option Addr) (n cp : Nat) (c : Nat → Int) (hh : Nat → Hn) (w : World) (hn : n ≤ maxLen) (hr : Rv w w.heap.size A (hvs hh n)) (hy : RightP c hh n) :
    Calls Try.prog 12 #[.agg (cfgC c A n cp)] w fun e w' => e = .returned (.bool true) ∧ Below w.heap.size w w' := by
  have h := rright_any A n cp c hh w hn hr
  rw [dec_true hy] at h
  exact h
theorem rright_no (A : Option Addr) (n cp : Nat) (c : Nat → Int) (hh : Nat → Hn) (w : World) (hn : n ≤ maxLen) (hr : Rv w w.heap.size A (hvs hh n)) (hy : ¬ RightP c hh n) :
    Calls Try.prog 12 #[.agg (cfgC c A n cp)] w fun e w' => e = .returned (.bool false) ∧ Below w.heap.size w w' := by
  have h := rright_any A n cp c hh w hn hr
  rw [dec_false hy] at h
  exact h

set_option maxRecDepth 100000 in
set_option maxHeartbeats 4000000 in
theorem cputs_short (A : Option Addr) (n cp : Nat) (c : Nat → Int) (hh : Nat → Hn) (w : World) (hn20 : n ≤ 20) (hr : Rv w w.heap.size A (hvs hh n)) :
    Calls Try.prog 3 #[.agg (cfgC c A n cp)] w fun e w' => e = .returned (.bool true) ∧ Below w.heap.size w w' := by
  have X0 := Bx.new w 25 (cfgC c A n cp)
  have K0 := below_alloc w (.cells (cfgC c A n cp) 25)
  have HR := hid hr
  clear hr
  have h20 : decide ((n : Int) > 20) = false := decide_eq_false (by omega)
  go_enter Try.func3, Try.ntmps3
  go_wp2_with fail
  refine (wakes_any _).mono ?_
  rintro e w1 ⟨rfl, hb1⟩
  have HX1 := hid (X0.next hb1)
  have HK1 := hid (on K0 hb1)
  have c16 : w1.cell? ⟨w.heap.size, 16, none⟩ = some (.slice A n cp) := by rw [HX1.out.cell]; rfl
  clear X0 K0 hb1
  go_upto_region 6 with (first
    | (refine wpList_load_bx rfl _ _ rfl _ _ _ _ rfl HX1.out Try.underlying25 rfl (by kernel_rfl) ?_)
    | (refine wpList_store_new rfl _ _ _ rfl rfl _ (cfgC c A n cp) rfl rfl (by kernel_rfl) rfl (one_cells _ _ _ _) ?_))
  have HX2 := hid (HX1.out.alloc (.cells (cfgC c A n cp) 25))
  have HY2 := hid (Bx.new w1 25 (cfgC c A n cp))
  have HK2 := hid (on HK1.out (below_alloc w1 (.cells (cfgC c A n cp) 25)))
  have hg : w.heap.size < w1.heap.size := HX1.out.lt
  have hg2 : w1.heap.size < (w1.alloc (.cells (cfgC c A n cp) 25)).heap.size := HY2.out.lt
  clear c16
  generalize w1.alloc (.cells (cfgC c A n cp) 25) = w2 at *
  generalize w1.heap.size = g at *
  clear HX1 HK1
  have c16 : (w2.alloc (.cells #[] 41)).cell? ⟨w.heap.size, 16, none⟩ = some (.slice A n cp) := by rw [(HX2.out.alloc _).cell]; rfl
  have O2 := hid (World.ownsRow_lit (size := 4) (e := 41) (base := w2.heap.size) w2 #[] 0 (Nat.le_refl _) (by unfold maxLen; omega) rfl)
  have R2 := hid ((HR.out.now HK2.out).below (below_alloc w2 (.cells #[] 41)) (Nat.le_refl _))
  go_upto_region 7 with (at_builtin; go_must (refine wpList_appV eHint rfl (.tmp 17) (.tmp 19) rfl w2.heap.size _ 0 [] O2.out rfl _ A n cp (hvs hh n) rfl (hvs_length hh n) R2.out (hvs_one hh n) (by unfold maxLen; omega) (by omega) (by rw [World.size_alloc]; omega) ?_); intro v3 w3 hown3 hg3; rw [Nat.zero_add, List.nil_append] at hown3; have K3 := hid ((below_alloc w2 (.cells #[] 41)).trans (hg3.below O2.out (by rw [World.size_alloc]; omega))); have HO3 := hown3; obtain ⟨B, cq, rfl, -, -, -⟩ := OwnV.read hown3; have O3 := hid HO3; have pc : w3.cell? ⟨g, 16, none⟩ = some (.slice A n cp) := (by rw [(HY2.out.next K3.out).cell]; rfl); have pf := (HY2.out.next K3.out).free 16; clear hown3 hg3 HO3 c16)
  have Y4 := (HY2.out.next K3.out).set 16 (.slice B n cq)
  rw [cfgC_put] at Y4
  have HX4 := hid ((HX2.out.next K3.out).far ⟨g, 16, none⟩ (.slice B n cq) (by show g ≠ w.heap.size; omega))
  have HY4 := hid Y4
  have HK4 := hid (below_set (on HK2.out K3.out) ⟨g, 16, none⟩ (.slice B n cq) (Nat.le_of_lt hg))
  have hO4 : OwnV (w3.setCell ⟨g, 16, none⟩ (.slice B n cq)) w2.heap.size 41 4 (.slice B n cq) n (hvs hh n) :=
    World.ownsRow.kept O3.out (grown_set (World.grownBy.refl w3 _) 16 (.slice B n cq)) (by
      rcases hob : (Value.slice B n cq).ownBlock with _ | k
      · exact .inl rfl
      · right
        intro e
        have e := Option.some.inj e
        have := (World.ownsRow.lt O3.out _ hob).1
        omega)
  obtain ⟨_, _, e, hr4, -, -⟩ := hO4.read
  injection e with e1 e2 e3
  rw [← e1] at hr4
  have HB4 := hid hr4
  have HA4 := hid (HR.out.now HK4.out)
  clear Y4 hO4 hr4 e1 e2 e3 pc pf HX2 HY2 HK2 O2 R2 O3 K3
  generalize w3.setCell ⟨g, 16, none⟩ (.slice B n cq) = w4 at *
  by_cases hy : RightP c hh n
  · have HY := hid hy
    clear hy
    go_wp2_with (refine wpList_load_bx rfl _ _ rfl _ _ _ _ rfl HY4.out Try.underlying25 rfl (by kernel_rfl) ?_)
    refine (putc_yes B n cq c hh _ HB4.out HY.out).mono ?_
    rintro e w5 ⟨v5, rfl, hs5, hb5⟩
    obtain ⟨S1, c1, rfl, r1, -, -⟩ := hs5
    have hL := HY.out.len
    obtain ⟨L, hLe⟩ : ∃ L, (full c hh n).length = L := ⟨_, rfl⟩
    rw [hLe] at hL ⊢
    have HL := hid hLe
    have HX5 := hid (HX4.out.next hb5)
    have HY5 := hid (HY4.out.next hb5)
    have HK5 := hid (on HK4.out hb5)
    have HA5 := hid (HA4.out.now hb5)
    have HB5 := hid (HB4.out.now hb5)
    have HS1 := hid r1
    clear hb5 r1 hLe HX4 HY4 HK4 HA4 HB4
    go_wp2_with (refine wpList_load_bx rfl _ _ rfl _ _ _ _ rfl HX5.out Try.underlying25 rfl (by kernel_rfl) ?_)
    refine (rputc_yes A n cp c hh _ HA5.out HY.out).mono ?_
    rintro e w6 ⟨v6, rfl, hs6, hb6⟩
    obtain ⟨S2, c2, rfl, r2, -, -⟩ := hs6
    rw [HL.out]
    have HX6 := hid (HX5.out.next hb6)
    have HY6 := hid (HY5.out.next hb6)
    have HK6 := hid (on HK5.out hb6)
    have HA6 := hid (HA5.out.now hb6)
    have HB6 := hid (HB5.out.now hb6)
    have HS16 := hid (HS1.out.now hb6)
    have HS26 := hid r2
    clear hb6 r2 HX5 HY5 HK5 HA5 HB5 HS1
    have l1 : ∀ s : Since w6, (Instr.loadAt 25 (.pointer (some ⟨w.heap.size, 0, none⟩))).run Try.prog s.at_ = .ok (.agg (cfgC c A n cp)) s.at_ := fun s => run_loadAt_bx (HX6.out.next s.bel) Try.underlying25 rfl (by kernel_rfl)
    have l3 : ∀ s : Since w6, (Instr.loadAt 25 (.pointer (some ⟨g, 0, none⟩))).run Try.prog s.at_ = .ok (.agg (cfgC c B n cq)) s.at_ := fun s => run_loadAt_bx (HY6.out.next s.bel) Try.underlying25 rfl (by kernel_rfl)
    have m1 : ∀ s : Since w6, (loadCellsFrom ⟨w.heap.size, 0, none⟩ 0 17 #[]).run Try.prog s.at_ = .ok (cfgC c A n cp) s.at_ := fun s => run_loadCells_bx (HX6.out.next s.bel) 17 rfl
    have m3 : ∀ s : Since w6, (loadCellsFrom ⟨g, 0, none⟩ 0 17 #[]).run Try.prog s.at_ = .ok (cfgC c B n cq) s.at_ := fun s => run_loadCells_bx (HY6.out.next s.bel) 17 rfl
    have K1 := hid (fun s : Since w6 => same_yes S1 S2 L L c1 c2 (full c hh n) s.at_ _ _ HL.out HL.out (by unfold maxLen; omega) (HS16.out.now s.bel) (HS26.out.now s.bel))
    have K2 := hid (fun s : Since w6 => csame_yes B A n cq cp c hh s.at_ (by unfold maxLen; omega) (HB6.out.now s.bel) (HA6.out.now s.bel))
    have K3 := hid (fun s : Since w6 => right_yes A n cp c hh s.at_ (by unfold maxLen; omega) (HA6.out.now s.bel) HY.out)
    have K4 := hid (fun s : Since w6 => rright_yes A n cp c hh s.at_ (by unfold maxLen; omega) (HA6.out.now s.bel) HY.out)
    go_wp2_with fail
    refine wp_region_since (by kernel_rfl) (by kernel_rfl) ?_
    repeat (first
      | (go_big_quiet_step (first
      | (go_at_call 9; refine Calls.sinceN _ (K1.out _))
      | (go_at_call 10; refine Calls.since _ (K2.out _))
      | (go_at_call 11; refine Calls.since _ (K3.out _))
      | (go_at_call 12; refine Calls.since _ (K4.out _))))
      | (go_big_quiet_want; refine quiet_load _ _ rfl _ _ rfl (fun _ ⟨s, e⟩ => e ▸ l1 s) ?_; go_big_quiet_on; go_simp)
      | (go_big_quiet_want; refine quiet_load _ _ rfl _ _ rfl (fun _ ⟨s, e⟩ => e ▸ l3 s) ?_; go_big_quiet_on; go_simp))
    refine wpQuiet_nil ?_
    intro s
    have HX7 := hid (HX6.out.next s.bel)
    have HK7 := hid (on HK6.out s.bel)
    have HA7 := hid (HA6.out.now s.bel)
    have HS17 := hid (HS16.out.now s.bel)
    clear K1 K2 K3 K4 l1 l3 m1 m3 HX6 HY6 HK6 HA6 HB6 HS16 HS26
    generalize s.at_ = w7 at *
    go_wp2_with fail
    refine (getc_cut S1 c1 L _ n c hh 0 (full c hh n) _ HY.out HL.out (by rw [← HL.out, List.take_left]) (by rw [HL.out]; omega) full_byte HS17.out (Nat.le_refl _)).mono ?_
    rintro e w8 ⟨hb8, ⟨h, _⟩ | ⟨h, _⟩ | ⟨_, C8, c8, rfl, r8⟩⟩
    · rw [HL.out] at h; omega
    · rw [HL.out] at h; omega
    · have HR8 := hid r8
      have HX8 := hid (HX7.out.next hb8)
      have HK8 := hid (on HK7.out hb8)
      have HA8 := hid (HA7.out.now hb8)
      clear hb8 r8 HX7 HK7 HA7 HS17
      go_upto_region 14 with (refine wpList_store_new rfl _ _ _ rfl rfl _ (cfgC c C8 n c8) rfl rfl (by kernel_rfl) rfl (one_cells _ _ _ _) ?_)
      have HX9 := hid (HX8.out.alloc (.cells (cfgC c C8 n c8) 25))
      have HY9 := hid (Bx.new w8 25 (cfgC c C8 n c8))
      have HK9 := hid (on HK8.out (below_alloc w8 (.cells (cfgC c C8 n c8) 25)))
      have HA9 := hid (HA8.out.now (below_alloc w8 (.cells (cfgC c C8 n c8) 25)))
      have HR9 := hid (HR8.out.now (below_alloc w8 (.cells (cfgC c C8 n c8) 25)))
      clear HX8 HK8 HA8 HR8
      generalize w8.alloc (.cells (cfgC c C8 n c8) 25) = w9 at *
      go_wp2_with (first
        | (refine wpList_load_bxg rfl _ _ rfl _ _ _ _ rfl HX9.out Try.underlying25 rfl (by kernel_rfl) ?_)
        | (refine wpList_load_bxg rfl _ _ rfl _ _ _ _ rfl HY9.out Try.underlying25 rfl (by kernel_rfl) ?_))
      refine (csame_yes C8 A n c8 cp c hh _ (by unfold maxLen; omega) HR9.out HA9.out).mono ?_
      rintro e w10 ⟨rfl, hb10⟩
      have HK10 := hid (on HK9.out hb10)
      go_wp2_with fail
      go_ret
      exact ⟨rfl, HK10.out⟩
  · have HY := hid hy
    clear hy
    go_wp2_with (refine wpList_load_bx rfl _ _ rfl _ _ _ _ rfl HY4.out Try.underlying25 rfl (by kernel_rfl) ?_)
    refine (putc_no B n cq c hh _ (by unfold maxLen; omega) HB4.out HY.out).mono ?_
    rintro e w5 ⟨rfl, hb5⟩
    have HX5 := hid (HX4.out.next hb5)
    have HY5 := hid (HY4.out.next hb5)
    have HK5 := hid (on HK4.out hb5)
    have HA5 := hid (HA4.out.now hb5)
    have HB5 := hid (HB4.out.now hb5)
    clear hb5 HX4 HY4 HK4 HA4 HB4
    go_wp2_with (refine wpList_load_bx rfl _ _ rfl _ _ _ _ rfl HX5.out Try.underlying25 rfl (by kernel_rfl) ?_)
    refine (rputc_no A n cp c hh _ (by unfold maxLen; omega) HA5.out HY.out).mono ?_
    rintro e w6 ⟨rfl, hb6⟩
    have HX6 := hid (HX5.out.next hb6)
    have HY6 := hid (HY5.out.next hb6)
    have HK6 := hid (on HK5.out hb6)
    have HA6 := hid (HA5.out.now hb6)
    have HB6 := hid (HB5.out.now hb6)
    clear hb6 HX5 HY5 HK5 HA5 HB5
    have l1 : ∀ s : Since w6, (Instr.loadAt 25 (.pointer (some ⟨w.heap.size, 0, none⟩))).run Try.prog s.at_ = .ok (.agg (cfgC c A n cp)) s.at_ := fun s => run_loadAt_bx (HX6.out.next s.bel) Try.underlying25 rfl (by kernel_rfl)
    have l3 : ∀ s : Since w6, (Instr.loadAt 25 (.pointer (some ⟨g, 0, none⟩))).run Try.prog s.at_ = .ok (.agg (cfgC c B n cq)) s.at_ := fun s => run_loadAt_bx (HY6.out.next s.bel) Try.underlying25 rfl (by kernel_rfl)
    have K1 := hid (fun s : Since w6 => same_yes none none 0 0 0 0 [] s.at_ 0 0 rfl rfl (by unfold maxLen; omega) (Rd.nil _ _ _) (Rd.nil _ _ _))
    have K2 := hid (fun s : Since w6 => csame_yes B A n cq cp c hh s.at_ (by unfold maxLen; omega) (HB6.out.now s.bel) (HA6.out.now s.bel))
    have K3 := hid (fun s : Since w6 => right_no A n cp c hh s.at_ (by unfold maxLen; omega) (HA6.out.now s.bel) HY.out)
    have K4 := hid (fun s : Since w6 => rright_no A n cp c hh s.at_ (by unfold maxLen; omega) (HA6.out.now s.bel) HY.out)
    go_wp2_with fail
    refine wp_region_since (by kernel_rfl) (by kernel_rfl) ?_
    repeat (first
      | (go_big_quiet_step (first
      | (go_at_call 9; refine Calls.sinceN _ (K1.out _))
      | (go_at_call 10; refine Calls.since _ (K2.out _))
      | (go_at_call 11; refine Calls.since _ (K3.out _))
      | (go_at_call 12; refine Calls.since _ (K4.out _))))
      | (go_big_quiet_want; refine quiet_load _ _ rfl _ _ rfl (fun _ ⟨s, e⟩ => e ▸ l1 s) ?_; go_big_quiet_on; go_simp)
      | (go_big_quiet_want; refine quiet_load _ _ rfl _ _ rfl (fun _ ⟨s, e⟩ => e ▸ l3 s) ?_; go_big_quiet_on; go_simp))
    refine wpQuiet_nil ?_
    intro s
    have HK7 := hid (on HK6.out s.bel)
    generalize s.at_ = w7 at *
    go_wp2_with fail
    go_ret
    exact ⟨rfl, HK7.out⟩

set_option maxRecDepth 100000 in
set_option maxHeartbeats 2000000 in
theorem cputs_walk (A : Option Addr) (n cp : Nat) (c : Nat → Int) (hh : Nat → Hn) (w : World) (hn : n ≤ maxLen) (hr : Rv w w.heap.size A (hvs hh n)) :
    Calls Try.prog 3 #[.agg (cfgC c A n cp)] w fun e w' => e = .returned (.bool true) ∧ Below w.heap.size w w' := by
  by_cases h20 : n ≤ 20
  · exact cputs_short A n cp c hh w h20 hr
  · have X0 := Bx.new w 25 (cfgC c A n cp)
    have K0 := below_alloc w (.cells (cfgC c A n cp) 25)
    unfold maxLen at hn
    have hd : decide ((n : Int) > 20) = true := decide_eq_true (by omega)
    have hc : n > 20 := by omega
    clear hr h20
    go_enter Try.func3, Try.ntmps3
    go_wp2_with fail
    refine (wakes_any _).mono ?_
    rintro e w1 ⟨rfl, hb1⟩
    have HX1 := hid (X0.next hb1)
    have HK1 := hid (on K0 hb1)
    have c16 : w1.cell? ⟨w.heap.size, 16, none⟩ = some (.slice A n cp) := by rw [HX1.out.cell]; rfl
    clear X0 K0 hb1
    go_wp2_with fail
    go_ret
    exact ⟨rfl, HK1.out⟩
end Go.Proofs.Ytehmcnghincakaa
