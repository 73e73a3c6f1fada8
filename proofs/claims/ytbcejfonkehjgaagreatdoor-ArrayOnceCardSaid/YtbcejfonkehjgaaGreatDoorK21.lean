/-
  What is proved: the fixed fact that each statement of this layer asks first holds; PartNil's walk; what the laws share: long, a cache that a law has made. Condition: none.
  (Left out here, as nothing of this law reaches it: wakes15, nil15, long15.) -/
import Derived.Test.YtbcejfonkehjgaaGreatDoorK19
import Derived.Test.YtbcejfonkehjgaaGreatDoorK17
import Derived.Test.YtbcejfonkehjgaaGreatDoorK18
import Derived.Test.YtbcejfonkehjgaaGreatDoorK20
import Derived.Test.YtbcejfonkehjgaaGreatDoorK06
import Derived.Test.YtbcejfonkehjgaaGreatDoorK01
namespace Go.Proofs.YtbcejfonkehjgaaGreatDoor
open Go.RowKit

theorem Pl.pn {w : World} {q n c d T : Nat} {b : Int} {x : Nat → Nat} {hh : Nat → Hn} {A B : Option Addr} (h : Pl w q b x hh n A c B d) (h1 : 1 ≤ T) (h3 : T ≤ 3) : Pn w q T (fun z => rgi hh z n) (fun i => KP hh n x i (T - 1)) (fun i => (hh i).l) n :=
  ⟨⟨b, x, hh, A, c, B, d, h, fun _ => rfl, fun _ => rfl, fun _ => rfl⟩, h1, h3⟩







































































end Go.Proofs.YtbcejfonkehjgaaGreatDoor
namespace Go.Proofs.YtbcejfonkehjgaaGreatDoor
open Go.RowKit

def cc (c : Nat → Int) (A : Option Addr) (n cp : Nat) (T : Int) (v : Value) (M : Nat) : Array Value := #[.int .i64 (c 0), .int .i64 (c 1), .int .i64 (c 2), .int .i64 (c 3), .int .i64 (c 4), .int .i64 (c 5), .int .i64 (c 6), .int .i64 (c 7),
  .int .i64 (c 8), .int .i64 (c 9), .int .i64 (c 10), .int .i64 (c 11), .int .i64 (c 12), .int .i64 (c 13), .int .i64 (c 14), .int .i64 (c 15), .slice A n cp, .int .i64 T, v, .map (some M)]
def cps (c : Nat → Int) : Nat → Nat := cN (c 9) (c 10) (c 11)
noncomputable def Ob.new (c : Nat → Int) (hh : Nat → Hn) (n T : Nat) : Ob :=
  if c 5 = 2 then .prt (fun z => rgi hh z n) (fun i => KP hh n (cps c) i (T - 1)) (fun i => (hh i).l) n (empt (cl n))
  else if c (6 + (T - 1)) = 2 then .mq (cps c (T - 1)) (c 12).toNat (c 13).toNat (c 14).toNat ⟨List.replicate 9 [], fun _ => 0, fun _ => 0, 0⟩
  else .lru (cps c (T - 1)) []
namespace Ob
def kin : Ob → Ob → Prop
  | lru C _, lru C' _ => C' = C
  | mq C N L H _, mq C' N' L' H' _ => C' = C ∧ N' = N ∧ L' = L ∧ H' = H
  | prt rg pt lp n _, prt rg' pt' lp' n' _ => rg' = rg ∧ pt' = pt ∧ lp' = lp ∧ n' = n
  | _, _ => False
theorem kin_self : ∀ o : Ob, o.kin o
  | lru _ _ => rfl
  | mq _ _ _ _ _ => ⟨rfl, rfl, rfl, rfl⟩
  | prt _ _ _ _ _ => ⟨rfl, rfl, rfl, rfl⟩
theorem kin_use (b : Int) : ∀ {a o : Ob}, a.kin o → a.kin (o.use b)
  | lru _ _, lru _ _, h => h
  | mq _ _ _ _ _, mq _ _ _ _ _, h => h
  | prt _ _ _ _ _, prt _ _ _ _ _, h => h
theorem kin_add (b : Int) : ∀ {a o : Ob}, a.kin o → a.kin (o.add b)
  | lru _ _, lru _ _, h => h
  | mq _ _ _ _ _, mq _ _ _ _ _, h => h
  | prt _ _ _ _ _, prt _ _ _ _ _, h => h
theorem kin_rem (b : Int) : ∀ {a o : Ob}, a.kin o → a.kin (o.rem b)
  | lru _ _, lru _ _, h => h
  | mq _ _ _ _ _, mq _ _ _ _ _, h => h
  | prt _ _ _ _ _, prt _ _ _ _ _, h => h
def takes (pl T b lv : Int) : Ob → Bool
  | prt rg pt _ _ _ => decide (0 < ptO pt (rg b))
  | _ => (pl != 1) || (lv == T)
end Ob
abbrev Mc (w : World) (M m : Nat) (f : Int → Option Value) : Prop := Mp Tryz.prog 3 w M m f
structure Cm (w : World) (X : Nat → Prop) (G M : Nat) (F : Nat → Prop) (c : Nat → Int) (A : Option Addr) (n cp : Nat) (hh : Nat → Hn) (T : Nat) (v : Value) (o : Ob) (D : Int → List Int) (B : Nat) : Prop where
  box : Bx w G 107 (cc c A n cp T v M)
  hr : Rv w w.heap.size A (hvs hh n)
  hA : ∀ ad, A = some ad → ad.block < w.heap.size ∧ ¬ X ad.block
  ca : A = none → cp = 0
  ord : Om w F v o
  ok : o.Ok (cps c (T - 1))
  tm : o.tm ≤ B
  map : ∃ f, Mc w M B f ∧ ∀ x, x ∈ o.all → ∃ u, f x = some u ∧ By w X u (D x)
  sz : ∀ x, x ∈ o.all → (D x).length ≤ 16
  rt : RightP c hh n
  t1 : 1 ≤ T
  t3 : T ≤ 3
  kd : (Ob.new c hh n T).kin o
  fx : ∀ j, F j → X j
  xG : X G
  xM : X M
  fG : ¬ F G
  fM : ¬ F M
  gm : G ≠ M
  lt : ∀ j, X j → j < w.heap.size
section
variable {w w' : World} {X Y P Q F : Nat → Prop} {G M n cp T B : Nat} {c : Nat → Int} {A : Option Addr} {hh : Nat → Hn} {v : Value} {o : Ob} {D : Int → List Int}
theorem Cm.below (h : Cm w X G M F c A n cp hh T v o D B) (hb : Below w.heap.size w w') : Cm w' X G M F c A n cp hh T v o D B :=
  { h with
    box := h.box.next hb
    hr := (h.hr.below hb (Nat.le_refl _)).more hb.size
    hA := fun ad e => ⟨Nat.lt_of_lt_of_le (h.hA ad e).1 hb.size, (h.hA ad e).2⟩
    ord := h.ord.below hb
    map := by
      obtain ⟨f, h1, h2⟩ := h.map
      exact ⟨f, h1.below hb, fun x hx => by
        obtain ⟨u, h3, h4⟩ := h2 x hx
        exact ⟨u, h3, h4.below hb⟩⟩
    lt := fun j hj => Nat.lt_of_lt_of_le (h.lt j hj) hb.size }
theorem Cm.draws (h : Cm w X G M F c A n cp hh T v o D B) (d : Nat) : Cm (w.drewN d) X G M F c A n cp hh T v o D B := h.below (below_draws (Below.refl _ _) d)
theorem Cm.chg (h : Cm w X G M F c A n cp hh T v o D B) (hc : Chg w w' P Q) (h1 : ∀ j, P j → X j) (h2 : ∀ j, P j → ¬ F j ∧ j ≠ G ∧ j ≠ M) : Cm w' X G M F c A n cp hh T v o D B :=
  { h with
    box := hc.bx h.box fun hp => (h2 G hp).2.1 rfl
    hr := hc.rv h.hr fun ad e hp => (h.hA ad e).2 (h1 _ hp)
    hA := fun ad e => ⟨Nat.lt_of_lt_of_le (h.hA ad e).1 hc.size, (h.hA ad e).2⟩
    ord := h.ord.chg hc fun j hf hp => (h2 j hp).1 hf
    map := by
      obtain ⟨f, h3, h4⟩ := h.map
      exact ⟨f, h3.same (hc.block M h3.lt fun hp => (h2 M hp).2.2 rfl), fun x hx => by
        obtain ⟨u, h5, h6⟩ := h4 x hx
        exact ⟨u, h5, h6.chg hc h1⟩⟩
    lt := fun j hj => Nat.lt_of_lt_of_le (h.lt j hj) hc.size }
theorem Cm.more (h : Cm w X G M F c A n cp hh T v o D B) (hb : Below w.heap.size w w') (h1 : ∀ j, X j → Y j) (h2 : ∀ j, Y j → X j ∨ (w.heap.size ≤ j ∧ j < w'.heap.size)) : Cm w' Y G M F c A n cp hh T v o D B :=
  { h.below hb with
    hA := fun ad e => ⟨Nat.lt_of_lt_of_le (h.hA ad e).1 hb.size, fun hy => (h2 _ hy).elim (h.hA ad e).2 fun h3 => by have := (h.hA ad e).1; omega⟩
    map := by
      obtain ⟨f, h3, h4⟩ := h.map
      exact ⟨f, h3.below hb, fun x hx => by
        obtain ⟨u, h5, h6⟩ := h4 x hx
        exact ⟨u, h5, (h6.more fun j hj => (h2 j hj).elim .inl fun h => .inr h.1).below hb⟩⟩
    fx := fun j hj => h1 j (h.fx j hj)
    xG := h1 G h.xG
    xM := h1 M h.xM
    lt := fun j hj => (h2 j hj).elim (fun h3 => Nat.lt_of_lt_of_le (h.lt j h3) hb.size) (·.2) }
theorem Cm.less (h : Cm w X G M F c A n cp hh T v o D B) (h1 : ∀ j, Y j → X j) (h2 : ∀ j, F j ∨ j = G ∨ j = M → Y j) : Cm w Y G M F c A n cp hh T v o D B :=
  { h with
    hA := fun ad e => ⟨(h.hA ad e).1, fun hy => (h.hA ad e).2 (h1 _ hy)⟩
    map := by
      obtain ⟨f, h3, h4⟩ := h.map
      exact ⟨f, h3, fun x hx => by
        obtain ⟨u, h5, h6⟩ := h4 x hx
        exact ⟨u, h5, h6.less h1⟩⟩
    fx := fun j hj => h2 j (.inl hj)
    xG := h2 G (.inr (.inl rfl))
    xM := h2 M (.inr (.inr rfl))
    lt := fun j hj => h.lt j (h1 j hj) }
theorem Cm.c2 (h : Cm w X G M F c A n cp hh T v o D B) : w.cell? ⟨G, 2, none⟩ = some (.int .i64 (c 2)) := h.box.cell 2
theorem Cm.c3 (h : Cm w X G M F c A n cp hh T v o D B) : w.cell? ⟨G, 3, none⟩ = some (.int .i64 (c 3)) := h.box.cell 3
theorem Cm.c5 (h : Cm w X G M F c A n cp hh T v o D B) : w.cell? ⟨G, 5, none⟩ = some (.int .i64 (c 5)) := h.box.cell 5
theorem Cm.c17 (h : Cm w X G M F c A n cp hh T v o D B) : w.cell? ⟨G, 17, none⟩ = some (.int .i64 T) := h.box.cell 17
theorem Cm.c18 (h : Cm w X G M F c A n cp hh T v o D B) : w.cell? ⟨G, 18, none⟩ = some v := h.box.cell 18
theorem Cm.c19 (h : Cm w X G M F c A n cp hh T v o D B) : w.cell? ⟨G, 19, none⟩ = some (.map (some M)) := h.box.cell 19
theorem Cm.to {w w' : World} {X Q F : Nat → Prop} {G M n cp T B B' : Nat} {c : Nat → Int} {A : Option Addr} {hh : Nat → Hn} {v : Value} {o o' : Ob} {D D' : Int → List Int} (h : Cm w X G M F c A n cp hh T v o D B) (hc : Chg w w' (fun j => F j ∨ j = M) Q) (ho : Om w' F v o') (hok : o'.Ok (cps c (T - 1))) (ht : o'.tm ≤ B') (hk : (Ob.new c hh n T).kin o')
    (hm : ∃ f, Mc w' M B' f ∧ ∀ x, x ∈ o'.all → ∃ u, f x = some u ∧ By w' X u (D' x)) (hs : ∀ x, x ∈ o'.all → (D' x).length ≤ 16) : Cm w' X G M F c A n cp hh T v o' D' B' :=
  { box := hc.bx h.box fun e => e.elim h.fG h.gm
    hr := hc.rv h.hr fun ad e e2 => (h.hA ad e).2 (e2.elim (h.fx _) fun e3 => e3 ▸ h.xM)
    hA := fun ad e => ⟨Nat.lt_of_lt_of_le (h.hA ad e).1 hc.size, (h.hA ad e).2⟩
    ca := h.ca
    ord := ho
    ok := hok
    tm := ht
    map := hm
    sz := hs
    rt := h.rt
    t1 := h.t1
    t3 := h.t3
    kd := hk
    fx := h.fx
    xG := h.xG
    xM := h.xM
    fG := h.fG
    fM := h.fM
    gm := h.gm
    lt := fun j hj => Nat.lt_of_lt_of_le (h.lt j hj) hc.size }
theorem Cm.ords {w w' : World} {X F : Nat → Prop} {G M n cp T B : Nat} {c : Nat → Int} {A : Option Addr} {hh : Nat → Hn} {v : Value} {o o' : Ob} {D : Int → List Int} (h : Cm w X G M F c A n cp hh T v o D B) (hc : Chg w w' F F) (ho : Om w' F v o') (hok : o'.Ok (cps c (T - 1))) (ht : o'.tm ≤ o.tm + 1) (hk : (Ob.new c hh n T).kin o')
    (hi : ∀ x, x ∈ o'.all → x ∈ o.all) : Cm w' X G M F c A n cp hh T v o' D (B + 1) := by
  refine h.to (hc.wide fun j hj => .inl hj) ho hok (by have := h.tm; omega) hk ?_ fun x hx => h.sz x (hi x hx)
  obtain ⟨f, h1, h2⟩ := h.map
  refine ⟨f, (h1.same (hc.block M h1.lt h.fM)).mono (Nat.le_succ _), fun x hx => ?_⟩
  obtain ⟨u, h3, h4⟩ := h2 x (hi x hx)
  exact ⟨u, h3, h4.chg hc h.fx⟩
theorem Cm.load (h : Cm w X G M F c A n cp hh T v o D B) : (Instr.loadAt 25 (.pointer (some ⟨G, 0, none⟩))).run Tryz.prog w = .ok (.agg (cfgC c A n cp)) w := by
  have hr : w.rangeAt G 0 (cfgC c A n cp).toList := fun j u hj => by
    rw [Nat.zero_add, h.box.cell]
    have h17 : j < 17 := (List.getElem?_eq_some_iff.1 hj).1
    rcases j with _ | _ | _ | _ | _ | _ | _ | _ | _ | _ | _ | _ | _ | _ | _ | _ | _ | j
    all_goals first | exact hj | omega
  have := run_loadAt_mid (P := Tryz.prog) w G 0 25 (cfgC c A n cp).toList _ hr Tryz.underlying25 rfl (by kernel_rfl)
  rwa [Array.toArray_toList] at this
theorem Cm.range (h : Cm w X G M F c A n cp hh T v o D B) : w.rangeAt G 0 (cfgC c A n cp).toList := fun j u hj => by
  rw [Nat.zero_add, h.box.cell]
  have h17 : j < 17 := (List.getElem?_eq_some_iff.1 hj).1
  rcases j with _ | _ | _ | _ | _ | _ | _ | _ | _ | _ | _ | _ | _ | _ | _ | _ | _ | j
  all_goals first | exact hj | omega
theorem wpList_load_pre {P : Program} {w : World} {ops : Array Oper} {rest : List Oper} {o : Oper} {a : Act} {Q : Exit → Act → World → Prop} (hgd : Region.wanted o (yielded ops a.tmps) = true) (ty : TypeId) (p : Operand) (ho : o.op = .load ty p) (b off : Nat) (hx : a.eval p = .pointer (some ⟨b, off, none⟩)) (cs : Array Value) (d : TypeDesc) (hc : w.rangeAt b off cs.toList)
    (hu : P.underlying ty = some d) (hd : d.isRow = true) (hi : (P.info? ty).map (·.size) = some cs.size) (h : wpList P ops Q rest (a.put o.dst (.agg cs)) w) : wpList P ops Q (o :: rest) a w :=
  BigFrame.wpList_want hgd fun K hK => wp_load_mid ty p ho b off hx cs.toList d hc hu hd (by simpa using hi) (by
    have := hK _ _ h
    simpa using this)
theorem isblk_any (c : Nat → Int) (A : Option Addr) (n cp : Nat) (b : Int) (w : World) : Calls Tryz.prog 129 #[.agg (cfgC c A n cp), .int .i64 b] w fun e w' => e = .returned (.bool (decide (0 ≤ b ∧ b < c 2))) ∧ Below w.heap.size w w' := by
  have HA := hid (below_alloc w (.cells (cfgC c A n cp) 25))
  have c2 : (w.alloc (.cells (cfgC c A n cp) 25)).cell? ⟨w.heap.size, 2, none⟩ = some (.int .i64 (c 2)) := World.cell?_alloc_new w _ _ 2
  by_cases h0 : 0 ≤ b
  · have HE := hid (show decide (b < c 2) = decide (0 ≤ b ∧ b < c 2) from decide_eq_decide.2 (by omega))
    have d0 : decide (0 ≤ b) = true := decide_eq_true h0
    clear h0
    go_enter Tryz.func129, Tryz.ntmps129
    go_upto_region 1 with fail
    generalize w.alloc (.cells (cfgC c A n cp) 25) = w1 at *
    go_wp2
    go_ret
    exact ⟨congrArg (fun b => Ending.returned (.bool b)) HE.out, HA.out⟩
  · have HE := hid (show false = decide (0 ≤ b ∧ b < c 2) from (decide_eq_false (by omega)).symm)
    have d0 : decide (0 ≤ b) = false := decide_eq_false h0
    clear h0
    go_enter Tryz.func129, Tryz.ntmps129
    go_upto_region 1 with fail
    generalize w.alloc (.cells (cfgC c A n cp) 25) = w1 at *
    go_wp2
    go_ret
    exact ⟨congrArg (fun b => Ending.returned (.bool b)) HE.out, HA.out⟩






































set_option maxRecDepth 20000 in
set_option maxHeartbeats 1000000 in
theorem cm_all (h : Cm w X G M F c A n cp hh T v o D B) : Calls Tryz.prog 44 #[.pointer (some ⟨G, 0, none⟩)] w (Told w o.all) := by
  have g18 := h.c18
  cases o with
  | lru C Ls =>
    obtain ⟨g, rfl, hc⟩ := oml_all h.ord
    have HC := hid hc
    clear hc
    have hm : ∀ w : World, (method 394 163 (.pointer (some ⟨g, 0, none⟩)) "All").run Tryz.prog w = .ok (238, .pointer (some ⟨g, 0, none⟩)) w := fun _ => by kernel_rfl
    have H := hid h
    clear h
    go_enter Tryz.func44, Tryz.ntmps44
    go_wp2_with (go_at_call 238; refine HC.out.mono ?_; rintro e w' ⟨A1, c1, rfl, h1⟩; have H1 := hid h1; clear h1)
    go_ret
    exact ⟨_, _, rfl, H1.out⟩
  | mq C N L H m =>
    obtain ⟨g, rfl, hc⟩ := omm_all h.ord h.ok
    have HC := hid hc
    clear hc
    have hm : ∀ w : World, (method 394 158 (.pointer (some ⟨g, 0, none⟩)) "All").run Tryz.prog w = .ok (221, .pointer (some ⟨g, 0, none⟩)) w := fun _ => by kernel_rfl
    have H := hid h
    clear h
    go_enter Tryz.func44, Tryz.ntmps44
    go_wp2_with (go_at_call 221; refine HC.out.mono ?_; rintro e w' ⟨A1, c1, rfl, h1⟩; have H1 := hid h1; clear h1)
    go_ret
    exact ⟨_, _, rfl, H1.out⟩
  | prt rg pt lp n S =>
    obtain ⟨g, rfl, hc⟩ := omp_all h.ord
    have HC := hid hc
    clear hc
    have hm : ∀ w : World, (method 394 155 (.pointer (some ⟨g, 0, none⟩)) "All").run Tryz.prog w = .ok (200, .pointer (some ⟨g, 0, none⟩)) w := fun _ => by kernel_rfl
    have H := hid h
    clear h
    go_enter Tryz.func44, Tryz.ntmps44
    go_wp2_with (go_at_call 200; refine HC.out.mono ?_; rintro e w' ⟨A1, c1, rfl, h1⟩; have H1 := hid h1; clear h1)
    go_ret
    exact ⟨_, _, rfl, H1.out⟩






































set_option maxRecDepth 20000 in
set_option maxHeartbeats 1000000 in
theorem cm_takes (h : Cm w X G M F c A n cp hh T v o D B) (b lv : Int) : Calls Tryz.prog 130 #[.pointer (some ⟨G, 0, none⟩), .int .i64 b, .int .i64 lv] w fun e w' => e = .returned (.bool (o.takes (c 5) T b lv)) ∧ Below w.heap.size w w' := by
  have g18 := h.c18
  have g5 := h.c5
  have g17 := h.c17
  cases o with
  | lru C Ls =>
    obtain ⟨g, rfl, -⟩ := oml_has h.ord b
    have ha : ∀ w : World, (Instr.typeAssert (.iface 163 (.pointer (some ⟨g, 0, none⟩))) 103 155 true).run Tryz.prog w = .ok (.tuple #[.pointer none, .bool false]) w := fun _ => by kernel_rfl
    have HE := hid (show ∀ p : Bool, (c 5 != 1) = p → (p || (lv == (T : Int))) = (Ob.lru C Ls).takes (c 5) T b lv from fun p hp => by rw [← hp]; rfl)
    clear h
    cases hp : (c 5 != 1) with
    | true =>
      have HE2 := hid (HE.out true hp)
      clear HE
      go_enter Tryz.func130, Tryz.ntmps130
      go_wp2
      go_ret
      exact ⟨congrArg (fun b => Ending.returned (.bool b)) HE2.out, Below.refl _ _⟩
    | false =>
      have HE2 := hid (HE.out false hp)
      clear HE
      go_enter Tryz.func130, Tryz.ntmps130
      go_wp2
      go_ret
      exact ⟨congrArg (fun b => Ending.returned (.bool b)) HE2.out, Below.refl _ _⟩
  | mq C N L H m =>
    obtain ⟨g, rfl, -⟩ := omm_has h.ord h.ok b
    have ha : ∀ w : World, (Instr.typeAssert (.iface 158 (.pointer (some ⟨g, 0, none⟩))) 103 155 true).run Tryz.prog w = .ok (.tuple #[.pointer none, .bool false]) w := fun _ => by kernel_rfl
    have HE := hid (show ∀ p : Bool, (c 5 != 1) = p → (p || (lv == (T : Int))) = (Ob.mq C N L H m).takes (c 5) T b lv from fun p hp => by rw [← hp]; rfl)
    clear h
    cases hp : (c 5 != 1) with
    | true =>
      have HE2 := hid (HE.out true hp)
      clear HE
      go_enter Tryz.func130, Tryz.ntmps130
      go_wp2
      go_ret
      exact ⟨congrArg (fun b => Ending.returned (.bool b)) HE2.out, Below.refl _ _⟩
    | false =>
      have HE2 := hid (HE.out false hp)
      clear HE
      go_enter Tryz.func130, Tryz.ntmps130
      go_wp2
      go_ret
      exact ⟨congrArg (fun b => Ending.returned (.bool b)) HE2.out, Below.refl _ _⟩
  | prt rg pt lp n S =>
    obtain ⟨g, rfl, hc⟩ := omp_takes h.ord b
    have HC := hid hc
    clear hc
    have ha : ∀ w : World, (Instr.typeAssert (.iface 155 (.pointer (some ⟨g, 0, none⟩))) 103 155 true).run Tryz.prog w = .ok (.tuple #[.pointer (some ⟨g, 0, none⟩), .bool true]) w := fun _ => by kernel_rfl
    clear h
    go_enter Tryz.func130, Tryz.ntmps130
    go_wp2_with (go_at_call 156; refine HC.out.mono ?_; rintro e w' ⟨rfl, h1⟩; have H1 := hid h1; clear h1)
    go_ret
    exact ⟨rfl, H1.out⟩
end
end Go.Proofs.YtbcejfonkehjgaaGreatDoor
namespace Go.Proofs.YtbcejfonkehjgaaGreatDoor
open Go.RowKit

set_option maxHeartbeats 400000 in
theorem rhas_any (A : Option Addr) (n cp : Nat) (l : List Int) (x : Int) (w : World) (C : Nat) (hn : l.length = n) (hlen : n ≤ maxLen) (ra : Rv w C A (ints l)) :
    Calls Tryz.prog 27 #[.slice A n cp, .int .i64 x] w fun e w' => e = .returned (.bool (dec (x ∈ l))) ∧ w = w' := by
  subst hn
  unfold maxLen at hlen
  go_enter Tryz.func27, Tryz.ntmps27
  go_wp2
  go_loop [5] (fun i => ∃ k : Nat, k ≤ l.length ∧ i = .int .i64 k ∧ x ∉ l.take k) (fun i => l.length - (intOf i).toNat)
  case atStart => exact ⟨0, Nat.zero_le _, rfl, by simp⟩
  case round =>
    obtain ⟨k, hk, rfl, hno⟩ := hrel
    have HNO := hid hno
    clear hno
    by_cases hlt : k < l.length
    · obtain ⟨a, rfl, _, hca⟩ := ra.get (k := k) (by rw [ints_length]; exact hlt)
      have e : (ints l)[k]'(by rw [ints_length]; exact hlt) = .int .i64 (l[k]) := by simp [ints]
      rw [e] at hca
      obtain ⟨y, hy⟩ : ∃ y, l[k] = y := ⟨_, rfl⟩
      rw [hy] at hca
      have HY := hid hy
      clear e hy
      have hlt' : (k : Int) < (l.length : Int) := by omega
      by_cases hxy : y = x
      · have hd : (y == x) = true := by simpa using hxy
        have hm := dec_true (show x ∈ l from by rw [← hxy, ← HY.out]; exact List.getElem_mem hlt)
        have HM := hid hm
        clear hm hxy
        go_wp2
        go_ret
        exact ⟨by rw [HM.out]; rfl, rfl⟩
      · have hd : (y == x) = false := by simpa using hxy
        have hd2 : decide (y = x) = false := by simpa using hxy
        have HM := hid (show x ∉ l.take (k + 1) from by
          rw [List.take_add_one, List.getElem?_eq_getElem hlt, HY.out]
          intro hm
          rcases List.mem_append.1 hm with h | h
          · exact HNO.out h
          · simp at h; exact hxy h.symm)
        clear hxy
        go_wp2
        go_round
        case rel => exact ⟨k + 1, by omega, by go_num, HM.out⟩
        case measure => simp [intOf]; omega
    · have hlt' : ¬ (k : Int) < (l.length : Int) := by omega
      obtain rfl : k = l.length := by omega
      go_wp2
      go_ret
      refine ⟨?_, rfl⟩
      have := HNO.out
      rw [List.take_length] at this
      rw [dec_false this]
      rfl
























structure Rw (w : World) (A : Option Addr) (l : List Int) : Prop where
  rd : Rv w w.heap.size A (ints l)
  lt : ∀ ad, A = some ad → ad.block < w.heap.size
theorem Rw.below {w w' : World} {A : Option Addr} {l : List Int} (h : Rw w A l) (hb : Below w.heap.size w w') : Rw w' A l := ⟨h.rd.now hb, fun ad e => Nat.lt_of_lt_of_le (h.lt ad e) hb.size⟩
theorem Rw.chg {w w' : World} {A : Option Addr} {l : List Int} {F G : Nat → Prop} (h : Rw w A l) (hc : Chg w w' F G) (hf : ∀ ad, A = some ad → ¬ F ad.block) : Rw w' A l := ⟨hc.rv h.rd hf, fun ad e => Nat.lt_of_lt_of_le (h.lt ad e) hc.size⟩
theorem Rw.draws {w : World} {A : Option Addr} {l : List Int} (h : Rw w A l) (n : Nat) : Rw (w.drewN n) A l := h.below (below_draws (Below.refl _ _) n)
theorem rw_told {w w' : World} {A : Option Addr} {c : Nat} {l : List Int} (ho : OwnW w' 3 (.slice A l.length c) (ints l)) (hg : GrW w w' nl (.slice A l.length c)) :
    Rw w' A l ∧ (∀ ad, A = some ad → w.heap.size ≤ ad.block) ∧ l.length ≤ c ∧ c ≤ maxLen := by
  have hb : ∀ ad, A = some ad → (Value.slice A l.length c).ownBlock = some ad.block := by
    intro ad e
    subst e
    rfl
  obtain ⟨A', c', e', hr, h1, h2⟩ := ho.read
  simp only [Value.slice.injEq] at e'
  obtain ⟨rfl, -, rfl⟩ := e'
  rw [ints_length] at h1
  refine ⟨⟨hr, fun ad e => ho.lt (hb ad e)⟩, fun ad e => ?_, h1, h2⟩
  rcases hg.at_ with h | h
  · rw [hb ad e] at h; cases h
  · exact (h _ (hb ad e)).1
abbrev wz : Array Value := #[.slice none 0 0, .int .i64 0, .bool false, .bool false, .int .i64 0]
structure St11 (w W : World) (p : Nat) (κ b : Int) (cr : Array Value) : Prop where
  b0 : Bx W p 139 #[.int .i64 κ, .int .i64 b]
  b1 : Bx W (p + 1) 136 wz
  b2 : Bx W (p + 1 + 1) 136 cr
  bel : Below w.heap.size w W
  hp : w.heap.size = p
structure Ro (w W : World) (p : Nat) (A0 A : Option Addr) (l : List Int) (c : Nat) : Prop where
  rw_ : Rw W A l
  cap : l.length ≤ c ∧ c ≤ maxLen
  old : A = A0 ∨ ∀ ad, A = some ad → w.heap.size ≤ ad.block
  off : ∀ ad, A = some ad → ad.block < p ∨ p + 1 + 1 < ad.block
theorem chg_row (w : World) (k : Nat) (cs : Array Value) : Chg w (w.setRow k cs) (· = k) (· = k) :=
  ⟨rfl, rfl, rfl, by rw [setRow_size]; exact Nat.le_refl _, fun j _ h2 => setRow_other w k j cs h2, fun _ e => .inl e⟩
section
variable {w W W' : World} {p : Nat} {κ b : Int} {cr : Array Value} {A0 A : Option Addr} {l : List Int} {c : Nat}
theorem St11.below (h : St11 w W p κ b cr) (hb : Below W.heap.size W W') : St11 w W' p κ b cr := ⟨h.b0.next hb, h.b1.next hb, h.b2.next hb, on h.bel hb, h.hp⟩
theorem St11.set (h : St11 w W p κ b cr) (i : Nat) (u : Value) : St11 w (W.setCell ⟨p + 1 + 1, i, none⟩ u) p κ b (cr.setIfInBounds i u) :=
  ⟨h.b0.far _ _ (by show p + 1 + 1 ≠ p; omega), h.b1.far _ _ (by show p + 1 + 1 ≠ p + 1; omega), h.b2.set i u, h.bel.setCell (by show w.heap.size ≤ p + 1 + 1; have := h.hp; omega) u, h.hp⟩
theorem Ro.below (h : Ro w W p A0 A l c) (hb : Below W.heap.size W W') : Ro w W' p A0 A l c := ⟨h.rw_.below hb, h.cap, h.old, h.off⟩
theorem Ro.set (h : Ro w W p A0 A l c) (i : Nat) (u : Value) : Ro w (W.setCell ⟨p + 1 + 1, i, none⟩ u) p A0 A l c :=
  ⟨h.rw_.chg (chg_set (Chg.refl W (· = p + 1 + 1)) i u) fun ad e e2 => by have := h.off ad e; omega, h.cap, h.old, h.off⟩
theorem Ro.new (_ : w.heap.size = p) (hs : p + 1 + 1 < W.heap.size) (hw : w.heap.size ≤ W.heap.size) (ho : OwnW W' 3 (.slice A l.length c) (ints l)) (hg : GrW W W' nl (.slice A l.length c)) : Ro w W' p A0 A l c := by
  obtain ⟨h1, h2, h3⟩ := rw_told ho hg
  exact ⟨h1, h3, .inr fun ad e => Nat.le_trans hw (h2 ad e), fun ad e => .inr (Nat.lt_of_lt_of_le hs (h2 ad e))⟩
theorem St11.size (h : St11 w W p κ b cr) : p + 1 + 1 < W.heap.size := h.b2.lt
end
-- walks
section
variable {w : World} {A : Option Addr} {n c : Nat} {l : List Int} {b : Int}
theorem Ro.own {w W : World} {p : Nat} {A : Option Addr} {l : List Int} {n c : Nat} (h : Rw w A l) (hp : w.heap.size = p) (hb : Below w.heap.size w W) (hn : l.length = n) (hc : n ≤ c ∧ c ≤ maxLen) : Ro w W p A A l c :=
  ⟨h.below hb, by rw [hn]; exact hc, .inl rfl, fun ad e => .inl (hp ▸ h.lt ad e)⟩
theorem ints_dropLast (l : List Int) : ints l.dropLast = (ints l).dropLast := by simp [ints, List.map_dropLast]
theorem Ro.cut {w W : World} {p : Nat} {A0 A : Option Addr} {l : List Int} {c : Nat} (h : Ro w W p A0 A l c) : Ro w W p A0 A l.dropLast c := by
  refine ⟨⟨fun j u hu => ?_, h.rw_.lt⟩, ⟨by have := h.cap.1; rw [List.length_dropLast]; omega, h.cap.2⟩, h.old, h.off⟩
  rw [ints_dropLast, List.dropLast_eq_take, List.getElem?_take] at hu
  split at hu
  · exact h.rw_.rd j u hu
  · cases hu
end
end Go.Proofs.YtbcejfonkehjgaaGreatDoor
namespace Go.Proofs.YtbcejfonkehjgaaGreatDoor
open Go.RowKit

def nums (o : Int → Int) : Array Value := Array.ofFn (n := 64) fun i => .int .i64 (o ((i.1 : Nat) : Int))
theorem nums_at (o : Int → Int) {p : Nat} (h : p < 64) : (nums o)[p]? = some (.int .i64 (o p)) := by simp [nums, h]
theorem nums_set (o : Int → Int) {p : Nat} (v : Int) : (nums o).setIfInBounds p (.int .i64 v) = nums (upd o p v) := by
  refine Array.ext (by simp [nums]) fun j h1 h2 => ?_
  rw [Array.getElem_setIfInBounds (by simpa using h1)]
  simp only [nums, Array.getElem_ofFn, upd]
  by_cases e : p = j
  · subst e; rw [if_pos rfl, if_pos rfl]
  · rw [if_neg e, if_neg (show ¬ ((j : Nat) : Int) = p from by omega)]
def Rt (w : World) (X : Nat → Prop) (u : Value) (l : List Int) : Prop := ∃ A c, u = .slice A l.length c ∧ Rw w A l ∧ l.length ≤ c ∧ c ≤ maxLen ∧ ∀ ad, A = some ad → ¬ X ad.block
section
variable {w w' : World} {X F G : Nat → Prop} {u : Value} {l : List Int}
theorem Rt.below (h : Rt w X u l) (hb : Below w.heap.size w w') : Rt w' X u l := by
  obtain ⟨A, c, e, hr, h1, h2, h3⟩ := h
  exact ⟨A, c, e, hr.below hb, h1, h2, h3⟩
theorem Rt.chg (h : Rt w X u l) (hc : Chg w w' F G) (hF : ∀ j, F j → X j) : Rt w' X u l := by
  obtain ⟨A, c, e, hr, h1, h2, h3⟩ := h
  exact ⟨A, c, e, hr.chg hc fun ad e2 hf => h3 ad e2 (hF _ hf), h1, h2, h3⟩
theorem Rt.less {u : Value} {l : List Int} {Y : Nat → Prop} (h : Rt w X u l) (hY : ∀ j, Y j → X j) : Rt w Y u l := by
  obtain ⟨A, c, e, h1, h2, h3, h4⟩ := h
  exact ⟨A, c, e, h1, h2, h3, fun ad e hy => h4 ad e (hY _ hy)⟩
theorem Rt.more {u : Value} {l : List Int} {Y : Nat → Prop} (h : Rt w X u l) (hY : ∀ j, Y j → X j ∨ w.heap.size ≤ j) : Rt w Y u l := by
  obtain ⟨A, c, e, h1, h2, h3, h4⟩ := h
  exact ⟨A, c, e, h1, h2, h3, fun ad e hy => by
    rcases hY _ hy with h5 | h5
    · exact h4 ad e h5
    · have := h1.lt ad e; omega⟩
theorem Rt.told {A : Option Addr} {c : Nat} (hX : ∀ j, X j → j < w.heap.size) (ho : OwnW w' 3 (.slice A l.length c) (ints l)) (hg : GrW w w' nl (.slice A l.length c)) : Rt w' X (.slice A l.length c) l := by
  obtain ⟨h1, h2, h3, h4⟩ := rw_told ho hg
  exact ⟨A, c, rfl, h1, h3, h4, fun ad e hx => by have := h2 ad e; have := hX _ hx; omega⟩
end
structure Rm (w : World) (X : Nat → Prop) (h a p e C N L H cv : Nat) (us : List Value) (ug : Value) (R : List (List Int)) (G : List Int) (o x : Int → Int) (t : Nat) : Prop where
  box : Bx w h 144 #[.int .i64 C, .int .i64 L, .int .i64 H, .slice (some ⟨a, 0, none⟩) N cv, ug, .slice (some ⟨p, 0, none⟩) 64 64, .slice (some ⟨e, 0, none⟩) 64 64, .int .i64 t]
  row : OwnW w 48 (.slice (some ⟨a, 0, none⟩) N cv) us
  way : ∀ q u, us[q]? = some u → Rt w X u (R.getD q [])
  gh : Rt w X ug G
  oft : Bx w p 3 (nums o)
  exp : Bx w e 3 (nums x)
  rl : R.length = N
  n8 : 1 ≤ N ∧ N ≤ 8
  r64 : ∀ q, (R.getD q []).length ≤ 64
  g64 : G.length ≤ 64
  xb : ∀ j, X j → j < w.heap.size
  xh : X h
  xa : X a
  xp : X p
  xe : X e
  ha : h ≠ a
  hp : h ≠ p
  he : h ≠ e
  ap : a ≠ p
  ae : a ≠ e
  pe : p ≠ e
def Fr (h a p e : Nat) (j : Nat) : Prop := j = h ∨ j = a ∨ j = p ∨ j = e
theorem fr_h {h a p e : Nat} : Fr h a p e h := .inl rfl
theorem fr_a {h a p e : Nat} : Fr h a p e a := .inr (.inl rfl)
theorem fr_p {h a p e : Nat} : Fr h a p e p := .inr (.inr (.inl rfl))
theorem fr_e {h a p e : Nat} : Fr h a p e e := .inr (.inr (.inr rfl))
section
variable {w w' : World} {X : Nat → Prop} {h a p e C N L H cv : Nat} {us : List Value} {ug : Value} {R : List (List Int)} {G : List Int} {o x : Int → Int} {t : Nat}
theorem Rm.below (m : Rm w X h a p e C N L H cv us ug R G o x t) (hb : Below w.heap.size w w') : Rm w' X h a p e C N L H cv us ug R G o x t :=
  { m with box := m.box.next hb, row := m.row.below hb, way := fun q u hu => (m.way q u hu).below hb, gh := m.gh.below hb, oft := m.oft.next hb, exp := m.exp.next hb, xb := fun j hj => Nat.lt_of_lt_of_le (m.xb j hj) hb.size }
theorem Rm.draws (m : Rm w X h a p e C N L H cv us ug R G o x t) (n : Nat) : Rm (w.drewN n) X h a p e C N L H cv us ug R G o x t := m.below (below_draws (Below.refl _ _) n)
theorem Rm.chg {F F' : Nat → Prop} (m : Rm w X h a p e C N L H cv us ug R G o x t) (hc : Chg w w' F F') (hF : ∀ j, F j → X j) (hn : ∀ j, F j → ¬ Fr h a p e j) : Rm w' X h a p e C N L H cv us ug R G o x t :=
  { m with
    box := hc.bx m.box fun hf => hn _ hf fr_h
    row := m.row.kept fun g hg => by
      simp [Value.ownBlock] at hg
      subst hg
      exact hc.block _ (m.xb _ m.xa) fun hf => hn _ hf fr_a
    way := fun q u hu => (m.way q u hu).chg hc hF
    gh := m.gh.chg hc hF
    oft := hc.bx m.oft fun hf => hn _ hf fr_p
    exp := hc.bx m.exp fun hf => hn _ hf fr_e
    xb := fun j hj => Nat.lt_of_lt_of_le (m.xb j hj) hc.size }
theorem Rm.lu (m : Rm w X h a p e C N L H cv us ug R G o x t) : us.length = N := m.row.len.symm
theorem Rm.fr (m : Rm w X h a p e C N L H cv us ug R G o x t) (i : Nat) : w.frozen? ⟨h, i, none⟩ = false := m.box.free i
theorem Rm.c0 (m : Rm w X h a p e C N L H cv us ug R G o x t) : w.cell? ⟨h, 0, none⟩ = some (.int .i64 C) := m.box.cell 0
theorem Rm.c1 (m : Rm w X h a p e C N L H cv us ug R G o x t) : w.cell? ⟨h, 1, none⟩ = some (.int .i64 L) := m.box.cell 1
theorem Rm.c2 (m : Rm w X h a p e C N L H cv us ug R G o x t) : w.cell? ⟨h, 2, none⟩ = some (.int .i64 H) := m.box.cell 2
theorem Rm.c3 (m : Rm w X h a p e C N L H cv us ug R G o x t) : w.cell? ⟨h, 3, none⟩ = some (.slice (some ⟨a, 0, none⟩) N cv) := m.box.cell 3
theorem Rm.c4 (m : Rm w X h a p e C N L H cv us ug R G o x t) : w.cell? ⟨h, 4, none⟩ = some ug := m.box.cell 4
theorem Rm.c5 (m : Rm w X h a p e C N L H cv us ug R G o x t) : w.cell? ⟨h, 5, none⟩ = some (.slice (some ⟨p, 0, none⟩) 64 64) := m.box.cell 5
theorem Rm.c6 (m : Rm w X h a p e C N L H cv us ug R G o x t) : w.cell? ⟨h, 6, none⟩ = some (.slice (some ⟨e, 0, none⟩) 64 64) := m.box.cell 6
theorem Rm.c7 (m : Rm w X h a p e C N L H cv us ug R G o x t) : w.cell? ⟨h, 7, none⟩ = some (.int .i64 t) := m.box.cell 7
theorem Rm.cap (m : Rm w X h a p e C N L H cv us ug R G o x t) : N ≤ cv ∧ cv ≤ maxLen := by
  obtain ⟨A, c, e1, _, h1, h2⟩ := m.row.read
  injection e1 with _ _ e3
  subst e3
  exact ⟨by rw [← m.lu]; exact h1, h2⟩
theorem Rm.at_ (m : Rm w X h a p e C N L H cv us ug R G o x t) {q : Nat} (hq : q < N) :
    ∃ A c, us[q]? = some (.slice A (R.getD q []).length c) ∧ w.cell? ⟨a, q, none⟩ = some (.slice A (R.getD q []).length c) ∧ w.frozen? ⟨a, q, none⟩ = false ∧ Rw w A (R.getD q []) ∧ (R.getD q []).length ≤ c ∧ c ≤ maxLen := by
  have hl : q < us.length := by rw [m.lu]; exact hq
  obtain ⟨A, c, e1, hr, h1, h2, -⟩ := m.way q _ (List.getElem?_eq_getElem hl)
  obtain ⟨k1, k2⟩ := m.row.cellAt hl
  have e2 : us[q]? = some (.slice A (R.getD q []).length c) := by rw [← e1]; exact List.getElem?_eq_getElem hl
  exact ⟨A, c, e2, k1.trans e2, k2, hr, h1, h2⟩
theorem Rm.co (m : Rm w X h a p e C N L H cv us ug R G o x t) {b : Nat} (hb : b < 64) : w.cell? ⟨p, b, none⟩ = some (.int .i64 (o b)) := (m.oft.cell b).trans (nums_at o hb)
theorem Rm.cx (m : Rm w X h a p e C N L H cv us ug R G o x t) {b : Nat} (hb : b < 64) : w.cell? ⟨e, b, none⟩ = some (.int .i64 (x b)) := (m.exp.cell b).trans (nums_at x hb)
theorem Rm.setO (m : Rm w X h a p e C N L H cv us ug R G o x t) {b : Nat} (v : Int) : Rm (w.setCell ⟨p, b, none⟩ (.int .i64 v)) X h a p e C N L H cv us ug R G (upd o b v) x t := by
  have hc := chg_set (Chg.refl w (· = p)) b (.int .i64 v)
  have ho := m.oft.set b (.int .i64 v)
  rw [nums_set] at ho
  exact { m with
    box := m.box.far _ _ m.hp.symm
    row := m.row.kept fun g hg => by
      simp [Value.ownBlock] at hg
      subst hg
      exact Below.heap_setCell w _ _ _ m.ap
    way := fun q u hu => (m.way q u hu).chg hc fun j e => by rw [e]; exact m.xp
    gh := m.gh.chg hc fun j e => by rw [e]; exact m.xp
    oft := ho
    exp := m.exp.far _ _ m.pe
    xb := fun j hj => by rw [setSize]; exact m.xb j hj }
theorem Rm.setX (m : Rm w X h a p e C N L H cv us ug R G o x t) {b : Nat} (v : Int) : Rm (w.setCell ⟨e, b, none⟩ (.int .i64 v)) X h a p e C N L H cv us ug R G o (upd x b v) t := by
  have hc := chg_set (Chg.refl w (· = e)) b (.int .i64 v)
  have ho := m.exp.set b (.int .i64 v)
  rw [nums_set] at ho
  exact { m with
    box := m.box.far _ _ m.he.symm
    row := m.row.kept fun g hg => by
      simp [Value.ownBlock] at hg
      subst hg
      exact Below.heap_setCell w _ _ _ m.ae
    way := fun q u hu => (m.way q u hu).chg hc fun j e => by rw [e]; exact m.xe
    gh := m.gh.chg hc fun j e => by rw [e]; exact m.xe
    oft := m.oft.far _ _ m.pe.symm
    exp := ho
    xb := fun j hj => by rw [setSize]; exact m.xb j hj }
theorem Rm.setT (m : Rm w X h a p e C N L H cv us ug R G o x t) (t' : Nat) : Rm (w.setCell ⟨h, 7, none⟩ (.int .i64 t')) X h a p e C N L H cv us ug R G o x t' := by
  have hc := chg_set (Chg.refl w (· = h)) 7 (.int .i64 t')
  have hb := m.box.set 7 (.int .i64 t')
  exact { m with
    box := hb
    row := m.row.kept fun g hg => by
      simp [Value.ownBlock] at hg
      subst hg
      exact Below.heap_setCell w _ _ _ m.ha.symm
    way := fun q u hu => (m.way q u hu).chg hc fun j e => by rw [e]; exact m.xh
    gh := m.gh.chg hc fun j e => by rw [e]; exact m.xh
    oft := m.oft.far _ _ m.hp
    exp := m.exp.far _ _ m.he
    xb := fun j hj => by rw [setSize]; exact m.xb j hj }
end
def Rq (w : World) (X : Nat → Prop) (h a p e C N L H : Nat) (R : List (List Int)) (G : List Int) (o x : Int → Int) (t : Nat) : Prop := ∃ cv us ug, Rm w X h a p e C N L H cv us ug R G o x t
theorem Rq.below {w w' : World} {X : Nat → Prop} {h a p e C N L H : Nat} {R : List (List Int)} {G : List Int} {o x : Int → Int} {t : Nat} (m : Rq w X h a p e C N L H R G o x t) (hb : Below w.heap.size w w') : Rq w' X h a p e C N L H R G o x t := by
  obtain ⟨cv, us, ug, m⟩ := m
  exact ⟨cv, us, ug, m.below hb⟩
end Go.Proofs.YtbcejfonkehjgaaGreatDoor
