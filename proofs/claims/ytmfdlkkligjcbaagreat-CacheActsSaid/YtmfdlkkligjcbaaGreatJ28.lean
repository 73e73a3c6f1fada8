/-
  What is proved: a tier's cache in memory: its order, and bytes in a map; what its methods tell that change nothing. No condition.
-/
import Derived.Test.YtmfdlkkligjcbaaGreatJ25
import Derived.Test.YtmfdlkkligjcbaaGreatJ26
import Derived.Test.YtmfdlkkligjcbaaGreatJ27
namespace Go.Proofs.YtmfdlkkligjcbaaGreat
open Go.RowKit

/-- the cells of a cache -/
def cc (c : Nat → Int) (A : Option Addr) (n cp : Nat) (T : Int) (v : Value) (M : Nat) : Array Value := #[.int .i64 (c 0), .int .i64 (c 1), .int .i64 (c 2), .int .i64 (c 3), .int .i64 (c 4), .int .i64 (c 5), .int .i64 (c 6), .int .i64 (c 7),
  .int .i64 (c 8), .int .i64 (c 9), .int .i64 (c 10), .int .i64 (c 11), .int .i64 (c 12), .int .i64 (c 13), .int .i64 (c 14), .int .i64 (c 15), .slice A n cp, .int .i64 T, v, .map (some M)]
/-- capacities as they are meant -/
def cps (c : Nat → Int) : Nat → Nat := cN (c 9) (c 10) (c 11)
/-- the order that a tier begins with -/
noncomputable def Ob.new (c : Nat → Int) (hh : Nat → Hn) (n T : Nat) : Ob :=
  if c 5 = 2 then .prt (fun z => rgi hh z n) (fun i => KP hh n (cps c) i (T - 1)) (fun i => (hh i).l) n (empt (cl n))
  else if c (6 + (T - 1)) = 2 then .mq (cps c (T - 1)) (c 12).toNat (c 13).toNat (c 14).toNat ⟨List.replicate 9 [], fun _ => 0, fun _ => 0, 0⟩
  else .lru (cps c (T - 1)) []
namespace Ob
/-- two of one make -/
def kin : Ob → Ob → Prop
  | lru C _, lru C' _ => C' = C
  | mq C N L H _, mq C' N' L' H' _ => C' = C ∧ N' = N ∧ L' = L ∧ H' = H
  | prt rg pt lp n _, prt rg' pt' lp' n' _ => rg' = rg ∧ pt' = pt ∧ lp' = lp ∧ n' = n
  | _, _ => False
theorem kin_self : ∀ o : Ob, o.kin o
  | lru _ _ => rfl
  | mq _ _ _ _ _ => ⟨rfl, rfl, rfl, rfl⟩
  | prt _ _ _ _ _ => ⟨rfl, rfl, rfl, rfl⟩
theorem kin_use (b : Int) : ∀ {a o : Ob}, a.kin o → a.kin (o.use b)
  | lru _ _, lru _ _, h => h
  | mq _ _ _ _ _, mq _ _ _ _ _, h => h
  | prt _ _ _ _ _, prt _ _ _ _ _, h => h
theorem kin_add (b : Int) : ∀ {a o : Ob}, a.kin o → a.kin (o.add b)
  | lru _ _, lru _ _, h => h
  | mq _ _ _ _ _, mq _ _ _ _ _, h => h
  | prt _ _ _ _ _, prt _ _ _ _ _, h => h
theorem kin_rem (b : Int) : ∀ {a o : Ob}, a.kin o → a.kin (o.rem b)
  | lru _ _, lru _ _, h => h
  | mq _ _ _ _ _, mq _ _ _ _ _, h => h
  | prt _ _ _ _ _, prt _ _ _ _ _, h => h
/-- whether a block that there is is taken with a level -/
def takes (pl T b lv : Int) : Ob → Bool
  | prt rg pt _ _ _ => decide (0 < ptO pt (rg b))
  | _ => (pl != 1) || (lv == T)
end Ob
/-- a map of whole numbers to slices of bytes -/
abbrev Mc (w : World) (M m : Nat) (f : Int → Option Value) : Prop := Mp Tryz.prog 3 w M m f
/-- a tier's cache: the struct at G, the map at M, its order's blocks F; X: blocks that are written to (also other ones); D: the bytes of what is there; B: how often it was used, at most -/
structure Cm (w : World) (X : Nat → Prop) (G M : Nat) (F : Nat → Prop) (c : Nat → Int) (A : Option Addr) (n cp : Nat) (hh : Nat → Hn) (T : Nat) (v : Value) (o : Ob) (D : Int → List Int) (B : Nat) : Prop where
  box : Bx w G 70 (cc c A n cp T v M)
  hr : Rv w w.heap.size A (hvs hh n)
  hA : ∀ ad, A = some ad → ad.block < w.heap.size ∧ ¬ X ad.block
  ca : A = none → cp = 0
  ord : Om w F v o
  ok : o.Ok (cps c (T - 1))
  tm : o.tm ≤ B
  map : ∃ f, Mc w M B f ∧ ∀ x, x ∈ o.all → ∃ u, f x = some u ∧ By w X u (D x)
  sz : ∀ x, x ∈ o.all → (D x).length ≤ 16
  rt : RightP c hh n
  t1 : 1 ≤ T
  t3 : T ≤ 3
  kd : (Ob.new c hh n T).kin o
  fx : ∀ j, F j → X j
  xG : X G
  xM : X M
  fG : ¬ F G
  fM : ¬ F M
  gm : G ≠ M
  lt : ∀ j, X j → j < w.heap.size
section
variable {w w' : World} {X Y P Q F : Nat → Prop} {G M n cp T B : Nat} {c : Nat → Int} {A : Option Addr} {hh : Nat → Hn} {v : Value} {o : Ob} {D : Int → List Int}
theorem Cm.below (h : Cm w X G M F c A n cp hh T v o D B) (hb : Below w.heap.size w w') : Cm w' X G M F c A n cp hh T v o D B :=
  { h with
    box := h.box.next hb
    hr := (h.hr.below hb (Nat.le_refl _)).more hb.size
    hA := fun ad e => ⟨Nat.lt_of_lt_of_le (h.hA ad e).1 hb.size, (h.hA ad e).2⟩
    ord := h.ord.below hb
    map := by
      obtain ⟨f, h1, h2⟩ := h.map
      exact ⟨f, h1.below hb, fun x hx => by
        obtain ⟨u, h3, h4⟩ := h2 x hx
        exact ⟨u, h3, h4.below hb⟩⟩
    lt := fun j hj => Nat.lt_of_lt_of_le (h.lt j hj) hb.size }
theorem Cm.draws (h : Cm w X G M F c A n cp hh T v o D B) (d : Nat) : Cm (w.drewN d) X G M F c A n cp hh T v o D B := h.below (below_draws (Below.refl _ _) d)
/-- blocks of X that are not its own change -/
theorem Cm.chg (h : Cm w X G M F c A n cp hh T v o D B) (hc : Chg w w' P Q) (h1 : ∀ j, P j → X j) (h2 : ∀ j, P j → ¬ F j ∧ j ≠ G ∧ j ≠ M) : Cm w' X G M F c A n cp hh T v o D B :=
  { h with
    box := hc.bx h.box fun hp => (h2 G hp).2.1 rfl
    hr := hc.rv h.hr fun ad e hp => (h.hA ad e).2 (h1 _ hp)
    hA := fun ad e => ⟨Nat.lt_of_lt_of_le (h.hA ad e).1 hc.size, (h.hA ad e).2⟩
    ord := h.ord.chg hc fun j hf hp => (h2 j hp).1 hf
    map := by
      obtain ⟨f, h3, h4⟩ := h.map
      exact ⟨f, h3.same (hc.block M h3.lt fun hp => (h2 M hp).2.2 rfl), fun x hx => by
        obtain ⟨u, h5, h6⟩ := h4 x hx
        exact ⟨u, h5, h6.chg hc h1⟩⟩
    lt := fun j hj => Nat.lt_of_lt_of_le (h.lt j hj) hc.size }
/-- blocks that are new are put into X -/
theorem Cm.more (h : Cm w X G M F c A n cp hh T v o D B) (hb : Below w.heap.size w w') (h1 : ∀ j, X j → Y j) (h2 : ∀ j, Y j → X j ∨ (w.heap.size ≤ j ∧ j < w'.heap.size)) : Cm w' Y G M F c A n cp hh T v o D B :=
  { h.below hb with
    hA := fun ad e => ⟨Nat.lt_of_lt_of_le (h.hA ad e).1 hb.size, fun hy => (h2 _ hy).elim (h.hA ad e).2 fun h3 => by have := (h.hA ad e).1; omega⟩
    map := by
      obtain ⟨f, h3, h4⟩ := h.map
      exact ⟨f, h3.below hb, fun x hx => by
        obtain ⟨u, h5, h6⟩ := h4 x hx
        exact ⟨u, h5, (h6.more fun j hj => (h2 j hj).elim .inl fun h => .inr h.1).below hb⟩⟩
    fx := fun j hj => h1 j (h.fx j hj)
    xG := h1 G h.xG
    xM := h1 M h.xM
    lt := fun j hj => (h2 j hj).elim (fun h3 => Nat.lt_of_lt_of_le (h.lt j h3) hb.size) (·.2) }
/-- X is another one that is no more -/
theorem Cm.less (h : Cm w X G M F c A n cp hh T v o D B) (h1 : ∀ j, Y j → X j) (h2 : ∀ j, F j ∨ j = G ∨ j = M → Y j) : Cm w Y G M F c A n cp hh T v o D B :=
  { h with
    hA := fun ad e => ⟨(h.hA ad e).1, fun hy => (h.hA ad e).2 (h1 _ hy)⟩
    map := by
      obtain ⟨f, h3, h4⟩ := h.map
      exact ⟨f, h3, fun x hx => by
        obtain ⟨u, h5, h6⟩ := h4 x hx
        exact ⟨u, h5, h6.less h1⟩⟩
    fx := fun j hj => h2 j (.inl hj)
    xG := h2 G (.inr (.inl rfl))
    xM := h2 M (.inr (.inr rfl))
    lt := fun j hj => h.lt j (h1 j hj) }
theorem Cm.c2 (h : Cm w X G M F c A n cp hh T v o D B) : w.cell? ⟨G, 2, none⟩ = some (.int .i64 (c 2)) := h.box.cell 2
theorem Cm.c3 (h : Cm w X G M F c A n cp hh T v o D B) : w.cell? ⟨G, 3, none⟩ = some (.int .i64 (c 3)) := h.box.cell 3
theorem Cm.c5 (h : Cm w X G M F c A n cp hh T v o D B) : w.cell? ⟨G, 5, none⟩ = some (.int .i64 (c 5)) := h.box.cell 5
theorem Cm.c17 (h : Cm w X G M F c A n cp hh T v o D B) : w.cell? ⟨G, 17, none⟩ = some (.int .i64 T) := h.box.cell 17
theorem Cm.c18 (h : Cm w X G M F c A n cp hh T v o D B) : w.cell? ⟨G, 18, none⟩ = some v := h.box.cell 18
theorem Cm.c19 (h : Cm w X G M F c A n cp hh T v o D B) : w.cell? ⟨G, 19, none⟩ = some (.map (some M)) := h.box.cell 19
/-- a cache becomes another one: its own blocks change -/
theorem Cm.to {w w' : World} {X Q F : Nat → Prop} {G M n cp T B B' : Nat} {c : Nat → Int} {A : Option Addr} {hh : Nat → Hn} {v : Value} {o o' : Ob} {D D' : Int → List Int} (h : Cm w X G M F c A n cp hh T v o D B) (hc : Chg w w' (fun j => F j ∨ j = M) Q) (ho : Om w' F v o') (hok : o'.Ok (cps c (T - 1))) (ht : o'.tm ≤ B') (hk : (Ob.new c hh n T).kin o')
    (hm : ∃ f, Mc w' M B' f ∧ ∀ x, x ∈ o'.all → ∃ u, f x = some u ∧ By w' X u (D' x)) (hs : ∀ x, x ∈ o'.all → (D' x).length ≤ 16) : Cm w' X G M F c A n cp hh T v o' D' B' :=
  { box := hc.bx h.box fun e => e.elim h.fG h.gm
    hr := hc.rv h.hr fun ad e e2 => (h.hA ad e).2 (e2.elim (h.fx _) fun e3 => e3 ▸ h.xM)
    hA := fun ad e => ⟨Nat.lt_of_lt_of_le (h.hA ad e).1 hc.size, (h.hA ad e).2⟩
    ca := h.ca
    ord := ho
    ok := hok
    tm := ht
    map := hm
    sz := hs
    rt := h.rt
    t1 := h.t1
    t3 := h.t3
    kd := hk
    fx := h.fx
    xG := h.xG
    xM := h.xM
    fG := h.fG
    fM := h.fM
    gm := h.gm
    lt := fun j hj => Nat.lt_of_lt_of_le (h.lt j hj) hc.size }
/-- what is used, or goes -/
theorem Cm.ords {w w' : World} {X F : Nat → Prop} {G M n cp T B : Nat} {c : Nat → Int} {A : Option Addr} {hh : Nat → Hn} {v : Value} {o o' : Ob} {D : Int → List Int} (h : Cm w X G M F c A n cp hh T v o D B) (hc : Chg w w' F F) (ho : Om w' F v o') (hok : o'.Ok (cps c (T - 1))) (ht : o'.tm ≤ o.tm + 1) (hk : (Ob.new c hh n T).kin o')
    (hi : ∀ x, x ∈ o'.all → x ∈ o.all) : Cm w' X G M F c A n cp hh T v o' D (B + 1) := by
  refine h.to (hc.wide fun j hj => .inl hj) ho hok (by have := h.tm; omega) hk ?_ fun x hx => h.sz x (hi x hx)
  obtain ⟨f, h1, h2⟩ := h.map
  refine ⟨f, (h1.same (hc.block M h1.lt h.fM)).mono (Nat.le_succ _), fun x hx => ?_⟩
  obtain ⟨u, h3, h4⟩ := h2 x (hi x hx)
  exact ⟨u, h3, h4.chg hc h.fx⟩
/-- the configuration within the cache's struct -/
theorem Cm.load (h : Cm w X G M F c A n cp hh T v o D B) : (Instr.loadAt 25 (.pointer (some ⟨G, 0, none⟩))).run Tryz.prog w = .ok (.agg (cfgC c A n cp)) w := by
  have hr : w.rangeAt G 0 (cfgC c A n cp).toList := fun j u hj => by
    rw [Nat.zero_add, h.box.cell]
    have h17 : j < 17 := (List.getElem?_eq_some_iff.1 hj).1
    rcases j with _ | _ | _ | _ | _ | _ | _ | _ | _ | _ | _ | _ | _ | _ | _ | _ | _ | j
    all_goals first | exact hj | omega
  have := run_loadAt_mid (P := Tryz.prog) w G 0 25 (cfgC c A n cp).toList _ hr Tryz.underlying25 rfl (by kernel_rfl)
  rwa [Array.toArray_toList] at this
theorem Cm.range (h : Cm w X G M F c A n cp hh T v o D B) : w.rangeAt G 0 (cfgC c A n cp).toList := fun j u hj => by
  rw [Nat.zero_add, h.box.cell]
  have h17 : j < 17 := (List.getElem?_eq_some_iff.1 hj).1
  rcases j with _ | _ | _ | _ | _ | _ | _ | _ | _ | _ | _ | _ | _ | _ | _ | _ | _ | j
  all_goals first | exact hj | omega
/-- many cells that are loaded out of the middle of a block, also under a guard -/
theorem wpList_load_pre {P : Program} {w : World} {ops : Array Oper} {rest : List Oper} {o : Oper} {a : Act} {Q : Exit → Act → World → Prop} (hgd : Region.wanted o (yielded ops a.tmps) = true) (ty : TypeId) (p : Operand) (ho : o.op = .load ty p) (b off : Nat) (hx : a.eval p = .pointer (some ⟨b, off, none⟩)) (cs : Array Value) (d : TypeDesc) (hc : w.rangeAt b off cs.toList)
    (hu : P.underlying ty = some d) (hd : d.isRow = true) (hi : (P.info? ty).map (·.size) = some cs.size) (h : wpList P ops Q rest (a.put o.dst (.agg cs)) w) : wpList P ops Q (o :: rest) a w :=
  BigFrame.wpList_want hgd fun K hK => wp_load_mid ty p ho b off hx cs.toList d hc hu hd (by simpa using hi) (by
    have := hK _ _ h
    simpa using this)
theorem isblk_any (c : Nat → Int) (A : Option Addr) (n cp : Nat) (b : Int) (w : World) : Calls Tryz.prog 47 #[.agg (cfgC c A n cp), .int .i64 b] w fun e w' => e = .returned (.bool (decide (0 ≤ b ∧ b < c 2))) ∧ Below w.heap.size w w' := by
  have HA := hid (below_alloc w (.cells (cfgC c A n cp) 25))
  have c2 : (w.alloc (.cells (cfgC c A n cp) 25)).cell? ⟨w.heap.size, 2, none⟩ = some (.int .i64 (c 2)) := World.cell?_alloc_new w _ _ 2
  by_cases h0 : 0 ≤ b
  · have HE := hid (show decide (b < c 2) = decide (0 ≤ b ∧ b < c 2) from decide_eq_decide.2 (by omega))
    have d0 : decide (0 ≤ b) = true := decide_eq_true h0
    clear h0
    go_enter Tryz.func47, Tryz.ntmps47
    go_upto_region 1 with fail
    generalize w.alloc (.cells (cfgC c A n cp) 25) = w1 at *
    go_wp2
    go_ret
    exact ⟨congrArg (fun b => Ending.returned (.bool b)) HE.out, HA.out⟩
  · have HE := hid (show false = decide (0 ≤ b ∧ b < c 2) from (decide_eq_false (by omega)).symm)
    have d0 : decide (0 ≤ b) = false := decide_eq_false h0
    clear h0
    go_enter Tryz.func47, Tryz.ntmps47
    go_upto_region 1 with fail
    generalize w.alloc (.cells (cfgC c A n cp) 25) = w1 at *
    go_wp2
    go_ret
    exact ⟨congrArg (fun b => Ending.returned (.bool b)) HE.out, HA.out⟩
set_option maxRecDepth 20000 in
set_option maxHeartbeats 1000000 in
theorem cm_has (h : Cm w X G M F c A n cp hh T v o D B) (b : Int) : Calls Tryz.prog 19 #[.pointer (some ⟨G, 0, none⟩), .int .i64 b] w fun e w' => e = .returned (.bool (dec (b ∈ o.all))) ∧ w = w' := by
  have g18 := h.c18
  cases o with
  | lru C Ls =>
    obtain ⟨g, rfl, hc⟩ := oml_has h.ord b
    have HC := hid hc
    clear hc
    have hm : ∀ w : World, (method 311 111 (.pointer (some ⟨g, 0, none⟩)) "Has").run Tryz.prog w = .ok (169, .pointer (some ⟨g, 0, none⟩)) w := fun _ => by kernel_rfl
    have H := hid h
    clear h
    go_enter Tryz.func19, Tryz.ntmps19
    go_wp2_with (go_at_call 169; refine HC.out.mono ?_; rintro e w' ⟨rfl, rfl⟩)
    go_ret
    exact ⟨rfl, rfl⟩
  | mq C N L H m =>
    obtain ⟨g, rfl, hc⟩ := omm_has h.ord h.ok b
    have HC := hid hc
    clear hc
    have hm : ∀ w : World, (method 311 106 (.pointer (some ⟨g, 0, none⟩)) "Has").run Tryz.prog w = .ok (152, .pointer (some ⟨g, 0, none⟩)) w := fun _ => by kernel_rfl
    have H := hid h
    clear h
    go_enter Tryz.func19, Tryz.ntmps19
    go_wp2_with (go_at_call 152; refine HC.out.mono ?_; rintro e w' ⟨rfl, rfl⟩)
    go_ret
    exact ⟨rfl, rfl⟩
  | prt rg pt lp n S =>
    obtain ⟨g, rfl, hc⟩ := omp_has h.ord b
    have HC := hid hc
    clear hc
    have hm : ∀ w : World, (method 311 103 (.pointer (some ⟨g, 0, none⟩)) "Has").run Tryz.prog w = .ok (131, .pointer (some ⟨g, 0, none⟩)) w := fun _ => by kernel_rfl
    have H := hid h
    clear h
    go_enter Tryz.func19, Tryz.ntmps19
    go_wp2_with (go_at_call 131; refine HC.out.mono ?_; rintro e w' ⟨rfl, rfl⟩)
    go_ret
    exact ⟨rfl, rfl⟩
set_option maxRecDepth 20000 in
set_option maxHeartbeats 1000000 in
theorem cm_all (h : Cm w X G M F c A n cp hh T v o D B) : Calls Tryz.prog 16 #[.pointer (some ⟨G, 0, none⟩)] w (Told w o.all) := by
  have g18 := h.c18
  cases o with
  | lru C Ls =>
    obtain ⟨g, rfl, hc⟩ := oml_all h.ord
    have HC := hid hc
    clear hc
    have hm : ∀ w : World, (method 311 111 (.pointer (some ⟨g, 0, none⟩)) "All").run Tryz.prog w = .ok (168, .pointer (some ⟨g, 0, none⟩)) w := fun _ => by kernel_rfl
    have H := hid h
    clear h
    go_enter Tryz.func16, Tryz.ntmps16
    go_wp2_with (go_at_call 168; refine HC.out.mono ?_; rintro e w' ⟨A1, c1, rfl, h1⟩; have H1 := hid h1; clear h1)
    go_ret
    exact ⟨_, _, rfl, H1.out⟩
  | mq C N L H m =>
    obtain ⟨g, rfl, hc⟩ := omm_all h.ord h.ok
    have HC := hid hc
    clear hc
    have hm : ∀ w : World, (method 311 106 (.pointer (some ⟨g, 0, none⟩)) "All").run Tryz.prog w = .ok (151, .pointer (some ⟨g, 0, none⟩)) w := fun _ => by kernel_rfl
    have H := hid h
    clear h
    go_enter Tryz.func16, Tryz.ntmps16
    go_wp2_with (go_at_call 151; refine HC.out.mono ?_; rintro e w' ⟨A1, c1, rfl, h1⟩; have H1 := hid h1; clear h1)
    go_ret
    exact ⟨_, _, rfl, H1.out⟩
  | prt rg pt lp n S =>
    obtain ⟨g, rfl, hc⟩ := omp_all h.ord
    have HC := hid hc
    clear hc
    have hm : ∀ w : World, (method 311 103 (.pointer (some ⟨g, 0, none⟩)) "All").run Tryz.prog w = .ok (130, .pointer (some ⟨g, 0, none⟩)) w := fun _ => by kernel_rfl
    have H := hid h
    clear h
    go_enter Tryz.func16, Tryz.ntmps16
    go_wp2_with (go_at_call 130; refine HC.out.mono ?_; rintro e w' ⟨A1, c1, rfl, h1⟩; have H1 := hid h1; clear h1)
    go_ret
    exact ⟨_, _, rfl, H1.out⟩
set_option maxRecDepth 20000 in
set_option maxHeartbeats 1000000 in
theorem cm_len (h : Cm w X G M F c A n cp hh T v o D B) : Calls Tryz.prog 18 #[.pointer (some ⟨G, 0, none⟩)] w fun e w' => e = .returned (.int .i64 o.all.length) ∧ Below w.heap.size w w' := by
  have g18 := h.c18
  cases o with
  | lru C Ls =>
    obtain ⟨g, rfl, hc⟩ := oml_len h.ord
    have HC := hid hc
    clear hc
    have hm : ∀ w : World, (method 311 111 (.pointer (some ⟨g, 0, none⟩)) "Len").run Tryz.prog w = .ok (170, .pointer (some ⟨g, 0, none⟩)) w := fun _ => by kernel_rfl
    have H := hid h
    clear h
    go_enter Tryz.func18, Tryz.ntmps18
    go_wp2_with (go_at_call 170; refine HC.out.mono ?_; rintro e w' ⟨rfl, h1⟩; have H1 := hid h1; clear h1)
    go_ret
    exact ⟨rfl, H1.out⟩
  | mq C N L H m =>
    obtain ⟨g, rfl, hc⟩ := omm_len h.ord h.ok
    have HC := hid hc
    clear hc
    have hm : ∀ w : World, (method 311 106 (.pointer (some ⟨g, 0, none⟩)) "Len").run Tryz.prog w = .ok (153, .pointer (some ⟨g, 0, none⟩)) w := fun _ => by kernel_rfl
    have H := hid h
    clear h
    go_enter Tryz.func18, Tryz.ntmps18
    go_wp2_with (go_at_call 153; refine HC.out.mono ?_; rintro e w' ⟨rfl, h1⟩; have H1 := hid h1; clear h1)
    go_ret
    exact ⟨rfl, H1.out⟩
  | prt rg pt lp n S =>
    obtain ⟨g, rfl, hc⟩ := omp_len h.ord
    have HC := hid hc
    clear hc
    have hm : ∀ w : World, (method 311 103 (.pointer (some ⟨g, 0, none⟩)) "Len").run Tryz.prog w = .ok (132, .pointer (some ⟨g, 0, none⟩)) w := fun _ => by kernel_rfl
    have H := hid h
    clear h
    go_enter Tryz.func18, Tryz.ntmps18
    go_wp2_with (go_at_call 132; refine HC.out.mono ?_; rintro e w' ⟨rfl, h1⟩; have H1 := hid h1; clear h1)
    go_ret
    exact ⟨rfl, H1.out⟩
set_option maxRecDepth 20000 in
set_option maxHeartbeats 1000000 in
theorem cm_takes (h : Cm w X G M F c A n cp hh T v o D B) (b lv : Int) : Calls Tryz.prog 48 #[.pointer (some ⟨G, 0, none⟩), .int .i64 b, .int .i64 lv] w fun e w' => e = .returned (.bool (o.takes (c 5) T b lv)) ∧ Below w.heap.size w w' := by
  have g18 := h.c18
  have g5 := h.c5
  have g17 := h.c17
  cases o with
  | lru C Ls =>
    obtain ⟨g, rfl, -⟩ := oml_has h.ord b
    have ha : ∀ w : World, (Instr.typeAssert (.iface 111 (.pointer (some ⟨g, 0, none⟩))) 67 103 true).run Tryz.prog w = .ok (.tuple #[.pointer none, .bool false]) w := fun _ => by kernel_rfl
    have HE := hid (show ∀ p : Bool, (c 5 != 1) = p → (p || (lv == (T : Int))) = (Ob.lru C Ls).takes (c 5) T b lv from fun p hp => by rw [← hp]; rfl)
    clear h
    cases hp : (c 5 != 1) with
    | true =>
      have HE2 := hid (HE.out true hp)
      clear HE
      go_enter Tryz.func48, Tryz.ntmps48
      go_wp2
      go_ret
      exact ⟨congrArg (fun b => Ending.returned (.bool b)) HE2.out, Below.refl _ _⟩
    | false =>
      have HE2 := hid (HE.out false hp)
      clear HE
      go_enter Tryz.func48, Tryz.ntmps48
      go_wp2
      go_ret
      exact ⟨congrArg (fun b => Ending.returned (.bool b)) HE2.out, Below.refl _ _⟩
  | mq C N L H m =>
    obtain ⟨g, rfl, -⟩ := omm_has h.ord h.ok b
    have ha : ∀ w : World, (Instr.typeAssert (.iface 106 (.pointer (some ⟨g, 0, none⟩))) 67 103 true).run Tryz.prog w = .ok (.tuple #[.pointer none, .bool false]) w := fun _ => by kernel_rfl
    have HE := hid (show ∀ p : Bool, (c 5 != 1) = p → (p || (lv == (T : Int))) = (Ob.mq C N L H m).takes (c 5) T b lv from fun p hp => by rw [← hp]; rfl)
    clear h
    cases hp : (c 5 != 1) with
    | true =>
      have HE2 := hid (HE.out true hp)
      clear HE
      go_enter Tryz.func48, Tryz.ntmps48
      go_wp2
      go_ret
      exact ⟨congrArg (fun b => Ending.returned (.bool b)) HE2.out, Below.refl _ _⟩
    | false =>
      have HE2 := hid (HE.out false hp)
      clear HE
      go_enter Tryz.func48, Tryz.ntmps48
      go_wp2
      go_ret
      exact ⟨congrArg (fun b => Ending.returned (.bool b)) HE2.out, Below.refl _ _⟩
  | prt rg pt lp n S =>
    obtain ⟨g, rfl, hc⟩ := omp_takes h.ord b
    have HC := hid hc
    clear hc
    have ha : ∀ w : World, (Instr.typeAssert (.iface 103 (.pointer (some ⟨g, 0, none⟩))) 67 103 true).run Tryz.prog w = .ok (.tuple #[.pointer (some ⟨g, 0, none⟩), .bool true]) w := fun _ => by kernel_rfl
    clear h
    go_enter Tryz.func48, Tryz.ntmps48
    go_wp2_with (go_at_call 63; refine HC.out.mono ?_; rintro e w' ⟨rfl, h1⟩; have H1 := hid h1; clear h1)
    go_ret
    exact ⟨rfl, H1.out⟩
end
end Go.Proofs.YtmfdlkkligjcbaaGreat
