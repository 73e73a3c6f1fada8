/-
  What is proved: worlds that differ in given blocks alone, and in new ones. No condition on a program.
-/
import Derived.Test.YtmfdlkkligjcbaaGreatJ03
import Derived.BigQuiet
namespace Go.Proofs.YtmfdlkkligjcbaaGreat
open Go.RowKit

/-- w' is w but for the blocks F, which have become G, and new ones -/
structure Chg (w w' : World) (F G : Nat → Prop) : Prop where
  os : w'.os = w.os
  tape : w'.tape = w.tape
  output : w'.output = w.output
  size : w.heap.size ≤ w'.heap.size
  block : ∀ j, j < w.heap.size → ¬ F j → w'.heap[j]? = w.heap[j]?
  foot : ∀ j, G j → F j ∨ (w.heap.size ≤ j ∧ j < w'.heap.size)
section
variable {w w' w'' : World} {F G H : Nat → Prop}
theorem Chg.refl (w : World) (F : Nat → Prop) : Chg w w F F := ⟨rfl, rfl, rfl, Nat.le_refl _, fun _ _ _ => rfl, fun _ h => .inl h⟩
theorem Chg.trans (h : Chg w w' F G) (k : Chg w' w'' G H) : Chg w w'' F H := by
  refine ⟨k.os.trans h.os, k.tape.trans h.tape, k.output.trans h.output, Nat.le_trans h.size k.size, fun j h1 h2 => (k.block j (Nat.lt_of_lt_of_le h1 h.size) fun hg => ?_).trans (h.block j h1 h2), fun j hj => ?_⟩
  · rcases h.foot j hg with hf | hf
    · exact h2 hf
    · omega
  · rcases k.foot j hj with hg | hg
    · rcases h.foot j hg with hf | hf
      · exact .inl hf
      · right; have := k.size; omega
    · right; have := h.size; omega
theorem Chg.of (h : Below w.heap.size w w') (F : Nat → Prop) : Chg w w' F F := ⟨h.os, h.tape, h.output, h.size, fun j h1 _ => h.block j h1, fun _ h => .inl h⟩
theorem Chg.bel {B : Nat} (h : Chg w w' F G) (hB : B ≤ w.heap.size) (hF : ∀ j, F j → B ≤ j) : Below B w w' := ⟨h.os, h.tape, h.output, h.size, fun j hj => h.block j (by omega) fun hf => by have := hF j hf; omega⟩
theorem Chg.cell (h : Chg w w' F G) {p : Addr} (hp : p.block < w.heap.size) (hf : ¬ F p.block) : w'.cell? p = w.cell? p := World.cell?_of_block (h.block _ hp hf)
theorem Chg.bx (h : Chg w w' F G) {g : Nat} {t : TypeId} {cs : Array Value} (hx : Bx w g t cs) (hf : ¬ F g) : Bx w' g t cs := (h.block g hx.lt hf).trans hx
theorem Chg.rv (h : Chg w w' F G) {A : Option Addr} {us : List Value} (hr : Rv w w.heap.size A us) (hf : ∀ ad, A = some ad → ¬ F ad.block) : Rv w' w'.heap.size A us := fun j u hu => by
  obtain ⟨ad, e, hb, hc⟩ := hr j u hu
  exact ⟨ad, e, Nat.lt_of_lt_of_le hb h.size, (h.cell (p := ad.add j) (by rw [addBlk]; exact hb) (by rw [addBlk]; exact hf ad e)).trans hc⟩
theorem Chg.draws (h : Chg w w' F G) (n : Nat) : Chg w (w'.drewN n) F G := ⟨h.os, h.tape, h.output, h.size, h.block, h.foot⟩
end
end Go.Proofs.YtmfdlkkligjcbaaGreat
namespace Go.Proofs.YtmfdlkkligjcbaaGreat
open Go.RowKit

theorem chg_set {w w1 : World} {k : Nat} (h : Chg w w1 (· = k) (· = k)) (i : Nat) (v : Value) : Chg w (w1.setCell ⟨k, i, none⟩ v) (· = k) (· = k) :=
  ⟨h.os, h.tape, h.output, by rw [setSize]; exact h.size, fun j h1 h2 => (Below.heap_setCell w1 ⟨k, i, none⟩ v j (fun e => h2 e)).trans (h.block j h1 h2), fun _ e => .inl e⟩
section
variable {w : World} {k : Nat} {S : List (List Int)}
set_option maxHeartbeats 400000 in
theorem unlink_no (h : Sq w k S) (x : Int) (hx : ¬ inS S x) : Calls Tryz.prog 144 #[.pointer (some ⟨k, 0, none⟩), .int .i64 x] w fun e w' => e = .returned (.tuple #[]) ∧ Sq w' k (woS x S) ∧ Chg w w' (· = k) (· = k) := by
  have HH := hid (holds_any h x)
  rw [dec_false hx] at HH
  rw [woS_out hx]
  have H := hid h
  clear h hx
  go_enter Tryz.func144, Tryz.ntmps144
  go_wp2_with (go_at_call 148; refine HH.out.mono ?_; rintro e w' ⟨rfl, rfl⟩)
  exact bodyPost_ret (results_none rfl _ _ _) rfl ⟨rfl, H.out, Chg.refl _ _⟩
set_option maxHeartbeats 1000000 in
theorem unlink_yes (h : Sq w k S) (x : Int) (hx : inS S x) : Calls Tryz.prog 144 #[.pointer (some ⟨k, 0, none⟩), .int .i64 x] w fun e w' => e = .returned (.tuple #[]) ∧ Sq w' k (woS x S) ∧ Chg w w' (· = k) (· = k) := by
  have HH := hid (holds_any h x)
  rw [dec_true hx] at HH
  have hv := inS_vb h hx
  obtain ⟨a, b, c, hs, hi⟩ := h
  obtain ⟨p, rfl⟩ : ∃ p : Nat, x = p := ⟨x.toNat, by have := hv.1; omega⟩
  have hp : p < 64 := by have := hv.2; omega
  obtain ⟨hq, hr, hi2⟩ := hi.unl hx
  have ca := hs.cA (p := p) (by omega)
  have cb := hs.cB (p := p) (by omega)
  obtain ⟨q, eq⟩ : ∃ q : Nat, a p = q := ⟨(a p).toNat, by omega⟩
  obtain ⟨r, er⟩ : ∃ r : Nat, b p = r := ⟨(b p).toNat, by omega⟩
  rw [eq, er] at hi2
  rw [eq] at hq ca
  rw [er] at hr cb
  have hq1 : q < 104 := by omega
  have hr1 : r < 104 := by omega
  have HS := hid hs
  have HI2 := hid hi2
  have h0 : (0 : Int) ≤ (p : Int) := by omega
  have h1 : (p : Int) < 64 := by omega
  have h2 : (p : Int) < 104 := by omega
  obtain ⟨q0, q1⟩ := hq
  obtain ⟨r0, r1⟩ := hr
  have qb := hs.cB hq1
  have ra := hs.cA hr1
  have qc := hs.cC hp
  have fr := Bx.free hs
  clear hi hx hv hs hi2
  go_enter Tryz.func144, Tryz.ntmps144
  go_upto_region 1 with (go_at_call 148; refine HH.out.mono ?_; rintro e w' ⟨rfl, rfl⟩)
  go_quiet (fail)
  go_wp2
  have hne : 105 + q ≠ 1 + r := by omega
  have hne2 : 1 + r ≠ 105 + q := by omega
  go_region
  have HW := hid (((HS.out.draws (nq + 1)).setB hq1 (r : Int)).setA hr1 (q : Int))
  have HC := hid (chg_set (chg_set (Chg.draws (Chg.refl w (· = k)) (nq + 1)) (105 + q) (.int .i64 r)) (1 + r) (.int .i64 q))
  generalize ((w.drewN (nq + 1)).setCell ⟨k, 105 + q, none⟩ (.int .i64 r)).setCell ⟨k, 1 + r, none⟩ (.int .i64 q) = W at *
  have wc := HW.out.cC hp
  have wf := Bx.free HW.out
  clear ca cb qb ra qc fr
  go_wp2
  have HX := HW.out.setC (p := p) 0
  exact bodyPost_end (results_none rfl _ _ _) rfl ⟨rfl, ⟨_, _, _, by rw [woS_len]; exact HX, HI2.out⟩, chg_set HC.out _ _⟩
theorem unlink_any (h : Sq w k S) (x : Int) : Calls Tryz.prog 144 #[.pointer (some ⟨k, 0, none⟩), .int .i64 x] w fun e w' => e = .returned (.tuple #[]) ∧ Sq w' k (woS x S) ∧ Chg w w' (· = k) (· = k) := by
  by_cases hx : inS S x
  · exact unlink_yes h x hx
  · exact unlink_no h x hx
set_option maxHeartbeats 1000000 in
theorem link_any {a b c : Int → Int} (hs : Sb w k S.length a b c) (hi : Inv a b c S) {i x t : Nat} {l l' A B : List Int} (hx : x < 64) (hn : ¬ inS S x) (hl : S[i]? = some l) (h1 : (64 + (i : Int)) :: l = A ++ (t : Int) :: B) (h2 : (64 + (i : Int)) :: l' = A ++ (t : Int) :: (x : Int) :: B) :
    Calls Tryz.prog 145 #[.pointer (some ⟨k, 0, none⟩), .int .i64 i, .int .i64 t, .int .i64 x] w fun e w' => e = .returned (.tuple #[]) ∧ Sq w' k (S.set i l') ∧ Chg w w' (· = k) (· = k) := by
  have hi40 : i < 40 := by have := (List.getElem?_eq_some_iff.1 hl).1; have := hi.sz; omega
  have ht := node_lt hi hl (x := (t : Int)) (by rw [h1]; simp)
  obtain ⟨hr, hi2⟩ := hi.lnk (x := (x : Int)) (by omega) hn hl h1 h2
  have ht1 : t < 104 := by omega
  have tb := hs.cB ht1
  have xa := hs.cA (p := x) (by omega)
  obtain ⟨r, er⟩ : ∃ r : Nat, b t = r := ⟨(b t).toNat, by omega⟩
  rw [er] at hi2 hr tb
  have hr1 : r < 104 := by omega
  have HS := hid hs
  have HI2 := hid hi2
  have HCL := hid (fun w => closing_any w i hi40)
  have x0 : (0 : Int) ≤ (x : Int) := by omega
  have x1 : (x : Int) < 64 := by omega
  have x2 : (x : Int) < 104 := by omega
  obtain ⟨t0, t1⟩ := ht
  obtain ⟨r0, r1⟩ := hr
  have fr := hs.free
  have ne1 : 105 + t ≠ 1 + x := by omega
  have ne2 : 1 + x ≠ 105 + t := by omega
  have ne3 : 105 + x ≠ 1 + r := by omega
  have ne4 : 1 + r ≠ 105 + x := by omega
  clear hi hs hi2 hn hl h1 h2
  go_enter Tryz.func145, Tryz.ntmps145
  go_upto_region 1 with fail
  go_region
  have HW := hid (show Sb (((w.setCell ⟨k, 105 + t, none⟩ (.int .i64 x)).setCell ⟨k, 1 + x, none⟩ (.int .i64 t)).drew) k S.length (upd a x t) (upd b t x) c from ((HS.out.setB ht1 (x : Int)).setA (show x < 104 from by omega) (t : Int)).draws 1)
  have HC := hid (show Chg w (((w.setCell ⟨k, 105 + t, none⟩ (.int .i64 x)).setCell ⟨k, 1 + x, none⟩ (.int .i64 t)).drew) (· = k) (· = k) from Chg.draws (chg_set (chg_set (Chg.refl w (· = k)) (105 + t) (.int .i64 x)) (1 + x) (.int .i64 t)) 1)
  generalize ((w.setCell ⟨k, 105 + t, none⟩ (.int .i64 x)).setCell ⟨k, 1 + x, none⟩ (.int .i64 t)).drew = W at *
  have wb := HW.out.cB (p := x) (by omega)
  have wa := HW.out.cA hr1
  have wf := HW.out.free
  clear tb xa fr
  go_upto_region 2 with fail
  go_region
  have HX := hid (show Sb (((W.setCell ⟨k, 105 + x, none⟩ (.int .i64 r)).setCell ⟨k, 1 + r, none⟩ (.int .i64 x)).drew) k S.length (upd (upd a x t) r x) (upd (upd b t x) x r) c from ((HW.out.setB (show x < 104 from by omega) (r : Int)).setA hr1 (x : Int)).draws 1)
  have HD := hid (show Chg w (((W.setCell ⟨k, 105 + x, none⟩ (.int .i64 r)).setCell ⟨k, 1 + r, none⟩ (.int .i64 x)).drew) (· = k) (· = k) from Chg.draws (chg_set (chg_set HC.out (105 + x) (.int .i64 r)) (1 + r) (.int .i64 x)) 1)
  generalize ((W.setCell ⟨k, 105 + x, none⟩ (.int .i64 r)).setCell ⟨k, 1 + r, none⟩ (.int .i64 x)).drew = V at *
  have vc := HX.out.cC hx
  have vf := HX.out.free
  clear wb wa wf
  go_upto_region 3 with fail
  go_region_with (go_at_call 83; refine (HCL.out _).mono ?_; rintro e w4 ⟨rfl, rfl⟩)
  all_goals
    have HY := (HX.out.setC (p := x) (64 + (i : Int))).draws 1
    exact bodyPost_end (results_none rfl _ _ _) rfl ⟨rfl, ⟨_, _, _, by rw [List.length_set]; exact HY, HI2.out⟩, Chg.draws (chg_set HD.out _ _) 1⟩
end
/-- behind Front, behind Back -/
def okp (S : List (List Int)) (x y : Int) : Prop := isl S x ∧ vb y
instance (S : List (List Int)) (x y : Int) : Decidable (okp S x y) := inferInstanceAs (Decidable (_ ∧ _))
def putE (S : List (List Int)) (x y : Int) : Int := if okp S x y then 0 else 3
def frontS (S : List (List Int)) (x y : Int) : List (List Int) := if okp S x y then (woS y S).set x.toNat (y :: (woS y S).getD x.toNat []) else S
noncomputable def remE (S : List (List Int)) (y : Int) : Int := if vb y then if dec (inS S y) then 0 else 5 else 3
section
variable {w : World} {k : Nat} {S : List (List Int)}
theorem ok_at {x y : Int} (h : okp S x y) : ∃ (i p : Nat) (l : List Int), x = i ∧ y = p ∧ p < 64 ∧ (woS y S)[i]? = some l ∧ (woS y S).getD i [] = l := by
  obtain ⟨hx, hy⟩ := h
  obtain ⟨i, l, rfl, hl⟩ := isl_at hx
  have e : (woS y S)[i]? = some (wo y l) := by unfold woS; rw [List.getElem?_map, hl]; rfl
  exact ⟨i, y.toNat, _, rfl, by have := hy.1; omega, by have := hy.1; have := hy.2; omega, e, by rw [List.getD, e]; rfl⟩
set_option maxHeartbeats 400000 in
theorem front_any (h : Sq w k S) (x y : Int) : Calls Tryz.prog 137 #[.pointer (some ⟨k, 0, none⟩), .int .i64 x, .int .i64 y] w fun e w' => e = .returned (.int .i64 (putE S x y)) ∧ Sq w' k (frontS S x y) ∧ Chg w w' (· = k) (· = k) := by
  have HR := hid (refuses_any h x y)
  have e0 : (if isl S x ∧ vb y then (0 : Int) else 3) = putE S x y := rfl
  rw [e0] at HR
  clear e0
  by_cases ho : okp S x y
  · have e1 : putE S x y = 0 := if_pos ho
    have e2 : frontS S x y = (woS y S).set x.toNat (y :: (woS y S).getD x.toNat []) := if_pos ho
    obtain ⟨i, p, l, rfl, rfl, hp, hl, hd⟩ := ok_at ho
    rw [Int.toNat_natCast, hd] at e2
    rw [e1] at HR ⊢
    rw [e2]
    have HU := hid (unlink_any h p)
    have hi40 : i < 40 := by have := ho.1.2; have := h.wf.2.2; omega
    have HCL := hid (fun w => closing_any w i hi40)
    have HL := hid hl
    clear h ho e1 e2 hd hl
    go_enter Tryz.func137, Tryz.ntmps137
    go_upto_region 5 with (first | (go_at_call 143; refine HR.out.mono ?_; rintro e w' ⟨rfl, rfl⟩) | (go_at_call 144; refine HU.out.mono ?_; rintro e w2 ⟨rfl, ⟨a, b, c, hs, hi⟩, hc⟩; have HLK := hid (link_any hs hi (x := p) (t := 64 + i) (A := []) (B := l) (l' := p :: l) hp (woS_not _ _) HL.out (by simp) (by simp)); have HC := hid hc; clear hs hi hc))
    go_wp2_with (first | (go_at_call 83; refine (HCL.out _).mono ?_; rintro e w4 ⟨rfl, rfl⟩) | (go_at_call 145; refine HLK.out.mono ?_; rintro e w5 ⟨rfl, hq, hc2⟩; have HQ := hid hq; have HC2 := hid hc2; clear hq hc2))
    go_ret
    exact ⟨rfl, HQ.out, HC.out.trans HC2.out⟩
  · have e1 : putE S x y = 3 := if_neg ho
    have e2 : frontS S x y = S := if_neg ho
    rw [e1] at HR ⊢
    rw [e2]
    have H := hid h
    clear h ho e1 e2
    go_enter Tryz.func137, Tryz.ntmps137
    go_wp2_with (go_at_call 143; refine HR.out.mono ?_; rintro e w' ⟨rfl, rfl⟩)
    go_ret
    exact ⟨rfl, H.out, Chg.refl _ _⟩















































set_option maxHeartbeats 400000 in
theorem remove_any (h : Sq w k S) (y : Int) : Calls Tryz.prog 140 #[.pointer (some ⟨k, 0, none⟩), .int .i64 y] w fun e w' => e = .returned (.int .i64 (remE S y)) ∧ Sq w' k (woS y S) ∧ Chg w w' (· = k) (· = k) := by
  have HI := hid (isblock_any w y)
  have HH := hid (holds_any h y)
  have HU := hid (unlink_any h y)
  by_cases hy : vb y
  · rw [decide_eq_true hy] at HI
    by_cases hin : inS S y
    · rw [dec_true hin] at HH
      have e1 : remE S y = 0 := by unfold remE; rw [if_pos hy, dec_true hin]; rfl
      rw [e1]
      clear h hy hin e1
      go_enter Tryz.func140, Tryz.ntmps140
      go_wp2_with (first | (go_at_call 147; refine HI.out.mono ?_; rintro e w' ⟨rfl, rfl⟩) | (go_at_call 148; refine HH.out.mono ?_; rintro e w' ⟨rfl, rfl⟩) | (go_at_call 144; refine HU.out.mono ?_; rintro e w2 ⟨rfl, hq, hc⟩; have HQ := hid hq; have HC := hid hc; clear hq hc))
      go_ret
      exact ⟨rfl, HQ.out, HC.out⟩
    · rw [dec_false hin] at HH
      have e1 : remE S y = 5 := by unfold remE; rw [if_pos hy, dec_false hin]; rfl
      rw [e1, woS_out hin]
      have H := hid h
      clear h hy hin e1 HU
      go_enter Tryz.func140, Tryz.ntmps140
      go_wp2_with (first | (go_at_call 147; refine HI.out.mono ?_; rintro e w' ⟨rfl, rfl⟩) | (go_at_call 148; refine HH.out.mono ?_; rintro e w' ⟨rfl, rfl⟩))
      go_ret
      exact ⟨rfl, H.out, Chg.refl _ _⟩
  · rw [decide_eq_false hy] at HI
    have e1 : remE S y = 3 := if_neg hy
    rw [e1, woS_out fun hm => hy (inS_vb h hm)]
    have H := hid h
    clear h hy e1 HU HH
    go_enter Tryz.func140, Tryz.ntmps140
    go_wp2_with (go_at_call 147; refine HI.out.mono ?_; rintro e w' ⟨rfl, rfl⟩)
    go_ret
    exact ⟨rfl, H.out, Chg.refl _ _⟩
end
end Go.Proofs.YtmfdlkkligjcbaaGreat
namespace Go.Proofs.YtmfdlkkligjcbaaGreat
open Go.RowKit

abbrev nl : Value := .slice none 0 0
theorem GrW.nilBelow {w w' : World} {v : Value} (h : GrW w w' nl v) : Below w.heap.size w w' := ⟨h.gr.os, h.gr.tape, h.gr.output, h.gr.size, fun j hj => h.gr.block j hj (by simp [Value.ownBlock])⟩
theorem infoInt : (Tryz.prog.info? 3).map (fun i => (i.zero, i.size, i.bytes)) = some (some (.int .i64 0), 1, 8) := by kernel_rfl
theorem elt_int : Elt Tryz.prog 43 3 (.int .i64 0) 1 8 := ⟨Tryz.underlying43, infoInt, rfl, by decide⟩
theorem quietL {P : Program} {f : FuncId} {args : Array Value} {w : World} {n : Nat} {v : Value} (h : Calls P f args (w.drewN n) fun e w' => e = .returned v ∧ w.drewN n = w') :
    Calls P f args (w.drewN n) fun e w'' => e = .returned v ∧ ∃ m, w'' = w.drewN m := h.mono fun _ _ ⟨he, hm⟩ => ⟨he, n, hm.symm⟩
theorem ints_take_succ {l : List Int} {j : Nat} (h : j < l.length) : ints (l.take (j + 1)) = ints (l.take j) ++ [.int .i64 l[j]] := by
  unfold ints
  rw [List.take_succ_eq_append_getElem h, List.map_append]
  rfl

section
variable {w : World} {k : Nat} {S : List (List Int)}
set_option maxHeartbeats 400000 in
theorem of_yes (h : Sq w k S) {i : Nat} {l : List Int} (hl : S[i]? = some l) {x : Int} (hx : x ∈ l) : Calls Tryz.prog 139 #[.pointer (some ⟨k, 0, none⟩), .int .i64 x] w fun e w' => e = .returned (.tuple #[.int .i64 i, .bool true]) ∧ w = w' := by
  have HH := hid (holds_any h x)
  rw [dec_true ⟨i, l, hl, hx⟩] at HH
  obtain ⟨a, b, c, hs, hi⟩ := h
  have hv := hi.wf.lt i l x hl hx
  obtain ⟨p, rfl⟩ : ∃ p : Nat, x = p := ⟨x.toNat, by omega⟩
  have cc := hs.cC (p := p) (by omega)
  rw [hi.inn i l p hl hx] at cc
  have hi40 : i < 40 := by have := (List.getElem?_eq_some_iff.1 hl).1; have := hi.sz; omega
  obtain ⟨p0, p1⟩ := hv
  clear hs hi hl hx
  go_enter Tryz.func139, Tryz.ntmps139
  go_wp2_with (go_at_call 148; refine HH.out.mono ?_; rintro e w' ⟨rfl, rfl⟩)
  go_ret2
  refine ⟨?_, rfl⟩
  go_num
set_option maxHeartbeats 400000 in
theorem of_no (h : Sq w k S) {x : Int} (hx : ¬ inS S x) : Calls Tryz.prog 139 #[.pointer (some ⟨k, 0, none⟩), .int .i64 x] w fun e w' => e = .returned (.tuple #[.int .i64 0, .bool false]) ∧ w = w' := by
  have HH := hid (holds_any h x)
  rw [dec_false hx] at HH
  clear h hx
  go_enter Tryz.func139, Tryz.ntmps139
  go_wp2_with (go_at_call 148; refine HH.out.mono ?_; rintro e w' ⟨rfl, rfl⟩)
  go_ret2
  exact ⟨rfl, rfl⟩
/-- the front one, the back one -/
def firstV (l : List Int) : Value := match l with | [] => .tuple #[.int .i64 0, .bool false] | x :: _ => .tuple #[.int .i64 x, .bool true]
def lastV (l : List Int) : Value := if h : l = [] then .tuple #[.int .i64 0, .bool false] else .tuple #[.int .i64 (l.getLast h), .bool true]
def atV (x : Int) : Value := if vb x then .tuple #[.int .i64 x, .bool true] else .tuple #[.int .i64 0, .bool false]
theorem blockat_any (w : World) (x : Int) : Calls Tryz.prog 149 #[.int .i64 x] w fun e w' => e = .returned (atV x) ∧ w = w' := by
  unfold atV
  split
  · rename_i h; exact blockat_yes w x h
  · rename_i h; exact blockat_no w x h
theorem atV_shape (x : Int) : ∃ y b, atV x = .tuple #[.int .i64 y, .bool b] := by
  unfold atV
  split
  · exact ⟨_, _, rfl⟩
  · exact ⟨_, _, rfl⟩
set_option maxHeartbeats 400000 in
theorem first_in (h : Sq w k S) {i : Nat} {l : List Int} (hl : S[i]? = some l) : Calls Tryz.prog 141 #[.pointer (some ⟨k, 0, none⟩), .int .i64 i] w fun e w' => e = .returned (firstV l) ∧ ∃ d, w' = w.drewN d := by
  have hil := (List.getElem?_eq_some_iff.1 hl).1
  have HH := hid (has_any h i)
  rw [decide_eq_true (show isl S i from ⟨by omega, by omega⟩)] at HH
  obtain ⟨a, b, c, hs, hi⟩ := h
  have hi40 : i < 40 := by have := hi.sz; omega
  obtain ⟨z, hz⟩ : ∃ z, 64 + i = z := ⟨_, rfl⟩
  have HCL := hid (fun w => closing_z w i z hi40 hz)
  have cc := hs.cB (p := z) (by omega)
  have hzz : (z : Int) = 64 + (i : Int) := by omega
  have ev : firstV l = atV (b z) := by
    rw [hzz, hi.first hl]
    have hb := nd_block hi hl 0
    cases l with
    | nil => unfold atV; rw [if_neg (show ¬ vb _ from fun hh => by have := hb.1 hh; simp at this)]; rfl
    | cons x l => unfold atV; rw [if_pos (show vb _ from hb.2 (by simp))]; rfl
  rw [ev]
  obtain ⟨y, t, e⟩ := atV_shape (b z)
  have HB := hid (fun w => blockat_any w (b z))
  rw [e] at HB ⊢
  have b1 : (z : Int) < 104 := by omega
  have b0 : 0 ≤ (z : Int) := by omega
  generalize b z = bz at *
  clear hs hi hl hil hz hzz ev e
  go_enter Tryz.func141, Tryz.ntmps141
  go_upto_region 3 with (go_at_call 146; refine HH.out.mono ?_; rintro e w' ⟨rfl, rfl⟩)
  go_quiet (first | (go_at_call 83; exact quietL (HCL.out _)) | (go_at_call 149; exact quietL (HB.out _)))
  go_wp2
  go_ret2
  exact ⟨rfl, _, rfl⟩
set_option maxHeartbeats 400000 in
theorem last_in (h : Sq w k S) {i : Nat} {l : List Int} (hl : S[i]? = some l) : Calls Tryz.prog 142 #[.pointer (some ⟨k, 0, none⟩), .int .i64 i] w fun e w' => e = .returned (lastV l) ∧ ∃ d, w' = w.drewN d := by
  have hil := (List.getElem?_eq_some_iff.1 hl).1
  have HH := hid (has_any h i)
  rw [decide_eq_true (show isl S i from ⟨by omega, by omega⟩)] at HH
  obtain ⟨a, b, c, hs, hi⟩ := h
  have hi40 : i < 40 := by have := hi.sz; omega
  obtain ⟨z, hz⟩ : ∃ z, 64 + i = z := ⟨_, rfl⟩
  have HCL := hid (fun w => closing_z w i z hi40 hz)
  have cc := hs.cA (p := z) (by omega)
  have hzz : (z : Int) = 64 + (i : Int) := by omega
  have ev : lastV l = atV (a z) := by
    rw [hzz, hi.last hl]
    unfold lastV atV
    by_cases hn : l = []
    · subst hn
      rw [dif_pos rfl, if_neg (show ¬ vb _ from fun hh => by have := hh.2; simp at this; omega)]
    · rw [dif_neg hn, List.getLast_cons hn, if_pos (show vb _ from hi.wf.lt i l _ hl (List.getLast_mem hn))]
  rw [ev]
  obtain ⟨y, t, e⟩ := atV_shape (a z)
  have HB := hid (fun w => blockat_any w (a z))
  rw [e] at HB ⊢
  have b1 : (z : Int) < 104 := by omega
  have b0 : 0 ≤ (z : Int) := by omega
  generalize a z = bz at *
  clear hs hi hl hil hz hzz ev e
  go_enter Tryz.func142, Tryz.ntmps142
  go_upto_region 3 with (go_at_call 146; refine HH.out.mono ?_; rintro e w' ⟨rfl, rfl⟩)
  go_quiet (first | (go_at_call 83; exact quietL (HCL.out _)) | (go_at_call 149; exact quietL (HB.out _)))
  go_wp2
  go_ret2
  exact ⟨rfl, _, rfl⟩
/-- a list that is told: new memory -/
def Told (w : World) (l : List Int) (e : Ending) (w' : World) : Prop := ∃ A c, e = .returned (.slice A l.length c) ∧ OwnW w' 3 (.slice A l.length c) (ints l) ∧ GrW w w' nl (.slice A l.length c)
set_option maxRecDepth 10000 in
set_option maxHeartbeats 1000000 in
theorem all_in (h : Sq w k S) {i : Nat} {l : List Int} (hl : S[i]? = some l) : Calls Tryz.prog 138 #[.pointer (some ⟨k, 0, none⟩), .int .i64 i] w (Told w l) := by
  have hil := (List.getElem?_eq_some_iff.1 hl).1
  have HH := hid (has_any h i)
  rw [decide_eq_true (show isl S i from ⟨by omega, by omega⟩)] at HH
  obtain ⟨a, b, c, hs, hi⟩ := h
  have hi40 : i < 40 := by have := hi.sz; omega
  obtain ⟨z, hz⟩ : ∃ z, 64 + i = z := ⟨_, rfl⟩
  have HCL := hid (fun w => closing_z w i z hi40 hz)
  have cc := hs.cB (p := z) (by omega)
  have hzz : (z : Int) = 64 + (i : Int) := by omega
  rw [hzz, hi.first hl] at cc
  have hl64 : l.length ≤ 64 := hi.wf.len hl
  have HI := hid hi
  have HL := hid hl
  have HS := hid hs
  have b1 : (z : Int) < 104 := by omega
  have b0 : 0 ≤ (z : Int) := by omega
  clear hs hi hl hil hz hzz
  go_enter Tryz.func138, Tryz.ntmps138
  go_upto_region 4 with (go_at_call 146; refine HH.out.mono ?_; rintro e w' ⟨rfl, rfl⟩)
  go_quiet (first | (go_at_call 83; exact quietL (HCL.out _)))
  go_wp2
  have HG0 := hid (show GrW w (w.drewN nq) nl nl from GrW.of (below_draws (Below.refl _ _) _) _)
  clear cc b0 b1
  generalize w.drewN nq = w0 at *
  go_loopg [5, 6] l.length (fun gk s t wr => ∃ (j : Nat) (v : Value), j + gk = l.length ∧ v = s ∧ t = .int .i64 (nd l (64 + (i : Int)) j) ∧ OwnW wr 3 v (ints (l.take j)) ∧ GrW w wr nl v)
  case atStart => exact ⟨0, _, by omega, rfl, rfl, ownW_nil _ _, HG0.out⟩
  case round =>
    obtain ⟨j, v, hj, rfl, rfl, ho, hg⟩ := hrel
    have hb := nd_block HI.out HL.out j
    have hr := nd_lt HI.out HL.out j
    by_cases hlt : j < l.length
    · have hx := HI.out.next HL.out hlt
      have hin := nd_in (e := 64 + (i : Int)) hlt
      have HT := ints_take_succ hlt
      rw [← hin] at HT
      generalize hy : nd l (64 + (i : Int)) (j + 1) = y at hx
      generalize nd l (64 + (i : Int)) j = x at *
      obtain ⟨p, rfl⟩ : ∃ p : Nat, x = p := ⟨x.toNat, by omega⟩
      have HB := hid (fun w => isblock_any w (p : Int))
      rw [decide_eq_true (show vb (p : Int) from hb.2 hlt)] at HB
      have HL1 := hid (show (ints (l.take j)).length = j from by rw [ints_length, List.length_take]; omega)
      have HO1 := hid (ho.below (below_alloc wr (.cells #[.int .i64 p] 3)))
      have HG1 := hid (hg.trans (GrW.of (below_alloc wr (.cells #[.int .i64 p] 3)) v))
      have HR1 := hid (rv_new wr 3 #[.int .i64 p])
      have HK := hid (Bx.lt HS.out)
      have HX := hid hx
      have HY := hid hy
      have HTT := hid HT
      obtain ⟨A, c0, e0, -⟩ := ho.read
      rw [HL1.out] at e0
      subst e0
      have p0 : (0 : Int) ≤ (p : Int) := by omega
      have p1 : (p : Int) < 104 := by omega
      have HP := hid (show p < 104 from by omega)
      clear hb hr hx hin HT ho hg hy
      go_upto_region 7 with (go_at_call 147; refine (HB.out _).mono ?_; rintro e w' ⟨rfl, rfl⟩)
      go_wp2_with (at_builtin; go_loud (refine wpList_appW elt_int rfl (.tmp 26) (.tmp 28) rfl _ _ HO1.out rfl _ _ 1 1 [.int .i64 p] rfl rfl HR1.out (fun u hu => by simp at hu; subst hu; rfl) (by rw [HL1.out]; unfold maxLen; omega) (by rw [HL1.out]; omega) ?_); go_loud (intro v2 w2 hown2 hg2; have HG2 := hid (HG1.out.trans hg2); have HO2 := hid hown2; have hb2 := HG2.out.nilBelow; have cb := (HS.out.next hb2).cB HP.out; rw [HX.out] at cb; clear hown2 hg2 hb2))
      go_roundg (gk - 1)
      case measure => omega
      case rel => exact ⟨j + 1, v2, by omega, rfl, by rw [HY.out], by rw [HTT.out]; exact HO2.out, HG2.out⟩
    · obtain rfl : j = l.length := by omega
      have HB := hid (fun w => isblock_any w (nd l (64 + (i : Int)) l.length))
      rw [decide_eq_false (show ¬ vb _ from fun hh => by have := hb.1 hh; omega)] at HB
      rw [List.take_length] at ho
      have HO := hid ho
      have HG := hid hg
      obtain ⟨A, c0, e0, -⟩ := ho.read
      rw [ints_length] at e0
      subst e0
      clear hb hr ho hg
      generalize nd l (64 + (i : Int)) l.length = y at *
      go_wp2_with (go_at_call 147; refine (HB.out _).mono ?_; rintro e w' ⟨rfl, rfl⟩)
      go_ret
      exact ⟨_, _, rfl, HO.out, HG.out⟩
set_option maxHeartbeats 400000 in
theorem len_in (h : Sq w k S) {i : Nat} {l : List Int} (hl : S[i]? = some l) : Calls Tryz.prog 135 #[.pointer (some ⟨k, 0, none⟩), .int .i64 i] w fun e w' => e = .returned (.int .i64 l.length) ∧ Below w.heap.size w w' := by
  have HA := hid (all_in h hl)
  clear h hl
  go_enter Tryz.func135, Tryz.ntmps135
  go_wp2_with (go_at_call 138; refine HA.out.mono ?_; rintro e w' ⟨A, c, rfl, ho, hg⟩; have HG := hid hg.nilBelow; clear ho hg)
  go_ret
  exact ⟨rfl, HG.out⟩
/-- y stands in l behind place j -/
def behind (l : List Int) (j : Nat) (y : Int) : Prop := ∃ q, j < q ∧ l[q]? = some y











































































end
end Go.Proofs.YtmfdlkkligjcbaaGreat
