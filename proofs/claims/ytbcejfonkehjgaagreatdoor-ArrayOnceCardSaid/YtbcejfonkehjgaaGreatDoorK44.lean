/-
  What is proved: msg's places answers the places of a message's fields that are among the bits, in order; it writes new memory alone. Condition: the bits are below 2^63.
-/
import Derived.Test.YtbcejfonkehjgaaGreatDoorK43
import Derived.Deep.DeepMust
import Derived.Test.YtbcejfonkehjgaaGreatDoorK29
import Derived.Test.YtbcejfonkehjgaaGreatDoorK02
import Derived.Test.YtbcejfonkehjgaaGreatDoorK32
namespace Go.Proofs.YtbcejfonkehjgaaGreatDoor
open Go.RowKit

theorem ePlace : Elt Tryz.prog 115 124 (.agg (pcl 0 0 0)) 6 48 := ⟨Tryz.underlying115, by kernel_rfl, rfl, by decide⟩
def pcs (g : Nat) : List Nat → List Value
  | [] => []
  | f :: r => (pcl g f (mo f)).toList ++ pcs g r
theorem pcs_app (g : Nat) : ∀ a b : List Nat, pcs g (a ++ b) = pcs g a ++ pcs g b
  | [], _ => rfl
  | f :: r, b => by rw [List.cons_append, pcs, pcs_app g r b, pcs, List.append_assoc]
theorem pcl_size (g f : Nat) (m : Int) : (pcl g f m).size = 6 := rfl
theorem pcl_one (g f : Nat) (m : Int) : (pcl g f m).all (·.oneCell') = true := by simp [pcl, pin, Value.oneCell']
theorem pcl_one' (g f : Nat) (m : Int) : ∀ u ∈ (pcl g f m).toList, u.oneCell' = true := by simp [pcl, pin, Value.oneCell']
theorem pcs_at (g : Nat) : ∀ (l : List Nat) (i : Nat) (h : i < l.length), ∀ j, j < 6 → (pcs g l)[i * 6 + j]? = (pcl g (l[i]'h) (mo (l[i]'h)))[j]?
  | f :: r, 0, _, j, hj => by
    rw [pcs, Nat.zero_mul, Nat.zero_add, List.getElem?_append_left (by rw [Array.length_toList, pcl_size]; exact hj), Array.getElem?_toList]
    rfl
  | f :: r, i + 1, h, j, hj => by
    rw [pcs, List.getElem?_append_right (by rw [Array.length_toList, pcl_size]; omega), Array.length_toList, pcl_size, show (i + 1) * 6 + j - 6 = i * 6 + j by omega]
    exact pcs_at g r i (by simpa using h) j hj
def lenOf : Value → Nat
  | .slice _ n _ => n
  | _ => 0

theorem lenOf_own {w : World} {b s n : Nat} {e : TypeId} {v : Value} {us : List Value} (h : OwnV w b e s v n us) : lenOf v = n := by
  obtain ⟨A, c, rfl, _⟩ := OwnV.read h
  rfl

set_option maxRecDepth 100000 in
set_option maxHeartbeats 400000 in
theorem mplaces_any (g x : Nat) (hx : x < 9223372036854775808) (w : World) :
    Calls Tryz.prog 60 #[.pointer (some ⟨g, 0, none⟩), .int .u64 x] w fun e w' => ∃ v, e = .returned v ∧ OwnV w' w.heap.size 124 6 v (fl x 1).length (pcs g (fl x 1)) ∧ Below w.heap.size w w' := by
  have HX := hid hx
  clear hx
  go_enter Tryz.func60, Tryz.ntmps60
  go_wp2_with fail
  refine (find_any g x 1 HX.out _ (by omega)).mono ?_
  rintro e w1 ⟨rfl, hb1⟩
  have HB1 := hid hb1
  clear hb1
  go_wp2_with (refine wpList_store_new rfl _ _ _ rfl rfl _ (pcl g (nx4 x 1) (mo (nx4 x 1))) rfl rfl (by kernel_rfl) rfl (pcl_one _ _ _) ?_)
  have HK := hid (on HB1.out (below_alloc w1 (.cells (pcl g (nx4 x 1) (mo (nx4 x 1))) 124)))
  have HP := hid (Bx.new w1 124 (pcl g (nx4 x 1) (mo (nx4 x 1))))
  have HF := hid (nx_spec x 1 (by omega) (by omega))
  generalize w1.alloc (.cells (pcl g (nx4 x 1) (mo (nx4 x 1))) 124) = w2 at *
  generalize w1.heap.size = k at *
  generalize nx4 x 1 = f0 at *
  go_loopw [5, 6] (fun s p wr => ∃ (f h : Nat) (done : List Nat), p = .pointer (some ⟨h, 0, none⟩) ∧ Bx wr h 124 (pcl g f (mo f)) ∧ OwnV wr w.heap.size 124 6 s done.length (pcs g done) ∧ Below w.heap.size w wr ∧ s.ownBlock ≠ some h ∧
    ((f = 0 ∧ done = fl x 1) ∨ (1 ≤ f ∧ f ≤ 10 ∧ done ++ f :: fl x (f + 1) = fl x 1))) (fun s _ _ => 10 - lenOf s)
  case atStart => exact ⟨f0, k, [], rfl, HP.out, ownV_nil _ _ _ _, HK.out, by simp [Value.ownBlock], by
    rcases HF.out with ⟨h1, h2⟩ | ⟨h1, h2, _, h4⟩
    · exact .inl ⟨h1, h2.symm⟩
    · exact .inr ⟨h1, h2, h4.symm⟩⟩
  case round =>
    obtain ⟨f, h, done, rfl, hp, ho, hb, hne0, hd⟩ := hrel
    have HNE := hid hne0
    have HP2 := hid hp
    have HO := hid ho
    have HK2 := hid hb
    have HD := hid hd
    have p0 : wr.cell? ⟨h, 0, none⟩ = some (.int .i64 (f : Int)) := by rw [hp.cell]; rfl
    clear hp ho hb hd hne0
    rcases HD.out with ⟨rfl, rfl⟩ | ⟨h1, h2, h3⟩
    · go_wp2_with fail
      go_ret
      exact ⟨_, rfl, HO.out, HK2.out⟩
    · have hlen := congrArg List.length h3
      rw [List.length_append, List.length_cons] at hlen
      have hl10 := fl_len10 x
      have HN := hid (show done.length + 1 ≤ 10 by omega)
      have H3 := hid h3
      have hne : ((f : Int) != 0) = true := by simp; omega
      have hf10 : (f : Int) + 1 ≤ 11 := by omega
      clear hlen h3 HD hl10
      obtain ⟨A1, A2, A3, A4, hA⟩ : ∃ A1 A2 A3 A4, pcl g f (mo f) = #[.int .i64 f, A1, A2, A3, A4, .int .i64 (mo f)] := ⟨_, _, _, _, rfl⟩
      obtain ⟨m, hm⟩ : ∃ m, mo f = m := ⟨_, rfl⟩
      rw [hm] at hA
      have HA := hid hA
      have HM := hid hm
      have p1 : wr.cell? ⟨h, 1, none⟩ = some A1 := by rw [HP2.out.cell, hm, hA]; rfl
      have p2 : wr.cell? ⟨h, 2, none⟩ = some A2 := by rw [HP2.out.cell, hm, hA]; rfl
      have p3 : wr.cell? ⟨h, 3, none⟩ = some A3 := by rw [HP2.out.cell, hm, hA]; rfl
      have p4 : wr.cell? ⟨h, 4, none⟩ = some A4 := by rw [HP2.out.cell, hm, hA]; rfl
      have p5 : wr.cell? ⟨h, 5, none⟩ = some (.int .i64 m) := by rw [HP2.out.cell, hm, hA]; rfl
      have O3 := hid (World.ownsRow.alloc HO.out (.cells #[.int .i64 f, A1, A2, A3, A4, .int .i64 m] 124))
      have P3 := hid (HP2.out.alloc (.cells #[.int .i64 f, A1, A2, A3, A4, .int .i64 m] 124))
      have K3 := hid (on HK2.out (below_alloc wr (.cells #[.int .i64 f, A1, A2, A3, A4, .int .i64 m] 124)))
      have hbs : w.heap.size ≤ (wr.alloc (.cells #[.int .i64 f, A1, A2, A3, A4, .int .i64 m] 124)).heap.size := K3.out.size
      have hdn : done.length + 1 ≤ 10 := HN.out
      clear hm hA
      go_wp2_with (first
       | (at_builtin; go_must (refine wpList_appV ePlace rfl (.tmp 19) (.tmp 21) rfl w.heap.size _ _ _ O3.out rfl _ _ 1 1 [.int .i64 f, A1, A2, A3, A4, .int .i64 m] rfl rfl (rv_new wr _ _) (by rw [show [Value.int .i64 f, A1, A2, A3, A4, .int .i64 m] = (pcl g f (mo f)).toList by rw [HM.out, HA.out]]; exact pcl_one' _ _ _) (by unfold maxLen; omega) (by omega) hbs ?_); intro v4 w4 hown4 hg4; have O4 := hid hown4; have K4 := hid (K3.out.trans (hg4.below O3.out hbs)); have K4r := hid (show wr.heap.size ≤ w4.heap.size from by have h1 := hg4.1.size; rw [World.size_alloc] at h1; omega); have P4 := hid (P3.out.apart hg4.1 (fun e => HNE.out e.symm)); clear hown4 hg4 p0 p1 p2 p3 p4 p5; have P4' := P4.out; rw [HM.out, HA.out] at P4'; have p0 := P4'.cell 0; have p1 := P4'.cell 1; have p2 := P4'.cell 2; have p3 := P4'.cell 3; have p4 := P4'.cell 4; have p5 := P4'.cell 5; clear P4'; simp only [List.getElem?_toArray, List.getElem?_cons_zero, List.getElem?_cons_succ] at p0 p1 p2 p3 p4 p5)
       | (refine wpList_store_new rfl _ _ _ rfl rfl _ #[.int .i64 f, A1, A2, A3, A4, .int .i64 m] rfl rfl (by kernel_rfl) rfl (by have := pcl_one g f (mo f); rw [HM.out, HA.out] at this; exact this) ?_))
      refine (find_any g x (f + 1) HX.out _ (by omega)).mono ?_
      rintro e w5 ⟨rfl, hb5⟩
      have P5 := hid ((Bx.new w4 124 #[.int .i64 f, A1, A2, A3, A4, .int .i64 m]).next hb5)
      have K5 := hid (on (on K4.out (below_alloc w4 (.cells #[.int .i64 f, A1, A2, A3, A4, .int .i64 m] 124))) hb5)
      have O5 := hid (OwnV.below (World.ownsRow.alloc O4.out (.cells #[.int .i64 f, A1, A2, A3, A4, .int .i64 m] 124)) hb5)
      have L4 := hid (show v4.ownBlock ≠ some w4.heap.size from fun e => by have := (World.ownsRow.lt O4.out _ e).2; omega)
      have HF5 := hid (nx_spec x (f + 1) (by omega) (by omega))
      have C4 := hid (show pcs g done ++ [.int .i64 f, A1, A2, A3, A4, .int .i64 m] = pcs g (done ++ [f]) by
        rw [pcs_app, pcs, pcs, HM.out, HA.out, List.append_nil])
      have HP4 := hid (show wr.heap.size ≤ w4.heap.size from by have := K4r.out; exact this)
      generalize w4.heap.size = h4 at *
      clear hb5
      go_wp2_with (refine wpList_store_bx rfl 124 (.tmp 6) (.tmp 18) rfl rfl _ _ _ (pcl g (nx4 x (f + 1)) (mo (nx4 x (f + 1)))) rfl rfl P5.out (by kernel_rfl) rfl (pcl_one _ _ _) ?_)
      go_roundw
      case rel =>
        refine ⟨nx4 x (f + 1), h4, done ++ [f], rfl, P5.out.row, ?_, below_setRow K5.out ?_ _, L4.out, ?_⟩
        · rw [← C4.out, List.length_append]
          exact World.ownsRow.kept O5.out (grown_row w5 h4 _) (.inr L4.out)
        · exact Nat.le_trans HK2.out.size (by have := HP4.out; omega)
        · have e : done ++ [f] ++ fl x (f + 1) = fl x 1 := by rw [List.append_assoc]; exact H3.out
          rcases HF5.out with ⟨a1, a2⟩ | ⟨a1, a2, _, a4⟩
          · left
            rw [a2, List.append_nil] at e
            exact ⟨a1, e⟩
          · right
            rw [a4] at e
            exact ⟨by omega, a2, e⟩
      case measure =>
        have l1 := lenOf_own HO.out
        have l2 := lenOf_own O5.out
        rw [l1, l2]
        omega
end Go.Proofs.YtbcejfonkehjgaaGreatDoor
namespace Go.Proofs.YtbcejfonkehjgaaGreatDoor
open Go.RowKit

def bit (t : Bool) : Int := if t then 1 else 0













end Go.Proofs.YtbcejfonkehjgaaGreatDoor
namespace Go.Proofs.YtbcejfonkehjgaaGreatDoor
open Go.RowKit

theorem Bs.next {w w' : World} {v : Value} {l : List Int} (h : Bs w v l) (hb : Below w.heap.size w w') : Bs w' v l := by
  obtain ⟨A, c, e, r, h1⟩ := h
  exact ⟨A, c, e, r.now hb, h1⟩

end Go.Proofs.YtbcejfonkehjgaaGreatDoor
namespace Go.Proofs.YtbcejfonkehjgaaGreatDoor
open Go.RowKit

def msgC (c : Nat → Int) (gr : Bool) (A : Option Addr) (n cp : Nat) : Array Value := #[.int .i64 (c 0), .int .i64 (c 1), .int .i64 (c 2), .int .i64 (c 3), .int .i64 (c 4), .int .i64 (c 5), .int .i64 (c 6), .int .i64 (c 7), .int .i64 (c 8), .bool gr, .slice A n cp]
def me (c : Nat → Int) (gr : Bool) (n : Nat) : Nat → Int
  | 9 => if gr then 1 else 0
  | 10 => n
  | f => c f
theorem pcl_lit (g : Nat) (m : Int) : pcl g 1 m = #[.int .i64 1, .pointer (some ⟨g, 1, none⟩), .pointer none, .pointer none, .pointer none, .int .i64 m] ∧
    pcl g 2 m = #[.int .i64 2, .pointer (some ⟨g, 2, none⟩), .pointer none, .pointer none, .pointer none, .int .i64 m] ∧
    pcl g 3 m = #[.int .i64 3, .pointer (some ⟨g, 3, none⟩), .pointer none, .pointer none, .pointer none, .int .i64 m] ∧
    pcl g 4 m = #[.int .i64 4, .pointer (some ⟨g, 4, none⟩), .pointer none, .pointer none, .pointer none, .int .i64 m] ∧
    pcl g 5 m = #[.int .i64 5, .pointer (some ⟨g, 5, none⟩), .pointer none, .pointer none, .pointer none, .int .i64 m] ∧
    pcl g 6 m = #[.int .i64 6, .pointer (some ⟨g, 6, none⟩), .pointer none, .pointer none, .pointer none, .int .i64 m] ∧
    pcl g 7 m = #[.int .i64 7, .pointer (some ⟨g, 7, none⟩), .pointer none, .pointer none, .pointer none, .int .i64 m] ∧
    pcl g 8 m = #[.int .i64 8, .pointer none, .pointer (some ⟨g, 8, none⟩), .pointer none, .pointer none, .int .i64 m] ∧
    pcl g 9 m = #[.int .i64 9, .pointer none, .pointer none, .pointer (some ⟨g, 9, none⟩), .pointer none, .int .i64 m] ∧
    pcl g 10 m = #[.int .i64 10, .pointer none, .pointer none, .pointer none, .pointer (some ⟨g, 10, none⟩), .int .i64 m] := ⟨rfl, rfl, rfl, rfl, rfl, rfl, rfl, rfl, rfl, rfl⟩

theorem ret_bool {a b : Bool} (h : a = b) : Ending.returned (.bool a) = .returned (.bool b) := by rw [h]
def kn (k : Int) : Bool := decide (1 ≤ k ∧ k ≤ 14)
theorem known_any (k : Int) (w : World) : Calls Tryz.prog 59 #[.int .i64 k] w fun e w' => e = .returned (.bool (kn k)) ∧ w = w' := by
  go_enter Tryz.func59, Tryz.ntmps59
  go_wp2
  all_goals
    go_ret
    refine ⟨ret_bool ?_, rfl⟩
    unfold kn
    rw [Bool.eq_iff_iff]
    simp only [decide_eq_true_eq, Bool.false_eq_true, false_iff]
    omega

set_option maxRecDepth 100000 in
set_option maxHeartbeats 1000000 in
theorem measure_any (c : Nat → Int) (gr : Bool) (A : Option Addr) (n cp g f : Nat) (m : Int) (w : World) (hf : 1 ≤ f ∧ f ≤ 10) (hX : Bx w g 40 (msgC c gr A n cp)) :
    Calls Tryz.prog 61 #[.agg (pcl g f m)] w fun e w' => e = .returned (.int .i64 (me c gr n f)) ∧ Below w.heap.size w w' := by
  have X := hX.alloc (.cells (pcl g f m) 124)
  have hc : (w.alloc (.cells (pcl g f m) 124)).cell? ⟨g, f, none⟩ = (msgC c gr A n cp)[f]? := X.cell f
  clear X hX
  obtain ⟨h1, h2⟩ := hf
  cases gr
  all_goals
   match f, h1, h2 with
   | 1, _, _ | 2, _, _ | 3, _, _ | 4, _, _ | 5, _, _ | 6, _, _ | 7, _, _ | 8, _, _ | 9, _, _ | 10, _, _ =>
    obtain ⟨q1, q2, q3, q4, q5, q6, q7, q8, q9, q10⟩ := pcl_lit g m
    simp only [q1, q2, q3, q4, q5, q6, q7, q8, q9, q10, msgC, List.getElem?_toArray, List.getElem?_cons_zero, List.getElem?_cons_succ] at hc ⊢
    clear q1 q2 q3 q4 q5 q6 q7 q8 q9 q10
    go_enter Tryz.func61, Tryz.ntmps61
    go_wp2
    all_goals
      go_ret
      exact ⟨rfl, below_alloc w _⟩
   | n + 11, _, h => omega
end Go.Proofs.YtbcejfonkehjgaaGreatDoor
