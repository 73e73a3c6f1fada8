/-
  What is proved: conf's getHint over bytes that are the beginning of a hint's: the hint, and where it ends, or the error that the bytes end within; it writes new memory alone. Condition: the hint's numbers are below 2^31.
-/
import Derived.Test.YtehmcnghincakaaGetN
import Derived.Test.YtehmcnghincakaaBx2
import Derived.Test.YtehmcnghincakaaSince
namespace Go.Proofs.Ytehmcnghincakaa
open Go.RowKit

/-- a hint's numbers -/
def hf (h : Hn) : Nat → Nat
  | 0 => h.f.toNat
  | 1 => h.s.toNat
  | _ => h.o.toNat
theorem encH_eq (h : Hn) : encH h = encN (hf h) 3 ++ [bit h.l] := by simp [encH, encN, hf]
def hcs (a b c : Int) (t : Bool) : Array Value := #[.int .i64 a, .int .i64 b, .int .i64 c, .bool t]
/-- a hint's cells when the first q numbers are set -/
def hmix (F : Nat → Nat) (q : Nat) : Array Value := hcs (mixC F q 0) (mixC F q 1) (mixC F q 2) false
theorem Bx.hset {w : World} {g : Nat} {t : TypeId} {F : Nat → Nat} {q : Nat} (h : Bx w g t (hmix F q)) (hq : q < 3) : Bx (w.setCell ⟨g, q, none⟩ (.int .i64 (F q : Nat))) g t (hmix F (q + 1)) := by
  have := h.set q (.int .i64 (F q : Nat))
  have e : (hmix F q).setIfInBounds q (.int .i64 (F q : Nat)) = hmix F (q + 1) := by
    match q, hq with
    | 0, _ => simp [hmix, hcs, mixC]
    | 1, _ => simp [hmix, hcs, mixC]
    | 2, _ => simp [hmix, hcs, mixC]
  rw [e] at this
  exact this

theorem infoPtr : (Try.prog.info? 45).map (fun i => (i.zero, i.size, i.bytes)) = some (some (.pointer none), 1, 8) := by kernel_rfl
theorem index3 (cs : Array Value) (i : Int) (q : Nat) (v : Value) (hi : i = q) (hq : q < 3) (hv : cs[q]? = some v) (w : World) : (Instr.index 68 (.agg cs) (.int .i64 i)).run Try.prog w = .ok v w := by
  subst hi
  obtain ⟨i, hi, hz, hs, hb⟩ := info_parts infoPtr
  have hagg : ∀ w, (isAgg 45).run Try.prog w = .ok false w := fun w => by unfold isAgg; rw [Sem.run_bind, run_underlying Try.underlying45 w]; rfl
  have h0 : (q : Int) < 3 := by omega
  simp [Instr.index, asIntOf, run_underlying Try.underlying68, part, hagg, hv, sizeOf, typeInfo, hi, hs, h0]
  intro h
  omega

theorem gettruth_yes (A : Option Addr) (c p L : Nat) (l r : List Int) (t : Bool) (k : Nat) (w : World) (C : Nat) (hL : Hid (l.length = L)) (hlen : L ≤ 35184372088832) (hx : p ≤ L) (ra : Rd w C A l) (hr : Hid (l.drop ((p : Int)).toNat = (bit t :: r).take k)) (hk : 1 ≤ k) :
    Calls Try.prog 30 #[.slice A L c, .int .i64 p] w fun e w' => e = .returned (.tuple #[.bool t, .int .i64 (p + 1 : Nat), .int .i64 0]) ∧ w = w' := by
  have e := hL.out
  subst e
  refine (gettruth_cut A c p l r t k w C hlen (by omega) (by omega) ra hr).mono ?_
  rintro e w' ⟨⟨_, rfl⟩ | ⟨h, _⟩, rfl⟩
  · exact ⟨rfl, rfl⟩
  · omega
theorem gettruth_no (A : Option Addr) (c p L : Nat) (l r : List Int) (t : Bool) (k : Nat) (w : World) (C : Nat) (hL : Hid (l.length = L)) (hlen : L ≤ 35184372088832) (hx : p ≤ L) (ra : Rd w C A l) (hr : Hid (l.drop ((p : Int)).toNat = (bit t :: r).take k)) (hk : ¬ 1 ≤ k) :
    Calls Try.prog 30 #[.slice A L c, .int .i64 p] w fun e w' => e = .returned (.tuple #[.bool false, .int .i64 0, .int .i64 1]) ∧ w = w' := by
  have e := hL.out
  subst e
  refine (gettruth_cut A c p l r t k w C hlen (by omega) (by omega) ra hr).mono ?_
  rintro e w' ⟨⟨h, _⟩ | ⟨_, rfl⟩, rfl⟩
  · omega
  · exact ⟨rfl, rfl⟩

set_option maxRecDepth 100000 in
set_option maxHeartbeats 4000000 in
theorem gethint_cut (A : Option Addr) (cb L C p0 : Nat) (h : Hn) (T R l : List Int) (w : World) (hL : l.length = L) (hp0 : p0 ≤ L) (hl : l.drop p0 = T.take (L - p0)) (hL5 : L ≤ 1000000) (hT : T = encH h ++ R) (hh : smallH h)
    (hb : ∀ x ∈ l, 0 ≤ x ∧ x ≤ 255) (ra : Rd w C A l) (hC : C ≤ w.heap.size) :
    Calls Try.prog 29 #[.slice A L cb, .int .i64 p0] w fun e w' => Below w.heap.size w w' ∧
      ((p0 + (encH h).length ≤ L ∧ e = .returned (.tuple #[.agg (hcs h.f h.s h.o h.l), .int .i64 (p0 + (encH h).length : Nat), .int .i64 0])) ∨
       (L < p0 + (encH h).length ∧ e = .returned (.tuple #[.agg (hcs 0 0 0 false), .int .i64 0, .int .i64 1]))) := by
  have hf3 : ∀ i, hf h i ≤ 2147483647 := fun i => by
    unfold smallH at hh
    match i with
    | 0 => show h.f.toNat ≤ _; omega
    | 1 => show h.s.toNat ≤ _; omega
    | n + 2 => show h.o.toNat ≤ _; omega
  have HL := hid hL
  have Hl := hid hl
  have HT := hid (show T = encN (hf h) 3 ++ ([bit h.l] ++ R) by rw [hT, encH_eq, List.append_assoc])
  have HE := hid (show (encH h).length = (encN (hf h) 3).length + 1 by rw [encH_eq, List.length_append]; rfl)
  have Hf := hid hf3
  have HB := hid hb
  have HH := hid hh
  have HA0 := hid (show Rd (w.alloc (.cells #[.int .i64 0, .int .i64 0, .int .i64 0, .bool false] 41)) C A l from ra.alloc hC _)
  have HX0 := hid (show Bx (w.alloc (.cells #[.int .i64 0, .int .i64 0, .int .i64 0, .bool false] 41)) w.heap.size 41 (hmix (hf h) 0) from Bx.new w 41 (hmix (hf h) 0))
  have HB0 := hid (show Below w.heap.size w (w.alloc (.cells #[.int .i64 0, .int .i64 0, .int .i64 0, .bool false] 41)) from below_alloc w _)
  clear hL hl hT hf3 hb ra
  go_enter Try.func29, Try.ntmps29
  go_wp2_with fail
  generalize (w.alloc (.cells #[.int .i64 0, .int .i64 0, .int .i64 0, .bool false] 41)) = w1 at *
  go_loopw [1, 13] (fun s i wr => ∃ q : Nat, i = .int .i64 q ∧ q ≤ 3 ∧ s = .int .i64 (p0 + (encN (hf h) q).length : Nat) ∧ p0 + (encN (hf h) q).length ≤ L ∧ Below w.heap.size w wr ∧ Bx wr w.heap.size 41 (hmix (hf h) q) ∧ Rd wr C A l) (fun _ i _ => 3 - (intOf i).toNat)
  case atStart => exact ⟨0, rfl, by omega, by simp [encN], by simp [encN]; omega, HB0.out, HX0.out, HA0.out⟩
  case round =>
    obtain ⟨q, rfl, hq, rfl, hpl, hb, hx, ha⟩ := hrel
    have HK := hid hb
    have HX := hid hx
    have HA := hid ha
    obtain ⟨p, hpp⟩ : ∃ p, p0 + (encN (hf h) q).length = p := ⟨_, rfl⟩
    have HPP := hid hpp
    rw [hpp] at hpl ⊢
    clear hpp hb hx ha
    by_cases hlt : q < 3
    · obtain ⟨x, hxe⟩ : ∃ x, hf h q = x := ⟨_, rfl⟩
      have hxl := Hf.out q
      rw [hxe] at hxl
      have HQ := hid hxe
      obtain ⟨r, hr⟩ := encN_drop HT.out hlt
      have hdrop : Hid (l.drop ((p : Int)).toNat = (enc x ++ r).take (L - p)) := hid (by rw [Int.toNat_natCast, ← HPP.out, ← List.drop_drop, Hl.out, List.drop_take, hr, hxe, Nat.sub_add_eq])
      have pc := HX.out.cell q
      have pf := HX.out.free q
      have pv : (hmix (hf h) q)[q]? = some (.int .i64 0) := by
        match q, hlt with
        | 0, _ => rfl
        | 1, _ => rfl
        | 2, _ => rfl
      rw [pv] at pc
      have hq1 : (encN (hf h) (q + 1)).length = (encN (hf h) q).length + (enc x).length := by rw [encN, List.length_append, hxe]
      have HQ1 := hid hq1
      have hmono := encN_mono (hf h) (show q + 1 ≤ 3 by omega)
      clear hr hxe pv hq1
      by_cases hk : (enc x).length ≤ L - p
      · have key : ∀ d : Nat, ∃ q1 : Nat, Value.int IntKind.i64 ((q : Int) + 1) = .int .i64 q1 ∧ q1 ≤ 3 ∧ Value.int IntKind.i64 ((p : Int) + ((enc x).length : Int)) = .int .i64 (p0 + (encN (hf h) q1).length : Nat) ∧ p0 + (encN (hf h) q1).length ≤ L ∧
            Below w.heap.size w ((wr.drewN d).setCell ⟨w.heap.size, q, none⟩ (.int .i64 x)) ∧ Bx ((wr.drewN d).setCell ⟨w.heap.size, q, none⟩ (.int .i64 x)) w.heap.size 41 (hmix (hf h) q1) ∧ Rd ((wr.drewN d).setCell ⟨w.heap.size, q, none⟩ (.int .i64 x)) C A l := fun d => by
          refine ⟨q + 1, by go_num, by omega, ?_, by rw [HQ1.out]; have := HPP.out; omega, below_set (below_draws HK.out d) _ _ (Nat.le_refl _), ?_, ?_⟩
          · congr 1
            rw [HQ1.out, ← HPP.out]
            omega
          · rw [← HQ.out]; exact Bx.hset (HX.out.draws d) hlt
          · exact (HA.out.drewN d).keep fun a ha => World.cell?_setCell_other _ _ _ _ (by intro e; rw [← e] at ha; exact absurd ha (by show ¬ w.heap.size < C; omega))
        have KEY := hid key
        clear key
        have i0 := fun W => index3 #[.pointer (some ⟨w.heap.size, 0, none⟩), .pointer (some ⟨w.heap.size, 1, none⟩), .pointer (some ⟨w.heap.size, 2, none⟩)] 0 0 _ rfl (by omega) rfl W
        have i1 := fun W => index3 #[.pointer (some ⟨w.heap.size, 0, none⟩), .pointer (some ⟨w.heap.size, 1, none⟩), .pointer (some ⟨w.heap.size, 2, none⟩)] 1 1 _ rfl (by omega) rfl W
        have i2 := fun W => index3 #[.pointer (some ⟨w.heap.size, 0, none⟩), .pointer (some ⟨w.heap.size, 1, none⟩), .pointer (some ⟨w.heap.size, 2, none⟩)] 2 2 _ rfl (by omega) rfl W
        rcases (show q = 0 ∨ q = 1 ∨ q = 2 by omega) with rfl | rfl | rfl
        all_goals
          go_wp2_with fail
          refine (get_cut_yes A cb p x (L - p) L l r _ C HL (by omega) (by omega) (by omega) HB HA.out (by omega) hdrop hk).mono ?_
          rintro e w4 ⟨rfl, d, rfl⟩
          go_wp2_with fail
          go_roundw
          case rel => exact KEY.out d
          case measure => simp [intOf]
      · have hk' : L < p0 + (encH h).length := by
          have := HE.out
          have := HQ1.out
          have := HPP.out
          omega
        have hbx : ∀ d u, Bx (((wr.drewN d).setCell ⟨w.heap.size, q, none⟩ u)) w.heap.size 41 ((hmix (hf h) q).setIfInBounds q u) := fun d u => (HX.out.draws d).set q u
        have HBX := hid hbx
        clear hbx
        have i0 := fun W => index3 #[.pointer (some ⟨w.heap.size, 0, none⟩), .pointer (some ⟨w.heap.size, 1, none⟩), .pointer (some ⟨w.heap.size, 2, none⟩)] 0 0 _ rfl (by omega) rfl W
        have i1 := fun W => index3 #[.pointer (some ⟨w.heap.size, 0, none⟩), .pointer (some ⟨w.heap.size, 1, none⟩), .pointer (some ⟨w.heap.size, 2, none⟩)] 1 1 _ rfl (by omega) rfl W
        have i2 := fun W => index3 #[.pointer (some ⟨w.heap.size, 0, none⟩), .pointer (some ⟨w.heap.size, 1, none⟩), .pointer (some ⟨w.heap.size, 2, none⟩)] 2 2 _ rfl (by omega) rfl W
        rcases (show q = 0 ∨ q = 1 ∨ q = 2 by omega) with rfl | rfl | rfl
        all_goals
          go_wp2_with fail
          refine (get_cut_no A cb p x (L - p) L l r _ C HL (by omega) (by omega) (by omega) HB HA.out (by omega) hdrop hk).mono ?_
          rintro e w4 ⟨rfl, d, rfl⟩
          go_wp2_with (refine wpList_store_bx rfl _ _ _ rfl rfl _ _ _ (hcs 0 0 0 false) rfl rfl (HBX.out d _) (by kernel_rfl) (by simp [hmix, hcs]) (by simp [hcs, Value.oneCell']) ?_)
          refine bodyPost_ret (results_bx3 rfl _ rfl (HBX.out d _).row Try.underlying41 rfl (by kernel_rfl)) rfl ?_
          exact ⟨below_setRow (below_set (below_draws HK.out d) _ _ (Nat.le_refl _)) (Nat.le_refl _) _, .inr ⟨hk', rfl⟩⟩
    · obtain rfl : q = 3 := by omega
      have hdrop : Hid (l.drop ((p : Int)).toNat = (bit h.l :: R).take (L - p)) := hid (by
        rw [Int.toNat_natCast, ← HPP.out, ← List.drop_drop, Hl.out, List.drop_take, HT.out, List.drop_left, Nat.sub_add_eq]; rfl)
      have pc : wr.cell? ⟨w.heap.size, 3, none⟩ = some (.bool false) := by rw [HX.out.cell]; rfl
      have pf := HX.out.free 3
      have hcl : (hmix (hf h) 3).setIfInBounds 3 (.bool h.l) = hcs h.f h.s h.o h.l := by
        have := HH.out
        unfold smallH at this
        simp [hmix, hcs, mixC, hf]
        omega
      have HCL := hid hcl
      have hbx : ∀ u, Bx ((wr.setCell ⟨w.heap.size, 3, none⟩ u)) w.heap.size 41 ((hmix (hf h) 3).setIfInBounds 3 u) := fun u => HX.out.set 3 u
      have HBX := hid hbx
      clear hcl hbx
      by_cases hk : 1 ≤ L - p
      · have hk' : p0 + (encH h).length ≤ L := by
          have := HE.out
          have := HPP.out
          omega
        have HBY := hid (HBX.out (.bool h.l))
        rw [HCL.out] at HBY
        go_wp2_with fail
        refine (gettruth_yes A cb p L l R h.l (L - p) _ C HL (by omega) (by omega) HA.out hdrop hk).mono ?_
        rintro e w4 ⟨rfl, rfl⟩
        go_wp2_with (first
          | (refine wpList_load_bx rfl _ _ rfl _ _ _ _ rfl HBY.out Try.underlying41 rfl (by kernel_rfl) ?_)
          | (refine wpList_store_bx rfl _ _ _ rfl rfl _ _ _ (hcs h.f h.s h.o h.l) rfl rfl HBY.out (by kernel_rfl) (by simp [hcs]) (by simp [hcs, Value.oneCell']) ?_))
        refine bodyPost_ret (results_bx3 rfl _ rfl HBY.out.row Try.underlying41 rfl (by kernel_rfl)) rfl ?_
        refine ⟨below_setRow (below_set HK.out _ _ (Nat.le_refl _)) (Nat.le_refl _) _, .inl ⟨hk', ?_⟩⟩
        rw [HE.out, ← Nat.add_assoc, HPP.out]
        rfl
      · have hk' : L < p0 + (encH h).length := by
          have := HE.out
          have := HPP.out
          omega
        go_wp2_with fail
        refine (gettruth_no A cb p L l R h.l (L - p) _ C HL (by omega) (by omega) HA.out hdrop hk).mono ?_
        rintro e w4 ⟨rfl, rfl⟩
        go_wp2_with (refine wpList_store_bx rfl _ _ _ rfl rfl _ _ _ (hcs 0 0 0 false) rfl rfl (HBX.out _) (by kernel_rfl) (by simp [hmix, hcs]) (by simp [hcs, Value.oneCell']) ?_)
        refine bodyPost_ret (results_bx3 rfl _ rfl (HBX.out _).row Try.underlying41 rfl (by kernel_rfl)) rfl ?_
        exact ⟨below_setRow (below_set HK.out _ _ (Nat.le_refl _)) (Nat.le_refl _) _, .inr ⟨hk', rfl⟩⟩
end Go.Proofs.Ytehmcnghincakaa
