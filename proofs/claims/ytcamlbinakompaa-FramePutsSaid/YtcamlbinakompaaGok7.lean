/-
  What is proved: frame's Get over a packet's bytes answers the packet; it writes new memory alone. Condition: the packet is right.
-/
import Derived.Test.YtcamlbinakompaaGbad7
import Derived.Test.YtcamlbinakompaaGetT7
import Derived.Test.YtcamlbinakompaaPut7
import Derived.Deep.DeepCutAuto
import Derived.Deep.CutBlock
import Derived.Deep.DeepMust
import Derived.BigFrame
namespace Go.Proofs.Ytcamlbinakompaa
open Go.RowKit

theorem fsummed_yes (A : Option Addr) (n c : Nat) (l : List Int) (w : World) (C : Nat) (hn : l.length = n) (hlen : n < 1000) (hc : n < c) (hcm : c ≤ maxLen) (hb : Hid (∀ y ∈ l, 0 ≤ y ∧ y ≤ 255)) (ra : Rd w C A (l ++ [sm l])) :
    Calls Try.prog 21 #[.slice A (n + 1 : Nat) c] w fun e w' => e = .returned (.tuple #[.slice A n c, .int .i64 0]) ∧ ∃ d, w' = w.drewN d := by
  have h := fsummed_any A n c l (sm l) w C hn hlen hc hcm hb ra
  rw [if_pos rfl] at h
  exact h

theorem own_far7 {w w' : World} {b e s : Nat} {v : Value} {n g : Nat} {us : List Value} (h : w.ownsRow b e s v n us) (hg : w.grownBy w' (some g)) (hb : g < b) : w'.ownsRow b e s v n us :=
  World.ownsRow.kept h hg (by
    rcases hob : v.ownBlock with _ | k
    · exact .inl rfl
    · right
      intro e
      injection e with e
      have := (World.ownsRow.lt h _ hob).1
      omega)

def nb (m y s a : Nat) : Nat → Nat
  | 0 => m
  | 1 => y
  | 2 => s
  | _ => a
theorem pre_next (m y s a q : Nat) (h : q < 4) : pre m y s a (q + 1) = pre m y s a q ++ enc (nb m y s a q) := by
  match q, h with
  | 0, _ => simp [pre, nb]
  | 1, _ => simp [pre, nb]
  | 2, _ => simp [pre, nb]
  | 3, _ => simp [pre, nb]
theorem body_split (m y s a : Nat) (ds : List Int) (q : Nat) (h : q < 4) : ∃ r, body m y s a ds = pre m y s a q ++ (enc (nb m y s a q) ++ r) := by
  match q, h with
  | 0, _ => exact ⟨_, by simp only [body, pre, nb, List.append_assoc]; rfl⟩
  | 1, _ => exact ⟨_, by simp only [body, pre, nb, List.append_assoc]; rfl⟩
  | 2, _ => exact ⟨_, by simp only [body, pre, nb, List.append_assoc]; rfl⟩
  | 3, _ => exact ⟨_, by simp only [body, pre, nb, List.append_assoc]; rfl⟩
/-- a packet's cells when q numbers are got -/
def pkq (m y s a : Nat) : Nat → Array Value
  | 0 => pk 0 0 0 0 none 0 0
  | 1 => pk m 0 0 0 none 0 0
  | 2 => pk m y 0 0 none 0 0
  | 3 => pk m y s 0 none 0 0
  | _ => pk m y s a none 0 0
theorem pkq_next (m y s a q : Nat) (h : q < 4) : (pkq m y s a q).setIfInBounds q (.int .i64 (nb m y s a q : Nat)) = pkq m y s a (q + 1) := by
  match q, h with
  | 0, _ => rfl
  | 1, _ => rfl
  | 2, _ => rfl
  | 3, _ => rfl

theorem get_at7 (A : Option Addr) (c L x : Nat) (l xs r : List Int) (w : World) (C : Nat) (hL : Hid (l.length = L)) (hlen : L ≤ 1000) (he : l = xs ++ (enc x ++ r)) (hb : Hid (∀ y ∈ l, 0 ≤ y ∧ y ≤ 255)) (ra : Rd w C A l) (hx : x ≤ 1099511627776) :
    Calls Try.prog 22 #[.slice A L c, .int .i64 (xs.length : Nat)] w fun e w' => e = .returned (.tuple #[.int .i64 (x : Nat), .int .i64 (((xs ++ enc x).length : Nat)), .int .i64 0]) ∧ ∃ d, w' = w.drewN d := by
  have hle : xs.length ≤ L := by rw [← hL.out, he, List.length_append]; omega
  have h := get_cut_yes A c xs.length x (enc x ++ r).length L l r w C hL (by omega) (by omega) hle hb ra (by omega) (hid (by rw [he, Int.toNat_natCast, List.drop_left, List.take_length])) (by rw [List.length_append]; omega)
  rw [List.length_append]
  exact h

theorem infoP7 : (Try.prog.info? 46).map (fun i => (i.zero, i.size, i.bytes)) = some (some (.pointer none), 1, 8) := by kernel_rfl
theorem indexP7 (cs : Array Value) (i : Int) (q : Nat) (v : Value) (hi : i = q) (hq : q < 4) (hv : cs[q]? = some v) (w : World) : (Instr.index 47 (.agg cs) (.int .i64 i)).run Try.prog w = .ok v w := by
  subst hi
  obtain ⟨i, hi, hz, hs, hb⟩ := info_parts infoP7
  have hagg : ∀ w, (isAgg 46).run Try.prog w = .ok false w := fun w => by unfold isAgg; rw [Sem.run_bind, run_underlying Try.underlying46 w]; rfl
  have h0 : (q : Int) < 4 := by omega
  simp [Instr.index, asIntOf, run_underlying Try.underlying47, part, hagg, hv, sizeOf, typeInfo, hi, hs]
  intro h
  omega

set_option maxRecDepth 100000 in
set_option maxHeartbeats 2000000 in
theorem fget_yes (A : Option Addr) (n c : Nat) (m y s a : Nat) (ds : List Int) (w : World) (C : Nat) (hy : RightP m y s a ds.length) (hn : (body m y s a ds).length = n) (hc : n < c) (hcm : c ≤ maxLen) (hd : ∀ x ∈ ds, 0 ≤ x ∧ x ≤ 255) (ra : Rd w C A (full m y s a ds)) (hC : C ≤ w.heap.size) :
    Calls Try.prog 13 #[.slice A (n + 1 : Nat) c] w fun e w' => ∃ E cq, e = .returned (.tuple #[.agg (pk m y s a E ds.length cq), .int .i64 0]) ∧ Rn w' E ds ∧ Below w.heap.size w w' := by
  have hm1 : m ≤ 1099511627776 := by have := hy.1; omega
  have hy1 : y ≤ 1099511627776 := by have := hy.2.1; omega
  have hs1 : s ≤ 1099511627776 := by have := hy.2.2.1; omega
  have ha1 : a ≤ 1099511627776 := by have := hy.2.2.2.1; omega
  have hn1 : ds.length ≤ 128 := hy.2.2.2.2.1
  have hq1 : ∀ q, nb m y s a q ≤ 1099511627776 := fun q => by unfold nb; split <;> assumption
  have HBL := body_len hm1 hy1 hs1 ha1 hn1
  rw [hn] at HBL
  have HDB := hid (body_byte (m := m) (y := y) (s := s) (a := a) hd)
  have X2 := Bx.new w 24 (pk 0 0 0 0 none 0 0)
  have K2 := below_alloc w (.cells (pk 0 0 0 0 none 0 0) 24)
  have Z2 := World.size_alloc w (.cells (pk 0 0 0 0 none 0 0) 24)
  have X4 := Bx.new (w.alloc (.cells (pk 0 0 0 0 none 0 0) 24)) 24 (pk 0 0 0 0 none 0 0)
  rw [Z2] at X4
  have HX2 := hid (X2.alloc (.cells (pk 0 0 0 0 none 0 0) 24))
  have HX4 := hid X4
  have HK4 := hid (on K2 (below_alloc _ (.cells (pk 0 0 0 0 none 0 0) 24)))
  have HR := hid ra
  have HN := hid hn
  have HR4 := hid ((ra.alloc hC (.cells (pk 0 0 0 0 none 0 0) 24)).alloc (by rw [Z2]; omega) (.cells (pk 0 0 0 0 none 0 0) 24))
  have S := hid (fun W (h : Rd W C A (full m y s a ds)) => fsummed_yes A n c (body m y s a ds) W C hn (by omega) hc hcm HDB h)
  have HY := hid hy
  have HQ1 := hid hq1
  have HD := hid hd
  clear X2 K2 Z2 X4 hn hy hq1 hd ra
  go_enter Try.func13, Try.ntmps13
  go_wp2
  go_step3
  go_wp2_with fail
  refine (S.out _ HR4.out).mono ?_
  rintro e w1 ⟨rfl, d, rfl⟩
  have HX2 := hid (HX2.out.draws d)
  have HX4 := hid (HX4.out.draws d)
  have HK4 := hid (below_draws HK4.out d)
  clear HR4
  generalize (((w.alloc (.cells (pk 0 0 0 0 none 0 0) 24)).alloc (.cells (pk 0 0 0 0 none 0 0) 24)).drewN d) = w1 at *
  go_wp2_with fail
  go_loopw [5, 7, 22] (fun p e i wr => ∃ q : Nat, i = .int .i64 q ∧ q ≤ 4 ∧ p = .int .i64 ((pre m y s a q).length : Nat) ∧ e = .int .i64 0 ∧ Bx wr w.heap.size 24 (pk 0 0 0 0 none 0 0) ∧ Bx wr (w.heap.size + 1) 24 (pkq m y s a q) ∧ Below w.heap.size w wr) (fun _ _ i _ => 4 - (intOf i).toNat)
  case atStart => exact ⟨0, rfl, by omega, rfl, rfl, HX2.out, HX4.out, HK4.out⟩
  case round =>
    obtain ⟨q, rfl, hq, rfl, rfl, x2, x4, k4⟩ := hrel
    have HA := hid ((Rd.front HR.out (show full m y s a ds = body m y s a ds ++ [sm (body m y s a ds)] from rfl)).below k4 hC)
    have HX2 := hid x2
    have HX4 := hid x4
    have HK4 := hid k4
    clear x2 x4 k4
    by_cases hlt : q < 4
    · obtain ⟨r, hr⟩ := body_split m y s a ds q hlt
      have G := get_at7 A c n (nb m y s a q) _ _ r wr C HN (by omega) hr HDB HA.out (HQ1.out q)
      rw [← pre_next m y s a q hlt] at G
      have KEY := hid (fun d => (pkq_next m y s a q hlt) ▸ (HX4.out.draws d).set q (.int .i64 (nb m y s a q : Nat)))
      have KZ := hid (fun d => Bx.far (HX2.out.draws d) ⟨w.heap.size + 1, q, none⟩ (.int .i64 (nb m y s a q : Nat)) (by show w.heap.size + 1 ≠ w.heap.size; omega))
      have KK := hid (fun d => below_set (below_draws HK4.out d) ⟨w.heap.size + 1, q, none⟩ (.int .i64 (nb m y s a q : Nat)) (by show w.heap.size ≤ w.heap.size + 1; omega))
      have hc4 : ∀ d, (wr.drewN d).cell? ⟨w.heap.size + 1, q, none⟩ = some (.int .i64 0) := fun d => by
        rw [(HX4.out.draws d).cell]
        match q, hlt with
        | 0, _ => rfl
        | 1, _ => rfl
        | 2, _ => rfl
        | 3, _ => rfl
      have hf4 : ∀ d, (wr.drewN d).frozen? ⟨w.heap.size + 1, q, none⟩ = false := fun d => (HX4.out.draws d).free q
      obtain ⟨P, hP⟩ : ∃ P, (pre m y s a q).length = P := ⟨_, rfl⟩
      obtain ⟨P', hP'⟩ : ∃ P, (pre m y s a (q + 1)).length = P := ⟨_, rfl⟩
      obtain ⟨x, hx⟩ : ∃ x, nb m y s a q = x := ⟨_, rfl⟩
      rw [hP, hP', hx] at G
      rw [hP]
      rw [hx] at KEY KZ KK
      have HG := hid G
      have HP' := hid hP'
      have HCC := hid hc4
      have HFF := hid hf4
      have i0 := fun W => indexP7 #[.pointer (some ⟨w.heap.size + 1, 0, none⟩), .pointer (some ⟨w.heap.size + 1, 1, none⟩), .pointer (some ⟨w.heap.size + 1, 2, none⟩), .pointer (some ⟨w.heap.size + 1, 3, none⟩)] 0 0 _ rfl (by omega) rfl W
      have i1 := fun W => indexP7 #[.pointer (some ⟨w.heap.size + 1, 0, none⟩), .pointer (some ⟨w.heap.size + 1, 1, none⟩), .pointer (some ⟨w.heap.size + 1, 2, none⟩), .pointer (some ⟨w.heap.size + 1, 3, none⟩)] 1 1 _ rfl (by omega) rfl W
      have i2 := fun W => indexP7 #[.pointer (some ⟨w.heap.size + 1, 0, none⟩), .pointer (some ⟨w.heap.size + 1, 1, none⟩), .pointer (some ⟨w.heap.size + 1, 2, none⟩), .pointer (some ⟨w.heap.size + 1, 3, none⟩)] 2 2 _ rfl (by omega) rfl W
      have i3 := fun W => indexP7 #[.pointer (some ⟨w.heap.size + 1, 0, none⟩), .pointer (some ⟨w.heap.size + 1, 1, none⟩), .pointer (some ⟨w.heap.size + 1, 2, none⟩), .pointer (some ⟨w.heap.size + 1, 3, none⟩)] 3 3 _ rfl (by omega) rfl W
      clear G hP hP' hx hr hc4 hf4
      rcases (show q = 0 ∨ q = 1 ∨ q = 2 ∨ q = 3 by omega) with rfl | rfl | rfl | rfl
      all_goals
        go_wp2_with fail
        refine HG.out.mono ?_
        rintro e w4 ⟨rfl, d, rfl⟩
        have pc := HCC.out d
        have pf := HFF.out d
        go_wp2_with fail
        go_roundw
        case rel => first | exact ⟨1, rfl, by omega, by rw [HP'.out], rfl, KZ.out d, KEY.out d, KK.out d⟩ | exact ⟨2, rfl, by omega, by rw [HP'.out], rfl, KZ.out d, KEY.out d, KK.out d⟩ | exact ⟨3, rfl, by omega, by rw [HP'.out], rfl, KZ.out d, KEY.out d, KK.out d⟩ | exact ⟨4, rfl, by omega, by rw [HP'.out], rfl, KZ.out d, KEY.out d, KK.out d⟩
        case measure => simp [intOf]
    · obtain rfl : q = 4 := by omega
      obtain ⟨nn, hnn⟩ : ∃ k, ds.length = k := ⟨_, rfl⟩
      obtain ⟨P, hP⟩ : ∃ P, (pre m y s a 4).length = P := ⟨_, rfl⟩
      have hb : body m y s a ds = pre m y s a 4 ++ (enc nn ++ (ds ++ [])) := by simp only [body, hnn, List.append_nil, List.append_assoc]
      have hlen : P + (enc nn).length + nn = n := by
        have h := HN.out
        rw [hb] at h
        simp only [List.length_append, List.length_nil, hP, hnn] at h
        omega
      have G := gettext_yes A c P nn (enc nn ++ (ds ++ [])).length n (body m y s a ds) ds [] wr C HN (by omega) (by omega) (by omega) HDB HA.out (Nat.le_trans hC HK4.out.size) (hid hnn) (by omega) (hid (by rw [hb, Int.toNat_natCast, ← hP, List.drop_left, List.take_length])) (by simp only [List.length_append, List.length_nil, hnn]; omega)
      rw [hlen] at G
      rw [hP]
      have HG := hid G
      have HNN := hid hnn
      rw [hnn] at hn1
      have hc4 : wr.cell? ⟨w.heap.size + 1, 4, none⟩ = some (.slice none 0 0) := by rw [HX4.out.cell]; rfl
      clear G hb hlen hnn hP
      go_wp2_with fail
      refine HG.out.mono ?_
      rintro e w5 ⟨v, rfl, hown, hb5⟩
      obtain ⟨E, cq, rfl, hre⟩ := Own.read hown
      rw [HNN.out] at hown ⊢
      have HX5 := hid (HX4.out.next hb5)
      have HZ5 := hid (HX2.out.next hb5)
      have HK5 := hid (on HK4.out hb5)
      have HE := hid hre
      have pc : w5.cell? ⟨w.heap.size + 1, 4, none⟩ = some (.slice none 0 0) := by rw [HX5.out.cell]; rfl
      have pf := HX5.out.free 4
      have hcells : (pkq m y s a 4).setIfInBounds 4 (.slice E nn cq) = pk m y s a E nn cq := rfl
      have X6 := HX5.out.set 4 (.slice E nn cq)
      rw [hcells] at X6
      have HX6 := hid X6
      have HZ6 := hid (HZ5.out.far ⟨w.heap.size + 1, 4, none⟩ (.slice E nn cq) (by show w.heap.size + 1 ≠ w.heap.size; omega))
      have HK6 := hid (below_set HK5.out ⟨w.heap.size + 1, 4, none⟩ (.slice E nn cq) (by show w.heap.size ≤ w.heap.size + 1; omega))
      have HO6 := hid (own_far7 hown (grown_set (World.grownBy.refl w5 (some (w.heap.size + 1))) 4 (.slice E nn cq)) (by have := HX4.out.lt; omega))
      clear hown hb5 hre X6 hcells hc4
      go_upto_region 13 with fail
      generalize w5.setCell ⟨w.heap.size + 1, 4, none⟩ (.slice E nn cq) = w6 at *
      clear pc pf
      have hnn0 : decide ((n : Int) < (n : Int)) = false := decide_eq_false (by omega)
      go_wp2_with (refine wpList_load_bx rfl 24 (.tmp 4) rfl _ _ _ _ rfl HX6.out Try.underlying24 rfl (by kernel_rfl) ?_)
      refine (right_any m y s a E nn cq _ (by unfold maxLen; omega)).mono ?_
      rintro e w7 ⟨rfl, hb7⟩
      rw [dec_true (by rw [← HNN.out]; exact HY.out)]
      have HX7 := hid (HX6.out.next hb7)
      have HZ7 := hid (HZ6.out.next hb7)
      have HK7 := hid (on HK6.out hb7)
      have HO7 := hid (Own.below HO6.out hb7)
      clear hb7
      go_wp2_with fail
      go_step3
      go_wp2_with (first
        | (refine wpList_load_bx rfl 24 (.tmp 4) rfl _ _ _ _ rfl HX7.out Try.underlying24 rfl (by kernel_rfl) ?_)
        | (refine wpList_store_bx rfl 24 (.tmp 2) (.tmp 58) rfl rfl _ _ _ (pk m y s a E nn cq) rfl rfl HZ7.out (by kernel_rfl) rfl (pk_one _ _ _ _ _ _ _) ?_))
      try rw [Exit.noGoto_ret]
      refine bodyPost_ret (results_bx2 rfl _ rfl HZ7.out.row Try.underlying24 rfl (by kernel_rfl)) rfl ?_
      refine ⟨E, cq, by rw [HNN.out]; rfl, ?_, below_setRow HK7.out (Nat.le_refl _) _⟩
      have ow := own_far7 HO7.out (grown_row w7 w.heap.size (pk m y s a E nn cq)) (by have := HX4.out.lt; omega)
      obtain ⟨_, _, e, hr⟩ := Own.read ow
      injection e with e1
      subst e1
      exact hr
end Go.Proofs.Ytcamlbinakompaa
