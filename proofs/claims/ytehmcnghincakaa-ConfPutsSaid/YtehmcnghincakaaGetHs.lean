/-
  What is proved: conf's getHints over bytes that are the beginning of what a configuration's numbers are followed by: the hints, and where the last one ends, or the error that the bytes end within; it writes new memory alone. Condition: at most eight hints, whose numbers are below 2^31.
-/
import Derived.Test.YtehmcnghincakaaGetH
import Derived.Test.YtehmcnghincakaaTurned
namespace Go.Proofs.Ytehmcnghincakaa
open Go.RowKit

theorem encHs_split (hh : Nat → Hn) : ∀ K q, q ≤ K → ∃ r, encHs hh K = encHs hh q ++ r
  | 0, q, h => ⟨[], by obtain rfl : q = 0 := by omega
                       rfl⟩
  | K + 1, q, h => by
    by_cases e : q = K + 1
    · subst e; exact ⟨[], by simp⟩
    · obtain ⟨r, hr⟩ := encHs_split hh K q (by omega)
      exact ⟨r ++ encH (hh K), by rw [encHs, hr, List.append_assoc]⟩
theorem encHs_drop {hh : Nat → Hn} {R : List Int} {K q : Nat} (h : q < K) : ∃ r, (encHs hh K ++ R).drop (encHs hh q).length = encH (hh q) ++ r := by
  obtain ⟨r, hr⟩ := encHs_split hh K (q + 1) (by omega)
  refine ⟨r ++ R, ?_⟩
  rw [hr, encHs, List.append_assoc, List.append_assoc, List.drop_left]
theorem encHs_mono (hh : Nat → Hn) {q K : Nat} (h : q ≤ K) : (encHs hh q).length ≤ (encHs hh K).length := by
  obtain ⟨r, hr⟩ := encHs_split hh K q h
  rw [hr, List.length_append]; omega
theorem hcs_hv (h : Hn) : (hcs h.f h.s h.o h.l).toList = hv h := rfl

/-- the hints, and where the last one ends -/
def GotHs (n p b : Nat) (hh : Nat → Hn) (e : Ending) (w' : World) : Prop := ∃ B cq, e = .returned (.tuple #[.slice B n cq, .int .i64 p, .int .i64 0]) ∧ OwnV w' b 41 4 (.slice B n cq) n (hvs hh n)

set_option maxRecDepth 100000 in
set_option maxHeartbeats 4000000 in
theorem gethints_cut (A : Option Addr) (cb L C p0 n : Nat) (hh : Nat → Hn) (T R l : List Int) (w : World) (hL : l.length = L) (hp0 : p0 ≤ L) (hl : l.drop p0 = T.take (L - p0)) (hL5 : L ≤ 1000000) (hT : T = enc n ++ (encHs hh n ++ R)) (hn : n ≤ 8)
    (hs : ∀ i, i < n → smallH (hh i)) (hb : ∀ x ∈ l, 0 ≤ x ∧ x ≤ 255) (ra : Rd w C A l) (hC : C ≤ w.heap.size) :
    Calls Try.prog 23 #[.slice A L cb, .int .i64 p0] w fun e w' => Below w.heap.size w w' ∧
      ((p0 + (enc n).length + (encHs hh n).length ≤ L ∧ GotHs n (p0 + (enc n).length + (encHs hh n).length) w.heap.size hh e w') ∨
       (L < p0 + (enc n).length + (encHs hh n).length ∧ e = .returned (.tuple #[.slice none 0 0, .int .i64 0, .int .i64 1]))) := by
  have HL := hid hL
  have Hl := hid hl
  have HT := hid hT
  have Hs := hid hs
  have HB := hid hb
  have HA0 := hid ra
  have hdrop : Hid (l.drop ((p0 : Int)).toNat = (enc n ++ (encHs hh n ++ R)).take (L - p0)) := hid (by rw [Int.toNat_natCast, hl, hT])
  clear hL hl hT hs hb ra
  go_enter Try.func23, Try.ntmps23
  by_cases hk : (enc n).length ≤ L - p0
  · go_wp2_with fail
    refine (get_cut_yes A cb p0 n (L - p0) L l (encHs hh n ++ R) _ C HL (by omega) (by omega) (by omega) HB HA0.out (by omega) hdrop hk).mono ?_
    rintro e w1 ⟨rfl, d, rfl⟩
    obtain ⟨p1, hp1⟩ : ∃ p, p0 + (enc n).length = p := ⟨_, rfl⟩
    rw [hp1]
    have HP1 := hid hp1
    have hp1L : p1 ≤ L := by omega
    have Hd1 := hid (show l.drop p1 = (encHs hh n ++ R).take (L - p1) by rw [← hp1, ← List.drop_drop, Hl.out, HT.out, List.drop_take, List.drop_left, Nat.sub_add_eq])
    clear hp1
    have h8 : ¬ (n : Int) > 8 := by omega
    go_wp2_with fail
    go_loopw [4, 5, 22] (fun s t i wr => ∃ q : Nat, i = .int .i64 q ∧ q ≤ n ∧ t = .int .i64 (p1 + (encHs hh q).length : Nat) ∧ p1 + (encHs hh q).length ≤ L ∧ OwnV wr w.heap.size 41 4 s q (hvs hh q) ∧ Below w.heap.size w wr ∧ Rd wr C A l) (fun _ _ i _ => n - (intOf i).toNat)
    case atStart => exact ⟨0, rfl, by omega, by simp [encHs], by simp [encHs]; omega, ownV_nil _ _ _ _, below_draws (Below.refl _ _) d, HA0.out⟩
    case round =>
      obtain ⟨q, rfl, hq, rfl, hpl, ho, hb, ha⟩ := hrel
      have HK := hid hb
      have HO := hid ho
      have HA := hid ha
      obtain ⟨p, hpp⟩ : ∃ p, p1 + (encHs hh q).length = p := ⟨_, rfl⟩
      have HPP := hid hpp
      rw [hpp] at hpl ⊢
      clear hpp hb ho ha
      by_cases hlt : q < n
      · have hlt' : (q : Int) < (n : Int) := by omega
        obtain ⟨r, hr⟩ := encHs_drop (hh := hh) (R := R) hlt
        have Hd := hid (show l.drop p = (encH (hh q) ++ r).take (L - p) by rw [← HPP.out, ← List.drop_drop, Hd1.out, List.drop_take, hr, Nat.sub_add_eq])
        have hsm := Hs.out q hlt
        obtain ⟨x, hxe⟩ : ∃ x, hh q = x := ⟨_, rfl⟩
        rw [hxe] at Hd hsm
        have HQ := hid hxe
        have hq1 : (encHs hh (q + 1)).length = (encHs hh q).length + (encH x).length := by rw [encHs, List.length_append, hxe]
        have HQ1 := hid hq1
        have hmono := encHs_mono hh (show q + 1 ≤ n by omega)
        clear hr hxe hq1
        have KA := hid (below_alloc wr (.cells #[.int .i64 0, .int .i64 0, .int .i64 0, .bool false] 41))
        have XA := hid (show Bx (wr.alloc (.cells #[.int .i64 0, .int .i64 0, .int .i64 0, .bool false] 41)) wr.heap.size 41 (hcs 0 0 0 false) from Bx.new wr 41 (hcs 0 0 0 false))
        have hCw : C ≤ wr.heap.size := Nat.le_trans hC HK.out.size
        by_cases hk2 : p + (encH x).length ≤ L
        · go_wp2_with fail
          refine (gethint_cut A cb L C p x _ r l _ HL.out hpl Hd.out hL5 rfl hsm HB.out (HA.out.alloc hCw _) (by rw [World.size_alloc]; omega)).mono ?_
          rintro e w4 ⟨hb4, ⟨_, rfl⟩ | ⟨h, _⟩⟩
          · have X4 := hid (XA.out.next hb4)
            have K4 := hid (on KA.out hb4)
            have K5 := hid (below_setRow K4.out (Nat.le_refl wr.heap.size) (hcs x.f x.s x.o x.l))
            have X5 := hid (show Bx (w4.setRow wr.heap.size (hcs x.f x.s x.o x.l)) wr.heap.size 41 #[.int .i64 x.f, .int .i64 x.s, .int .i64 x.o, .bool x.l] from X4.out.row)
            have K6 := hid (on K5.out (below_alloc _ (.cells #[.int .i64 x.f, .int .i64 x.s, .int .i64 x.o, .bool x.l] 41)))
            have O6 := hid (HO.out.below K6.out)
            have R6 := hid (show Rv ((w4.setRow wr.heap.size (hcs x.f x.s x.o x.l)).alloc (.cells #[.int .i64 x.f, .int .i64 x.s, .int .i64 x.o, .bool x.l] 41)) (w4.heap.size + 1) (some ⟨w4.heap.size, 0, none⟩) (hv x) from by have := rv_new (w4.setRow wr.heap.size (hcs x.f x.s x.o x.l)) 41 #[.int .i64 x.f, .int .i64 x.s, .int .i64 x.o, .bool x.l]; rw [setRow_size] at this; exact this)
            clear hb4
            go_wp2_with (first
              | (refine wpList_store_bx rfl _ _ _ rfl rfl _ _ _ (hcs x.f x.s x.o x.l) rfl rfl X4.out (by kernel_rfl) (by simp [hcs]) (by simp [hcs, Value.oneCell']) ?_)
              | (refine wpList_load_bx rfl _ _ rfl _ _ _ _ rfl X5.out Try.underlying41 rfl (by kernel_rfl) ?_)
              | (at_builtin; go_must (refine wpList_appV eHint rfl (.tmp 34) (.tmp 36) rfl w.heap.size _ q (hvs hh q) O6.out rfl _ _ 1 1 (hv x) rfl rfl R6.out (by simp [hv, Value.oneCell']) (by unfold maxLen; omega) (by omega) (Nat.le_trans HK.out.size K6.out.size) ?_); intro v7 w7 hown7 hg7; have HK7 := hid ((on HK.out K6.out).trans (hg7.below O6.out (Nat.le_trans HK.out.size K6.out.size))); have HO7 := hid hown7; clear hown7 hg7))
            go_roundw
            case rel =>
              refine ⟨q + 1, by go_num, by omega, ?_, by rw [HQ1.out]; have := HPP.out; omega, ?_, HK7.out, HA0.out.keep fun a ha => HK7.out.cell (Nat.lt_of_lt_of_le ha hC)⟩
              · congr 1
                rw [HQ1.out, ← HPP.out]
                omega
              · rw [hvs, HQ.out]; exact HO7.out
            case measure => simp [intOf]; omega
          · omega
        · have hk' : L < p0 + (enc n).length + (encHs hh n).length := by
            have := HQ1.out
            have := HPP.out
            have := HP1.out
            omega
          go_wp2_with fail
          refine (gethint_cut A cb L C p x _ r l _ HL.out hpl Hd.out hL5 rfl hsm HB.out (HA.out.alloc hCw _) (by rw [World.size_alloc]; omega)).mono ?_
          rintro e w4 ⟨hb4, ⟨h, _⟩ | ⟨_, rfl⟩⟩
          · omega
          · have X4 := hid (XA.out.next hb4)
            have K4 := hid (on KA.out hb4)
            have K5 := hid (below_setRow K4.out (Nat.le_refl wr.heap.size) (hcs 0 0 0 false))
            clear hb4
            go_wp2_with (refine wpList_store_bx rfl _ _ _ rfl rfl _ _ _ (hcs 0 0 0 false) rfl rfl X4.out (by kernel_rfl) (by simp [hcs]) (by simp [hcs, Value.oneCell']) ?_)
            go_ret3
            exact ⟨on HK.out K5.out, .inr ⟨hk', rfl⟩⟩
      · have hlt' : ¬ (q : Int) < (n : Int) := by omega
        obtain rfl : q = n := by omega
        have HO' := HO.out
        obtain ⟨B, cq, rfl, _, _, _⟩ := HO.out.read
        have HRB := hid HO'
        clear HO'
        go_wp2_with fail
        go_ret3
        exact ⟨HK.out, .inl ⟨by rw [HP1.out, HPP.out]; exact hpl, B, cq, by rw [HP1.out, HPP.out]; rfl, HRB.out⟩⟩
  · have hk' : L < p0 + (enc n).length + (encHs hh n).length := by omega
    go_wp2_with fail
    refine (get_cut_no A cb p0 n (L - p0) L l (encHs hh n ++ R) _ C HL (by omega) (by omega) (by omega) HB HA0.out (by omega) hdrop hk).mono ?_
    rintro e w1 ⟨rfl, d, rfl⟩
    go_wp2_with fail
    go_ret3
    exact ⟨below_draws (Below.refl _ _) d, .inr ⟨hk', rfl⟩⟩
end Go.Proofs.Ytehmcnghincakaa
