/-
  What is proved: conf's Put answers a configuration's bytes, or that it may not be; what it writes lies in new memory. Condition: its hints are read as such.
-/
import Derived.Test.YtehmcnghincakaaEncC
namespace Go.Proofs.Ytehmcnghincakaa
open Go.RowKit

/-- the value is a slice that reads as these bytes -/
def Bs (w : World) (v : Value) (l : List Int) : Prop := ∃ A c, v = .slice A l.length c ∧ Rn w A l ∧ l.length ≤ c ∧ c ≤ maxLen
theorem Own.bs {w : World} {b : Nat} {v : Value} {l : List Int} (h : Own w b v l) : Bs w v l := h.shape
theorem Bs.next {w w' : World} {v : Value} {l : List Int} (h : Bs w v l) (hb : Below w.heap.size w w') : Bs w' v l := by
  obtain ⟨A, c, e, r, h1⟩ := h
  exact ⟨A, c, e, r.now hb, h1⟩

set_option maxRecDepth 100000 in
set_option maxHeartbeats 1000000 in
theorem puthint_any (A : Option Addr) (n ca : Nat) (p : Hn) (xs : List Int) (w : World) (hn : xs.length = n) (hlen : n ≤ 1000000) (hp : smallH p) (rx : Rn w A xs) :
    Calls Try.prog 18 #[.slice A n ca, .agg #[.int .i64 p.f, .int .i64 p.s, .int .i64 p.o, .bool p.l]] w fun e w' => ∃ v, e = .returned v ∧ Bs w' v (xs ++ encH p) ∧ Below w.heap.size w w' := by
  obtain ⟨f, s, o, l⟩ := p
  unfold smallH at hp
  dsimp only at hp ⊢
  have h1 := enc_len9 f.toNat (by omega)
  have h2 := enc_len9 s.toNat (by omega)
  have h3 := enc_len9 o.toNat (by omega)
  have hx := hbox_new w ⟨f, s, o, l⟩ 41
  have hb0 := below_alloc w (.cells #[.int .i64 f, .int .i64 s, .int .i64 o, .bool l] 41)
  go_enter Try.func18, Try.ntmps18
  go_wp2_with fail
  refine (put_any A n ca f xs _ _ hn (by omega) (by omega) (rx.alloc _) (Nat.le_refl _)).mono ?_
  rintro e w1 ⟨v1, rfl, hown1, hb1⟩
  obtain ⟨A1, c1, rfl, r1⟩ := hown1.read
  replace hx := hx.next hb1
  have HB := hid (on hb0 hb1)
  have hx1 := hx.s
  dsimp only at hx1
  clear hown1 hb1 hb0
  go_wp2_with fail
  refine (put_any A1 _ c1 s _ _ _ (by simp [hn]) (by omega) (by omega) r1 (Nat.le_refl _)).mono ?_
  rintro e w2 ⟨v2, rfl, hown2, hb2⟩
  obtain ⟨A2, c2, rfl, r2⟩ := hown2.read
  replace hx := hx.next hb2
  have HB2 := hid (on HB.out hb2)
  have hx2 := hx.o
  dsimp only at hx2
  clear hown2 hb2 hx1 HB
  go_wp2_with fail
  refine (put_any A2 _ c2 o _ _ _ (by simp [hn]) (by omega) (by omega) r2 (Nat.le_refl _)).mono ?_
  rintro e w3 ⟨v3, rfl, hown3, hb3⟩
  obtain ⟨A3, c3, rfl, r3⟩ := hown3.read
  replace hx := hx.next hb3
  have HB3 := hid (on HB2.out hb3)
  have hx3 := hx.l
  dsimp only at hx3
  clear hown3 hb3 hx2 HB2
  go_wp2_with fail
  refine (puttruth_any A3 _ c3 l _ _ _ (by simp [hn]) (by omega) r3 (Nat.le_refl _)).mono ?_
  rintro e w4 ⟨v4, rfl, hown4, hb4⟩
  go_wp2
  go_ret
  refine ⟨_, rfl, ?_, on HB3.out hb4⟩
  have e : xs ++ encH ⟨f, s, o, l⟩ = xs ++ enc f.toNat ++ enc s.toNat ++ enc o.toNat ++ [bit l] := by simp [encH]
  rw [e]
  exact hown4.bs

/-- the loop of the numbers, and that of the hints -/
theorem putc_no (A : Option Addr) (n cp : Nat) (c : Nat → Int) (hh : Nat → Hn) (w : World) (hn : n ≤ maxLen) (hr : Rv w w.heap.size A (hvs hh n)) (hno : ¬ RightP c hh n) :
    Calls Try.prog 7 #[.agg (cfgC c A n cp)] w fun e w' => e = .returned (.tuple #[.slice none 0 0, .int .i64 6]) ∧ Below w.heap.size w w' := by
  have hX := Bx.new w 25 (cfgC c A n cp)
  have hb0 := below_alloc w (.cells (cfgC c A n cp) 25)
  go_enter Try.func7, Try.ntmps7
  go_wp2_with (refine wpList_load_bx rfl _ _ rfl _ _ _ _ rfl hX Try.underlying25 rfl (by kernel_rfl) ?_)
  refine (right_any A n cp c hh _ hn (hr.now hb0)).mono ?_
  rintro e w1 ⟨rfl, hb1⟩
  rw [dec_false hno]
  go_wp2
  go_ret2
  exact ⟨rfl, on hb0 hb1⟩

set_option maxRecDepth 100000 in
set_option maxHeartbeats 4000000 in
theorem putc_yes (A : Option Addr) (n cp : Nat) (c : Nat → Int) (hh : Nat → Hn) (w : World) (hr : Rv w w.heap.size A (hvs hh n)) (hyes : RightP c hh n) :
    Calls Try.prog 7 #[.agg (cfgC c A n cp)] w fun e w' => ∃ v, e = .returned (.tuple #[v, .int .i64 0]) ∧ Bs w' v (full c hh n) ∧ Below w.heap.size w w' := by
  have hX := Bx.new w 25 (cfgC c A n cp)
  have hb0 := below_alloc w (.cells (cfgC c A n cp) 25)
  have hn8 : n ≤ 8 := hyes.2.2.2.1
  go_enter Try.func7, Try.ntmps7
  go_wp2_with (refine wpList_load_bx rfl _ _ rfl _ _ _ _ rfl hX Try.underlying25 rfl (by kernel_rfl) ?_)
  refine (right_any A n cp c hh _ (by unfold maxLen; omega) (hr.now hb0)).mono ?_
  rintro e w1 ⟨rfl, hb1⟩
  rw [dec_true hyes]
  have HX1 := hid (hX.next hb1)
  have HB1 := hid (on hb0 hb1)
  have HY := hid hyes
  have HR := hid hr
  clear hX hb0 hb1 hyes hr
  go_wp2_with fail
  refine (places_any w.heap.size _).mono ?_
  rintro e w2 ⟨rfl, hb2⟩
  have HX2 := hid (HX1.out.next hb2)
  have HB2 := hid (on HB1.out hb2)
  clear hb2 HX1 HB1
  go_wp2_with (refine wpList_store_new rfl _ _ _ rfl rfl _ (plc _) rfl rfl (by kernel_rfl) rfl (by simp [plc, Value.oneCell']) ?_)
  have HX := hid (HX2.out.alloc (.cells (plc w.heap.size) 48))
  have HP := hid (Bx.new w2 48 (plc w.heap.size))
  have HB := hid (on HB2.out (below_alloc w2 (.cells (plc w.heap.size) 48)))
  clear HX2 HB2
  generalize w2.alloc (.cells (plc w.heap.size) 48) = w3 at *
  generalize w2.heap.size = k at *
  go_loopw [4, 13] (fun s i wr => ∃ q : Nat, i = .int .i64 q ∧ q ≤ 16 ∧ Bs wr s (encN (nums c n) q) ∧ Below w3.heap.size w3 wr) (fun _ i _ => 16 - (intOf i).toNat)
  case atStart => exact ⟨0, rfl, by omega, ⟨none, 0, rfl, Rd.nil _ _ _, by simp [encN], by unfold maxLen; omega⟩, Below.refl _ _⟩
  case round =>
    obtain ⟨q, rfl, hq, hs, hb⟩ := hrel
    obtain ⟨S, cs, rfl, rs, hcs, _⟩ := hs
    have hL := encN_len (f := nums c n) q fun i _ => HY.out.nums_lt i
    obtain ⟨L, hL2⟩ : ∃ L, (encN (nums c n) q).length = L := ⟨_, rfl⟩
    rw [hL2] at hL hcs ⊢
    have HL := hid hL2
    have HK := hid hb
    have HS := hid rs
    clear hL2 hb rs
    by_cases hlt : q < 16
    · have hlt' : (q : Int) < 16 := by omega
      obtain ⟨p0, _, _⟩ := plc_at w.heap.size q hlt
      rw [← (HP.out.next HK.out).cell] at p0
      have p3 := cfgC_at c A n cp q hlt
      rw [← (HX.out.next HK.out).cell] at p3
      obtain ⟨x, hx⟩ : ∃ x, c q = x := ⟨_, rfl⟩
      rw [hx] at p3
      have hxx := HY.out.num q hlt
      rw [hx] at hxx
      have HQ := hid (show nums c n q = x.toNat by unfold nums; rw [if_pos hlt, hx])
      clear hx
      go_wp2_with fail
      refine (put_any S L cs x _ _ _ HL.out (by omega) (by omega) HS.out (Nat.le_refl _)).mono ?_
      rintro e w4 ⟨v4, rfl, hown4, hb4⟩
      have h4 := hown4.bs
      rw [← HQ.out] at h4
      have HK4 := hid (on HK.out hb4)
      have H4 := hid h4
      clear hown4 hb4 h4 p0 p3
      go_wp2_with fail
      go_roundw
      case rel => exact ⟨q + 1, by go_num, by omega, H4.out, HK4.out⟩
      case measure => simp [intOf]; omega
    · have hlt' : ¬ (q : Int) < 16 := by omega
      obtain rfl : q = 16 := by omega
      have c16 : wr.cell? ⟨w.heap.size, 16, none⟩ = some (.slice A n cp) := by rw [(HX.out.next HK.out).cell]; rfl
      go_wp2_with fail
      refine (put_any S L cs n _ _ _ HL.out (by omega) (by omega) HS.out (Nat.le_refl _)).mono ?_
      rintro e w4 ⟨v4, rfl, hown4, hb4⟩
      have h4 := hown4.bs
      rw [show encN (nums c n) 16 ++ enc (n : Int).toNat = encN (nums c n) 17 from rfl] at h4
      have HK4 := hid (on HK.out hb4)
      have H4 := hid h4
      have c16 : w4.cell? ⟨w.heap.size, 16, none⟩ = some (.slice A n cp) := by rw [(HX.out.next HK4.out).cell]; rfl
      clear hown4 hb4 h4
      go_wp2_with fail
      go_loopw [4, 33] (fun s i wr => ∃ q : Nat, i = .int .i64 q ∧ q ≤ n ∧ Bs wr s (encN (nums c n) 17 ++ encHs hh q) ∧ Below w3.heap.size w3 wr) (fun _ i _ => n - (intOf i).toNat)
      case atStart => exact ⟨0, rfl, by omega, by rw [encHs, List.append_nil]; exact H4.out, HK4.out⟩
      case round =>
        obtain ⟨q, rfl, hq, hs, hb⟩ := hrel
        obtain ⟨S2, cs2, rfl, rs, hcs2, hm2⟩ := hs
        have hL1 := encN_len (f := nums c n) 17 fun i _ => HY.out.nums_lt i
        have hL2 := encHs_len q fun i hi => HY.out.small i (by omega)
        obtain ⟨L2, hLL⟩ : ∃ L, (encN (nums c n) 17 ++ encHs hh q).length = L := ⟨_, rfl⟩
        have hL3 : L2 ≤ 400 := by rw [← hLL, List.length_append]; omega
        rw [hLL] at hcs2 ⊢
        have HL2 := hid hLL
        have HK2 := hid hb
        have HS2 := hid rs
        clear hLL hb rs hL1 hL2
        by_cases hlt : q < n
        · have hlt' : (q : Int) < (n : Int) := by omega
          obtain ⟨ad, rfl, hat⟩ := (HR.out.now (on HB.out HK2.out)).hint hlt
          obtain ⟨⟨f, s, o, l⟩, hH⟩ : ∃ x, hh q = x := ⟨_, rfl⟩
          rw [hH] at hat
          obtain ⟨_, d0, d1, d2, d3⟩ := hat
          dsimp only at d0 d1 d2 d3
          have hsm := HY.out.small q hlt
          rw [hH] at hsm
          have HH := hid hH
          clear hH c16
          go_wp2_with fail
          refine (puthint_any S2 L2 cs2 ⟨f, s, o, l⟩ _ _ HL2.out (by omega) hsm (HS2.out.alloc _)).mono ?_
          rintro e w5 ⟨v5, rfl, h5, hb5⟩
          have HK5 := hid (on (on HK2.out (below_alloc _ (.cells #[.int .i64 f, .int .i64 s, .int .i64 o, .bool l] 41))) hb5)
          rw [← HH.out, List.append_assoc] at h5
          have H5 := hid h5
          clear h5 hb5 d0 d1 d2 d3
          go_wp2_with fail
          go_roundw
          case rel => exact ⟨q + 1, by go_num, by omega, H5.out, HK5.out⟩
          case measure => simp [intOf]; omega
        · have hlt' : ¬ (q : Int) < (n : Int) := by omega
          obtain rfl : q = n := by omega
          go_wp2_with fail
          go_ret2
          exact ⟨_, rfl, ⟨S2, cs2, by rw [← HL2.out]; rfl, HS2.out, by rw [← HL2.out] at hcs2; exact hcs2, hm2⟩, on HB.out HK2.out⟩
end Go.Proofs.Ytehmcnghincakaa
