/-
  What is proved: the walk of StoreOpens: of any sectors whatever the blocks that are opened are those that the document says. Condition: the texts are read as such.
-/
import Derived.Test.YtincndblpbdnlaaRblk
import Derived.Test.YtincndblpbdnlaaLong6
namespace Go.Proofs.Ytincndblpbdnlaa
open Go.RowKit

theorem set_ok1 {L : List (List Int)} {l : List Int} (h : ∀ x ∈ L, Ok1 x) (hl : Ok1 l) (i : Nat) : ∀ x ∈ L.set i l, Ok1 x := fun x hx => by
  rcases List.mem_or_eq_of_mem_set hx with h1 | h1
  · exact h x h1
  · subst h1; exact hl
theorem write_free6 (L : List (List Int)) (i : Int) (l : List Int) (h : ∀ x ∈ L, Ok1 x) (hl : Byt l) : ∃ L', St.write ⟨L, -1, false⟩ i l = ⟨L', -1, false⟩ ∧ L'.length = L.length ∧ ∀ x ∈ L', Ok1 x := by
  by_cases h1 : i < 0 ∨ (L.length : Int) ≤ i
  · refine ⟨L, ?_, rfl, h⟩
    unfold St.write
    simp only
    rw [if_neg (by simp), if_pos h1]
  · by_cases h2 : 64 < l.length
    · refine ⟨L, ?_, rfl, h⟩
      unfold St.write
      simp only
      rw [if_neg (by simp), if_neg h1, if_pos h2]
    · obtain ⟨j, rfl⟩ := Int.eq_ofNat_of_zero_le (show 0 ≤ i by omega)
      have := (told_ok (L := L) (f := -1) (by omega) (i := j) (l := l) (by omega) (by omega)).2
      rw [if_neg (by omega)] at this
      exact ⟨_, this, List.length_set, set_ok1 h ⟨by omega, hl⟩ j⟩

set_option maxHeartbeats 400000 in
theorem write_big {w : World} {b k : Nat} {v : Value} {s : St} (h : Dk w 67 b k v s) (hd : s.d = false) (j : Nat) (hj : j < s.L.length) (A : Option Addr) (n c : Nat) (h64 : 64 < n) (hlen : n ≤ 9223372036854775807) :
    Calls Try.prog 24 #[.pointer (some ⟨k, 0, none⟩), .int .i64 j, .slice A n c] w fun e w' => e = .returned (.int .i64 4) ∧ w' = w := by
  obtain ⟨_, _, c2, _, _, _⟩ := h.cells
  rw [hd] at c2
  have HH := hid (has_yes h j hj)
  clear h hd hj
  go_enter Try.func24, Try.ntmps24
  go_wp2_with (go_at_call 41; refine HH.out.mono ?_; rintro e w' ⟨rfl, rfl⟩)
  go_ret
  exact ⟨rfl, rfl⟩
theorem write_all {w : World} {b k : Nat} {v : Value} {s : St} (h : Dk w 67 b k v s) (hd : s.d = false) (j : Nat) (hj : j < s.L.length) (A : Option Addr) (n c : Nat) (l : List Int) (hn : l.length = n) (hlen : n ≤ 9223372036854775807) (r : Rn w A l) :
    Calls Try.prog 24 #[.pointer (some ⟨k, 0, none⟩), .int .i64 j, .slice A n c] w fun e w' => ∃ z, e = .returned (.int .i64 z) ∧ Dk w' 67 b k v (s.write j l) ∧ Only w w' k v := by
  by_cases h64 : 64 < n
  · have e2 : s.write j l = s := by
      unfold St.write
      rw [hd, if_neg (by simp), if_neg (by omega), if_pos (by omega)]
    refine (write_big h hd j hj A n c h64 hlen).mono ?_
    rintro e w' ⟨rfl, rfl⟩
    exact ⟨_, rfl, by rw [e2]; exact h, Only.refl _ _ _⟩
  · exact (write_any h j A n c l hn (by omega) r).mono fun e w' ⟨h1, h2, h3⟩ => ⟨_, h1, h2, h3⟩
set_option maxRecDepth 100000 in
set_option maxHeartbeats 1600000 in
theorem opens_walk (B Z C S : Int) (A : Option Addr) (n cap : Nat) (f : Nat → List Int) (w : World) (hn : n ≤ maxLen) (h : Texts w A n f) :
    Calls Try.prog 5 #[.agg #[.int .i64 B, .int .i64 Z, .int .i64 C, .int .i64 S], .slice A n cap] w fun e w' => e = .returned (.bool true) ∧ Below w.heap.size w w' := by
  obtain ⟨W0, hW0, BX0, HB0, -⟩ := below_new w 23 #[.int .i64 B, .int .i64 Z, .int .i64 C, .int .i64 S]
  have HW := hid hW0
  have HS0 := hid BX0
  have B0 := hid HB0
  have HA := hid h
  have HNN := hid hn
  clear hW0 BX0 HB0 h
  unfold maxLen at hn
  go_enter Try.func5, Try.ntmps5
  go_wp2_with fail
  rw [HW.out]
  refine (wakes_any _).mono ?_
  rintro e w1 ⟨rfl, hb⟩
  have B1 := hid (on B0.out hb)
  have HS1 := hid (HS0.out.next hb)
  clear hb B0 HS0 HW
  by_cases h64 : 64 < n
  · go_wp2
    go_ret
    exact ⟨rfl, B1.out⟩
  have hn64 : n ≤ 64 := by omega
  clear h64 hn
  go_wp2_with fail
  refine (new_any n _).mono ?_
  rintro e w2 ⟨kd, vv, rfl, hk, hb⟩
  have hcl : cl n = n := by unfold cl; omega
  rw [hcl] at hk
  have B2 := hid (on B1.out hb)
  have HS2 := hid (HS1.out.next hb)
  have HL0 := hid (show ∃ L : List (List Int), L.length = n ∧ (∀ l ∈ L, Ok1 l) ∧ Dk w2 67 w1.heap.size kd vv ⟨L, -1, false⟩ from ⟨_, List.length_replicate, ok1_rep n, hk⟩)
  have LOW := hid (show w.heap.size ≤ w1.heap.size from B1.out.size)
  have HBW := hid (show w.heap.size < w1.heap.size from HS1.out.lt)
  clear hk hb hcl B1 HS1
  generalize w1.heap.size = bb at *
  go_wp2_with fail
  go_loopw [27] (fun t wr => ∃ p : Nat, p ≤ n ∧ t = .int .i64 p ∧ ∃ L : List (List Int), Hid (L.length = n ∧ (∀ l ∈ L, Ok1 l) ∧ Dk wr 67 bb kd vv ⟨L, -1, false⟩) ∧ Hid (Bx wr w.heap.size 23 #[.int .i64 B, .int .i64 Z, .int .i64 C, .int .i64 S]) ∧ Hid (Below w.heap.size w wr)) (fun t _ => n - (intOf t).toNat)
  case atStart =>
    obtain ⟨L, h1⟩ := HL0.out
    exact ⟨0, Nat.zero_le _, rfl, L, h1, HS2, B2⟩
  case round =>
    obtain ⟨p, hp, rfl, L, HL, HS, HB⟩ := hrel
    clear HL0 HS2 B2
    by_cases hlt : p < n
    · obtain ⟨ad, u, rfl, hblk, hcell, hbs, hby⟩ := (HA.out.below HB.out) p hlt
      obtain ⟨A1, c1, rfl, hr, hc1, hm1⟩ := hbs
      unfold maxLen at hm1
      have HR := hid hr
      have HBY := hid hby
      generalize f p = l at *
      obtain ⟨ln, hln⟩ : ∃ q, l.length = q := ⟨_, rfl⟩
      have HLN := hid hln
      rw [hln] at hcell hc1
      clear hr hby hblk hln
      go_wp2_with fail
      refine (write_all HL.out.2.2 rfl p (by rw [HL.out.1]; exact hlt) A1 ln c1 l HLN.out (by omega) HR.out).mono ?_
      rintro e w3 ⟨z, rfl, hk, ho⟩
      obtain ⟨L', e1, e2, e3⟩ := write_free6 L p l HL.out.2.1 HBY.out
      rw [e1] at hk
      have HL3 := hid (And.intro (e2.trans HL.out.1) (And.intro e3 hk))
      have HS3 := hid (HS.out.dsk HL.out.2.2 ho (by decide) (by decide))
      have B3 := hid (HB.out.trans ((HL.out.2.2.onlyBel ho (Nat.le_trans HL.out.2.2.low (Nat.le_of_lt HL.out.2.2.box.lt))).mono LOW.out))
      clear e1 e2 e3 hk ho HL HS HB HR hcell
      go_wp2
      go_roundw
      case rel => exact ⟨p + 1, by omega, by go_num, L', HL3, HS3, B3⟩
      case measure => simp [intOf]; omega
    · obtain rfl : p = n := by omega
      clear hlt hp
      go_upto_if 40 with fail
      go_cut [] (fun wx => ∃ L : List (List Int), Hid (L.length = p ∧ (∀ l ∈ L, Ok1 l) ∧ Dk wx 67 bb kd vv ⟨L, -1, false⟩) ∧ Hid (Bx wx w.heap.size 23 #[.int .i64 B, .int .i64 Z, .int .i64 C, .int .i64 S]) ∧ Hid (Below w.heap.size w wx) ∧ Hid (sec L 0 = []))
      case first =>
        by_cases h0 : 0 < p
        · go_wp2_with fail
          refine (write_any HL.out.2.2 0 none 0 0 [] rfl (by omega) (Rd.nil _ _ _)).mono ?_
          rintro e w3 ⟨rfl, hk, ho⟩
          have hL0 : (0 : Nat) < L.length := by rw [HL.out.1]; exact h0
          obtain ⟨t1, t2⟩ := told_ok (L := L) (f := -1) (by omega) (i := 0) (l := []) hL0 (by simp)
          have hk' : Dk w3 67 bb kd vv ⟨L.set 0 [], -1, false⟩ := by
            rw [if_neg (by omega)] at t2
            rw [← t2]
            exact hk
          have HL3 := hid (show (L.set 0 []).length = p ∧ (∀ l ∈ L.set 0 [], Ok1 l) ∧ Dk w3 67 bb kd vv ⟨L.set 0 [], -1, false⟩ from ⟨by rw [List.length_set]; exact HL.out.1, set_ok1 HL.out.2.1 ⟨by simp, by simp⟩ 0, hk'⟩)
          have HS3 := hid (HS.out.dsk HL.out.2.2 ho (by decide) (by decide))
          have B3 := hid (HB.out.trans ((HL.out.2.2.onlyBel ho (Nat.le_trans HL.out.2.2.low (Nat.le_of_lt HL.out.2.2.box.lt))).mono LOW.out))
          have Z3 := hid (show sec (L.set 0 []) 0 = [] by rw [sec_set hL0, if_pos rfl])
          generalize St.told ⟨L, -1, false⟩ 0 [] = z0 at *
          clear hk hk' ho t1 t2 hL0 HL HS HB
          go_wp2_with fail
          go_meet
          exact ⟨_, HL3, HS3, B3, Z3⟩
        · have Z3 := hid (show sec L 0 = [] by
            have hL0 : L = [] := List.eq_nil_of_length_eq_zero (by rw [HL.out.1]; omega)
            rw [hL0]; rfl)
          obtain rfl : p = 0 := by omega
          clear h0
          go_wp2_with fail
          go_meet
          exact ⟨L, HL, HS, HB, Z3⟩
      case rest =>
        obtain ⟨L, HL, HS, HB, HZ⟩ := hcut
        by_cases hr : RightI B Z C S
        case neg =>
          have HRI := hid hr
          have HDF := hid (dec_false hr)
          clear hr
          go_wp2_with (refine wpList_load_bx rfl 23 (.tmp 2) rfl _ _ _ _ rfl HS.out Try.underlying23 rfl (by kernel_rfl) ?_)
          refine (open_bad B Z C S HL.out.2.2 HRI.out).mono ?_
          rintro e w4 ⟨rfl, hb⟩
          have HS4 := hid (HS.out.next hb)
          have B4 := hid (on HB.out hb)
          clear hb HS HB HL
          go_wp2_with (refine wpList_load_bx rfl 23 (.tmp 2) rfl _ _ _ _ rfl HS4.out Try.underlying23 rfl (by kernel_rfl) ?_)
          refine (lawright_any B Z C S _).mono ?_
          rw [HDF.out]
          rintro e w5 ⟨rfl, hb⟩
          have B5 := hid (on B4.out hb)
          clear hb HS4 B4
          go_wp2
          go_ret
          exact ⟨rfl, B5.out⟩
        case pos =>
          have HDT := hid (dec_true hr)
          obtain ⟨⟨b1, b2⟩, ⟨z1, z2⟩, ⟨c1, c2⟩, s1, s2⟩ := hr
          obtain ⟨B, rfl⟩ := Int.eq_ofNat_of_zero_le (show 0 ≤ B by omega)
          obtain ⟨Z, rfl⟩ := Int.eq_ofNat_of_zero_le (show 0 ≤ Z by omega)
          obtain ⟨C, rfl⟩ := Int.eq_ofNat_of_zero_le (show 0 ≤ C by omega)
          obtain ⟨S, rfl⟩ := Int.eq_ofNat_of_zero_le (show 0 ≤ S by omega)
          have OK := hid (show (Sh.mk B Z C S).ok from ⟨⟨by show 1 ≤ B; omega, by show B ≤ 32; omega⟩, ⟨by show 1 ≤ Z; omega, by show Z ≤ 16; omega⟩, ⟨by show 1 ≤ C; omega, by show C ≤ 4; omega⟩, by show 1 ≤ S; omega, by show S ≤ 4; omega⟩)
          have hcs : C * S ≤ 4 * 4 := Nat.mul_le_mul (by omega) (by omega)
          have hpe : (C : Int) * (S : Int) = ((C * S : Nat) : Int) := by rw [Int.natCast_mul]
          have hat : (Sh.mk B Z C S).at_ C 0 = 1 + B + C * S := by simp only [Sh.at_]; rw [Nat.mul_comm]; omega
          generalize C * S = m at hcs hpe hat
          clear z1 z2 c1 c2 s1 s2
          by_cases hfew : p < 1 + B + m
          · have HFW := hid (show p < (Sh.mk B Z C S).at_ C 0 by rw [hat]; exact hfew)
            have q1 : (p : Int) < 1 + (B : Int) + (m : Int) := by omega
            clear hat
            go_wp2_with (refine wpList_load_bx rfl 23 (.tmp 2) rfl _ _ _ _ rfl HS.out Try.underlying23 rfl (by kernel_rfl) ?_)
            refine (open_few B Z C S HL.out.2.2 OK.out (by rw [HL.out.1]; exact HFW.out)).mono ?_
            rintro e w4 ⟨rfl, hb⟩
            have HS4 := hid (HS.out.next hb)
            have B4 := hid (on HB.out hb)
            clear hb HS HB HL
            go_wp2_with (refine wpList_load_bx rfl 23 (.tmp 2) rfl _ _ _ _ rfl HS4.out Try.underlying23 rfl (by kernel_rfl) ?_)
            refine (lawright_any B Z C S _).mono ?_
            rw [HDT.out]
            rintro e w5 ⟨rfl, hb⟩
            obtain ⟨k0, k1, k2, k3⟩ := (HS4.out.next hb).all4
            have B5 := hid (on B4.out hb)
            clear hb HS4 B4
            go_wp2
            go_ret
            exact ⟨rfl, B5.out⟩
          · have HLE := hid (show (Sh.mk B Z C S).at_ C 0 ≤ p by rw [hat]; omega)
            have q1 : 1 + (B : Int) + (m : Int) ≤ (p : Int) := by omega
            have hp1 : 1 + B ≤ p := by omega
            have HP1 := hid hp1
            have hb32 : B ≤ 32 := by omega
            clear hat hfew hp1 b1 b2
            go_wp2_with (refine wpList_load_bx rfl 23 (.tmp 2) rfl _ _ _ _ rfl HS.out Try.underlying23 rfl (by kernel_rfl) ?_)
            have hl0 : L[0]? = some (sec L 0) := sec_some (by rw [HL.out.1]; have := HP1.out; omega)
            have hno : ¬ pok ⟨B, Z, C, S⟩ (sec L 0) := by rw [HZ.out]; exact pok_nil _
            refine (open_ok B Z C S HL.out.2.2 OK.out (by rw [HL.out.1]; exact HLE.out) HL.out.2.1 _ hl0 (by rw [rdo_none hno])).mono ?_
            rw [rdo_none hno]
            rintro e w4 ⟨ks, rfl, hx, ho, -⟩
            have X4 := hid hx
            have HS4 := hid (HS.out.dsk HL.out.2.2 ho (by decide) (by decide))
            have B4 := hid (HB.out.trans ((HL.out.2.2.onlyBel ho (Nat.le_trans HL.out.2.2.low (Nat.le_of_lt HL.out.2.2.box.lt))).mono LOW.out))
            have HLN := hid HL.out.1
            clear hl0 hno hx ho HS HB HL HZ
            go_wp2_with (refine wpList_load_bx rfl 23 (.tmp 2) rfl _ _ _ _ rfl HS4.out Try.underlying23 rfl (by kernel_rfl) ?_)
            refine (lawright_any B Z C S _).mono ?_
            rw [HDT.out]
            rintro e w5 ⟨rfl, hb⟩
            have HS5 := hid (HS4.out.next hb)
            obtain ⟨k0, k1, k2, k3⟩ := HS5.out.all4
            have X5 := hid (X4.out.below hb)
            have B5 := hid (on B4.out hb)
            clear hb HS4 B4 X4
            go_wp2_with fail
            clear k0 k1 k2 k3
            go_loopw [74] (fun t wr => ∃ q : Nat, q ≤ B ∧ t = .int .i64 q ∧ Hid (Sx wr bb kd ks vv ⟨L, -1, false⟩ ⟨B, Z, C, S⟩) ∧ Hid (Bx wr w.heap.size 23 #[.int .i64 B, .int .i64 Z, .int .i64 C, .int .i64 S]) ∧ Hid (Below w.heap.size w wr)) (fun t _ => B - (intOf t).toNat)
            case atStart => exact ⟨0, Nat.zero_le _, rfl, X5, HS5, B5⟩
            case round =>
              obtain ⟨q, hq, rfl, X6, HS6, B6⟩ := hrel
              clear X5 HS5 B5
              by_cases hlt : q < B
              · have hl1 : L[1 + q]? = some (sec L (1 + q)) := sec_some (by rw [HLN.out]; have := HP1.out; omega)
                have HL1 := hid hl1
                have HOK := hid (X6.out.by_ _ (List.mem_of_getElem? hl1))
                clear hl1
                go_wp2_with fail
                refine (read_any X6.out.dk X6.out.l64 (1 + (q : Int))).mono ?_
                rintro e w7 ⟨u, l, c7, rfl, hu, hb7, hor⟩
                have hl : l = sec L (1 + q) ∧ c7 = 0 := by
                  have hn1 := HLN.out
                  have hp1 := HP1.out
                  rcases hor with ⟨h1, _⟩ | ⟨_, h2, h3⟩
                  · have h1' : (1 + (q : Int) < 0) ∨ ((L.length : Nat) : Int) ≤ 1 + (q : Int) := h1
                    omega
                  · rw [show (1 + (q : Int)).toNat = 1 + q by omega, HL1.out] at h2
                    injection h2 with h2
                    exact ⟨h2.symm, h3⟩
                obtain ⟨rfl, rfl⟩ := hl
                have X7 := hid (X6.out.below hb7)
                have HS7 := hid (HS6.out.next hb7)
                have B7 := hid (on B6.out hb7)
                obtain ⟨A7, x7, rfl, hr7, hx7, -⟩ := hu
                have HR7 := hid hr7
                obtain ⟨k0, k1, k2, k3⟩ := HS7.out.all4
                have z16 : Z ≤ 16 := OK.out.z.2
                have HL7 := hid HL1.out
                generalize sec L (1 + q) = l at *
                obtain ⟨ln, hln⟩ : ∃ y, l.length = y := ⟨_, rfl⟩
                have HLL := hid hln
                have hl64 : ln ≤ 64 := by rw [← hln]; exact HOK.out.1
                rw [hln] at hx7
                simp only [hln]
                clear hor hb7 hr7 hln X6 HS6 B6 HL1
                go_wp2_with fail
                refine (refblk_any A7 x7 ln Z l w7 HLL.out (by omega) hx7 z16 HOK.out.2 HR7.out).mono ?_
                rintro e w8 ⟨u8, rfl, hu8, hb8⟩
                have X8 := hid (X7.out.below hb8)
                have HS8 := hid (HS7.out.next hb8)
                have B8 := hid (on B7.out hb8)
                obtain ⟨A8, x8, rfl, hr8, hx8, hm8⟩ := hu8
                have HR8 := hid hr8
                have HRY := hid (read_yes X8.out q hlt l HL7.out)
                obtain ⟨v9, hv9⟩ : ∃ y, blk Z l = y := ⟨_, rfl⟩
                have hvv : blk (Sh.mk B Z C S).Z l = v9 := hv9
                rw [hvv] at HRY
                rw [hv9] at hx8 HR8 ⊢
                obtain ⟨v9, t9⟩ := v9
                simp only at hx8 HR8 HRY ⊢
                obtain ⟨tn, htn⟩ : ∃ y, t9.length = y := ⟨_, rfl⟩
                have HTN := hid htn
                rw [htn] at hx8
                simp only [htn]
                clear hb8 hr8 k0 k1 k2 k3 hv9 hvv htn X7 HS7 B7 HR7 HL7 HOK
                go_wp2_with fail
                refine HRY.out.mono ?_
                rintro e w9 ⟨u9, rfl, hu9, hb9⟩
                obtain ⟨A9, x9, rfl, hr9, hx9, -⟩ := hu9.bs
                have X9 := hid (X8.out.below hb9)
                have HS9 := hid (HS8.out.next hb9)
                have B9 := hid (on B8.out hb9)
                have HR8b := hid (Rn.now HR8.out hb9)
                have HR9 := hid hr9
                have vv9 : ((v9 : Nat) != (v9 : Nat)) = false := by simp
                simp only [HTN.out]
                have hmx : tn ≤ maxLen := Nat.le_trans hx8 hm8
                clear hu9 hb9 hr9 X8 HS8 B8 HR8 HRY
                go_wp2_with (go_at_call 18; refine (same_yes A8 A9 tn tn x8 x9 t9 _ _ _ HTN.out HTN.out hmx HR8b.out HR9.out).mono ?_; rintro e w8 ⟨rfl, d8, rfl⟩)
                go_roundw
                case rel => exact ⟨q + 1, by omega, by go_num, hid (X9.out.below (below_draws (Below.refl _ _) _)), hid (HS9.out.draws _), hid (below_draws B9.out _)⟩
                case measure => simp [intOf]; omega
              · obtain rfl : q = B := by omega
                go_wp2
                go_ret
                exact ⟨rfl, B6.out⟩
end Go.Proofs.Ytincndblpbdnlaa
