/-
  What is proved: the walk of LruBound: never are there more blocks than the capacity, nor one twice; what goes isn't there any more. Condition: the acts are read as such.
-/
import Derived.Test.YtmkdamkahjiccaaKe11
namespace Go.Proofs.Ytmkdamkahjiccaa
open Go.RowKit

theorem nd_take {l : List Int} (hd : l.Nodup) {j : Nat} (hj : j < l.length) : l[j] ∉ l.take j := fun h => by
  obtain ⟨i, hi, e⟩ := List.mem_take_iff_getElem.1 h
  have h1 : l[i]? = some l[j] := by rw [List.getElem?_eq_getElem (by omega)]; exact congrArg some e
  have := nd_inj hd h1 (List.getElem?_eq_getElem hj)
  omega
theorem gone_out {C : Nat} {x : Int} {L : List Int} (hd : L.Nodup) (hg : goes C x L) : vict C x L ∉ addL C x L := by
  have e1 : vict C x L = (x :: wo x L).getLast (by simp) := if_pos hg
  have e2 : addL C x L = (x :: wo x L).dropLast := if_pos hg
  have hn : (x :: wo x L).Nodup := List.nodup_cons.2 ⟨fun h => (mem_wo.1 h).2 rfl, wo_nodup hd⟩
  rw [e1, e2, ← wo_last (by simp) hn]
  exact fun h => (mem_wo.1 h).2 rfl
theorem Rv.takeI {w : World} {B : Nat} {A : Option Addr} {l : List Int} (h : Rv w B A (ints l)) (n : Nat) : Rv w B A (ints (l.take n)) := fun j u hu => by
  rw [show ints (l.take n) = (ints l).take n from by simp [ints, List.map_take], List.getElem?_take] at hu
  split at hu
  · exact h j u hu
  · cases hu
set_option maxRecDepth 100000 in
set_option maxHeartbeats 2000000 in
theorem bound_walk (m : Int) (A : Option Addr) (n c : Nat) (f : Nat → A2) (w : World) (hn : n ≤ maxLen) (h : Acts w A n f) :
    Calls Try.prog 4 #[.int .i64 m, .slice A n c] w fun e w' => e = .returned (.bool true) ∧ Below w.heap.size w w' := by
  have HA := hid h
  unfold maxLen at hn
  clear h
  go_enter Try.func4, Try.ntmps4
  go_upto_region 3 with (go_at_call 8; refine (wakes_any _).mono ?_; rintro e w1 ⟨rfl, hb⟩; have HB := hid hb; clear hb)
  by_cases h100 : 150 < n
  · have hd : decide ((150 : Int) < (n : Int)) = true := by simp; omega
    clear h100
    go_wp2
    go_ret
    exact ⟨rfl, HB.out⟩
  have hd : decide ((150 : Int) < (n : Int)) = false := by simp; omega
  have HC1 := hid (cp_le m)
  have HRC := hid (fun w => rcap_any m w)
  have HNEW := hid (lru_new m w1)
  generalize cp m = C at *
  go_wp2_with (go_at_call 9; refine HNEW.out.mono ?_; rintro e w2 ⟨g, k, rfl, hq, hb, hg, hk⟩; have HW0 := hid (show Lw w w2 g k C [] from ⟨hq, Nat.zero_le _, Nat.le_trans HB.out.size hg, Nat.le_trans HB.out.size hk, on HB.out hb⟩); clear hq hb hg hk)
  go_loopg [22] n (fun gk t wr => ∃ p : Nat, p + gk = n ∧ t = .int .i64 p ∧ ∃ L, Lw w wr g k C L)
  case atStart => exact ⟨0, by omega, rfl, _, HW0.out⟩
  case round =>
    obtain ⟨p, hp, rfl, L, hT⟩ := hrel
    have HT := hid hT
    clear hT HW0
    by_cases hlt : p < n
    · obtain ⟨ad, rfl, hat⟩ := (HA.out.below HT.out.bel) p hlt
      obtain ⟨⟨κ, b⟩, hH⟩ : ∃ y, f p = y := ⟨_, rfl⟩
      rw [hH] at hat
      obtain ⟨alt, c0, c1⟩ := hat
      dsimp only at c0 c1
      obtain ⟨q, hg⟩ : ∃ g, wr.heap.size = g := ⟨_, rfl⟩
      obtain ⟨W, hW⟩ : ∃ W, wr.alloc (.cells #[.int .i64 κ, .int .i64 b] 28) = W := ⟨_, rfl⟩
      have BW : Below wr.heap.size wr W := by rw [← hW]; exact below_alloc _ _
      have HXW := hid (show Bx W q 28 #[.int .i64 κ, .int .i64 b] from by rw [← hW, ← hg]; exact Bx.new _ _ _)
      have HTW := hid (HT.out.below BW)
      have HWW := hid hW
      have HGG := hid hg
      have hpn : (p : Int) < (n : Int) := by omega
      clear BW hH hW hg
      go_upto_region 9 with fail
      rw [HGG.out, HWW.out]
      clear c0 c1 HGG HWW alt
      have y1 : W.cell? ⟨q, 1, none⟩ = some (.int .i64 b) := HXW.out.cell 1
      have HADD := hid (lru_add HTW.out.q b)
      have HLE := hid (addL_len (b := b) HTW.out.len HTW.out.q.nd)
      have HGO := hid (fun hg => gone_out (C := C) (x := b) HTW.out.q.nd hg)
      obtain ⟨v, hv⟩ : ∃ v, vict C b L = v := ⟨_, rfl⟩
      obtain ⟨L', hL'⟩ : ∃ v, addL C b L = v := ⟨_, rfl⟩
      obtain ⟨er, her⟩ : ∃ v, addE b = v := ⟨_, rfl⟩
      rw [hv, hL'] at HGO
      rw [hv, hL', her] at HADD
      rw [hL'] at HLE
      clear hv hL' her
      have key : ∃ gb : Bool, decide (goes C b L) = gb ∧ (gb = true → v ∉ L') := ⟨_, rfl, fun h => HGO.out (of_decide_eq_true h)⟩
      obtain ⟨gb, hgb, hgo⟩ := key
      rw [hgb] at HADD
      clear HGO hgb
      obtain ⟨ln, hln⟩ : ∃ x, L'.length = x := ⟨_, rfl⟩
      have HLN := hid hln
      have hle : ¬ (C : Int) < (ln : Int) := by have := HLE.out; omega
      have hl64 : ln ≤ 64 := by have := HLE.out; have := HC1.out; omega
      clear hln y1
      generalize gk = K0 at *
      have y1 : W.cell? ⟨q, 1, none⟩ = some (.int .i64 b) := HXW.out.cell 1
      cases gb
      all_goals
        first
          | (have HNO := hid (dec_false (hgo rfl)))
          | skip
        clear hgo
        go_upto_region 12 with (first | (go_at_call 13; go_must (refine HADD.out.mono ?_); rintro e w3 ⟨rfl, hq, hc⟩; have HT3 := hid (HTW.out.step hq hc HLE.out); clear hq hc) | (go_at_call 18; go_must (refine (lru_has HT3.out.q v).mono ?_); rintro e w4 ⟨rfl, rfl⟩; rw [HNO.out]))
        clear y1
        go_wp2_with (go_at_call 16; refine (lru_all HT3.out.q).mono ?_; rintro e w5 ⟨A5, c5, rfl, ho, hg⟩; have HR5 := hid (rw_told ho hg); have HT5 := hid (HT3.out.below hg.nilBelow); rw [HLN.out]; have hc5 : ln ≤ c5 := by { have := HR5.out.2.2.1; rw [HLN.out] at this; exact this }; clear ho hg)
        go_loopg [44] ln (fun gk t wr => ∃ j : Nat, j + gk = ln ∧ t = .int .i64 j ∧ Lw w wr g k C L' ∧ Rw wr A5 L')
        case atStart => exact ⟨0, by omega, rfl, HT5.out, HR5.out.1⟩
        case round =>
          obtain ⟨j, hj, rfl, hTi, hRi⟩ := hrel
          have HTI := hid hTi
          have HRI := hid hRi
          clear hTi hRi HT5 HR5
          by_cases hjl : j < ln
          · have hjL : j < L'.length := by rw [HLN.out]; exact hjl
            obtain ⟨a5, rfl, _, hca⟩ := rv_at HRI.out.rd hjL
            have HX := hid (show L'[j] ∉ L'.take j from nd_take HTI.out.q.nd hjL)
            have HTK := hid (show (L'.take j).length = j from by rw [List.length_take]; omega)
            generalize L'[j] = x at *
            have HH := hid (fun d => rhas_any (some a5) j c5 (L'.take j) x (wr.drewN d) _ HTK.out (by unfold maxLen; omega) ((HRI.out.draws d).rd.takeI j))
            rw [dec_false HX.out] at HH
            have hjn : (j : Int) < (ln : Int) := by omega
            have hjc : j ≤ c5 := by omega
            clear hjL
            go_upto_region 16 with fail
            go_quiet (first | (go_at_call 19; exact quietL (HH.out _)))
            go_wp2
            go_roundg (gk - 1)
            case measure => omega
            case rel => exact ⟨j + 1, by omega, by go_num, HTI.out.draws _, HRI.out.draws _⟩
          · obtain rfl : j = ln := by omega
            clear hjl hj
            go_wp2_with (go_at_call 11; refine (HRC.out _).mono ?_; rintro e w6 ⟨rfl, rfl⟩)
            go_roundg (K0 - 1)
            case measure => omega
            case rel => exact ⟨p + 1, by omega, by go_num, _, HTI.out⟩
    · obtain rfl : p = n := by omega
      clear hlt hp
      go_wp2
      go_ret
      exact ⟨rfl, HT.out.bel⟩
end Go.Proofs.Ytmkdamkahjiccaa
