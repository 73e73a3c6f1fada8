/-
  What is proved: the reference's without, Prune and Next. Condition: the stack lies in memory as one.
-/
import Derived.Test.YtmkpimpckhppgaaRf13
import Derived.BigQuiet
import Derived.BigRegion
namespace Go.Proofs.Ytmkpimpckhppgaa
open Go.RowKit

theorem infoItem : (Try.prog.info? 66).map (fun i => (i.zero, i.size, i.bytes)) = some (some (.agg #[.int .i64 0, .int .i64 0]), 2, 16) := by kernel_rfl
theorem elt_item : Elt Try.prog 58 66 (.agg #[.int .i64 0, .int .i64 0]) 2 16 := ⟨Try.underlying58, infoItem, rfl, by decide⟩
theorem wo_take_same {l : List Int} {j : Nat} {x : Int} (h : l[j]? = some x) : wo x (l.take (j + 1)) = wo x (l.take j) := by
  obtain ⟨hj, e⟩ := List.getElem?_eq_some_iff.1 h
  unfold wo
  rw [List.take_succ_eq_append_getElem hj, List.filter_append, e]
  simp
theorem wo_take_other {l : List Int} {j : Nat} {x y : Int} (h : l[j]? = some y) (hne : y ≠ x) : wo x (l.take (j + 1)) = wo x (l.take j) ++ [y] := by
  obtain ⟨hj, e⟩ := List.getElem?_eq_some_iff.1 h
  unfold wo
  rw [List.take_succ_eq_append_getElem hj, List.filter_append, e]
  simp [hne]
/-- blocks with levels: a row of the call's own -/
def Its (w : World) (b : Nat) (v : Value) (L : List Int) (u : Int → Int) : Prop := OwnV w b 66 2 v L.length (itc L u)
section
variable {w w' : World} {X : Nat → Prop} {h : Nat} {A E : Option Addr} {cp ce : Nat} {c : Nat → Nat} {s : Us}
theorem plc_at (ok : Oku s) {b y : Int} {j : Nat} (hy : s.L[j]? = some y) : (j : Int) = plc s b ↔ y = b := by
  unfold plc
  by_cases hb : b ∈ s.L
  · rw [if_pos hb]
    constructor
    · intro e
      have e2 : px b s.L = j := by omega
      have h1 := px_at hb
      rw [e2, hy] at h1
      injection h1
    · rintro rfl
      rw [px_of ok.nd hy]
  · rw [if_neg hb]
    constructor
    · intro e; omega
    · rintro rfl
      exact absurd (List.mem_of_getElem? hy) hb
set_option maxRecDepth 10000 in
set_option maxHeartbeats 1000000 in
theorem r_without (u : Ur w X h A cp E ce c s) (ok : Oku s) (b : Int) : Calls Try.prog 26 #[.pointer (some ⟨h, 0, none⟩), .int .i64 (plc s b)] w fun e w' =>
    ∃ v, e = .returned v ∧ Its w' w.heap.size v (wo b s.L) s.v ∧ Below w.heap.size w w' := by
  have HU := hid u
  have h64 := ok.len
  obtain ⟨n, hn⟩ : ∃ n, s.L.length = n := ⟨_, rfl⟩
  rw [hn] at h64
  have HN := hid hn
  have HK := hid ok
  have HPL := hid (fun (y : Int) (j : Nat) (hy : s.L[j]? = some y) => plc_at ok (b := b) hy)
  obtain ⟨z, hz⟩ : ∃ z, plc s b = z := ⟨_, rfl⟩
  rw [hz] at HPL ⊢
  clear u ok hn hz
  go_enter Try.func26, Try.ntmps26
  go_wp2
  go_loopg [5, 6] n (fun gk t5 t wr => ∃ (v5 : Value) (j : Nat), v5 = t5 ∧ j + gk = n ∧ t = .int .i64 j ∧ Its wr w.heap.size v5 (wo b (s.L.take j)) s.v ∧ Below w.heap.size w wr)
  case atStart => exact ⟨_, 0, rfl, by omega, rfl, ownV_nil _ _ _ _, Below.refl _ _⟩
  case round =>
    obtain ⟨v5, j, rfl, hj, rfl, ho, hb⟩ := hrel
    have HO := hid ho
    have HU1 := hid (HU.out.below hb)
    have HB := hid hb
    have c0 := HU1.out.c0
    rw [HN.out] at c0
    clear ho hb
    by_cases hlt : j < n
    · have hjl : j < s.L.length := by rw [HN.out]; exact hlt
      have hat := List.getElem?_eq_getElem hjl
      have HAT := hid hat
      obtain ⟨ad, rfl, alt, d0, d1⟩ := it_at (Nat.le_refl _) HU1.out.row hat
      clear hat
      generalize s.L[j] = y at *
      have HPJ := hid (HPL.out y j HAT.out)
      have hjn : (j : Int) < (n : Int) := by omega
      clear hjl
      by_cases hy : y = b
      · have hjz := HPJ.out.2 hy
        subst hjz
        subst hy
        have HW := hid (wo_take_same HAT.out)
        have nn : ((j : Int) != (j : Int)) = false := by simp
        go_wp2
        go_roundg (gk - 1)
        case measure => omega
        case rel => exact ⟨_, j + 1, rfl, by omega, by go_num, by rw [HW.out]; exact HO.out, HB.out⟩
      · have hne : ¬ (j : Int) = z := fun e => hy (HPJ.out.1 e)
        have nn : ((j : Int) != z) = true := by simpa using hne
        have nd : decide ((j : Int) = z) = false := by simpa using hne
        have HW := hid (wo_take_other HAT.out hy)
        generalize hyv : s.v y = yv at *
        have HYV := hid hyv
        obtain ⟨A5, c5, e5, -, -, -⟩ := OwnV.read HO.out
        subst e5
        have hlen : (wo b (s.L.take j)).length ≤ 64 := by
          have h1 : (wo b (s.L.take j)).length ≤ (s.L.take j).length := List.length_filter_le _ _
          rw [List.length_take] at h1
          omega
        have HB5 := hid (below_alloc wr (.cells #[.int .i64 y, .int .i64 yv] 66))
        have HR5 := hid (rv_new wr 66 #[.int .i64 y, .int .i64 yv])
        have HO5 := hid (OwnV.below HO.out HB5.out)
        have HU5 := hid (HU1.out.below HB5.out)
        have HBB := hid (on HB.out HB5.out)
        generalize hwl : (wo b (s.L.take j)).length = wl at *
        have HWL := hid hwl
        clear hy hne hwl hyv
        go_wp2_with (at_builtin; (refine wpList_appV elt_item rfl (.tmp 19) (.tmp 27) rfl w.heap.size _ wl (itc (wo b (s.L.take j)) s.v) HO5.out rfl _ _ 1 1 [.int .i64 y, .int .i64 yv] rfl rfl HR5.out (fun u hu => by simp at hu; rcases hu with rfl | rfl <;> rfl) (by unfold maxLen; omega) (by omega) HBB.out.size ?_); intro v6 w6 ho6 hg6; have HO6 := hid ho6; have HB6 := hid (GrownV.below hg6 HO5.out HBB.out.size); clear ho6 hg6)
        have HB7 := hid (HBB.out.trans HB6.out)
        go_roundg (gk - 1)
        case measure => omega
        case rel => exact ⟨_, j + 1, rfl, by omega, by go_num, by unfold Its; rw [HW.out, List.length_append, HWL.out, itc_app, show itc [y] s.v = [.int .i64 y, .int .i64 yv] from by rw [← HYV.out]; rfl]; exact HO6.out, HB7.out⟩
    · obtain rfl : j = n := by omega
      have HF := hid (show Its wr w.heap.size v5 (wo b s.L) s.v from by have := HO.out; rw [← HN.out, List.take_length] at this; exact this)
      go_wp2
      go_ret
      exact ⟨_, rfl, HF.out, HB.out⟩
theorem Rv.left {w : World} {B : Nat} {A : Option Addr} {us vs : List Value} (h : Rv w B A (us ++ vs)) : Rv w B A us := fun j u hu => h j u (by
  have hj := (List.getElem?_eq_some_iff.1 hu).1
  rw [List.getElem?_append_left hj]
  exact hu)
theorem itc_fg (ok : Oku s) {x : Int} (hl : s.L.getLast? = some x) : itc s.L s.v = itc (s.fg x).L (s.fg x).v ++ [.int .i64 x, .int .i64 (s.v x)] := by
  have hn : s.L ≠ [] := fun e => by rw [e] at hl; cases hl
  have e1 : (s.fg x).L = s.L.dropLast := last_wo hl ok.nd
  have e2 : s.L = s.L.dropLast ++ [x] := by
    have := List.dropLast_concat_getLast hn
    rw [List.getLast?_eq_some_getLast hn] at hl
    injection hl with hl
    rw [hl] at this
    exact this.symm
  have e3 : itc (s.fg x).L (s.fg x).v = itc (s.fg x).L s.v := itc_congr fun b hb => upd_ne _ _ (mem_wo.1 hb).2
  rw [e3, e1]
  conv => lhs; rw [e2]
  rw [itc_app]
  rfl
set_option maxRecDepth 10000 in
set_option maxHeartbeats 2000000 in
theorem r_prune (u : Ur w X h A cp E ce c s) (ok : Oku s) : Calls Try.prog 27 #[.pointer (some ⟨h, 0, none⟩)] w fun e w' => e = .returned (.tuple #[]) ∧ Ur w' X h A cp E ce c s.trm ∧ Chg w w' (· = h) (· = h) := by
  have HU := hid u
  have HK := hid ok
  clear u ok
  go_enter Try.func27, Try.ntmps27
  go_wp2
  go_loopg [] s.L.length (fun gk wr => ∃ s' : Us, s'.L.length = gk ∧ s'.trm = s.trm ∧ Oku s' ∧ Ur wr X h A cp E ce c s' ∧ Chg w wr (· = h) (· = h))
  case atStart => exact ⟨s, rfl, rfl, HK.out, HU.out, Chg.refl _ _⟩
  case round =>
    obtain ⟨s', hlen, he, ok, hu, hc⟩ := hrel
    have HE := hid he
    have HU1 := hid hu
    have HC1 := hid hc
    have c0 := hu.c0
    rw [hlen] at c0
    have HLEN := hid hlen
    clear he HU HK
    cases gk with
    | zero =>
      have hn : s'.L = [] := List.length_eq_zero_iff.1 hlen
      have HTR := hid (tr_nil hn)
      clear hlen hn hu hc ok
      go_upto_region 0 with fail
      go_quiet (fail)
      go_wp2
      refine bodyPost_end (results_none rfl _ _ _) rfl ?_
      exact ⟨rfl, by rw [← HE.out, HTR.out]; exact HU1.out.draws _, Chg.draws HC1.out _⟩
    | succ m =>
      have hn : s'.L ≠ [] := fun e => by rw [e] at hlen; simp at hlen
      have hl := List.getLast?_eq_some_getLast hn
      have hm := List.getLast_mem hn
      generalize s'.L.getLast hn = x at *
      have hat : s'.L[m]? = some x := by rw [← hl, List.getLast?_eq_getElem?, hlen]; rfl
      obtain ⟨ad, rfl, alt, d0, d1⟩ := it_at (Nat.le_refl _) hu.row hat
      have HIT := hid (itc_fg ok hl)
      have hcp := hu.cpl
      rw [hlen] at hcp
      have h64 := ok.len
      rw [hlen] at h64
      obtain ⟨n, hnm⟩ : ∃ n, m + 1 = n := ⟨_, rfl⟩
      rw [hnm] at c0 hcp h64 HLEN
      have hw : IntKind.i64.wrap ((n : Int) - 1) = (m : Int) := by rw [IntKind.wrap_i64]; omega
      have hmn : (m : Int) < (n : Int) := by omega
      have hn0 : (0 : Int) < (n : Int) := by omega
      have hd0 : decide (0 < n) = true := by simp; omega
      unfold maxLen at hcp
      have hmc : (m : Int) ≤ (cp : Int) := by omega
      by_cases hv : s'.v x = 4
      · obtain ⟨e1, e2⟩ := tr_go ok hl hv
        rw [hv] at d1
        have HT1 := hid e1
        have HT2 := hid (show (s'.fg x).L.length = m from by omega)
        have HOK := hid (ok.fg x)
        clear hlen hnm hn hl hm hat hu hc ok hv e1 e2
        go_upto_region 0 with fail
        go_quiet (fail)
        go_upto_region 1 with fail
        have HU2 := hid (HU1.out.draws nq)
        have HC2 := hid (Chg.draws HC1.out nq)
        clear c0 d0 d1 alt HU1 HC1
        generalize wr.drewN nq = w1 at *
        have c0 := HU2.out.c0
        rw [HLEN.out] at c0
        have f0 := HU2.out.free
        have hcn : (cp : Int) ≤ 9223372036854775807 := by omega
        have HCP := hid (show m ≤ cp ∧ cp ≤ maxLen from ⟨by omega, by unfold maxLen; omega⟩)
        go_region
        have hrow := HU2.out.row
        rw [HIT.out] at hrow
        have hput := HU2.out.put (s' := s'.fg x) (A' := some ad) (cp' := cp) hrow.left (by rw [HT2.out]; exact HCP.out) HU2.out.rof
        rw [HT2.out] at hput
        have HU3 := hid (show Ur (w1.setCell ⟨h, 0, none⟩ (.slice (some ad) m cp)).drew X h (some ad) cp E ce c (s'.fg x) from hput.draws 1)
        have HC3 := hid (show Chg w (w1.setCell ⟨h, 0, none⟩ (.slice (some ad) m cp)).drew (· = h) (· = h) from Chg.draws (chg_set HC2.out 0 _) 1)
        clear hrow hput c0 f0
        go_wp2
        go_roundg m
        case measure => omega
        case rel => exact ⟨_, HT2.out, by rw [← HT1.out]; exact HE.out, HOK.out, HU3.out, HC3.out⟩
      · have HTR := hid (tr_stop hl hv)
        generalize s'.v x = y at *
        have h1 : (y == 4) = false := by simpa using hv
        have h2 : decide (y = 4) = false := by simpa using hv
        clear hlen hnm hn hl hm hat hu hc ok hv
        go_upto_region 0 with fail
        go_quiet (fail)
        go_wp2
        refine bodyPost_end (results_none rfl _ _ _) rfl ?_
        exact ⟨rfl, by rw [← HE.out, HTR.out]; exact HU1.out.draws _, Chg.draws HC1.out _⟩
set_option maxRecDepth 10000 in
set_option maxHeartbeats 2000000 in
theorem r_next (u : Ur w X h A cp E ce c s) (ok : Oku s) (b : Int) : Calls Try.prog 32 #[.pointer (some ⟨h, 0, none⟩), .int .i64 b] w fun e w' => e = .returned (.int .i64 (s.nx c b)) ∧ Below w.heap.size w w' := by
  have HU := hid u
  have HK := hid ok
  have HPL := hid (r_place u ok b)
  clear u ok
  go_enter Try.func32, Try.ntmps32
  go_wp2_with (go_at_call 18; refine HPL.out.mono ?_; rintro e w' ⟨rfl, rfl⟩)
  go_loopg [6] 3 (fun gk t wr => ∃ l : Nat, l + gk = 4 ∧ 1 ≤ l ∧ t = .int .i64 l ∧ (∀ q, 1 ≤ q → q < l → ¬ s.tk c b q) ∧ Ur wr X h A cp E ce c s ∧ Below w.heap.size w wr)
  case atStart => exact ⟨1, by omega, by omega, rfl, fun q h1 h2 => by omega, HU.out, Below.refl _ _⟩
  case round =>
    obtain ⟨l, hl, h1, rfl, hno, hu, hb⟩ := hrel
    have HNO := hid hno
    have HU1 := hid hu
    have HB1 := hid hb
    clear hno hu hb
    by_cases h3 : l ≤ 3
    · have hl4 : (l : Int) < 4 := by omega
      have hl3 : (l : Int) ≤ 3 := by omega
      obtain ⟨ae, rfl, hce⟩ := HU1.out.cap h1 h3
      have c1 := HU1.out.c1
      have HCT := hid (fun (n : Nat) => r_count (HU1.out.draws n) HK.out l)
      have HYD := hid (fun (n : Nat) => r_yard (HU1.out.draws n) HK.out l)
      by_cases hb : b ∈ s.L
      · have HTK := hid (show s.tk c b l ↔ (px b s.L : Int) ≤ s.yp l from by unfold Us.tk; rw [if_pos hb])
        rw [show plc s b = (px b s.L : Int) from by unfold plc; rw [if_pos hb]] at *
        generalize px b s.L = p at *
        generalize s.yp l = y at *
        have hp0 : ¬ (p : Int) < 0 := by omega
        have hd0 : decide ((p : Int) < 0) = false := by simp
        have hp1 : (0 : Int) ≤ (p : Int) := by omega
        by_cases ht : (p : Int) ≤ y
        · have HE := hid (nx_is h1 h3 HNO.out (HTK.out.2 ht))
          have hd1 : decide ((p : Int) ≤ y) = true := by simpa using ht
          clear hb
          go_upto_region 5 with fail
          go_quiet (first | (go_at_call 34; exact quietL (HYD.out _)))
          go_wp2
          go_ret
          exact ⟨by rw [HE.out]; rfl, below_draws HB1.out _⟩
        · have HNT := hid (show ¬ s.tk c b l from fun e => ht (HTK.out.1 e))
          have hd1 : decide ((p : Int) ≤ y) = false := by simpa using ht
          clear hb
          go_upto_region 5 with fail
          go_quiet (first | (go_at_call 34; exact quietL (HYD.out _)))
          go_wp2
          go_roundg (gk - 1)
          case measure => omega
          case rel => exact ⟨l + 1, by omega, by omega, by go_num, fun q q1 q2 => by
            by_cases e : q = l
            · rw [e]; exact HNT.out
            · exact HNO.out q q1 (by omega), HU1.out.draws _, below_draws HB1.out _⟩
      · have HTK := hid (show s.tk c b l ↔ s.ct l < c l from by unfold Us.tk; rw [if_neg hb])
        rw [show plc s b = -1 from by unfold plc; rw [if_neg hb]] at *
        generalize s.ct l = n1 at *
        generalize c l = n2 at *
        by_cases ht : n1 < n2
        · have HE := hid (nx_is h1 h3 HNO.out (HTK.out.2 ht))
          have hd1 : decide (n1 < n2) = true := by simpa using ht
          clear hb
          go_upto_region 5 with fail
          go_quiet (first | (go_at_call 33; exact quietL (HCT.out _)))
          go_wp2
          go_ret
          exact ⟨by rw [HE.out]; rfl, below_draws HB1.out _⟩
        · have HNT := hid (show ¬ s.tk c b l from fun e => ht (HTK.out.1 e))
          have hd1 : decide (n1 < n2) = false := by simpa using ht
          clear hb
          go_upto_region 5 with fail
          go_quiet (first | (go_at_call 33; exact quietL (HCT.out _)))
          go_wp2
          go_roundg (gk - 1)
          case measure => omega
          case rel => exact ⟨l + 1, by omega, by omega, by go_num, fun q q1 q2 => by
            by_cases e : q = l
            · rw [e]; exact HNT.out
            · exact HNO.out q q1 (by omega), HU1.out.draws _, below_draws HB1.out _⟩
    · have HE := hid (nx_four (s := s) (c := c) (b := b) fun q q1 q2 => HNO.out q q1 (by omega))
      have hl3 : ¬ (l : Int) ≤ 3 := by omega
      go_wp2
      go_ret
      exact ⟨by rw [HE.out]; rfl, HB1.out⟩
end
end Go.Proofs.Ytmkpimpckhppgaa
