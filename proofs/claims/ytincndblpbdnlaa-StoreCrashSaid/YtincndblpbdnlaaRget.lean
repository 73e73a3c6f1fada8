/-
  What is proved: the reference's Get answers the number that is told from a place on, and where it ends; else an error. Conditions: the place lies in the list; the list is no longer than a million.
-/
import Derived.Test.YtincndblpbdnlaaGnum
import Derived.Test.YtincndblpbdnlaaApq
namespace Go.Proofs.Ytincndblpbdnlaa
open Go.RowKit

/-- a reading that went well, or not -/
def GotR (l : List Int) (p : Nat) (w : World) (e : Ending) (w' : World) : Prop :=
  Below w.heap.size w w' ∧ ((∃ n q, gnum l p = some (n, q) ∧ e = .returned (.agg #[.int .i64 (n : Nat), .slice none 0 0, .int .i64 (q : Nat), .int .i64 0])) ∨
    (gnum l p = none ∧ ∃ x : Int, x ≠ 0 ∧ e = .returned (.agg #[.int .i64 0, .slice none 0 0, .int .i64 0, .int .i64 x])))
theorem gnum_scan {l t : List Int} {p : Nat} (h : scan 9 (l.drop p) = some t) (hg : Good t) : gnum l p = some (val t, p + t.length) := by
  unfold gnum
  rw [h]
  simp only [if_pos hg]
theorem gnum_no {l : List Int} {p : Nat} (h : ∀ t, scan 9 (l.drop p) = some t → ¬ Good t) : gnum l p = none := by
  unfold gnum
  split
  · rename_i t ht
    rw [if_neg (h t ht)]
  · rfl
set_option maxRecDepth 100000 in
set_option maxHeartbeats 2000000 in
theorem refget_any (A : Option Addr) (c p L : Nat) (l : List Int) (w : World) (C : Nat) (hL : l.length = L) (hlen : L ≤ 1000000) (hp : p ≤ L) (hb : ∀ x ∈ l, 0 ≤ x ∧ x ≤ 255) (ra : Rd w C A l) :
    Calls Try.prog 44 #[.slice A L c, .int .i64 p] w (GotR l p w) := by
  have HB := hid hb
  have HR := hid ra
  have HL := hid hL
  clear hb ra hL
  have hp0 : (0 : Int) ≤ p := by omega
  go_enter Try.func44, Try.ntmps44
  go_wp2_with fail
  obtain ⟨W, hW, BX, HBel, -⟩ := below_new w 85 #[.int .i64 0, .slice none 0 0, .int .i64 0, .int .i64 0]
  rw [hW]
  have HX := hid BX
  have HW := hid HBel
  have HR1 := hid (show Rd W C A l from fun j x hx => by
    obtain ⟨ad, e, hbl, hc⟩ := HR.out j x hx
    exact ⟨ad, e, hbl, (HW.out.cell (by rw [addBlk]; have := World.block_lt_of_cell? w _ hc; rw [addBlk] at this; exact this)).trans hc⟩)
  clear hW BX HBel HR
  have hpp : p + 0 = p := rfl
  go_loop [5, 6, 7] (fun n u i => ∃ k m : Nat, i = .int .i64 (p + k : Nat) ∧ n = .int .i64 m ∧ Hid (Gone l p k m) ∧ k < 9 ∧ ∃ un : Nat, u = .int .i64 un ∧ Hid (un = 128 ^ k)) (fun _ _ i => L - (intOf i).toNat)
  case atStart => exact ⟨0, 0, by rfl, by rfl, hid (Gone.first l p (by rw [HL.out]; exact hp)), by omega, 1, by rfl, hid rfl⟩
  case round =>
    obtain ⟨k, m, rfl, rfl, hg, hk, un, rfl, hun⟩ := hrel
    have hm := hg.out.lt
    have hub : un ≤ 72057594037927936 := by rw [hun.out]; exact pow128le k hk
    have hmb : m < 72057594037927936 := Nat.lt_of_lt_of_le hm (pow128le k hk)
    clear hm
    have hpl := hg.out.2.1
    rw [HL.out] at hpl
    by_cases hlt : p + k < L
    · have hlt' : p + k < l.length := by rw [HL.out]; exact hlt
      obtain ⟨a, rfl, _, hc⟩ := HR1.out.get hlt'
      obtain ⟨hx0, hx1⟩ := HB.out _ (List.getElem_mem hlt')
      have HON := hid (fun h9 hc => hg.out.on (p := p) (i := k) h9 hlt' hc)
      have HLA := hid (fun h9 hc => hg.out.last (p := p) (i := k) h9 hlt' hc)
      generalize l[p + k] = x at *
      obtain ⟨dd, hdd⟩ : ∃ dd, x.toNat % 128 = dd := ⟨_, rfl⟩
      have hd1 : dd < 128 := by omega
      have hprod : un * dd ≤ 72057594037927936 * 127 := Nat.mul_le_mul hub (by omega)
      have hpe : ((un : Int) * (x % 128)) = ((un * dd : Nat) : Int) := by
        have : x % 128 = (dd : Int) := by omega
        rw [this, Int.natCast_mul]
      have HUN := hun
      have HDD := hid hdd
      by_cases h128 : x < 128
      · obtain ⟨t, t1, t2, t3, t4⟩ := HLA.out hk h128
        have HT1 := hid t1
        have HT2 := hid t2
        have HT3 := hid t3
        have HT4 := hid t4
        clear t1 t2 t3 t4 HON HLA hdd hun
        by_cases hx : x = 0
        · by_cases hk0 : 0 < k
          · have HNG := hid (show ∀ t', scan 9 (l.drop p) = some t' → ¬ Good t' from fun t' ht' => by
              rw [HT1.out] at ht'
              injection ht' with ht'
              subst ht'
              rintro (h | h)
              · rw [HT3.out] at h; omega
              · rw [HT4.out, hx] at h; exact h rfl)
            subst hx
            go_wp2_with (refine wpList_store_bx rfl 85 (.tmp 4) (.tmp 49) rfl rfl _ _ _ #[.int .i64 0, .slice none 0 0, .int .i64 0, .int .i64 2] rfl rfl HX.out (by kernel_rfl) rfl (by simp [Value.oneCell']) ?_)
            refine bodyPost_ret (results_bx1 rfl _ rfl (HX.out.row (cs' := #[.int .i64 0, .slice none 0 0, .int .i64 0, .int .i64 2])) Try.underlying85 rfl (by kernel_rfl)) rfl ?_
            refine ⟨HW.out.trans (below_rowR _ (Nat.le_refl _)), ?_⟩
            exact .inr ⟨gnum_no HNG.out, 2, by decide, rfl⟩
          · have hk1 : k = 0 := by omega
            have HGD := hid (show Good t from .inl (by rw [HT3.out, hk1]))
            have q1 : (x == 0) = true := by simpa using hx
            have q2 : decide ((p : Int) < (p : Int) + (k : Int)) = false := by simp; omega
            clear hk0 hk1 hx
            go_wp2_with (refine wpList_store_bx rfl 85 (.tmp 4) (.tmp 53) rfl rfl _ _ _ #[.int .i64 ((m : Int) + (un : Int) * (dd : Int)), .slice none 0 0, .int .i64 ((p : Int) + (k : Int) + 1), .int .i64 0] rfl rfl HX.out (by kernel_rfl) rfl (by simp [Value.oneCell']) ?_)
            refine bodyPost_ret (results_bx1 rfl _ rfl (HX.out.row (cs' := #[.int .i64 ((m : Int) + (un : Int) * (dd : Int)), .slice none 0 0, .int .i64 ((p : Int) + (k : Int) + 1), .int .i64 0])) Try.underlying85 rfl (by kernel_rfl)) rfl ?_
            refine ⟨HW.out.trans (below_rowR _ (Nat.le_refl _)), ?_⟩
            refine .inl ⟨val t, p + t.length, gnum_scan HT1.out HGD.out, ?_⟩
            have e1 : ((val t : Nat) : Int) = (m : Int) + (un : Int) * (dd : Int) := by rw [HT2.out, HUN.out, HDD.out, Nat.mul_comm, Int.natCast_add, Int.natCast_mul]
            have e2 : ((p + t.length : Nat) : Int) = (p : Int) + (k : Int) + 1 := by rw [HT3.out]; omega
            rw [e1, e2]
        · have HGD := hid (show Good t from .inr (by rw [HT4.out]; simpa using hx))
          have hx2 : (x == 0) = false := by simpa using hx
          clear hx
          go_wp2_with (refine wpList_store_bx rfl 85 (.tmp 4) (.tmp 53) rfl rfl _ _ _ #[.int .i64 ((m : Int) + (un : Int) * (dd : Int)), .slice none 0 0, .int .i64 ((p : Int) + (k : Int) + 1), .int .i64 0] rfl rfl HX.out (by kernel_rfl) rfl (by simp [Value.oneCell']) ?_)
          refine bodyPost_ret (results_bx1 rfl _ rfl (HX.out.row (cs' := #[.int .i64 ((m : Int) + (un : Int) * (dd : Int)), .slice none 0 0, .int .i64 ((p : Int) + (k : Int) + 1), .int .i64 0])) Try.underlying85 rfl (by kernel_rfl)) rfl ?_
          refine ⟨HW.out.trans (below_rowR _ (Nat.le_refl _)), ?_⟩
          refine .inl ⟨val t, p + t.length, gnum_scan HT1.out HGD.out, ?_⟩
          have e1 : ((val t : Nat) : Int) = (m : Int) + (un : Int) * (dd : Int) := by rw [HT2.out, HUN.out, HDD.out, Nat.mul_comm, Int.natCast_add, Int.natCast_mul]
          have e2 : ((p + t.length : Nat) : Int) = (p : Int) + (k : Int) + 1 := by rw [HT3.out]; omega
          rw [e1, e2]
      · by_cases hk8 : k = 8
        · have HNG := hid (show ∀ t', scan 9 (l.drop p) = some t' → ¬ Good t' from fun t' ht' => by
            have := HON.out hk h128
            rw [hk8] at this
            rw [this.long] at ht'
            cases ht')
          have q1 : ((k : Int) == 8) = true := by simp; omega
          clear HON HLA hdd hun hk8
          go_wp2_with (refine wpList_store_bx rfl 85 (.tmp 4) (.tmp 58) rfl rfl _ _ _ #[.int .i64 0, .slice none 0 0, .int .i64 0, .int .i64 2] rfl rfl HX.out (by kernel_rfl) rfl (by simp [Value.oneCell']) ?_)
          refine bodyPost_ret (results_bx1 rfl _ rfl (HX.out.row (cs' := #[.int .i64 0, .slice none 0 0, .int .i64 0, .int .i64 2])) Try.underlying85 rfl (by kernel_rfl)) rfl ?_
          refine ⟨HW.out.trans (below_rowR _ (Nat.le_refl _)), ?_⟩
          exact .inr ⟨gnum_no HNG.out, 2, by decide, rfl⟩
        · have HN := hid (HON.out hk h128)
          have q1 : ((k : Int) == 8) = false := by simp; omega
          have hub2 : un ≤ 72057594037927936 := hub
          have HUN2 := hid (show un * 128 = 128 ^ (k + 1) by rw [HUN.out, Nat.pow_succ])
          have hk7 : k < 8 := by omega
          have hu7 : un ≤ 562949953421312 := by
            rw [HUN.out]
            exact Nat.le_trans (Nat.pow_le_pow_right (by omega) (show k ≤ 7 by omega)) (by decide)
          clear HON HLA hdd hun hk8 hub hub2
          go_wp2
          go_round
          case rel => exact ⟨k + 1, m + un * dd, by go_num, by go_num, hid (by have := HN.out; rw [HDD.out, ← HUN.out, Nat.mul_comm] at this; exact this), by omega, un * 128, by go_num, HUN2⟩
          case measure => simp [intOf]; omega
    · have hpe : p + k = L := by omega
      have HNG := hid (show ∀ t', scan 9 (l.drop p) = some t' → ¬ Good t' from fun t' ht' => by
        rw [hg.out.short hk (by rw [HL.out]; exact hpe)] at ht'
        cases ht')
      have hd : decide ((p : Int) + (k : Int) < (L : Int)) = false := by simp; omega
      clear hlt hpe
      go_wp2_with (refine wpList_store_bx rfl 85 (.tmp 4) (.tmp 61) rfl rfl _ _ _ #[.int .i64 0, .slice none 0 0, .int .i64 0, .int .i64 1] rfl rfl HX.out (by kernel_rfl) rfl (by simp [Value.oneCell']) ?_)
      refine bodyPost_ret (results_bx1 rfl _ rfl (HX.out.row (cs' := #[.int .i64 0, .slice none 0 0, .int .i64 0, .int .i64 1])) Try.underlying85 rfl (by kernel_rfl)) rfl ?_
      refine ⟨HW.out.trans (below_rowR _ (Nat.le_refl _)), ?_⟩
      exact .inr ⟨gnum_no HNG.out, 1, by decide, rfl⟩
end Go.Proofs.Ytincndblpbdnlaa
