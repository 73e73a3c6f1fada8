/-
  What is proved: store's add does a newer write. Conditions: the store lies in memory as one; the write fits its shape.
-/
import Derived.Test.YtincndblpbdnlaaRdo
namespace Go.Proofs.Ytincndblpbdnlaa
open Go.RowKit

/-- what add does to a disk on which the write's block is of version v, and what the write is answered -/
def adr (sh : Sh) (s : St) (v c t b o k : Nat) (l : List Int) : (St × Int) × Int :=
  let R := if v = 1000 then runs (wat (1 + k) (sh.at_ c t)) (pgs c t b o k 0 11 l) s [2] else runs (wat (1 + k) (sh.at_ c t)) (pgs c t b o k (v + 1) 0 l) s [0, 1, 2, 3]
  (R, okc (if v = 1000 then 11 else 0) R.2)
section
variable {w : World} {bb kd ks : Nat} {vv : Value} {st : St} {sh : Sh}
set_option maxRecDepth 100000 in
set_option maxHeartbeats 1600000 in
theorem add_any (h : Sx w bb kd ks vv st sh) (c s b o k L cap : Nat) (A : Option Addr) (l : List Int) (hL : l.length = L) (hl : L ≤ 16) (hb : b ≤ great) (ho : o ≤ great) (r : Rn w A l) (hy : Byt l) (hk1 : k < sh.B) (hc1 : c < sh.C) (hs1 : s < sh.S) (lb : List Int) (hlb : st.L[1 + k]? = some lb) :
    Calls Try.prog 37 #[.pointer (some ⟨ks, 0, none⟩), .agg #[.int .i64 (c : Nat), .int .i64 (s : Nat), .int .i64 (b : Nat), .int .i64 (o : Nat), .int .i64 (k : Nat), .slice A L cap]] w fun e w' =>
      e = .returned (.tuple #[.int .i64 (adr sh st (blk sh.Z lb).1 c s b o k l).2, .int .i64 (adr sh st (blk sh.Z lb).1 c s b o k l).1.2]) ∧ Sx w' bb kd ks vv (adr sh st (blk sh.Z lb).1 c s b o k l).1.1 sh ∧ Only w w' kd vv := by
  obtain ⟨W, hW, B1, HBb, sb⟩ := below_new w 38 #[.int .i64 (c : Nat), .int .i64 (s : Nat), .int .i64 (b : Nat), .int .i64 (o : Nat), .int .i64 (k : Nat), .slice A L cap]
  have HW := hid hW
  have HX := hid (h.below HBb)
  have HE := hid B1
  have HB := hid HBb
  have HR := hid (r.now HBb)
  have HBK := hid (block_any HX.out k hk1 lb hlb)
  have hv1 := (blk_len sh.Z lb).2
  have hB := h.ok.b
  have hC := h.ok.c
  have hS := h.ok.s
  have HF := hid (And.intro hb (And.intro ho (And.intro hk1 (And.intro hc1 hs1))))
  unfold great at hb ho
  have HDO := hid (fun w1 (h1 : Sx w1 bb kd ks vv st sh) (v x : Nat) (hv : v ≤ 1000) (hx : x < 9223372036854775808) (r1 : Rn w1 A l) (ns : List Nat) n hn hn4 hns gs q cs hgs hcs =>
    do_any (w := w1) h1 c s b o k v x L cap A l hL hl (by omega) (by omega) (by omega) (by omega) (by omega) (by omega) hx r1 hk1 hc1 hs1 ns n hn hn4 hns gs q cs hgs hcs)
  have HP1 := hid (fun x (hx : x < 9223372036854775808) => pgs_ok c s b o k 0 x l hy (by omega) (by omega) (by omega) (by omega) hx)
  have HP0 := hid (fun v (hv : v ≤ 1000) => pgs_ok0 c s b o k v 0 l hy (by omega) (by omega) (by omega) (by omega) (by unfold great; omega) (by unfold great; omega) hv)
  have HP2 := hid (fun v (hv : v ≤ 1000) => pgs_ok c s b o k v 0 l hy (by omega) (by omega) (by omega) (by omega) (by omega))
  clear h hW B1 HBb sb hL hl r hk1 hc1 hs1 hb ho hy hlb hB hC hS
  generalize hvv : (blk sh.Z lb).1 = ver at *
  have HVV := hid hvv
  clear hvv
  go_enter Try.func37, Try.ntmps37
  go_upto_region 1 with fail
  rw [HW.out]
  have k4 : W.cell? ⟨w.heap.size, 4, none⟩ = some (.int .i64 (k : Nat)) := HE.out.cell 4
  go_wp2_with fail
  refine HBK.out.mono ?_
  rintro e w1 ⟨u, rfl, hu, hb1⟩
  have HB1 := hid (on HB.out hb1)
  have HX1 := hid (HX.out.below hb1)
  have HE1 := hid (HE.out.next hb1)
  have HR1 := hid (HR.out.now hb1)
  clear hu hb1 HW HX HE HR HB HBK k4
  by_cases hv : ver = 1000
  · subst hv
    have HRES := hid (show adr sh st 1000 c s b o k l = (runs (wat (1 + k) (sh.at_ c s)) (pgs c s b o k 0 11 l) st [2], okc 11 (runs (wat (1 + k) (sh.at_ c s)) (pgs c s b o k 0 11 l) st [2]).2) from rfl)
    obtain ⟨w2, hw2, BG, HB2, -⟩ := below_new w1 3 #[.int .i64 2]
    have HW2 := hid hw2
    have HG2 := hid BG
    have HX2 := hid (HX1.out.below HB2)
    have HR2 := hid (HR1.out.now HB2)
    have HB3 := hid (on HB1.out HB2)
    clear hw2 BG HB2
    go_wp2_with (refine wpList_load_bx rfl 38 (.tmp 3) rfl _ _ _ _ rfl HE1.out Try.underlying38 rfl (by kernel_rfl) ?_)
    rw [HW2.out]
    refine (HDO.out w2 HX2.out 0 11 (by omega) (by omega) HR2.out [2] 1 rfl (by omega) (fun i hi => by
      have h2 : i = 2 := by simpa using hi
      subst h2
      exact And.intro (by omega) (HP1.out 11 (by omega) 2 (by omega) (by omega))) w1.heap.size 1 _ HG2.out rfl).mono ?_
    rintro e w3 ⟨rfl, hx3, ho3⟩
    have HX3 := hid hx3
    have HO3 := hid (Only.trans (Only.of HB3.out kd vv) ho3)
    clear hx3 ho3 HDO HP0 HP1 HP2 HX1 HX2 HR1 HR2 HB1 HB3 HE1 HG2 HW2
    go_wp2
    go_ret2
    refine ⟨?_, ?_, HO3.out⟩
    · rw [HRES.out]
      rfl
    · rw [HRES.out]
      exact HX3.out
  · have HRES := hid (show adr sh st ver c s b o k l = (runs (wat (1 + k) (sh.at_ c s)) (pgs c s b o k (ver + 1) 0 l) st [0, 1, 2, 3], okc 0 (runs (wat (1 + k) (sh.at_ c s)) (pgs c s b o k (ver + 1) 0 l) st [0, 1, 2, 3]).2) by unfold adr; simp only [if_neg hv])
    have q1 : ((ver : Int) == 1000) = false := by simpa using fun h : (ver : Int) = 1000 => hv (by omega)
    have q2 : ver + 1 ≤ 1000 := by omega
    have HQ2 := hid q2
    clear q2 hv
    obtain ⟨w2, hw2, BG, HB2, -⟩ := below_new w1 3 #[.int .i64 0, .int .i64 1, .int .i64 2, .int .i64 3]
    have HW2 := hid hw2
    have HG2 := hid BG
    have HX2 := hid (HX1.out.below HB2)
    have HR2 := hid (HR1.out.now HB2)
    have HB3 := hid (on HB1.out HB2)
    clear hw2 BG HB2
    go_wp2_with (refine wpList_load_bx rfl 38 (.tmp 3) rfl _ _ _ _ rfl HE1.out Try.underlying38 rfl (by kernel_rfl) ?_)
    rw [HW2.out]
    rw [show ((ver : Int) + 1) = ((ver + 1 : Nat) : Int) from rfl]
    refine (HDO.out w2 HX2.out (ver + 1) 0 HQ2.out (by omega) HR2.out [0, 1, 2, 3] 4 rfl (by omega) (fun i hi => by
      have h4 : i < 4 := by simp at hi; omega
      refine ⟨h4, ?_⟩
      by_cases h0 : i = 0
      · subst h0; exact HP0.out _ HQ2.out
      · exact HP2.out _ HQ2.out i (by omega) h4) w1.heap.size 4 _ HG2.out rfl).mono ?_
    rintro e w3 ⟨rfl, hx3, ho3⟩
    have HX3 := hid hx3
    have HO3 := hid (Only.trans (Only.of HB3.out kd vv) ho3)
    clear hx3 ho3 HDO HP0 HP1 HP2 HX1 HX2 HR1 HR2 HB1 HB3 HE1 HG2 HW2
    go_wp2
    go_ret2
    refine ⟨?_, ?_, HO3.out⟩
    · rw [HRES.out]
      rfl
    · rw [HRES.out]
      exact HX3.out
end
end Go.Proofs.Ytincndblpbdnlaa
