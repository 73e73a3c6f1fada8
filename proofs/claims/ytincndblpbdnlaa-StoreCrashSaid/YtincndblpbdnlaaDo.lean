/-
  What is proved: store's do goes the steps of an entry; Conditions: the store lies in memory as one; the write fits its shape.
-/
import Derived.Test.YtincndblpbdnlaaWrn
namespace Go.Proofs.Ytincndblpbdnlaa
open Go.RowKit

/-- what a write is answered, if the disk had no error -/
def okc (x er : Int) : Int := if er = 0 then x else 0
section
variable {w : World} {bb kd ks : Nat} {vv : Value} {st : St} {sh : Sh}
set_option maxRecDepth 100000 in
set_option maxHeartbeats 1600000 in
theorem do_any (h : Sx w bb kd ks vv st sh) (c s b o k v x L cap : Nat) (A : Option Addr) (l : List Int) (hL : l.length = L) (hl : L ≤ 16) (hc : c < 9223372036854775808) (hs : s < 9223372036854775808) (hb : b < 9223372036854775808) (ho : o < 9223372036854775808) (hk : k < 9223372036854775808) (hv : v < 9223372036854775808) (hx : x < 9223372036854775808) (r : Rn w A l) (hk1 : k < sh.B) (hc1 : c < sh.C) (hs1 : s < sh.S) (ns : List Nat) (n : Nat) (hn : ns.length = n) (hn4 : n ≤ 4) (hns : ∀ i ∈ ns, i < 4 ∧ Ok1 (pgs c s b o k v x l i)) (gs q : Nat) (cs : Array Value) (hgs : Bx w gs 3 cs) (hcs : cs.toList = nats ns) :
    Calls Try.prog 58 #[.pointer (some ⟨ks, 0, none⟩), .agg #[.int .i64 (c : Nat), .int .i64 (s : Nat), .int .i64 (b : Nat), .int .i64 (o : Nat), .int .i64 (k : Nat), .slice A L cap, .int .i64 (v : Nat), .int .i64 (x : Nat)], .slice (some ⟨gs, 0, none⟩) n q] w fun e w' =>
      e = .returned (.tuple #[.int .i64 (okc x (runs (wat (1 + k) (sh.at_ c s)) (pgs c s b o k v x l) st ns).2), .int .i64 (runs (wat (1 + k) (sh.at_ c s)) (pgs c s b o k v x l) st ns).2]) ∧ Sx w' bb kd ks vv (runs (wat (1 + k) (sh.at_ c s)) (pgs c s b o k v x l) st ns).1 sh ∧ Only w w' kd vv := by
  obtain ⟨W, hW, B1, HBb, sb⟩ := below_new w 91 #[.int .i64 (c : Nat), .int .i64 (s : Nat), .int .i64 (b : Nat), .int .i64 (o : Nat), .int .i64 (k : Nat), .slice A L cap, .int .i64 (v : Nat), .int .i64 (x : Nat)]
  have HW := hid hW
  have HX := hid (h.below HBb)
  have HE := hid B1
  have HB := hid HBb
  have HGS := hid (hgs.next HBb)
  have HWR := hid (fun w1 (h1 : Sx w1 bb kd ks vv st sh) r1 => writer_any (w := w1) h1 c s b o k v x L cap A l hL hl hc hs hb ho hk hv hx r1 hk1 hc1 hs1)
  have HR := hid (r.now HBb)
  have HRU := hid (fun w1 h1 t2 g hw1 (hr1 : Rv w1 w1.heap.size (some ⟨gs, 0, none⟩) (nats ns)) hrk1 => runs_any (w := w1) (b := bb) (kd := kd) (ks := ks) (v := vv) (s := st) (sh := sh) h1 (t2 := t2) (g := g) (a1 := 1 + k) (a2 := sh.at_ c s) (f := pgs c s b o k v x l) hw1 rfl ns n hn hn4 hns (some ⟨gs, 0, none⟩) q _ (Nat.le_refl _) hr1 hrk1)
  have HCS := hid hcs
  clear h hW B1 HBb sb hgs hL hc hs hb ho hk hv hx r hk1 hc1 hs1 hn hns hcs
  generalize hRR : runs (wat (1 + k) (sh.at_ c s)) (pgs c s b o k v x l) st ns = RR at *
  obtain ⟨st', er⟩ := RR
  clear hRR
  go_enter Try.func58, Try.ntmps58
  go_upto_region 1 with fail
  rw [HW.out]
  go_wp2_with (refine wpList_load_bx rfl 91 (.tmp 4) rfl _ _ _ _ rfl HE.out Try.underlying91 rfl (by kernel_rfl) ?_)
  refine (HWR.out W HX.out HR.out).mono ?_
  rintro e w1 ⟨t2, g, rfl, hw1, hb1⟩
  have HX1 := hid (HX.out.below hb1)
  have HW1 := hid hw1
  have HB1 := hid (on HB.out hb1)
  have HE1 := hid (HE.out.next hb1)
  have HGS1 := hid (HGS.out.next hb1)
  clear hw1 hb1 HX HE HGS HW HR HWR
  go_wp2_with fail
  refine (HRU.out w1 HX1.out t2 g HW1.out (rv_ints ns HGS1.out HCS.out) (fun y hy => rv_ints ns (HGS1.out.dsk HX1.out.dk hy (by decide) (by decide)) HCS.out)).mono ?_
  rintro e w2 ⟨rfl, hx2, ho2⟩
  have HX2 := hid hx2
  have HO2 := hid (Only.trans (Only.of HB1.out kd vv) ho2)
  have HE2 := hid (HE1.out.dsk HX1.out.dk ho2 (by decide) (by decide))
  clear hx2 ho2 HRU HX1 HW1 HE1 HGS1 HB1
  by_cases he : er = 0
  · subst he
    have HK := hid (show okc x 0 = x from if_pos rfl)
    have c7 := HE2.out.cell 7
    simp at c7
    go_wp2
    go_ret2
    refine ⟨?_, HX2.out, HO2.out⟩
    rw [HK.out]
    rfl
  · have h1 : (er == 0) = false := by simpa using he
    have h2 : (er != 0) = true := by simpa using he
    have HK := hid (show okc x er = 0 from if_neg he)
    clear he
    go_wp2
    go_ret2
    refine ⟨?_, HX2.out, HO2.out⟩
    rw [HK.out]
    rfl
end
end Go.Proofs.Ytincndblpbdnlaa
