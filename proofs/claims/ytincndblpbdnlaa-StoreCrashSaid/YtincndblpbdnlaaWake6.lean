/-
  What is proved: the fixed fact that each statement of this layer asks first holds: a write of a block is told, version 1; the same write again changes nothing. The walk of StoreNil. No condition.
-/
import Derived.Test.YtincndblpbdnlaaStw
namespace Go.Proofs.Ytincndblpbdnlaa
open Go.RowKit

def exS : Sh := ⟨4, 1, 1, 1⟩
theorem exOk : exS.ok := ⟨by decide, by decide, by decide, by decide⟩
def exW (g : Nat) : Wr := ⟨0, 0, 1, 1, 2, some ⟨g, 0, none⟩, 1, [7]⟩
/-- behind the example's writes -/
def exR (g : Nat) : RS := (rwr exS (RS.zero 1) (exW g)).1
theorem ex1 (g : Nat) : (rwr exS (RS.zero 1) (exW g)).2 = (0, 0) := rfl
theorem ex2 (g h : Nat) : rwr exS (exR g) (exW h) = (exR g, 0, 0) := rfl
theorem exV (g : Nat) : (exR g).V 2 = 1 ∧ (exR g).T 2 = [7] := ⟨rfl, rfl⟩
theorem byt7 : Byt [7] := fun x hx => by simp at hx; omega
theorem Wr.v_eq (x : Wr) : x.v = .agg #[.int .i64 x.c, .int .i64 x.s, .int .i64 x.b, .int .i64 x.o, .int .i64 x.k, .slice x.A x.l.length x.cap] := rfl
/-- the state that a store's sectors tell: nothing is pending -/
structure Fine (sh : Sh) (L : List (List Int)) (X : RS) : Prop where
  ok : sh.ok
  len : sh.at_ sh.C 0 ≤ L.length
  agr : Agr sh L X
  no : ¬ pok sh (sec L 0)
theorem Fine.rdo {sh : Sh} {L : List (List Int)} {X : RS} (h : Fine sh L X) (f : Int) (d : Bool) : rdo sh ⟨L, f, d⟩ (sec L 0) = (⟨L, f, d⟩, 0) := rdo_none h.no
theorem fine_new {sh : Sh} (ok : sh.ok) : Fine sh (List.replicate 64 []) (RS.zero sh.Z) := by
  refine ⟨ok, ?_, agr_zero sh 64, by rw [sec_rep]; exact pok_nil sh⟩
  rw [List.length_replicate, top_eq]
  have h1 := ok.b
  have h4 : sh.S * sh.C ≤ 4 * 4 := Nat.mul_le_mul ok.s.2 ok.c.2
  omega
section
variable {w : World} {bb kd ks : Nat} {vv : Value} {sh : Sh} {L : List (List Int)} {X : RS}
/-- a write on a disk that stays up -/
theorem stw_free (h : Sx w bb kd ks vv ⟨L, -1, false⟩ sh) (hf : Fine sh L X) (x : Wr) (hy : Byt x.l) (r : Rn w x.A x.l) :
    Calls Try.prog 15 #[.pointer (some ⟨ks, 0, none⟩), x.v] w fun e w' =>
      e = .returned (.tuple #[.int .i64 (rwr sh X x).2.1, .int .i64 (rwr sh X x).2.2]) ∧ ∃ L', Sx w' bb kd ks vv ⟨L', -1, false⟩ sh ∧ Fine sh L' (rwr sh X x).1 ∧ Only w w' kd vv := by
  obtain ⟨L', a1, a2, a3, a4⟩ := dwr_free hf.ok hf.len hf.agr hf.no x hy
  have := stw_any h x hy r
  rw [a1] at this
  exact this.mono fun e w' ⟨h1, h2, h3⟩ => ⟨h1, L', h2, ⟨hf.ok, by rw [a2]; exact hf.len, a4, a3⟩, h3⟩
/-- what a store tells of a block -/
theorem str_any {st : St} (h : Sx w bb kd ks vv st sh) (hf : Fine sh st.L X) (k : Nat) (hk : k < sh.B) :
    Calls Try.prog 27 #[.pointer (some ⟨ks, 0, none⟩), .int .i64 k] w fun e w' => ∃ u, e = .returned (.tuple #[u, .int .i64 (X.V k : Nat), .int .i64 0]) ∧ Own w' w.heap.size u (X.T k) ∧ Below w.heap.size w w' := by
  have q1 : 1 + k < st.L.length := by
    have h1 := hf.len
    rw [top_eq] at h1
    omega
  have := read_yes h k hk _ (sec_some q1)
  rw [hf.agr.b k hk] at this
  exact this
end

set_option maxHeartbeats 400000 in
theorem wakes_any (w : World) : Calls Try.prog 9 #[] w fun e w' => e = .returned (.bool true) ∧ Below w.heap.size w w' := by
  go_enter Try.func9, Try.ntmps9
  go_wp2_with fail
  refine (new_any 64 _).mono ?_
  rintro e w1 ⟨kd, v, rfl, hk, hb⟩
  have K1 := hid (show Dk w1 67 w.heap.size kd v ⟨List.replicate 64 [], -1, false⟩ from hk)
  have B1 := hid hb
  clear hk hb
  go_wp2_with fail
  refine (open_new 4 1 1 1 exOk K1.out).mono ?_
  rintro e w2 ⟨ks, rfl, hx, ho, -⟩
  have X2 := hid (show Sx w2 w.heap.size kd ks v ⟨List.replicate 64 [], -1, false⟩ exS from hx)
  have B2 := hid (B1.out.trans (K1.out.onlyBel ho B1.out.size))
  clear hx ho K1 B1
  go_wp2_with fail
  obtain ⟨W1, hW1⟩ : ∃ W1, w2.alloc (.cells #[.int .u8 7] 5) = W1 := ⟨_, rfl⟩
  have R1 : Rn W1 (some ⟨w2.heap.size, 0, none⟩) [7] := by rw [← hW1]; exact rn_one w2 7
  have C1 : Below w2.heap.size w2 W1 := by rw [← hW1]; exact below_alloc _ _
  have s1 : W1.heap.size = w2.heap.size + 1 := by rw [← hW1, World.size_alloc]
  obtain ⟨W2, hW2, BW, C2, -⟩ := below_new W1 38 #[.int .i64 0, .int .i64 0, .int .i64 1, .int .i64 1, .int .i64 2, .slice (some ⟨w2.heap.size, 0, none⟩) 1 1]
  rw [s1] at BW
  have HW2 := hid (show (w2.alloc (.cells #[.int .u8 7] 5)).alloc (.cells #[.int .i64 0, .int .i64 0, .int .i64 1, .int .i64 1, .int .i64 2, .slice (some ⟨w2.heap.size, 0, none⟩) 1 1] 38) = W2 by rw [hW1, hW2])
  have X3 := hid ((X2.out.below C1).below C2)
  have B3 := hid (on (on B2.out C1) C2)
  have R3 := hid (R1.now C2)
  have E3 := hid BW
  clear hW1 R1 C1 s1 hW2 BW C2 X2 B2
  rw [HW2.out]
  refine (stw_free X3.out (show Fine exS _ (RS.zero 1) from fine_new exOk) (exW w2.heap.size) byt7 R3.out).mono ?_
  rintro e w3 ⟨rfl, L3, hx, hf, ho⟩
  rw [ex1]
  have F4 := hid (show Fine exS L3 (exR w2.heap.size) from hf)
  have X4 := hid hx
  have B4 := hid (B3.out.trans ((X3.out.bel hx ho).mono (Nat.le_refl _)))
  have R4 := hid (R3.out.stay ho.stay ho.size)
  have E4 := hid (E3.out.dsk X3.out.dk ho (by decide) (by decide))
  clear hf hx ho X3 B3 R3 E3 HW2
  go_wp2_with (refine wpList_load_bx rfl 38 (.tmp 3) rfl _ _ _ _ rfl E4.out Try.underlying38 rfl (by kernel_rfl) ?_)
  refine (stw_free X4.out F4.out (exW w2.heap.size) byt7 R4.out).mono ?_
  rintro e w4 ⟨rfl, L4, hx, hf, ho⟩
  rw [ex2] at hf ⊢
  have F5 := hid hf
  have X5 := hid hx
  have B5 := hid (B4.out.trans ((X4.out.bel hx ho).mono (Nat.le_refl _)))
  clear hf hx ho X4 B4 R4 E4 F4
  go_wp2_with fail
  refine (str_any X5.out F5.out 2 (by decide)).mono ?_
  rintro e w5 ⟨u, rfl, hu, hb⟩
  rw [(exV w2.heap.size).1]
  have hu2 := hu.bs
  rw [(exV w2.heap.size).2] at hu2
  obtain ⟨A, c, rfl, hr, hc, hm⟩ := hu2
  have B6 := hid (on B5.out hb)
  have R6 := hid (show Rn (w5.alloc (.cells #[.int .u8 7] 5)) A [7] from hr.now (below_alloc _ _))
  have R7 := hid (rn_one w5 7)
  clear hu hr hb X5 F5 B5
  have hcm : 1 ≤ maxLen := by unfold maxLen; omega
  go_wp2_with (go_at_call 18; refine (same_yes A (some ⟨w5.heap.size, 0, none⟩) 1 1 c 1 [7] _ _ _ rfl rfl hcm R6.out R7.out).mono ?_; rintro e w8 ⟨rfl, d8, rfl⟩)
  go_ret
  exact ⟨rfl, below_draws (on B6.out (below_alloc _ _)) _⟩
end Go.Proofs.Ytincndblpbdnlaa
