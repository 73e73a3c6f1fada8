/-
  What is proved: store's Write, of any write, by what it does to the disk; the store's fixed example. Conditions: the store lies in memory as one; the write's bytes are read.
-/
import Derived.Test.YtincndblpbdnlaaStn
import Derived.Test.YtincndblpbdnlaaOpn
import Derived.Test.YtincndblpbdnlaaSame
namespace Go.Proofs.Ytincndblpbdnlaa
open Go.RowKit

section
variable {w : World} {bb kd ks : Nat} {vv : Value} {st : St} {sh : Sh}
theorem stw_any (h : Sx w bb kd ks vv st sh) (x : Wr) (hy : Byt x.l) (r : Rn w x.A x.l) :
    Calls Try.prog 15 #[.pointer (some ⟨ks, 0, none⟩), x.v] w fun e w' =>
      e = .returned (.tuple #[.int .i64 (dwr sh st x).2.1, .int .i64 (dwr sh st x).2.2]) ∧ Sx w' bb kd ks vv (dwr sh st x).1 sh ∧ Only w w' kd vv := by
  by_cases hw : x.wrong sh = 0
  · have fit := x.fit h.ok hw
    obtain ⟨h1, h2, ⟨h3, h4⟩, h5, h6⟩ := x.fits sh hw
    have hlen := h.len
    have q1 : 1 + x.k.toNat < st.L.length := by
      have := fit.k
      rw [top_eq] at hlen
      omega
    have q2 : sh.at_ x.c.toNat x.s.toNat < st.L.length := by
      have := fit.i
      rw [top_eq] at hlen
      rw [at_eq]
      omega
    have e1 := sec_some q1
    have e2 := sec_some q2
    have hd : dwr sh st x = if age x.b x.o (slt (sec st.L (sh.at_ x.c.toNat x.s.toNat))).1 (slt (sec st.L (sh.at_ x.c.toNat x.s.toNat))).2.1 < 0 then ((st, 0, 12) : St × Int × Int)
      else if age x.b x.o (slt (sec st.L (sh.at_ x.c.toNat x.s.toNat))).1 (slt (sec st.L (sh.at_ x.c.toNat x.s.toNat))).2.1 = 0 then (st, ((slt (sec st.L (sh.at_ x.c.toNat x.s.toNat))).2.2 : Nat), 0)
      else ((adr sh st (blk sh.Z (sec st.L (1 + x.k.toNat))).1 x.c.toNat x.s.toNat x.b.toNat x.o.toNat x.k.toNat x.l).1.1, (adr sh st (blk sh.Z (sec st.L (1 + x.k.toNat))).1 x.c.toNat x.s.toNat x.b.toNat x.o.toNat x.k.toNat x.l).2, (adr sh st (blk sh.Z (sec st.L (1 + x.k.toNat))).1 x.c.toNat x.s.toNat x.b.toNat x.o.toNat x.k.toNat x.l).1.2) := if_pos hw
    rw [hd]
    obtain ⟨c, s, b, o, k, A, cap, l⟩ := x
    dsimp only [Wr.v] at *
    obtain ⟨c, rfl⟩ := Int.eq_ofNat_of_zero_le h3.1
    obtain ⟨s, rfl⟩ := Int.eq_ofNat_of_zero_le h4.1
    obtain ⟨k, rfl⟩ := Int.eq_ofNat_of_zero_le h1.1
    obtain ⟨b, rfl⟩ := Int.eq_ofNat_of_zero_le (show 0 ≤ b by omega)
    obtain ⟨o, rfl⟩ := Int.eq_ofNat_of_zero_le (show 0 ≤ o by omega)
    simp only [Int.toNat_natCast] at *
    have g1 : 1 ≤ b ∧ b ≤ great := by unfold great; omega
    have g2 : 1 ≤ o ∧ o ≤ great := by unfold great; omega
    by_cases a1 : age b o (slt (sec st.L (sh.at_ c s))).1 (slt (sec st.L (sh.at_ c s))).2.1 < 0
    · rw [if_pos a1]
      exact (write_old h c s b o k l.length cap A l rfl h2 g1 g2 r hy fit.k fit.c fit.t _ _ e1 e2 a1).mono fun e w' ⟨he, hb⟩ => ⟨he, h.below hb, Only.of hb _ _⟩
    · rw [if_neg a1]
      by_cases a2 : age b o (slt (sec st.L (sh.at_ c s))).1 (slt (sec st.L (sh.at_ c s))).2.1 = 0
      · rw [if_pos a2]
        exact (write_same h c s b o k l.length cap A l rfl h2 g1 g2 r hy fit.k fit.c fit.t _ _ e1 e2 a2).mono fun e w' ⟨he, hb⟩ => ⟨he, h.below hb, Only.of hb _ _⟩
      · rw [if_neg a2]
        exact write_new h c s b o k l.length cap A l rfl h2 g1 g2 r hy fit.k fit.c fit.t _ _ e1 e2 (by unfold age at a1 a2; omega)
  · have hd : dwr sh st x = (st, 0, ((x.wrong sh : Nat) : Int)) := if_neg hw
    rw [hd]
    exact (write_no h x.c x.s x.b x.o x.k x.l.length x.cap x.A x.l rfl hw).mono fun e w' ⟨he, hb⟩ => ⟨he, h.below hb, Only.of hb _ _⟩

theorem rn_one (w : World) (x : Int) : Rn (w.alloc (.cells #[.int .u8 x] 5)) (some ⟨w.heap.size, 0, none⟩) [x] := by
  intro j u hu
  have hj : j = 0 := by
    rcases Nat.lt_or_ge j 1 with h | h
    · omega
    · rw [List.getElem?_eq_none (by simpa using h)] at hu; cases hu
  subst hj
  refine ⟨_, rfl, by rw [World.size_alloc]; exact Nat.lt_succ_self _, ?_⟩
  simp only [List.getElem?_cons_zero, Option.some.injEq] at hu
  subst hu
  exact World.cell?_alloc_new _ _ _ 0
theorem sec_rep (n i : Nat) : sec (List.replicate n []) i = [] := by
  unfold sec
  rw [List.getD, List.getElem?_replicate]
  split <;> rfl
theorem ok1_rep (n : Nat) : ∀ l ∈ (List.replicate n ([] : List Int)), Ok1 l := fun l hl => by
  rw [List.eq_of_mem_replicate hl]
  exact ⟨by simp, by simp⟩
theorem cl64 : cl 64 = 64 := rfl
theorem Sx.bel {w' : World} {st' : St} (h : Sx w bb kd ks vv st sh) (_ : Sx w' bb kd ks vv st' sh) (ho : Only w w' kd vv) : Below bb w w' := h.dk.onlyBel ho (Nat.le_trans h.dk.low (Nat.le_of_lt h.dk.box.lt))
/-- a store that has been opened on a new disk -/
theorem open_new (B Z C S : Nat) (ok : (Sh.mk B Z C S).ok) (hd : Dk w 67 bb kd vv ⟨List.replicate 64 [], -1, false⟩) :
    Calls Try.prog 14 #[.pointer (some ⟨kd, 0, none⟩), .agg #[.int .i64 B, .int .i64 Z, .int .i64 C, .int .i64 S]] w fun e w' =>
      ∃ ks, e = .returned (.tuple #[.pointer (some ⟨ks, 0, none⟩), .int .i64 0]) ∧ Sx w' bb kd ks vv ⟨List.replicate 64 [], -1, false⟩ ⟨B, Z, C, S⟩ ∧ Only w w' kd vv ∧ w.heap.size ≤ ks := by
  have hr : rdo ⟨B, Z, C, S⟩ ⟨List.replicate 64 [], -1, false⟩ [] = (⟨List.replicate 64 [], -1, false⟩, 0) := if_neg (pok_nil _)
  have h1 : (Sh.mk B Z C S).at_ C 0 ≤ 64 := by
    have h1 := ok.b
    have h2 := ok.c
    have h3 := ok.s
    have h4 : S * C ≤ 4 * 4 := Nat.mul_le_mul h3.2 h2.2
    simp only [Sh.at_] at *
    omega
  have := open_ok B Z C S hd ok (by rw [List.length_replicate]; exact h1) (ok1_rep 64) [] (by simp) (by rw [hr])
  rw [hr] at this
  exact this
end
end Go.Proofs.Ytincndblpbdnlaa
