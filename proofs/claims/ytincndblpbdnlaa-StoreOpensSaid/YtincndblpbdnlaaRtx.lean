/-
  What is proved: the reference's GetText answers the text that is told from a place on, and where it ends; else an error. Conditions: the place lies in the list; the list is no longer than a million.
-/
import Derived.Test.YtincndblpbdnlaaRget
import Derived.Deep.RegionLaw
namespace Go.Proofs.Ytincndblpbdnlaa
open Go.RowKit

theorem rv_of_rd {w : World} {B : Nat} {A : Option Addr} {l : List Int} (h : Rd w B A l) : Rv w B A (bytes l) := fun j u hu => by
  simp only [bytes, List.getElem?_map, Option.map_eq_some_iff] at hu
  obtain ⟨x, hx, rfl⟩ := hu
  exact h j x hx
theorem ownV_bs {w : World} {b n : Nat} {v : Value} {l : List Int} (h : OwnV w b 5 1 v n (bytes l)) (hn : l.length = n) : Bs w v l := by
  subst hn
  obtain ⟨A, c, e, r, h1, h2⟩ := h.read
  refine ⟨A, c, e, fun j x hx => ?_, h1, h2⟩
  exact r j _ (by simp [bytes, hx])
theorem Stay.rowR {w : World} {g : Nat} {t : TypeId} {cs cs' : Array Value} (h : Bx w g t cs) (hc : ∀ x, Value.int .u8 x ∉ cs.toList) : Stay w (w.setRow g cs') := fun p x e => by
  by_cases hg : p.block = g
  · have hgt := h
    unfold Bx at hgt
    subst hg
    exfalso
    obtain ⟨b, o, q⟩ := p
    cases q with
    | none =>
      have h2 : w.cell? ⟨b, o, none⟩ = cs[o]? := h.cell o
      rw [h2] at e
      exact hc x (by rw [Array.mem_toList_iff]; exact Array.mem_of_getElem? e)
    | some q => simp [World.cell?, hgt] at e
  · simp only [World.cell?] at e ⊢
    rw [setRow_other w g p.block cs' hg]
    exact e
/-- append onto a row of the call's own, at the operation -/
theorem wp_appV {P : Program} {S e : TypeId} {z : Value} {size bytes : Nat} (E : Elt P S e z size bytes) {w : World} {o : Oper} {a : Act} {K : Act → World → Prop} {Q : Exit → Act → World → Prop} (s x : Operand)
    (ho : o.op = .call { callee := .builtin .append, args := #[s, x], argTypes := #[S, S] }) (b : Nat) (v : Value) (n : Nat) (us : List Value) (hown : OwnV w b e size v n us) (hs : a.eval s = v) (C : Nat) (A : Option Addr) (m c : Nat) (news : List Value)
    (hx : a.eval x = .slice A m c) (hm : news.length = m * size) (hr : Rv w C A news) (h1 : ∀ u ∈ news, u.oneCell' = true) (hlen : n + m ≤ maxLen) (hbytes : (n + m) * bytes ≤ 140737488355328) (hbase : b ≤ w.heap.size)
    (h : ∀ v' w', OwnV w' b e size v' (n + m) (us ++ news) → GrownV w w' v v' → K (a.put o.dst v') w') : o.wp P a w K Q := by
  obtain ⟨v', w', hrun, h2, h3⟩ := run_appV E w o.type b v n us hown C A m c news hm hr h1 hlen hbytes hbase
  unfold Oper.wp execOp
  simp only [ho, resolve, invoke, builtin, Sem.run_bind, Sem.run_pure, Result.andThen_ok, List.map_toArray, List.map_cons, List.map_nil, hs, hx, hrun]
  exact h v' w' h2 h3
/-- append onto a row of the call's own, as one step of a region that draws -/
theorem step_appV {P : Program} {S e : TypeId} {z : Value} {size bytes : Nat} (E : Elt P S e z size bytes) {ops : Array Oper} {w : World} {o : Oper} {a : Act} {K : Act → World → Prop} {Q : Exit → Act → World → Prop} {F : Prop} (hgd : o.guard = none) (s x : Operand)
    (ho : o.op = .call { callee := .builtin .append, args := #[s, x], argTypes := #[S, S] }) (b : Nat) (v : Value) (n : Nat) (us : List Value) (hown : OwnV w b e size v n us) (hs : a.eval s = v) (C : Nat) (A : Option Addr) (m c : Nat) (news : List Value)
    (hx : a.eval x = .slice A m c) (hm : news.length = m * size) (hr : Rv w C A news) (h1 : ∀ u ∈ news, u.oneCell' = true) (hlen : n + m ≤ maxLen) (hbytes : (n + m) * bytes ≤ 140737488355328) (hbase : b ≤ w.heap.size)
    (h : ∀ v' w', OwnV w' b e size v' (n + m) (us ++ news) → GrownV w w' v v' → K (a.put o.dst v') w') : if Region.wanted o (yielded ops a.tmps) = true then Oper.wp P o a w K Q else F := by
  have hw : Region.wanted o (yielded ops a.tmps) = true := by simp [Region.wanted, hgd]
  rw [if_pos hw]
  exact wp_appV E s x ho b v n us hown hs C A m c news hx hm hr h1 hlen hbytes hbase h
/-- a text that was read, or not -/
def GotX (l : List Int) (p most : Nat) (w : World) (e : Ending) (w' : World) : Prop :=
  Below w.heap.size w w' ∧ ((∃ t q u, gtext l p most = some (t, q) ∧ e = .returned (.agg #[.int .i64 0, u, .int .i64 (q : Nat), .int .i64 0]) ∧ Bs w' u t) ∨
    (gtext l p most = none ∧ ∃ x : Int, x ≠ 0 ∧ e = .returned (.agg #[.int .i64 0, .slice none 0 0, .int .i64 0, .int .i64 x])))
set_option maxRecDepth 100000 in
set_option maxHeartbeats 2000000 in
theorem refgettext_any (A : Option Addr) (c p most L : Nat) (l : List Int) (w : World) (hL : l.length = L) (hlen : L ≤ 1000000) (hLc : L ≤ c) (hp : p ≤ L) (hm : most ≤ 1000000) (hb : ∀ x ∈ l, 0 ≤ x ∧ x ≤ 255) (ra : Rn w A l) :
    Calls Try.prog 45 #[.slice A L c, .int .i64 p, .int .i64 most] w (GotX l p most w) := by
  have HR := hid ra
  have HL := hid hL
  obtain ⟨W0, hW0, BX0, HB0, z0⟩ := below_new w 85 #[.int .i64 0, .slice none 0 0, .int .i64 0, .int .i64 0]
  have HGET := hid (refget_any A c p L l W0 W0.heap.size hL hlen hp hb (ra.now HB0))
  have HBND := hid (fun n q h => gnum_bnd (l := l) (p := p) (n := n) (q := q) hb h)
  have HW0 := hid hW0
  have X0 := hid BX0
  have B0 := hid HB0
  clear hL hb ra hW0 BX0 HB0
  go_enter Try.func45, Try.ntmps45
  go_upto_region 1 with fail
  rw [HW0.out]
  go_wp2_with fail
  refine HGET.out.mono ?_
  rintro e w1 ⟨hb1, ⟨n, q, hg, rfl⟩ | ⟨hg, x, hx, rfl⟩⟩
  case inr =>
    obtain ⟨W1, hW1, BG, HB1, -⟩ := below_new w1 85 #[.int .i64 0, .slice none 0 0, .int .i64 0, .int .i64 x]
    have X1 := hid ((X0.out.next hb1).next HB1)
    have B1 := hid (on (on B0.out hb1) HB1)
    have G1 := hid BG
    have HW1 := hid hW1
    have HN := hid (show gtext l p most = none by unfold gtext; rw [hg])
    have hx2 : (x != 0) = true := by simpa using hx
    have HX := hid hx
    clear hb1 hW1 BG HB1 hg hx X0 B0 HW0 HGET HBND
    go_upto_region 2 with fail
    rw [HW1.out]
    have k3 : W1.cell? ⟨w1.heap.size, 3, none⟩ = some (.int .i64 x) := G1.out.cell 3
    go_wp2_with (first
      | (refine wpList_load_bx rfl 85 (.tmp 7) rfl _ _ _ _ rfl G1.out Try.underlying85 rfl (by kernel_rfl) ?_)
      | (refine wpList_store_bx rfl 85 (.tmp 6) (.tmp 15) rfl rfl _ _ _ #[.int .i64 0, .slice none 0 0, .int .i64 0, .int .i64 x] rfl rfl X1.out (by kernel_rfl) rfl (by simp [Value.oneCell']) ?_))
    refine bodyPost_ret (results_bx1 rfl _ rfl (X1.out.row (cs' := #[.int .i64 0, .slice none 0 0, .int .i64 0, .int .i64 x])) Try.underlying85 rfl (by kernel_rfl)) rfl ?_
    exact ⟨B1.out.trans (below_rowR _ (Nat.le_refl _)), .inr ⟨HN.out, x, HX.out, rfl⟩⟩
  case inl =>
    obtain ⟨W1, hW1, BG, HB1, z1⟩ := below_new w1 85 #[.int .i64 n, .slice none 0 0, .int .i64 q, .int .i64 0]
    have X1 := hid ((X0.out.next hb1).next HB1)
    have B1 := hid (on (on B0.out hb1) HB1)
    have G1 := hid BG
    have HW1 := hid hW1
    have R1 := hid (HR.out.now B1.out)
    obtain ⟨b1, b2, b3⟩ := HBND.out n q hg
    rw [HL.out] at b2
    have HEQ := hid (show gtext l p most = if n > most then none else if n > L - q then none else some ((l.drop q).take n, q + n) by unfold gtext; rw [hg, HL.out])
    have k0 : W1.cell? ⟨w1.heap.size, 0, none⟩ = some (.int .i64 n) := BG.cell 0
    have k2 : W1.cell? ⟨w1.heap.size, 2, none⟩ = some (.int .i64 q) := BG.cell 2
    have k3 : W1.cell? ⟨w1.heap.size, 3, none⟩ = some (.int .i64 0) := BG.cell 3
    have hsz : w.heap.size < w1.heap.size := by have := hb1.size; rw [z0] at this; omega
    clear hb1 hW1 BG HB1 hg X0 B0 HW0 HGET HBND HR z0
    go_upto_region 2 with fail
    rw [HW1.out]
    by_cases h1 : n > most
    · have HN := hid (HEQ.out.trans (if_pos h1))
      clear HEQ
      go_wp2_with (refine wpList_store_bx rfl 85 (.tmp 6) (.tmp 20) rfl rfl _ _ _ #[.int .i64 0, .slice none 0 0, .int .i64 0, .int .i64 4] rfl rfl X1.out (by kernel_rfl) rfl (by simp [Value.oneCell']) ?_)
      refine bodyPost_ret (results_bx1 rfl _ rfl (X1.out.row (cs' := #[.int .i64 0, .slice none 0 0, .int .i64 0, .int .i64 4])) Try.underlying85 rfl (by kernel_rfl)) rfl ?_
      exact ⟨B1.out.trans (below_rowR _ (Nat.le_refl _)), .inr ⟨HN.out, 4, by decide, rfl⟩⟩
    · by_cases h2 : n > L - q
      · have HN := hid (HEQ.out.trans ((if_neg h1).trans (if_pos h2)))
        have h1' : n ≤ most := by omega
        have h2' : (L : Int) - (q : Int) < (n : Int) := by omega
        clear HEQ h1 h2
        go_wp2_with (refine wpList_store_bx rfl 85 (.tmp 6) (.tmp 29) rfl rfl _ _ _ #[.int .i64 0, .slice none 0 0, .int .i64 0, .int .i64 1] rfl rfl X1.out (by kernel_rfl) rfl (by simp [Value.oneCell']) ?_)
        refine bodyPost_ret (results_bx1 rfl _ rfl (X1.out.row (cs' := #[.int .i64 0, .slice none 0 0, .int .i64 0, .int .i64 1])) Try.underlying85 rfl (by kernel_rfl)) rfl ?_
        exact ⟨B1.out.trans (below_rowR _ (Nat.le_refl _)), .inr ⟨HN.out, 1, by decide, rfl⟩⟩
      · have HN := hid (HEQ.out.trans ((if_neg h1).trans (if_neg h2)))
        have h1' : n ≤ most := by omega
        have h2' : (n : Int) ≤ (L : Int) - (q : Int) := by omega
        have h3' : q + n ≤ L := by omega
        have ht : ((l.drop q).take n).length = n := by rw [List.length_take, List.length_drop, HL.out]; omega
        obtain ⟨ad, rfl, -, -⟩ := R1.out.get (k := 0) (by rw [HL.out]; omega)
        have s1 : (q : Int) + (n : Int) ≤ (c : Int) := by omega
        have s2 : (0 : Int) ≤ (q : Int) := by omega
        have s3 : (q : Int) ≤ (q : Int) + (n : Int) := by omega
        have RY := hid (fun B (hB : n ≠ 0 → B = some (ad.add q)) => R1.out.cut q n B hB)
        have HT := hid ht
        generalize (l.drop q).take n = t at *
        clear HEQ h1 h2 ht
        obtain ⟨W, hW, BT, HB2, z2⟩ := below_new W1 85 #[.int .i64 0, .slice none 0 0, .int .i64 ((q : Int) + (n : Int)), .int .i64 0]
        rw [z1] at BT
        have HW := hid hW
        have X2 := hid (X1.out.next HB2)
        have B2 := hid (on B1.out HB2)
        have HG4 := hid (fun y (hy : Below W.heap.size W y) => ((G1.out.next HB2).next hy).all4)
        have HT4 := hid (fun y (hy : Below W.heap.size W y) => (BT.next hy).all4)
        have HTB := hid BT
        have RY2 := hid (fun B hB => (RY.out B hB).below HB2 (Nat.le_refl _))
        clear hW BT HB2 RY R1 X1 B1 G1
        have hmm : ((q : Int) + (n : Int)).toNat - q = n := by omega
        have HMM := hid (show (bytes t).length = (((q : Int) + (n : Int)).toNat - q) * 1 by rw [bytes_length, HT.out, hmm, Nat.mul_one])
        have HRV := hid (rv_of_rd (RY2.out (if c = q then some ad else some (ad.add q)) (fun hn0 => by rw [if_neg (by omega)])))
        have HMX := hid (show 0 + (((q : Int) + (n : Int)).toNat - q) ≤ maxLen ∧ (0 + (((q : Int) + (n : Int)).toNat - q)) * 1 ≤ 140737488355328 by rw [hmm]; unfold maxLen; omega)
        have HLT := hid (show t.length = 0 + (((q : Int) + (n : Int)).toNat - q) by rw [hmm, HT.out, Nat.zero_add])
        have HQ := hid (show ((q + n : Nat) : Int) = (q : Int) + (n : Int) by omega)
        have HEND := hid (fun y hy => HTB.out.next (w' := y) hy)
        obtain ⟨g1, g2, g3, g4⟩ := HG4.out W (Below.refl _ _)
        obtain ⟨t1, t2, t3, t4⟩ := HT4.out W (Below.refl _ _)
        have f2 := HTB.out.free 1
        have hz2 : w1.heap.size + 1 < W.heap.size := by have := HTB.out.lt; omega
        clear hmm HG4 HT4
        go_upto_region 9 with fail
        rw [HW.out]
        clear k0 k2 k3 HW HW1 RY2
        go_region_law (refine step_appV elt_byte rfl (.tmp 37) (.tmp 43) rfl _ (.slice none 0 0) 0 [] (ownV_nil _ _ _ _) rfl _ (if c = q then some ad else some (ad.add q)) _ _ (bytes t) rfl HMM.out (by exact HRV.out) (bytes_one t) HMX.out.1 HMX.out.2 (Nat.le_refl _) ?_; intro v2 w2 hown2 hg2; have hb9 := hg2.below (ownV_nil _ _ 5 1) (Nat.le_refl _); have HB9 := hid (show Below W.heap.size W w2 from ⟨hb9.os, hb9.tape, hb9.output, hb9.size, hb9.block⟩); have HU := hid (ownV_bs (l := t) hown2 HLT.out); obtain ⟨AA, ac, rfl, -, -, -⟩ := hown2.read; have z1 := (HEND.out w2 HB9.out).cell 1; have z2 := (HEND.out w2 HB9.out).free 1; clear hown2 hg2 hb9)
        all_goals
          obtain ⟨W3, hW3⟩ : ∃ y, w2.setCell ⟨w1.heap.size + 1, 1, none⟩ (.slice AA n ac) = y := ⟨_, rfl⟩
          have E3 := hid (show Bx W3 (w1.heap.size + 1) 85 #[.int .i64 0, .slice AA n ac, .int .i64 ((q : Int) + (n : Int)), .int .i64 0] by rw [← hW3]; exact (HEND.out w2 HB9.out).set 1 _)
          have X3 := hid (show Bx W3 w.heap.size 85 #[.int .i64 0, .slice none 0 0, .int .i64 0, .int .i64 0] by rw [← hW3]; exact (X2.out.next HB9.out).far _ _ (by show w1.heap.size + 1 ≠ w.heap.size; omega))
          have B3 := hid (show Below w.heap.size w W3 by rw [← hW3]; exact below_set (on B2.out HB9.out) _ _ (by show w.heap.size ≤ w1.heap.size + 1; omega))
          have U3 := hid (show Bs W3 (.slice AA n ac) t by
            have hu := HU.out
            rw [show 0 + (((q : Int) + (n : Int)).toNat - q) = n by omega] at hu
            rw [← hW3]
            exact hu.stay (Stay.set w2 _ _ fun x e => by rw [z1] at e; cases e) (by rw [setSize]; exact Nat.le_refl _))
          have HW3 := hid hW3
          clear hW3 HU X2 B2 HB9 z1 z2
          have hmm9 : ((q : Int) + (n : Int)).toNat - q = n := by omega
          rw [hmm9, HW3.out]
          clear hmm9
          go_wp2_with (first
            | (refine wpList_load_bx rfl 85 (.tmp 8) rfl _ _ _ _ rfl E3.out Try.underlying85 rfl (by kernel_rfl) ?_)
            | (refine wpList_store_bx rfl 85 (.tmp 6) (.tmp 46) rfl rfl _ _ _ #[.int .i64 0, .slice AA n ac, .int .i64 ((q : Int) + (n : Int)), .int .i64 0] rfl rfl X3.out (by kernel_rfl) rfl (by simp [Value.oneCell']) ?_))
          all_goals
            refine bodyPost_ret (results_bx1 rfl _ rfl (X3.out.row (cs' := #[.int .i64 0, .slice AA n ac, .int .i64 ((q : Int) + (n : Int)), .int .i64 0])) Try.underlying85 rfl (by kernel_rfl)) rfl ?_
            exact ⟨B3.out.trans (below_rowR _ (Nat.le_refl _)), .inl ⟨t, q + n, _, HN.out, by rw [HQ.out], U3.out.stay (Stay.rowR X3.out (by intro x hx; simp at hx)) (by rw [setRow_size]; exact Nat.le_refl _)⟩⟩
end Go.Proofs.Ytincndblpbdnlaa
