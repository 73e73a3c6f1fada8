/-
  What is proved: store's writer answers a function that knows the bytes of an entry's sectors. Conditions: the store lies in memory as one; the numbers are below 2^63; the text is no longer than 16.
-/
import Derived.Test.YtincndblpbdnlaaEnb
import Derived.Deep.RegionHeld3
namespace Go.Proofs.Ytincndblpbdnlaa
open Go.RowKit

/-- the bytes of an entry's sectors, by the steps that write them -/
def pgs (c s b o k v x : Nat) (l : List Int) : Nat → List Int
  | 0 => encs [c, s, b, o, k, v] ++ enc l.length ++ l
  | 1 => encs [v] ++ enc l.length ++ l
  | 2 => encs [b, o, x]
  | _ => []
/-- the writer of an entry, captured: the store's pointer in block t2, the pages in block g -/
def Wtr (w : World) (ks t2 g : Nat) (a1 a2 : Nat) (f : Nat → List Int) : Prop :=
  Bx w t2 32 #[.pointer (some ⟨ks, 0, none⟩)] ∧ ∃ u0 u1 u2, Bx w g 109 #[.int .i64 0, u0, .int .i64 a1, u1, .int .i64 a2, u2, .int .i64 0, .slice none 0 0] ∧ Bs w u0 (f 0) ∧ Bs w u1 (f 1) ∧ Bs w u2 (f 2)

theorem Bs.form {w : World} {u : Value} {l : List Int} (h : Bs w u l) : ∃ A n q, u = .slice A n q := by obtain ⟨A, c, e, _⟩ := h; exact ⟨A, _, c, e⟩
theorem below_new' (w : World) (t : TypeId) (cs : Array Value) : ∃ W, w.alloc (.cells cs t) = W ∧ Bx W w.heap.size t cs ∧ Below w.heap.size w W ∧ W.heap.size = w.heap.size + 1 := below_new w t cs
theorem yieldsIf_bx {P : Program} {ops : Array Oper} {S : World → Prop} {o : Oper} {a : Act} (hw : Region.wanted o (yielded ops a.tmps) = true) (ty : TypeId) (p : Operand) (ho : o.op = .load ty p) (g : Nat) (t : TypeId) (cs : Array Value) (d : TypeDesc) (hp : a.eval p = .pointer (some ⟨g, 0, none⟩))
    (hb : ∀ w, S w → Bx w g t cs) (hu : P.underlying ty = some d) (hd : (match d with | .struct _ | .array _ _ => true | _ => false) = true) (hi : (P.info? ty).map (·.size) = some cs.size) : YieldsIf P ops S o (.agg cs) a :=
  .inl ⟨hw, fun w hS => by
    unfold execOp
    simp only [ho, hp, run_loadAt_bx (P := P) (hb w hS) hu hd hi, Sem.run_bind, Sem.run_pure, Result.andThen_ok]⟩
theorem below_rowNew {w : World} {g B : Nat} (cs' : Array Value) (hB : B ≤ g) : Below B w (w.setRow g cs') :=
  ⟨rfl, rfl, rfl, by rw [setRow_size]; exact Nat.le_refl _, fun j hj => setRow_other w g j cs' (by omega)⟩
theorem Stay.row {w : World} {g : Nat} {t : TypeId} {cs cs' : Array Value} (h : Bx w g t cs) (hc : ∀ x, Value.int .u8 x ∉ cs.toList) : Stay w (w.setRow g cs') := fun p x e => by
  by_cases hg : p.block = g
  · have hgt := h
    unfold Bx at hgt
    subst hg
    exfalso
    obtain ⟨b, o, q⟩ := p
    cases q with
    | none =>
      have h2 : w.cell? ⟨b, o, none⟩ = cs[o]? := h.cell o
      rw [h2] at e
      exact hc x (by rw [Array.mem_toList_iff]; exact Array.mem_of_getElem? e)
    | some q => simp [World.cell?, hgt] at e
  · simp only [World.cell?] at e ⊢
    rw [setRow_other w g p.block cs' hg]
    exact e
theorem wtr_end {W y : World} {k t2 g : Nat} {u0 u1 u2 : Value} {a1 a2 : Int} {f0 f1 f2 : List Int} (hB : Below W.heap.size W y) (hT : ∀ y, Below W.heap.size W y → Bx y t2 32 #[.pointer (some ⟨k, 0, none⟩)]) (hG : Bx y g 109 #[.int .i64 0, .slice none 0 0, .int .i64 0, .slice none 0 0, .int .i64 0, .slice none 0 0, .int .i64 0, .slice none 0 0]) (hg : W.heap.size ≤ g) (h0 : Bs y u0 f0) (h1 : Bs y u1 f1) (h2 : Bs y u2 f2) :
    (∀ (f : Nat → List Int) (m1 m2 : Nat), f 0 = f0 → f 1 = f1 → f 2 = f2 → a1 = m1 → a2 = m2 → Wtr (y.setRow g #[.int .i64 0, u0, .int .i64 a1, u1, .int .i64 a2, u2, .int .i64 0, .slice none 0 0]) k t2 g m1 m2 f) ∧ Below W.heap.size W (y.setRow g #[.int .i64 0, u0, .int .i64 a1, u1, .int .i64 a2, u2, .int .i64 0, .slice none 0 0]) := by
  have hb := hB.trans (below_rowNew (w := y) #[.int .i64 0, u0, .int .i64 a1, u1, .int .i64 a2, u2, .int .i64 0, .slice none 0 0] hg)
  have st : Stay y (y.setRow g #[.int .i64 0, u0, .int .i64 a1, u1, .int .i64 a2, u2, .int .i64 0, .slice none 0 0]) := Stay.row hG (by intro x hx; simp at hx)
  refine ⟨fun f m1 m2 e0 e1 e2 e3 e4 => ⟨hT _ hb, u0, u1, u2, by rw [← e3, ← e4]; exact hG.row, ?_, ?_, ?_⟩, hb⟩
  · rw [e0]; exact h0.stay st (by rw [setRow_size]; exact Nat.le_refl _)
  · rw [e1]; exact h1.stay st (by rw [setRow_size]; exact Nat.le_refl _)
  · rw [e2]; exact h2.stay st (by rw [setRow_size]; exact Nat.le_refl _)

section
variable {w : World} {bb kd ks : Nat} {vv : Value} {st : St} {sh : Sh}
set_option maxRecDepth 100000 in
set_option maxHeartbeats 3200000 in
theorem writer_any (h : Sx w bb kd ks vv st sh) (c s b o k v x L cap : Nat) (A : Option Addr) (l : List Int) (hL : l.length = L) (hl : L ≤ 16) (hc : c < 9223372036854775808) (hs : s < 9223372036854775808) (hb : b < 9223372036854775808) (ho : o < 9223372036854775808) (hk : k < 9223372036854775808) (hv : v < 9223372036854775808) (hx : x < 9223372036854775808) (r : Rn w A l) (hk1 : k < sh.B) (hc1 : c < sh.C) (hs1 : s < sh.S) :
    Calls Try.prog 51 #[.pointer (some ⟨ks, 0, none⟩), .agg #[.int .i64 (c : Nat), .int .i64 (s : Nat), .int .i64 (b : Nat), .int .i64 (o : Nat), .int .i64 (k : Nat), .slice A L cap, .int .i64 (v : Nat), .int .i64 (x : Nat)]] w fun e w' => ∃ t2 g, e = .returned (.func (.func 65) #[] #[.pointer (some ⟨t2, 0, none⟩), .pointer (some ⟨g, 0, none⟩)]) ∧ Wtr w' ks t2 g (1 + k) (sh.at_ c s) (pgs c s b o k v x l) ∧ Below w.heap.size w w' := by
  obtain ⟨Wa, hWa, B0, HBa, sa⟩ := below_new w 32 #[.pointer (some ⟨ks, 0, none⟩)]
  obtain ⟨W, hW, B1, HBb, sb⟩ := below_new Wa 91 #[.int .i64 (c : Nat), .int .i64 (s : Nat), .int .i64 (b : Nat), .int .i64 (o : Nat), .int .i64 (k : Nat), .slice A L cap, .int .i64 (v : Nat), .int .i64 (x : Nat)]
  rw [sa] at B1
  have HW := hid (show (w.alloc (.cells #[.pointer (some ⟨ks, 0, none⟩)] 32)).alloc (.cells #[.int .i64 (c : Nat), .int .i64 (s : Nat), .int .i64 (b : Nat), .int .i64 (o : Nat), .int .i64 (k : Nat), .slice A L cap, .int .i64 (v : Nat), .int .i64 (x : Nat)] 91) = W by rw [hWa, hW])
  have HW0 := hid (on HBa HBb)
  have hX := h.below HW0.out
  have hb64 := h.ok.b
  have HBA := hid (fun x => blockAt_any sh h.ok x k (by omega))
  have HSA := hid (fun x => slotAt_any sh h.ok x c s (by have := h.ok.c; omega) (by have := h.ok.s; omega))
  have HL := hid hL
  have HN := hid (And.intro hc (And.intro hs (And.intro hb (And.intro ho (And.intro hk (And.intro hv hx))))))
  have HR := hid (r.now HW0.out)
  obtain ⟨B, Z, C, S⟩ := sh
  have HS := hid (fun y (hy : Below W.heap.size W y) => (hX.bx.next hy).all5)
  have HE := hid (fun y (hy : Below W.heap.size W y) => B1.next hy)
  have HT := hid (fun y (hy : Below W.heap.size W y) => (B0.next HBb).next hy)
  have HTC := hid (fun y (hy : Below W.heap.size W y) => ((B0.next HBb).next hy).cell 0)
  simp only [Sh.v] at HBA HSA hk1 hc1 hs1 hb64 ⊢
  generalize Sh.at_ ⟨B, Z, C, S⟩ c s = at1 at *
  clear h hX hWa hW B0 B1 HBa HBb sa sb hL hc hs hb ho hk hv hx r hk1 hc1 hs1 hb64
  go_enter Try.func51, Try.ntmps51
  go_upto_region 1 with fail
  rw [HW.out]
  clear HW
  refine wp_region_noPanic ?_
  refine wp_region_held_drew (S := fun y => Below W.heap.size W y) (by kernel_rfl) ?_ (fun hHeld => ?_)
  · exact (Below.refl _ _).drew
  have HB0 := hid hHeld
  obtain ⟨y0, hy0⟩ : ∃ y, W.drew = y := ⟨_, rfl⟩
  rw [hy0] at HB0 hHeld ⊢
  clear hy0
  refine wpAnyH_take (i := 0) (oi := ⟨some 6, _, _, _, _, _⟩) (v := _) rfl (by kernel_rfl) (by kernel_rfl) (by kernel_rfl) (fun _ _ _ h => h) (yieldsIf_bx (by rfl) 91 (.tmp 3) rfl _ _ _ _ rfl HE.out Try.underlying91 rfl (by kernel_rfl)) (by assumption) ?_
  (try simp only [Act.put, List.setIfInBounds_toArray, List.set_cons_zero, List.set_cons_succ])
  refine wpAnyH_take (i := 3) (oi := ⟨some 9, _, _, _, _, _⟩) (v := ?_) rfl (by kernel_rfl) (by kernel_rfl) (by kernel_rfl) (fun _ _ _ h => h) (Or.inl ⟨by rfl, ?_⟩) (by assumption) ?_
  rotate_left 1
  · intro w0 hSw
    have k0 := HTC.out _ hSw; clear hSw
    go_simp
    try with_reducible rfl
  (try simp only [Act.put, List.setIfInBounds_toArray, List.set_cons_zero, List.set_cons_succ])
  refine wpAnyH_take (i := 4) (oi := ⟨some 10, _, _, _, _, _⟩) (v := ?_) rfl (by kernel_rfl) (by kernel_rfl) (by kernel_rfl) (fun _ _ _ h => h) (Or.inl ⟨by rfl, ?_⟩) (by assumption) ?_
  rotate_left 1
  · intro w0 hSw
    clear hSw
    go_simp
    try with_reducible rfl
  (try simp only [Act.put, List.setIfInBounds_toArray, List.set_cons_zero, List.set_cons_succ])
  refine wpAnyH_take (i := 5) (oi := ⟨some 11, _, _, _, _, _⟩) (v := ?_) rfl (by kernel_rfl) (by kernel_rfl) (by kernel_rfl) (fun _ _ _ h => h) (Or.inl ⟨by rfl, ?_⟩) (by assumption) ?_
  rotate_left 1
  · intro w0 hSw
    clear hSw
    go_simp
    try with_reducible rfl
  (try simp only [Act.put, List.setIfInBounds_toArray, List.set_cons_zero, List.set_cons_succ])
  refine wpAnyH_take (i := 6) (oi := ⟨some 12, _, _, _, _, _⟩) (v := ?_) rfl (by kernel_rfl) (by kernel_rfl) (by kernel_rfl) (fun _ _ _ h => h) (Or.inl ⟨by rfl, ?_⟩) (by assumption) ?_
  rotate_left 1
  · intro w0 hSw
    obtain ⟨k0, k1, k2, k3, k4⟩ := HS.out _ hSw; clear hSw
    go_simp
    try with_reducible rfl
  (try simp only [Act.put, List.setIfInBounds_toArray, List.set_cons_zero, List.set_cons_succ])
  refine wpAnyH_take (i := 7) (oi := ⟨some 13, _, _, _, _, _⟩) (v := ?_) rfl (by kernel_rfl) (by kernel_rfl) (by kernel_rfl) (fun _ _ _ h => h) (Or.inl ⟨by rfl, ?_⟩) (by assumption) ?_
  rotate_left 1
  · intro w0 hSw
    clear hSw
    go_simp
    try with_reducible rfl
  (try simp only [Act.put, List.setIfInBounds_toArray, List.set_cons_zero, List.set_cons_succ])
  refine wpAnyH_take (i := 8) (oi := ⟨some 14, _, _, _, _, _⟩) (v := ?_) rfl (by kernel_rfl) (by kernel_rfl) (by kernel_rfl) (fun _ _ _ h => h) (Or.inl ⟨by rfl, ?_⟩) (by assumption) ?_
  rotate_left 1
  · intro w0 hSw
    clear hSw
    go_simp
    try with_reducible rfl
  (try simp only [Act.put, List.setIfInBounds_toArray, List.set_cons_zero, List.set_cons_succ])
  refine wpAnyH_take (i := 9) (oi := ⟨some 15, _, _, _, _, _⟩) (v := ?_) rfl (by kernel_rfl) (by kernel_rfl) (by kernel_rfl) (fun _ _ _ h => h) (Or.inl ⟨by rfl, ?_⟩) (by assumption) ?_
  rotate_left 1
  · intro w0 hSw
    obtain ⟨k0, k1, k2, k3, k4, k5, k6, k7⟩ := (HE.out _ hSw).all8; clear hSw k5 k6 k7
    go_simp
    try with_reducible rfl
  (try simp only [Act.put, List.setIfInBounds_toArray, List.set_cons_zero, List.set_cons_succ])
  refine wpAnyH_take (i := 11) (oi := ⟨some 17, _, _, _, _, _⟩) (v := _) rfl (by kernel_rfl) (by kernel_rfl) (by kernel_rfl) (fun _ _ _ h => h) (yieldsIf_bx (by rfl) 91 (.tmp 3) rfl _ _ _ _ rfl HE.out Try.underlying91 rfl (by kernel_rfl)) (by assumption) ?_
  (try simp only [Act.put, List.setIfInBounds_toArray, List.set_cons_zero, List.set_cons_succ])
  refine wpAnyH_take (i := 14) (oi := ⟨some 20, _, _, _, _, _⟩) (v := ?_) rfl (by kernel_rfl) (by kernel_rfl) (by kernel_rfl) (fun _ _ _ h => h) (Or.inl ⟨by rfl, ?_⟩) (by assumption) ?_
  rotate_left 1
  · intro w0 hSw
    have k0 := HTC.out _ hSw; clear hSw
    go_simp
    try with_reducible rfl
  (try simp only [Act.put, List.setIfInBounds_toArray, List.set_cons_zero, List.set_cons_succ])
  refine wpAnyH_take (i := 15) (oi := ⟨some 21, _, _, _, _, _⟩) (v := ?_) rfl (by kernel_rfl) (by kernel_rfl) (by kernel_rfl) (fun _ _ _ h => h) (Or.inl ⟨by rfl, ?_⟩) (by assumption) ?_
  rotate_left 1
  · intro w0 hSw
    clear hSw
    go_simp
    try with_reducible rfl
  (try simp only [Act.put, List.setIfInBounds_toArray, List.set_cons_zero, List.set_cons_succ])
  refine wpAnyH_take (i := 16) (oi := ⟨some 22, _, _, _, _, _⟩) (v := ?_) rfl (by kernel_rfl) (by kernel_rfl) (by kernel_rfl) (fun _ _ _ h => h) (Or.inl ⟨by rfl, ?_⟩) (by assumption) ?_
  rotate_left 1
  · intro w0 hSw
    clear hSw
    go_simp
    try with_reducible rfl
  (try simp only [Act.put, List.setIfInBounds_toArray, List.set_cons_zero, List.set_cons_succ])
  refine wpAnyH_take (i := 17) (oi := ⟨some 23, _, _, _, _, _⟩) (v := ?_) rfl (by kernel_rfl) (by kernel_rfl) (by kernel_rfl) (fun _ _ _ h => h) (Or.inl ⟨by rfl, ?_⟩) (by assumption) ?_
  rotate_left 1
  · intro w0 hSw
    obtain ⟨k0, k1, k2, k3, k4⟩ := HS.out _ hSw; clear hSw
    go_simp
    try with_reducible rfl
  (try simp only [Act.put, List.setIfInBounds_toArray, List.set_cons_zero, List.set_cons_succ])
  refine wpAnyH_take (i := 18) (oi := ⟨some 24, _, _, _, _, _⟩) (v := ?_) rfl (by kernel_rfl) (by kernel_rfl) (by kernel_rfl) (fun _ _ _ h => h) (Or.inl ⟨by rfl, ?_⟩) (by assumption) ?_
  rotate_left 1
  · intro w0 hSw
    clear hSw
    go_simp
    try with_reducible rfl
  (try simp only [Act.put, List.setIfInBounds_toArray, List.set_cons_zero, List.set_cons_succ])
  refine wpAnyH_take (i := 19) (oi := ⟨some 25, _, _, _, _, _⟩) (v := ?_) rfl (by kernel_rfl) (by kernel_rfl) (by kernel_rfl) (fun _ _ _ h => h) (Or.inl ⟨by rfl, ?_⟩) (by assumption) ?_
  rotate_left 1
  · intro w0 hSw
    clear hSw
    go_simp
    try with_reducible rfl
  (try simp only [Act.put, List.setIfInBounds_toArray, List.set_cons_zero, List.set_cons_succ])
  refine wpAnyH_take (i := 20) (oi := ⟨some 26, _, _, _, _, _⟩) (v := ?_) rfl (by kernel_rfl) (by kernel_rfl) (by kernel_rfl) (fun _ _ _ h => h) (Or.inl ⟨by rfl, ?_⟩) (by assumption) ?_
  rotate_left 1
  · intro w0 hSw
    obtain ⟨k0, k1, k2, k3, k4, k5, k6, k7⟩ := (HE.out _ hSw).all8; clear hSw k5 k6 k7
    go_simp
    try with_reducible rfl
  (try simp only [Act.put, List.setIfInBounds_toArray, List.set_cons_zero, List.set_cons_succ])
  refine wpAnyH_take (i := 21) (oi := ⟨some 27, _, _, _, _, _⟩) (v := ?_) rfl (by kernel_rfl) (by kernel_rfl) (by kernel_rfl) (fun _ _ _ h => h) (Or.inl ⟨by rfl, ?_⟩) (by assumption) ?_
  rotate_left 1
  · intro w0 hSw
    clear hSw
    go_simp
    try with_reducible rfl
  (try simp only [Act.put, List.setIfInBounds_toArray, List.set_cons_zero, List.set_cons_succ])
  refine wpAnyH_take (i := 22) (oi := ⟨some 28, _, _, _, _, _⟩) (v := ?_) rfl (by kernel_rfl) (by kernel_rfl) (by kernel_rfl) (fun _ _ _ h => h) (Or.inl ⟨by rfl, ?_⟩) (by assumption) ?_
  rotate_left 1
  · intro w0 hSw
    clear hSw
    go_simp
    try with_reducible rfl
  (try simp only [Act.put, List.setIfInBounds_toArray, List.set_cons_zero, List.set_cons_succ])
  refine wpAnyH_take (i := 23) (oi := ⟨some 29, _, _, _, _, _⟩) (v := ?_) rfl (by kernel_rfl) (by kernel_rfl) (by kernel_rfl) (fun _ _ _ h => h) (Or.inl ⟨by rfl, ?_⟩) (by assumption) ?_
  rotate_left 1
  · intro w0 hSw
    obtain ⟨k0, k1, k2, k3, k4, k5, k6, k7⟩ := (HE.out _ hSw).all8; clear hSw k5 k6 k7
    go_simp
    try with_reducible rfl
  (try simp only [Act.put, List.setIfInBounds_toArray, List.set_cons_zero, List.set_cons_succ])
  refine wpAnyH_take (i := 25) (oi := ⟨some 31, _, _, _, _, _⟩) (v := _) rfl (by kernel_rfl) (by kernel_rfl) (by kernel_rfl) (fun _ _ _ h => h) (yieldsIf_bx (by rfl) 91 (.tmp 3) rfl _ _ _ _ rfl HE.out Try.underlying91 rfl (by kernel_rfl)) (by assumption) ?_
  (try simp only [Act.put, List.setIfInBounds_toArray, List.set_cons_zero, List.set_cons_succ])
  refine wpAnyH_take (i := 28) (oi := ⟨some 34, _, _, _, _, _⟩) (v := ?_) rfl (by kernel_rfl) (by kernel_rfl) (by kernel_rfl) (fun _ _ _ h => h) (Or.inl ⟨by rfl, ?_⟩) (by assumption) ?_
  rotate_left 1
  · intro w0 hSw
    clear hSw
    go_simp
    try with_reducible rfl
  (try simp only [Act.put, List.setIfInBounds_toArray, List.set_cons_zero, List.set_cons_succ])
  refine wpAnyH_ready (rs := [1, 30]) (by kernel_rfl) (by simp) ?_
  refine AllReadyH.cons (o := ⟨some 7, _, _, _, _, _⟩) rfl (fun K hK => ?_) ?_
  · rw [if_pos (by rfl)]
    go_simp
    go_at_call 62
    refine (journalBytes_any c s b o k v x L cap A l y0 HL.out hl HN.out.1 HN.out.2.1 HN.out.2.2.1 HN.out.2.2.2.1 HN.out.2.2.2.2.1 HN.out.2.2.2.2.2.1 HN.out.2.2.2.2.2.2 (HR.out.now HB0.out)).mono ?_
    rintro e y1 ⟨u, rfl, hu, hb⟩
    obtain ⟨A0, n0, q0, rfl⟩ := hu.form
    have HU0_1 := hid hu
    clear hu
    refine hK.out _ _ (on HB0.out hb) (fun hHeld => ?_)
    clear hK K
    (try simp only [Act.put, List.setIfInBounds_toArray, List.set_cons_zero, List.set_cons_succ])
    have HB1 := hid (on HB0.out hb)
    clear hb HB0
    refine wpAnyH_take (i := 2) (oi := ⟨some 8, _, _, _, _, _⟩) (v := ?_) rfl (by kernel_rfl) (by kernel_rfl) (by kernel_rfl) (fun _ _ _ h => h) (Or.inl ⟨by rfl, ?_⟩) (by assumption) ?_
    rotate_left 1
    · intro w0 hSw
      clear hSw
      go_simp
      try with_reducible rfl
    (try simp only [Act.put, List.setIfInBounds_toArray, List.set_cons_zero, List.set_cons_succ])
    refine wpAnyH_ready (rs := [10, 30]) (by kernel_rfl) (by simp) ?_
    refine AllReadyH.cons (o := ⟨some 16, _, _, _, _, _⟩) rfl (fun K hK => ?_) ?_
    · rw [if_pos (by rfl)]
      go_simp
      go_at_call 60
      refine (HBA.out y1).mono ?_
      rintro e y2 ⟨rfl, hb⟩
      refine hK.out _ _ (on HB1.out hb) (fun hHeld => ?_)
      clear hK K
      (try simp only [Act.put, List.setIfInBounds_toArray, List.set_cons_zero, List.set_cons_succ])
      have HB2 := hid (on HB1.out hb)
      have HU0_2 := hid (HU0_1.out.below hb)
      clear hb HB1 HU0_1
      refine wpAnyH_ready (rs := [12, 30]) (by kernel_rfl) (by simp) ?_
      refine AllReadyH.cons (o := ⟨some 18, _, _, _, _, _⟩) rfl (fun K hK => ?_) ?_
      · rw [if_pos (by rfl)]
        go_simp
        go_at_call 63
        refine (blockBytes_any c s b o k v x L cap A l y2 HL.out hl HN.out.1 HN.out.2.1 HN.out.2.2.1 HN.out.2.2.2.1 HN.out.2.2.2.2.1 HN.out.2.2.2.2.2.1 HN.out.2.2.2.2.2.2 (HR.out.now HB2.out)).mono ?_
        rintro e y3 ⟨u, rfl, hu, hb⟩
        obtain ⟨A2, n2, q2, rfl⟩ := hu.form
        have HU1_3 := hid hu
        clear hu
        refine hK.out _ _ (on HB2.out hb) (fun hHeld => ?_)
        clear hK K
        (try simp only [Act.put, List.setIfInBounds_toArray, List.set_cons_zero, List.set_cons_succ])
        have HB3 := hid (on HB2.out hb)
        have HU0_3 := hid (HU0_2.out.below hb)
        clear hb HB2 HU0_2
        refine wpAnyH_take (i := 13) (oi := ⟨some 19, _, _, _, _, _⟩) (v := ?_) rfl (by kernel_rfl) (by kernel_rfl) (by kernel_rfl) (fun _ _ _ h => h) (Or.inl ⟨by rfl, ?_⟩) (by assumption) ?_
        rotate_left 1
        · intro w0 hSw
          clear hSw
          go_simp
          try with_reducible rfl
        (try simp only [Act.put, List.setIfInBounds_toArray, List.set_cons_zero, List.set_cons_succ])
        refine wpAnyH_ready (rs := [24, 30]) (by kernel_rfl) (by simp) ?_
        refine AllReadyH.cons (o := ⟨some 30, _, _, _, _, _⟩) rfl (fun K hK => ?_) ?_
        · rw [if_pos (by rfl)]
          go_simp
          go_at_call 49
          refine (HSA.out y3).mono ?_
          rintro e y4 ⟨rfl, hb⟩
          refine hK.out _ _ (on HB3.out hb) (fun hHeld => ?_)
          clear hK K
          (try simp only [Act.put, List.setIfInBounds_toArray, List.set_cons_zero, List.set_cons_succ])
          have HB4 := hid (on HB3.out hb)
          have HU0_4 := hid (HU0_3.out.below hb)
          have HU1_4 := hid (HU1_3.out.below hb)
          clear hb HB3 HU0_3 HU1_3
          refine wpAnyH_ready (rs := [26, 30]) (by kernel_rfl) (by simp) ?_
          refine AllReadyH.cons (o := ⟨some 32, _, _, _, _, _⟩) rfl (fun K hK => ?_) ?_
          · rw [if_pos (by rfl)]
            go_simp
            go_at_call 64
            refine (slotBytes_any c s b o k v x L cap A l y4 HL.out hl HN.out.1 HN.out.2.1 HN.out.2.2.1 HN.out.2.2.2.1 HN.out.2.2.2.2.1 HN.out.2.2.2.2.2.1 HN.out.2.2.2.2.2.2 (HR.out.now HB4.out)).mono ?_
            rintro e y5 ⟨u, rfl, hu, hb⟩
            obtain ⟨A4, n4, q4, rfl⟩ := hu.form
            have HU2_5 := hid hu
            clear hu
            refine hK.out _ _ (on HB4.out hb) (fun hHeld => ?_)
            clear hK K
            (try simp only [Act.put, List.setIfInBounds_toArray, List.set_cons_zero, List.set_cons_succ])
            have HB5 := hid (on HB4.out hb)
            have HU0_5 := hid (HU0_4.out.below hb)
            have HU1_5 := hid (HU1_4.out.below hb)
            clear hb HB4 HU0_4 HU1_4
            refine wpAnyH_take (i := 27) (oi := ⟨some 33, _, _, _, _, _⟩) (v := ?_) rfl (by kernel_rfl) (by kernel_rfl) (by kernel_rfl) (fun _ _ _ h => h) (Or.inl ⟨by rfl, ?_⟩) (by assumption) ?_
            rotate_left 1
            · intro w0 hSw
              clear hSw
              go_simp
              try with_reducible rfl
            (try simp only [Act.put, List.setIfInBounds_toArray, List.set_cons_zero, List.set_cons_succ])
            refine wpAnyH_take (i := 29) (oi := ⟨some 35, _, _, _, _, _⟩) (v := ?_) rfl (by kernel_rfl) (by kernel_rfl) (by kernel_rfl) (fun _ _ _ h => h) (Or.inl ⟨by rfl, ?_⟩) (by assumption) ?_
            rotate_left 1
            · intro w0 hSw
              clear hSw
              go_simp
              try with_reducible rfl
            (try simp only [Act.put, List.setIfInBounds_toArray, List.set_cons_zero, List.set_cons_succ])
            refine wpAnyH_ready (rs := [30]) (by kernel_rfl) (by simp) ?_
            refine AllReadyH.cons (o := ⟨some 5, _, _, _, _, _⟩) rfl (fun K hK => ?_) ?_
            · rw [if_pos (by rfl)]
              go_simp
              refine hK.out _ _ (on HB5.out (below_alloc _ _)) (fun hHeld => ?_)
              clear hK K
              (try simp only [Act.put, List.setIfInBounds_toArray, List.set_cons_zero, List.set_cons_succ])
              have HGL := hid HB5.out.size
              obtain ⟨y6, hy, HG6, hb, -⟩ := below_new' y5 109 #[.int .i64 0, .slice none 0 0, .int .i64 0, .slice none 0 0, .int .i64 0, .slice none 0 0, .int .i64 0, .slice none 0 0]
              have HG6 := hid HG6
              have HB6 := hid (on HB5.out hb)
              have HU0_6 := hid (HU0_5.out.below hb)
              have HU1_6 := hid (HU1_5.out.below hb)
              have HU2_6 := hid (HU2_5.out.below hb)
              rw [show y5.alloc _ = y6 from hy]
              clear hy hb HB5 HU0_5 HU1_5 HU2_5
              generalize y5.heap.size = g at *
              refine wpAnyH_ready (rs := [31]) (by kernel_rfl) (by simp) ?_
              refine AllReadyH.cons (o := ⟨none, _, _, _, _, _⟩) rfl (fun K hK => ?_) AllReadyH.nil
              rw [if_pos (by rfl)]
              refine wp_store_row 109 (.tmp 5) (.tmp 35) rfl _ _ rfl rfl _ _ HG6.out (by kernel_rfl) (by rfl) (by simp [Value.oneCell']) ?_
              have HF := hid (wtr_end (k := ks) (a1 := 1 + (k : Nat)) (a2 := (at1 : Nat)) HB6.out HT.out HG6.out HGL.out HU0_6.out HU1_6.out HU2_6.out)
              refine hK.out _ _ HF.out.2 (fun hHeld => ?_)
              clear hK K
              (try simp only [Act.put])
              refine wpAnyH_done (by kernel_rfl) ?_ _
              refine NoPanic.normal ?_
              clear hHeld HB6 HG6 HU0_6 HU1_6 HU2_6 HE HS HT
              go_wp2
              go_ret
              exact ⟨_, _, rfl, HF.out.1 (pgs c s b o k v x l) _ _ (by show _ ++ enc l.length ++ l = _; rw [HL.out]) (by show _ ++ enc l.length ++ l = _; rw [HL.out]) rfl (by simp) rfl, on HW0.out HF.out.2⟩
            exact AllReadyH.nil
          refine AllReadyH.cons (o := ⟨some 5, _, _, _, _, _⟩) rfl (fun K hK => ?_) ?_
          · rw [if_pos (by rfl)]
            go_simp
            refine hK.out _ _ (on HB4.out (below_alloc _ _)) (fun hHeld => ?_)
            clear hK K
            (try simp only [Act.put, List.setIfInBounds_toArray, List.set_cons_zero, List.set_cons_succ])
            have HGL := hid HB4.out.size
            obtain ⟨y5, hy, HG5, hb, -⟩ := below_new' y4 109 #[.int .i64 0, .slice none 0 0, .int .i64 0, .slice none 0 0, .int .i64 0, .slice none 0 0, .int .i64 0, .slice none 0 0]
            have HG5 := hid HG5
            have HB5 := hid (on HB4.out hb)
            have HU0_5 := hid (HU0_4.out.below hb)
            have HU1_5 := hid (HU1_4.out.below hb)
            rw [show y4.alloc _ = y5 from hy]
            clear hy hb HB4 HU0_4 HU1_4
            generalize y4.heap.size = g at *
            refine wpAnyH_ready (rs := [26]) (by kernel_rfl) (by simp) ?_
            refine AllReadyH.cons (o := ⟨some 32, _, _, _, _, _⟩) rfl (fun K hK => ?_) ?_
            · rw [if_pos (by rfl)]
              go_simp
              go_at_call 64
              refine (slotBytes_any c s b o k v x L cap A l y5 HL.out hl HN.out.1 HN.out.2.1 HN.out.2.2.1 HN.out.2.2.2.1 HN.out.2.2.2.2.1 HN.out.2.2.2.2.2.1 HN.out.2.2.2.2.2.2 (HR.out.now HB5.out)).mono ?_
              rintro e y6 ⟨u, rfl, hu, hb⟩
              obtain ⟨A4, n4, q4, rfl⟩ := hu.form
              have HU2_6 := hid hu
              clear hu
              refine hK.out _ _ (on HB5.out hb) (fun hHeld => ?_)
              clear hK K
              (try simp only [Act.put, List.setIfInBounds_toArray, List.set_cons_zero, List.set_cons_succ])
              have HB6 := hid (on HB5.out hb)
              have HU0_6 := hid (HU0_5.out.below hb)
              have HU1_6 := hid (HU1_5.out.below hb)
              have HG6 := hid (HG5.out.next hb)
              clear HG5
              clear hb HB5 HU0_5 HU1_5
              refine wpAnyH_take (i := 27) (oi := ⟨some 33, _, _, _, _, _⟩) (v := ?_) rfl (by kernel_rfl) (by kernel_rfl) (by kernel_rfl) (fun _ _ _ h => h) (Or.inl ⟨by rfl, ?_⟩) (by assumption) ?_
              rotate_left 1
              · intro w0 hSw
                clear hSw
                go_simp
                try with_reducible rfl
              (try simp only [Act.put, List.setIfInBounds_toArray, List.set_cons_zero, List.set_cons_succ])
              refine wpAnyH_take (i := 29) (oi := ⟨some 35, _, _, _, _, _⟩) (v := ?_) rfl (by kernel_rfl) (by kernel_rfl) (by kernel_rfl) (fun _ _ _ h => h) (Or.inl ⟨by rfl, ?_⟩) (by assumption) ?_
              rotate_left 1
              · intro w0 hSw
                clear hSw
                go_simp
                try with_reducible rfl
              (try simp only [Act.put, List.setIfInBounds_toArray, List.set_cons_zero, List.set_cons_succ])
              refine wpAnyH_ready (rs := [31]) (by kernel_rfl) (by simp) ?_
              refine AllReadyH.cons (o := ⟨none, _, _, _, _, _⟩) rfl (fun K hK => ?_) AllReadyH.nil
              rw [if_pos (by rfl)]
              refine wp_store_row 109 (.tmp 5) (.tmp 35) rfl _ _ rfl rfl _ _ HG6.out (by kernel_rfl) (by rfl) (by simp [Value.oneCell']) ?_
              have HF := hid (wtr_end (k := ks) (a1 := 1 + (k : Nat)) (a2 := (at1 : Nat)) HB6.out HT.out HG6.out HGL.out HU0_6.out HU1_6.out HU2_6.out)
              refine hK.out _ _ HF.out.2 (fun hHeld => ?_)
              clear hK K
              (try simp only [Act.put])
              refine wpAnyH_done (by kernel_rfl) ?_ _
              refine NoPanic.normal ?_
              clear hHeld HB6 HG6 HU0_6 HU1_6 HU2_6 HE HS HT
              go_wp2
              go_ret
              exact ⟨_, _, rfl, HF.out.1 (pgs c s b o k v x l) _ _ (by show _ ++ enc l.length ++ l = _; rw [HL.out]) (by show _ ++ enc l.length ++ l = _; rw [HL.out]) rfl (by simp) rfl, on HW0.out HF.out.2⟩
            exact AllReadyH.nil
          exact AllReadyH.nil
        refine AllReadyH.cons (o := ⟨some 5, _, _, _, _, _⟩) rfl (fun K hK => ?_) ?_
        · rw [if_pos (by rfl)]
          go_simp
          refine hK.out _ _ (on HB3.out (below_alloc _ _)) (fun hHeld => ?_)
          clear hK K
          (try simp only [Act.put, List.setIfInBounds_toArray, List.set_cons_zero, List.set_cons_succ])
          have HGL := hid HB3.out.size
          obtain ⟨y4, hy, HG4, hb, -⟩ := below_new' y3 109 #[.int .i64 0, .slice none 0 0, .int .i64 0, .slice none 0 0, .int .i64 0, .slice none 0 0, .int .i64 0, .slice none 0 0]
          have HG4 := hid HG4
          have HB4 := hid (on HB3.out hb)
          have HU0_4 := hid (HU0_3.out.below hb)
          have HU1_4 := hid (HU1_3.out.below hb)
          rw [show y3.alloc _ = y4 from hy]
          clear hy hb HB3 HU0_3 HU1_3
          generalize y3.heap.size = g at *
          refine wpAnyH_ready (rs := [24]) (by kernel_rfl) (by simp) ?_
          refine AllReadyH.cons (o := ⟨some 30, _, _, _, _, _⟩) rfl (fun K hK => ?_) ?_
          · rw [if_pos (by rfl)]
            go_simp
            go_at_call 49
            refine (HSA.out y4).mono ?_
            rintro e y5 ⟨rfl, hb⟩
            refine hK.out _ _ (on HB4.out hb) (fun hHeld => ?_)
            clear hK K
            (try simp only [Act.put, List.setIfInBounds_toArray, List.set_cons_zero, List.set_cons_succ])
            have HB5 := hid (on HB4.out hb)
            have HU0_5 := hid (HU0_4.out.below hb)
            have HU1_5 := hid (HU1_4.out.below hb)
            have HG5 := hid (HG4.out.next hb)
            clear HG4
            clear hb HB4 HU0_4 HU1_4
            refine wpAnyH_ready (rs := [26]) (by kernel_rfl) (by simp) ?_
            refine AllReadyH.cons (o := ⟨some 32, _, _, _, _, _⟩) rfl (fun K hK => ?_) ?_
            · rw [if_pos (by rfl)]
              go_simp
              go_at_call 64
              refine (slotBytes_any c s b o k v x L cap A l y5 HL.out hl HN.out.1 HN.out.2.1 HN.out.2.2.1 HN.out.2.2.2.1 HN.out.2.2.2.2.1 HN.out.2.2.2.2.2.1 HN.out.2.2.2.2.2.2 (HR.out.now HB5.out)).mono ?_
              rintro e y6 ⟨u, rfl, hu, hb⟩
              obtain ⟨A4, n4, q4, rfl⟩ := hu.form
              have HU2_6 := hid hu
              clear hu
              refine hK.out _ _ (on HB5.out hb) (fun hHeld => ?_)
              clear hK K
              (try simp only [Act.put, List.setIfInBounds_toArray, List.set_cons_zero, List.set_cons_succ])
              have HB6 := hid (on HB5.out hb)
              have HU0_6 := hid (HU0_5.out.below hb)
              have HU1_6 := hid (HU1_5.out.below hb)
              have HG6 := hid (HG5.out.next hb)
              clear HG5
              clear hb HB5 HU0_5 HU1_5
              refine wpAnyH_take (i := 27) (oi := ⟨some 33, _, _, _, _, _⟩) (v := ?_) rfl (by kernel_rfl) (by kernel_rfl) (by kernel_rfl) (fun _ _ _ h => h) (Or.inl ⟨by rfl, ?_⟩) (by assumption) ?_
              rotate_left 1
              · intro w0 hSw
                clear hSw
                go_simp
                try with_reducible rfl
              (try simp only [Act.put, List.setIfInBounds_toArray, List.set_cons_zero, List.set_cons_succ])
              refine wpAnyH_take (i := 29) (oi := ⟨some 35, _, _, _, _, _⟩) (v := ?_) rfl (by kernel_rfl) (by kernel_rfl) (by kernel_rfl) (fun _ _ _ h => h) (Or.inl ⟨by rfl, ?_⟩) (by assumption) ?_
              rotate_left 1
              · intro w0 hSw
                clear hSw
                go_simp
                try with_reducible rfl
              (try simp only [Act.put, List.setIfInBounds_toArray, List.set_cons_zero, List.set_cons_succ])
              refine wpAnyH_ready (rs := [31]) (by kernel_rfl) (by simp) ?_
              refine AllReadyH.cons (o := ⟨none, _, _, _, _, _⟩) rfl (fun K hK => ?_) AllReadyH.nil
              rw [if_pos (by rfl)]
              refine wp_store_row 109 (.tmp 5) (.tmp 35) rfl _ _ rfl rfl _ _ HG6.out (by kernel_rfl) (by rfl) (by simp [Value.oneCell']) ?_
              have HF := hid (wtr_end (k := ks) (a1 := 1 + (k : Nat)) (a2 := (at1 : Nat)) HB6.out HT.out HG6.out HGL.out HU0_6.out HU1_6.out HU2_6.out)
              refine hK.out _ _ HF.out.2 (fun hHeld => ?_)
              clear hK K
              (try simp only [Act.put])
              refine wpAnyH_done (by kernel_rfl) ?_ _
              refine NoPanic.normal ?_
              clear hHeld HB6 HG6 HU0_6 HU1_6 HU2_6 HE HS HT
              go_wp2
              go_ret
              exact ⟨_, _, rfl, HF.out.1 (pgs c s b o k v x l) _ _ (by show _ ++ enc l.length ++ l = _; rw [HL.out]) (by show _ ++ enc l.length ++ l = _; rw [HL.out]) rfl (by simp) rfl, on HW0.out HF.out.2⟩
            exact AllReadyH.nil
          exact AllReadyH.nil
        exact AllReadyH.nil
      refine AllReadyH.cons (o := ⟨some 5, _, _, _, _, _⟩) rfl (fun K hK => ?_) ?_
      · rw [if_pos (by rfl)]
        go_simp
        refine hK.out _ _ (on HB2.out (below_alloc _ _)) (fun hHeld => ?_)
        clear hK K
        (try simp only [Act.put, List.setIfInBounds_toArray, List.set_cons_zero, List.set_cons_succ])
        have HGL := hid HB2.out.size
        obtain ⟨y3, hy, HG3, hb, -⟩ := below_new' y2 109 #[.int .i64 0, .slice none 0 0, .int .i64 0, .slice none 0 0, .int .i64 0, .slice none 0 0, .int .i64 0, .slice none 0 0]
        have HG3 := hid HG3
        have HB3 := hid (on HB2.out hb)
        have HU0_3 := hid (HU0_2.out.below hb)
        rw [show y2.alloc _ = y3 from hy]
        clear hy hb HB2 HU0_2
        generalize y2.heap.size = g at *
        refine wpAnyH_ready (rs := [12]) (by kernel_rfl) (by simp) ?_
        refine AllReadyH.cons (o := ⟨some 18, _, _, _, _, _⟩) rfl (fun K hK => ?_) ?_
        · rw [if_pos (by rfl)]
          go_simp
          go_at_call 63
          refine (blockBytes_any c s b o k v x L cap A l y3 HL.out hl HN.out.1 HN.out.2.1 HN.out.2.2.1 HN.out.2.2.2.1 HN.out.2.2.2.2.1 HN.out.2.2.2.2.2.1 HN.out.2.2.2.2.2.2 (HR.out.now HB3.out)).mono ?_
          rintro e y4 ⟨u, rfl, hu, hb⟩
          obtain ⟨A2, n2, q2, rfl⟩ := hu.form
          have HU1_4 := hid hu
          clear hu
          refine hK.out _ _ (on HB3.out hb) (fun hHeld => ?_)
          clear hK K
          (try simp only [Act.put, List.setIfInBounds_toArray, List.set_cons_zero, List.set_cons_succ])
          have HB4 := hid (on HB3.out hb)
          have HU0_4 := hid (HU0_3.out.below hb)
          have HG4 := hid (HG3.out.next hb)
          clear HG3
          clear hb HB3 HU0_3
          refine wpAnyH_take (i := 13) (oi := ⟨some 19, _, _, _, _, _⟩) (v := ?_) rfl (by kernel_rfl) (by kernel_rfl) (by kernel_rfl) (fun _ _ _ h => h) (Or.inl ⟨by rfl, ?_⟩) (by assumption) ?_
          rotate_left 1
          · intro w0 hSw
            clear hSw
            go_simp
            try with_reducible rfl
          (try simp only [Act.put, List.setIfInBounds_toArray, List.set_cons_zero, List.set_cons_succ])
          refine wpAnyH_ready (rs := [24]) (by kernel_rfl) (by simp) ?_
          refine AllReadyH.cons (o := ⟨some 30, _, _, _, _, _⟩) rfl (fun K hK => ?_) ?_
          · rw [if_pos (by rfl)]
            go_simp
            go_at_call 49
            refine (HSA.out y4).mono ?_
            rintro e y5 ⟨rfl, hb⟩
            refine hK.out _ _ (on HB4.out hb) (fun hHeld => ?_)
            clear hK K
            (try simp only [Act.put, List.setIfInBounds_toArray, List.set_cons_zero, List.set_cons_succ])
            have HB5 := hid (on HB4.out hb)
            have HU0_5 := hid (HU0_4.out.below hb)
            have HU1_5 := hid (HU1_4.out.below hb)
            have HG5 := hid (HG4.out.next hb)
            clear HG4
            clear hb HB4 HU0_4 HU1_4
            refine wpAnyH_ready (rs := [26]) (by kernel_rfl) (by simp) ?_
            refine AllReadyH.cons (o := ⟨some 32, _, _, _, _, _⟩) rfl (fun K hK => ?_) ?_
            · rw [if_pos (by rfl)]
              go_simp
              go_at_call 64
              refine (slotBytes_any c s b o k v x L cap A l y5 HL.out hl HN.out.1 HN.out.2.1 HN.out.2.2.1 HN.out.2.2.2.1 HN.out.2.2.2.2.1 HN.out.2.2.2.2.2.1 HN.out.2.2.2.2.2.2 (HR.out.now HB5.out)).mono ?_
              rintro e y6 ⟨u, rfl, hu, hb⟩
              obtain ⟨A4, n4, q4, rfl⟩ := hu.form
              have HU2_6 := hid hu
              clear hu
              refine hK.out _ _ (on HB5.out hb) (fun hHeld => ?_)
              clear hK K
              (try simp only [Act.put, List.setIfInBounds_toArray, List.set_cons_zero, List.set_cons_succ])
              have HB6 := hid (on HB5.out hb)
              have HU0_6 := hid (HU0_5.out.below hb)
              have HU1_6 := hid (HU1_5.out.below hb)
              have HG6 := hid (HG5.out.next hb)
              clear HG5
              clear hb HB5 HU0_5 HU1_5
              refine wpAnyH_take (i := 27) (oi := ⟨some 33, _, _, _, _, _⟩) (v := ?_) rfl (by kernel_rfl) (by kernel_rfl) (by kernel_rfl) (fun _ _ _ h => h) (Or.inl ⟨by rfl, ?_⟩) (by assumption) ?_
              rotate_left 1
              · intro w0 hSw
                clear hSw
                go_simp
                try with_reducible rfl
              (try simp only [Act.put, List.setIfInBounds_toArray, List.set_cons_zero, List.set_cons_succ])
              refine wpAnyH_take (i := 29) (oi := ⟨some 35, _, _, _, _, _⟩) (v := ?_) rfl (by kernel_rfl) (by kernel_rfl) (by kernel_rfl) (fun _ _ _ h => h) (Or.inl ⟨by rfl, ?_⟩) (by assumption) ?_
              rotate_left 1
              · intro w0 hSw
                clear hSw
                go_simp
                try with_reducible rfl
              (try simp only [Act.put, List.setIfInBounds_toArray, List.set_cons_zero, List.set_cons_succ])
              refine wpAnyH_ready (rs := [31]) (by kernel_rfl) (by simp) ?_
              refine AllReadyH.cons (o := ⟨none, _, _, _, _, _⟩) rfl (fun K hK => ?_) AllReadyH.nil
              rw [if_pos (by rfl)]
              refine wp_store_row 109 (.tmp 5) (.tmp 35) rfl _ _ rfl rfl _ _ HG6.out (by kernel_rfl) (by rfl) (by simp [Value.oneCell']) ?_
              have HF := hid (wtr_end (k := ks) (a1 := 1 + (k : Nat)) (a2 := (at1 : Nat)) HB6.out HT.out HG6.out HGL.out HU0_6.out HU1_6.out HU2_6.out)
              refine hK.out _ _ HF.out.2 (fun hHeld => ?_)
              clear hK K
              (try simp only [Act.put])
              refine wpAnyH_done (by kernel_rfl) ?_ _
              refine NoPanic.normal ?_
              clear hHeld HB6 HG6 HU0_6 HU1_6 HU2_6 HE HS HT
              go_wp2
              go_ret
              exact ⟨_, _, rfl, HF.out.1 (pgs c s b o k v x l) _ _ (by show _ ++ enc l.length ++ l = _; rw [HL.out]) (by show _ ++ enc l.length ++ l = _; rw [HL.out]) rfl (by simp) rfl, on HW0.out HF.out.2⟩
            exact AllReadyH.nil
          exact AllReadyH.nil
        exact AllReadyH.nil
      exact AllReadyH.nil
    refine AllReadyH.cons (o := ⟨some 5, _, _, _, _, _⟩) rfl (fun K hK => ?_) ?_
    · rw [if_pos (by rfl)]
      go_simp
      refine hK.out _ _ (on HB1.out (below_alloc _ _)) (fun hHeld => ?_)
      clear hK K
      (try simp only [Act.put, List.setIfInBounds_toArray, List.set_cons_zero, List.set_cons_succ])
      have HGL := hid HB1.out.size
      obtain ⟨y2, hy, HG2, hb, -⟩ := below_new' y1 109 #[.int .i64 0, .slice none 0 0, .int .i64 0, .slice none 0 0, .int .i64 0, .slice none 0 0, .int .i64 0, .slice none 0 0]
      have HG2 := hid HG2
      have HB2 := hid (on HB1.out hb)
      have HU0_2 := hid (HU0_1.out.below hb)
      rw [show y1.alloc _ = y2 from hy]
      clear hy hb HB1 HU0_1
      generalize y1.heap.size = g at *
      refine wpAnyH_ready (rs := [10]) (by kernel_rfl) (by simp) ?_
      refine AllReadyH.cons (o := ⟨some 16, _, _, _, _, _⟩) rfl (fun K hK => ?_) ?_
      · rw [if_pos (by rfl)]
        go_simp
        go_at_call 60
        refine (HBA.out y2).mono ?_
        rintro e y3 ⟨rfl, hb⟩
        refine hK.out _ _ (on HB2.out hb) (fun hHeld => ?_)
        clear hK K
        (try simp only [Act.put, List.setIfInBounds_toArray, List.set_cons_zero, List.set_cons_succ])
        have HB3 := hid (on HB2.out hb)
        have HU0_3 := hid (HU0_2.out.below hb)
        have HG3 := hid (HG2.out.next hb)
        clear HG2
        clear hb HB2 HU0_2
        refine wpAnyH_ready (rs := [12]) (by kernel_rfl) (by simp) ?_
        refine AllReadyH.cons (o := ⟨some 18, _, _, _, _, _⟩) rfl (fun K hK => ?_) ?_
        · rw [if_pos (by rfl)]
          go_simp
          go_at_call 63
          refine (blockBytes_any c s b o k v x L cap A l y3 HL.out hl HN.out.1 HN.out.2.1 HN.out.2.2.1 HN.out.2.2.2.1 HN.out.2.2.2.2.1 HN.out.2.2.2.2.2.1 HN.out.2.2.2.2.2.2 (HR.out.now HB3.out)).mono ?_
          rintro e y4 ⟨u, rfl, hu, hb⟩
          obtain ⟨A2, n2, q2, rfl⟩ := hu.form
          have HU1_4 := hid hu
          clear hu
          refine hK.out _ _ (on HB3.out hb) (fun hHeld => ?_)
          clear hK K
          (try simp only [Act.put, List.setIfInBounds_toArray, List.set_cons_zero, List.set_cons_succ])
          have HB4 := hid (on HB3.out hb)
          have HU0_4 := hid (HU0_3.out.below hb)
          have HG4 := hid (HG3.out.next hb)
          clear HG3
          clear hb HB3 HU0_3
          refine wpAnyH_take (i := 13) (oi := ⟨some 19, _, _, _, _, _⟩) (v := ?_) rfl (by kernel_rfl) (by kernel_rfl) (by kernel_rfl) (fun _ _ _ h => h) (Or.inl ⟨by rfl, ?_⟩) (by assumption) ?_
          rotate_left 1
          · intro w0 hSw
            clear hSw
            go_simp
            try with_reducible rfl
          (try simp only [Act.put, List.setIfInBounds_toArray, List.set_cons_zero, List.set_cons_succ])
          refine wpAnyH_ready (rs := [24]) (by kernel_rfl) (by simp) ?_
          refine AllReadyH.cons (o := ⟨some 30, _, _, _, _, _⟩) rfl (fun K hK => ?_) ?_
          · rw [if_pos (by rfl)]
            go_simp
            go_at_call 49
            refine (HSA.out y4).mono ?_
            rintro e y5 ⟨rfl, hb⟩
            refine hK.out _ _ (on HB4.out hb) (fun hHeld => ?_)
            clear hK K
            (try simp only [Act.put, List.setIfInBounds_toArray, List.set_cons_zero, List.set_cons_succ])
            have HB5 := hid (on HB4.out hb)
            have HU0_5 := hid (HU0_4.out.below hb)
            have HU1_5 := hid (HU1_4.out.below hb)
            have HG5 := hid (HG4.out.next hb)
            clear HG4
            clear hb HB4 HU0_4 HU1_4
            refine wpAnyH_ready (rs := [26]) (by kernel_rfl) (by simp) ?_
            refine AllReadyH.cons (o := ⟨some 32, _, _, _, _, _⟩) rfl (fun K hK => ?_) ?_
            · rw [if_pos (by rfl)]
              go_simp
              go_at_call 64
              refine (slotBytes_any c s b o k v x L cap A l y5 HL.out hl HN.out.1 HN.out.2.1 HN.out.2.2.1 HN.out.2.2.2.1 HN.out.2.2.2.2.1 HN.out.2.2.2.2.2.1 HN.out.2.2.2.2.2.2 (HR.out.now HB5.out)).mono ?_
              rintro e y6 ⟨u, rfl, hu, hb⟩
              obtain ⟨A4, n4, q4, rfl⟩ := hu.form
              have HU2_6 := hid hu
              clear hu
              refine hK.out _ _ (on HB5.out hb) (fun hHeld => ?_)
              clear hK K
              (try simp only [Act.put, List.setIfInBounds_toArray, List.set_cons_zero, List.set_cons_succ])
              have HB6 := hid (on HB5.out hb)
              have HU0_6 := hid (HU0_5.out.below hb)
              have HU1_6 := hid (HU1_5.out.below hb)
              have HG6 := hid (HG5.out.next hb)
              clear HG5
              clear hb HB5 HU0_5 HU1_5
              refine wpAnyH_take (i := 27) (oi := ⟨some 33, _, _, _, _, _⟩) (v := ?_) rfl (by kernel_rfl) (by kernel_rfl) (by kernel_rfl) (fun _ _ _ h => h) (Or.inl ⟨by rfl, ?_⟩) (by assumption) ?_
              rotate_left 1
              · intro w0 hSw
                clear hSw
                go_simp
                try with_reducible rfl
              (try simp only [Act.put, List.setIfInBounds_toArray, List.set_cons_zero, List.set_cons_succ])
              refine wpAnyH_take (i := 29) (oi := ⟨some 35, _, _, _, _, _⟩) (v := ?_) rfl (by kernel_rfl) (by kernel_rfl) (by kernel_rfl) (fun _ _ _ h => h) (Or.inl ⟨by rfl, ?_⟩) (by assumption) ?_
              rotate_left 1
              · intro w0 hSw
                clear hSw
                go_simp
                try with_reducible rfl
              (try simp only [Act.put, List.setIfInBounds_toArray, List.set_cons_zero, List.set_cons_succ])
              refine wpAnyH_ready (rs := [31]) (by kernel_rfl) (by simp) ?_
              refine AllReadyH.cons (o := ⟨none, _, _, _, _, _⟩) rfl (fun K hK => ?_) AllReadyH.nil
              rw [if_pos (by rfl)]
              refine wp_store_row 109 (.tmp 5) (.tmp 35) rfl _ _ rfl rfl _ _ HG6.out (by kernel_rfl) (by rfl) (by simp [Value.oneCell']) ?_
              have HF := hid (wtr_end (k := ks) (a1 := 1 + (k : Nat)) (a2 := (at1 : Nat)) HB6.out HT.out HG6.out HGL.out HU0_6.out HU1_6.out HU2_6.out)
              refine hK.out _ _ HF.out.2 (fun hHeld => ?_)
              clear hK K
              (try simp only [Act.put])
              refine wpAnyH_done (by kernel_rfl) ?_ _
              refine NoPanic.normal ?_
              clear hHeld HB6 HG6 HU0_6 HU1_6 HU2_6 HE HS HT
              go_wp2
              go_ret
              exact ⟨_, _, rfl, HF.out.1 (pgs c s b o k v x l) _ _ (by show _ ++ enc l.length ++ l = _; rw [HL.out]) (by show _ ++ enc l.length ++ l = _; rw [HL.out]) rfl (by simp) rfl, on HW0.out HF.out.2⟩
            exact AllReadyH.nil
          exact AllReadyH.nil
        exact AllReadyH.nil
      exact AllReadyH.nil
    exact AllReadyH.nil
  refine AllReadyH.cons (o := ⟨some 5, _, _, _, _, _⟩) rfl (fun K hK => ?_) ?_
  · rw [if_pos (by rfl)]
    go_simp
    refine hK.out _ _ (on HB0.out (below_alloc _ _)) (fun hHeld => ?_)
    clear hK K
    (try simp only [Act.put, List.setIfInBounds_toArray, List.set_cons_zero, List.set_cons_succ])
    have HGL := hid HB0.out.size
    obtain ⟨y1, hy, HG1, hb, -⟩ := below_new' y0 109 #[.int .i64 0, .slice none 0 0, .int .i64 0, .slice none 0 0, .int .i64 0, .slice none 0 0, .int .i64 0, .slice none 0 0]
    have HG1 := hid HG1
    have HB1 := hid (on HB0.out hb)
    rw [show y0.alloc _ = y1 from hy]
    clear hy hb HB0
    generalize y0.heap.size = g at *
    refine wpAnyH_ready (rs := [1]) (by kernel_rfl) (by simp) ?_
    refine AllReadyH.cons (o := ⟨some 7, _, _, _, _, _⟩) rfl (fun K hK => ?_) ?_
    · rw [if_pos (by rfl)]
      go_simp
      go_at_call 62
      refine (journalBytes_any c s b o k v x L cap A l y1 HL.out hl HN.out.1 HN.out.2.1 HN.out.2.2.1 HN.out.2.2.2.1 HN.out.2.2.2.2.1 HN.out.2.2.2.2.2.1 HN.out.2.2.2.2.2.2 (HR.out.now HB1.out)).mono ?_
      rintro e y2 ⟨u, rfl, hu, hb⟩
      obtain ⟨A0, n0, q0, rfl⟩ := hu.form
      have HU0_2 := hid hu
      clear hu
      refine hK.out _ _ (on HB1.out hb) (fun hHeld => ?_)
      clear hK K
      (try simp only [Act.put, List.setIfInBounds_toArray, List.set_cons_zero, List.set_cons_succ])
      have HB2 := hid (on HB1.out hb)
      have HG2 := hid (HG1.out.next hb)
      clear HG1
      clear hb HB1
      refine wpAnyH_take (i := 2) (oi := ⟨some 8, _, _, _, _, _⟩) (v := ?_) rfl (by kernel_rfl) (by kernel_rfl) (by kernel_rfl) (fun _ _ _ h => h) (Or.inl ⟨by rfl, ?_⟩) (by assumption) ?_
      rotate_left 1
      · intro w0 hSw
        clear hSw
        go_simp
        try with_reducible rfl
      (try simp only [Act.put, List.setIfInBounds_toArray, List.set_cons_zero, List.set_cons_succ])
      refine wpAnyH_ready (rs := [10]) (by kernel_rfl) (by simp) ?_
      refine AllReadyH.cons (o := ⟨some 16, _, _, _, _, _⟩) rfl (fun K hK => ?_) ?_
      · rw [if_pos (by rfl)]
        go_simp
        go_at_call 60
        refine (HBA.out y2).mono ?_
        rintro e y3 ⟨rfl, hb⟩
        refine hK.out _ _ (on HB2.out hb) (fun hHeld => ?_)
        clear hK K
        (try simp only [Act.put, List.setIfInBounds_toArray, List.set_cons_zero, List.set_cons_succ])
        have HB3 := hid (on HB2.out hb)
        have HU0_3 := hid (HU0_2.out.below hb)
        have HG3 := hid (HG2.out.next hb)
        clear HG2
        clear hb HB2 HU0_2
        refine wpAnyH_ready (rs := [12]) (by kernel_rfl) (by simp) ?_
        refine AllReadyH.cons (o := ⟨some 18, _, _, _, _, _⟩) rfl (fun K hK => ?_) ?_
        · rw [if_pos (by rfl)]
          go_simp
          go_at_call 63
          refine (blockBytes_any c s b o k v x L cap A l y3 HL.out hl HN.out.1 HN.out.2.1 HN.out.2.2.1 HN.out.2.2.2.1 HN.out.2.2.2.2.1 HN.out.2.2.2.2.2.1 HN.out.2.2.2.2.2.2 (HR.out.now HB3.out)).mono ?_
          rintro e y4 ⟨u, rfl, hu, hb⟩
          obtain ⟨A2, n2, q2, rfl⟩ := hu.form
          have HU1_4 := hid hu
          clear hu
          refine hK.out _ _ (on HB3.out hb) (fun hHeld => ?_)
          clear hK K
          (try simp only [Act.put, List.setIfInBounds_toArray, List.set_cons_zero, List.set_cons_succ])
          have HB4 := hid (on HB3.out hb)
          have HU0_4 := hid (HU0_3.out.below hb)
          have HG4 := hid (HG3.out.next hb)
          clear HG3
          clear hb HB3 HU0_3
          refine wpAnyH_take (i := 13) (oi := ⟨some 19, _, _, _, _, _⟩) (v := ?_) rfl (by kernel_rfl) (by kernel_rfl) (by kernel_rfl) (fun _ _ _ h => h) (Or.inl ⟨by rfl, ?_⟩) (by assumption) ?_
          rotate_left 1
          · intro w0 hSw
            clear hSw
            go_simp
            try with_reducible rfl
          (try simp only [Act.put, List.setIfInBounds_toArray, List.set_cons_zero, List.set_cons_succ])
          refine wpAnyH_ready (rs := [24]) (by kernel_rfl) (by simp) ?_
          refine AllReadyH.cons (o := ⟨some 30, _, _, _, _, _⟩) rfl (fun K hK => ?_) ?_
          · rw [if_pos (by rfl)]
            go_simp
            go_at_call 49
            refine (HSA.out y4).mono ?_
            rintro e y5 ⟨rfl, hb⟩
            refine hK.out _ _ (on HB4.out hb) (fun hHeld => ?_)
            clear hK K
            (try simp only [Act.put, List.setIfInBounds_toArray, List.set_cons_zero, List.set_cons_succ])
            have HB5 := hid (on HB4.out hb)
            have HU0_5 := hid (HU0_4.out.below hb)
            have HU1_5 := hid (HU1_4.out.below hb)
            have HG5 := hid (HG4.out.next hb)
            clear HG4
            clear hb HB4 HU0_4 HU1_4
            refine wpAnyH_ready (rs := [26]) (by kernel_rfl) (by simp) ?_
            refine AllReadyH.cons (o := ⟨some 32, _, _, _, _, _⟩) rfl (fun K hK => ?_) ?_
            · rw [if_pos (by rfl)]
              go_simp
              go_at_call 64
              refine (slotBytes_any c s b o k v x L cap A l y5 HL.out hl HN.out.1 HN.out.2.1 HN.out.2.2.1 HN.out.2.2.2.1 HN.out.2.2.2.2.1 HN.out.2.2.2.2.2.1 HN.out.2.2.2.2.2.2 (HR.out.now HB5.out)).mono ?_
              rintro e y6 ⟨u, rfl, hu, hb⟩
              obtain ⟨A4, n4, q4, rfl⟩ := hu.form
              have HU2_6 := hid hu
              clear hu
              refine hK.out _ _ (on HB5.out hb) (fun hHeld => ?_)
              clear hK K
              (try simp only [Act.put, List.setIfInBounds_toArray, List.set_cons_zero, List.set_cons_succ])
              have HB6 := hid (on HB5.out hb)
              have HU0_6 := hid (HU0_5.out.below hb)
              have HU1_6 := hid (HU1_5.out.below hb)
              have HG6 := hid (HG5.out.next hb)
              clear HG5
              clear hb HB5 HU0_5 HU1_5
              refine wpAnyH_take (i := 27) (oi := ⟨some 33, _, _, _, _, _⟩) (v := ?_) rfl (by kernel_rfl) (by kernel_rfl) (by kernel_rfl) (fun _ _ _ h => h) (Or.inl ⟨by rfl, ?_⟩) (by assumption) ?_
              rotate_left 1
              · intro w0 hSw
                clear hSw
                go_simp
                try with_reducible rfl
              (try simp only [Act.put, List.setIfInBounds_toArray, List.set_cons_zero, List.set_cons_succ])
              refine wpAnyH_take (i := 29) (oi := ⟨some 35, _, _, _, _, _⟩) (v := ?_) rfl (by kernel_rfl) (by kernel_rfl) (by kernel_rfl) (fun _ _ _ h => h) (Or.inl ⟨by rfl, ?_⟩) (by assumption) ?_
              rotate_left 1
              · intro w0 hSw
                clear hSw
                go_simp
                try with_reducible rfl
              (try simp only [Act.put, List.setIfInBounds_toArray, List.set_cons_zero, List.set_cons_succ])
              refine wpAnyH_ready (rs := [31]) (by kernel_rfl) (by simp) ?_
              refine AllReadyH.cons (o := ⟨none, _, _, _, _, _⟩) rfl (fun K hK => ?_) AllReadyH.nil
              rw [if_pos (by rfl)]
              refine wp_store_row 109 (.tmp 5) (.tmp 35) rfl _ _ rfl rfl _ _ HG6.out (by kernel_rfl) (by rfl) (by simp [Value.oneCell']) ?_
              have HF := hid (wtr_end (k := ks) (a1 := 1 + (k : Nat)) (a2 := (at1 : Nat)) HB6.out HT.out HG6.out HGL.out HU0_6.out HU1_6.out HU2_6.out)
              refine hK.out _ _ HF.out.2 (fun hHeld => ?_)
              clear hK K
              (try simp only [Act.put])
              refine wpAnyH_done (by kernel_rfl) ?_ _
              refine NoPanic.normal ?_
              clear hHeld HB6 HG6 HU0_6 HU1_6 HU2_6 HE HS HT
              go_wp2
              go_ret
              exact ⟨_, _, rfl, HF.out.1 (pgs c s b o k v x l) _ _ (by show _ ++ enc l.length ++ l = _; rw [HL.out]) (by show _ ++ enc l.length ++ l = _; rw [HL.out]) rfl (by simp) rfl, on HW0.out HF.out.2⟩
            exact AllReadyH.nil
          exact AllReadyH.nil
        exact AllReadyH.nil
      exact AllReadyH.nil
    exact AllReadyH.nil
  exact AllReadyH.nil
end
end Go.Proofs.Ytincndblpbdnlaa
