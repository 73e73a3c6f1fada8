/-
  What is proved: the walk of StoreOthers: a write changes no other block, and its own one by one version; what a store tells is memory of its own. Condition: the acts and the write are read as such.
-/
import Derived.Test.YtincndblpbdnlaaOnce6
namespace Go.Proofs.Ytincndblpbdnlaa
open Go.RowKit

/-- block q holds slices that read as the first n of these texts -/
def Was (w : World) (q n : Nat) (g : Nat → List Int) : Prop := ∃ cs : Array Value, cs.size = 32 ∧ Bx w q 62 cs ∧ (∀ j, j < 32 → ∃ A m c, cs[j]? = some (.slice A m c)) ∧ ∀ j, j < n → ∃ u, cs[j]? = some u ∧ Bs w u (g j)
/-- block q holds the first n of these numbers -/
def Vrs (w : World) (q n : Nat) (g : Nat → Nat) : Prop := ∃ cs : Array Value, cs.size = 32 ∧ Bx w q 63 cs ∧ (∀ j, j < 32 → ∃ x : Int, cs[j]? = some (.int .i64 x)) ∧ ∀ j, j < n → cs[j]? = some (.int .i64 (g j : Nat))
section
variable {w w' : World} {q n : Nat}
theorem Was.kept {g : Nat → List Int} (h : Was w q n g) (hs : w.heap.size ≤ w'.heap.size) (st : Stay w w') (hb : w'.heap[q]? = w.heap[q]?) : Was w' q n g := by
  obtain ⟨cs, h1, h2, h4, h3⟩ := h
  exact ⟨cs, h1, hb.trans h2, h4, fun j hj => by obtain ⟨u, e1, e2⟩ := h3 j hj; exact ⟨u, e1, e2.stay st hs⟩⟩
theorem Was.lt {g : Nat → List Int} (h : Was w q n g) : q < w.heap.size := by obtain ⟨cs, _, h2, _⟩ := h; exact h2.lt
theorem Was.below {g : Nat → List Int} (h : Was w q n g) (hb : Below w.heap.size w w') : Was w' q n g := h.kept hb.size (Stay.below hb) (hb.block q h.lt)
theorem Was.cell {g : Nat → List Int} (h : Was w q n g) {j : Nat} (hj : j < n) : ∃ u, w.cell? ⟨q, j, none⟩ = some u ∧ Bs w u (g j) := by
  obtain ⟨cs, _, h2, _, h3⟩ := h
  obtain ⟨u, e1, e2⟩ := h3 j hj
  exact ⟨u, (h2.cell j).trans e1, e2⟩
theorem Was.any {g : Nat → List Int} (h : Was w q n g) {j : Nat} (hj : j < 32) : (∃ A m c, w.cell? ⟨q, j, none⟩ = some (.slice A m c)) ∧ w.frozen? ⟨q, j, none⟩ = false := by
  obtain ⟨cs, _, h2, h3, _⟩ := h
  obtain ⟨A, m, c, e1⟩ := h3 j hj
  exact ⟨⟨A, m, c, (h2.cell j).trans e1⟩, h2.free j⟩
theorem Was.set {g : Nat → List Int} (h : Was w q n g) (hn : n < 32) {u : Value} (hu : Bs w u (g n)) : Was (w.setCell ⟨q, n, none⟩ u) q (n + 1) g := by
  obtain ⟨⟨A0, m0, c0, e0⟩, _⟩ := h.any hn
  have st : Stay w (w.setCell ⟨q, n, none⟩ u) := Stay.set w _ u fun x e => by rw [e0] at e; cases e
  have hs : w.heap.size ≤ (w.setCell ⟨q, n, none⟩ u).heap.size := by rw [setSize]; exact Nat.le_refl _
  obtain ⟨cs, h1, h2, h4, h3⟩ := h
  have hu' := hu
  obtain ⟨Au, cu, eu, _⟩ := hu'
  refine ⟨cs.setIfInBounds n u, by simpa using h1, h2.set n u, fun j hj => ?_, fun j hj => ?_⟩
  · by_cases e : j = n
    · subst e
      exact ⟨Au, _, cu, by rw [Array.getElem?_setIfInBounds_self_of_lt (by omega), eu]⟩
    · obtain ⟨A, m, c, e1⟩ := h4 j hj
      exact ⟨A, m, c, by rw [Array.getElem?_setIfInBounds_ne (fun h => e h.symm)]; exact e1⟩
  · by_cases e : j = n
    · subst e
      exact ⟨u, by rw [Array.getElem?_setIfInBounds_self_of_lt (by omega)], hu.stay st hs⟩
    · obtain ⟨u', e1, e2⟩ := h3 j (by omega)
      exact ⟨u', by rw [Array.getElem?_setIfInBounds_ne (fun h => e h.symm)]; exact e1, e2.stay st hs⟩
theorem Was.far {g : Nat → List Int} (h : Was w q n g) (p : Addr) (u : Value) (hp : p.block ≠ q) (st : Stay w (w.setCell p u)) : Was (w.setCell p u) q n g := h.kept (by rw [setSize]; exact Nat.le_refl _) st (Below.heap_setCell w p u q fun e => hp e.symm)
theorem Vrs.kept {g : Nat → Nat} (h : Vrs w q n g) (hb : w'.heap[q]? = w.heap[q]?) : Vrs w' q n g := by
  obtain ⟨cs, h1, h2, h4⟩ := h
  exact ⟨cs, h1, hb.trans h2, h4⟩
theorem Vrs.lt {g : Nat → Nat} (h : Vrs w q n g) : q < w.heap.size := by obtain ⟨cs, _, h2, _⟩ := h; exact h2.lt
theorem Vrs.below {g : Nat → Nat} (h : Vrs w q n g) (hb : Below w.heap.size w w') : Vrs w' q n g := h.kept (hb.block q h.lt)
theorem Vrs.cell {g : Nat → Nat} (h : Vrs w q n g) {j : Nat} (hj : j < n) : w.cell? ⟨q, j, none⟩ = some (.int .i64 (g j : Nat)) := by
  obtain ⟨cs, _, h2, _, h3⟩ := h
  exact (h2.cell j).trans (h3 j hj)
theorem Vrs.any {g : Nat → Nat} (h : Vrs w q n g) {j : Nat} (hj : j < 32) : (∃ x : Int, w.cell? ⟨q, j, none⟩ = some (.int .i64 x)) ∧ w.frozen? ⟨q, j, none⟩ = false := by
  obtain ⟨cs, _, h2, h3, _⟩ := h
  obtain ⟨x, e1⟩ := h3 j hj
  exact ⟨⟨x, (h2.cell j).trans e1⟩, h2.free j⟩
theorem Vrs.set {g : Nat → Nat} (h : Vrs w q n g) (hn : n < 32) : Vrs (w.setCell ⟨q, n, none⟩ (.int .i64 (g n : Nat))) q (n + 1) g := by
  obtain ⟨cs, h1, h2, h4, h3⟩ := h
  refine ⟨cs.setIfInBounds n _, by simpa using h1, h2.set n _, fun j hj => ?_, fun j hj => ?_⟩
  · by_cases e : j = n
    · subst e
      exact ⟨_, by rw [Array.getElem?_setIfInBounds_self_of_lt (by omega)]⟩
    · obtain ⟨x, e1⟩ := h4 j hj
      exact ⟨x, by rw [Array.getElem?_setIfInBounds_ne (fun h => e h.symm)]; exact e1⟩
  · by_cases e : j = n
    · subst e
      rw [Array.getElem?_setIfInBounds_self_of_lt (by omega)]
    · rw [Array.getElem?_setIfInBounds_ne (fun h => e h.symm)]
      exact h3 j (by omega)
theorem Vrs.far {g : Nat → Nat} (h : Vrs w q n g) (p : Addr) (u : Value) (hp : p.block ≠ q) : Vrs (w.setCell p u) q n g := h.kept (Below.heap_setCell w p u q fun e => hp e.symm)
theorem Sx.kept2 {bb kd ks : Nat} {vv : Value} {st : St} {sh : Sh} (h : Sx w bb kd ks vv st sh) {t : TypeId} {cs : Array Value} {p : Addr} {u : Value} (hb : Bx w p.block t cs) (t1 : t ≠ 67) (t2 : t ≠ 73) (t3 : t ≠ 36) (st' : Stay w (w.setCell p u)) : Sx (w.setCell p u) bb kd ks vv st sh := by
  have key : ∀ {j : Nat} {T : TypeId} {ds : Array Value} {z : Nat × Nat}, w.heap[j]? = some (.cells ds T z) → T ≠ t → (w.setCell p u).heap[j]? = w.heap[j]? := by
    intro j T ds z hj hT
    refine Below.heap_setCell w p u j fun e => ?_
    rw [← e] at hb
    unfold Bx at hb
    rw [hj] at hb
    injection hb with hb
    injection hb with _ hb
    exact hT hb
  refine ⟨h.dk.kept (by rw [setSize]; exact Nat.le_refl _) st' fun j hj => ?_, (key h.bx (fun e => t2 e.symm)).trans h.bx, h.ok, h.len, h.by_⟩
  rcases hj with rfl | e
  · exact key h.dk.box (fun e => t1 e.symm)
  · obtain ⟨us, ho, _⟩ := h.dk.row
    rcases ho.2 with ⟨hv, _⟩ | ⟨g, cap, cur, hv, _, hgg, _⟩
    · rw [hv] at e; simp [Value.ownBlock] at e
    · rw [hv] at e
      injection e with e
      subst e
      exact key hgg (fun e => t3 e.symm)
end
theorem Was.dsk {w w' : World} {q n b k : Nat} {v : Value} {st : St} {g : Nat → List Int} (h : Was w q n g) (hd : Dk w 67 b k v st) (ho : Only w w' k v) : Was w' q n g := by
  obtain ⟨cs, h1, h2, h4, h3⟩ := h
  exact ⟨cs, h1, h2.dsk hd ho (by decide) (by decide), h4, fun j hj => by obtain ⟨u, e1, e2⟩ := h3 j hj; exact ⟨u, e1, e2.stay ho.stay ho.size⟩⟩
theorem Vrs.dsk {w w' : World} {q n b k : Nat} {v : Value} {st : St} {g : Nat → Nat} (h : Vrs w q n g) (hd : Dk w 67 b k v st) (ho : Only w w' k v) : Vrs w' q n g := by
  obtain ⟨cs, h1, h2, h4⟩ := h
  exact ⟨cs, h1, h2.dsk hd ho (by decide) (by decide), h4⟩
theorem Was.bx {w : World} {q n : Nat} {g : Nat → List Int} (h : Was w q n g) : ∃ cs, Bx w q 62 cs := by obtain ⟨cs, _, h2, _⟩ := h; exact ⟨cs, h2⟩
theorem Vrs.bx {w : World} {q n : Nat} {g : Nat → Nat} (h : Vrs w q n g) : ∃ cs, Bx w q 63 cs := by obtain ⟨cs, _, h2, _⟩ := h; exact ⟨cs, h2⟩
theorem nil32 : ∀ j, j < 32 → (#[.slice none 0 0, .slice none 0 0, .slice none 0 0, .slice none 0 0, .slice none 0 0, .slice none 0 0, .slice none 0 0, .slice none 0 0, .slice none 0 0, .slice none 0 0, .slice none 0 0, .slice none 0 0, .slice none 0 0, .slice none 0 0, .slice none 0 0, .slice none 0 0, .slice none 0 0, .slice none 0 0, .slice none 0 0, .slice none 0 0, .slice none 0 0, .slice none 0 0, .slice none 0 0, .slice none 0 0, .slice none 0 0, .slice none 0 0, .slice none 0 0, .slice none 0 0, .slice none 0 0, .slice none 0 0, .slice none 0 0, .slice none 0 0] : Array Value)[j]? = some (.slice none 0 0) := by
  intro j hj
  have : (#[.slice none 0 0, .slice none 0 0, .slice none 0 0, .slice none 0 0, .slice none 0 0, .slice none 0 0, .slice none 0 0, .slice none 0 0, .slice none 0 0, .slice none 0 0, .slice none 0 0, .slice none 0 0, .slice none 0 0, .slice none 0 0, .slice none 0 0, .slice none 0 0, .slice none 0 0, .slice none 0 0, .slice none 0 0, .slice none 0 0, .slice none 0 0, .slice none 0 0, .slice none 0 0, .slice none 0 0, .slice none 0 0, .slice none 0 0, .slice none 0 0, .slice none 0 0, .slice none 0 0, .slice none 0 0, .slice none 0 0, .slice none 0 0] : Array Value) = Array.replicate 32 (.slice none 0 0) := rfl
  rw [this, Array.getElem?_replicate, if_pos hj]
theorem zero32 : ∀ j, j < 32 → (#[.int .i64 0, .int .i64 0, .int .i64 0, .int .i64 0, .int .i64 0, .int .i64 0, .int .i64 0, .int .i64 0, .int .i64 0, .int .i64 0, .int .i64 0, .int .i64 0, .int .i64 0, .int .i64 0, .int .i64 0, .int .i64 0, .int .i64 0, .int .i64 0, .int .i64 0, .int .i64 0, .int .i64 0, .int .i64 0, .int .i64 0, .int .i64 0, .int .i64 0, .int .i64 0, .int .i64 0, .int .i64 0, .int .i64 0, .int .i64 0, .int .i64 0, .int .i64 0] : Array Value)[j]? = some (.int .i64 0) := by
  intro j hj
  have : (#[.int .i64 0, .int .i64 0, .int .i64 0, .int .i64 0, .int .i64 0, .int .i64 0, .int .i64 0, .int .i64 0, .int .i64 0, .int .i64 0, .int .i64 0, .int .i64 0, .int .i64 0, .int .i64 0, .int .i64 0, .int .i64 0, .int .i64 0, .int .i64 0, .int .i64 0, .int .i64 0, .int .i64 0, .int .i64 0, .int .i64 0, .int .i64 0, .int .i64 0, .int .i64 0, .int .i64 0, .int .i64 0, .int .i64 0, .int .i64 0, .int .i64 0, .int .i64 0] : Array Value) = Array.replicate 32 (.int .i64 0) := rfl
  rw [this, Array.getElem?_replicate, if_pos hj]
theorem Bs.le {w : World} {A : Option Addr} {n c : Nat} {l : List Int} (h : Bs w (.slice A n c) l) : l.length ≤ c ∧ c ≤ maxLen := by
  obtain ⟨A', c', e, _, h1, h2⟩ := h
  injection e with _ _ e3
  subst e3
  exact ⟨h1, h2⟩
theorem bytes_set (l : List Int) (i : Nat) (x : Int) : bytes (l.set i x) = (bytes l).set i (.int .u8 x) := by
  unfold bytes
  rw [List.map_set]
theorem own_put {w : World} {b g n c i : Nat} {T : List Int} {x : Int} (h : OwnV w b 5 1 (.slice (some ⟨g, 0, none⟩) n c) n (bytes T)) (hT : T.length = n) : ∃ T' : List Int, T'.length = n ∧ OwnV (w.setCell ⟨g, i, none⟩ (.int .u8 x)) b 5 1 (.slice (some ⟨g, 0, none⟩) n c) n (bytes T') :=
  ⟨T.set i x, by rw [List.length_set]; exact hT, by rw [bytes_set]; exact (World.ownsRow.stored h i _).1⟩
/-- what a write makes of blocks -/
theorem rwr_else {sh : Sh} {X : RS} {x : Wr} {q : Nat} (h : (q : Int) ≠ x.k ∨ (rwr sh X x).2.2 ≠ 0 ∨ (rwr sh X x).2.1 ≠ 0) : (rwr sh X x).1.V q = X.V q ∧ (rwr sh X x).1.T q = X.T q := by
  unfold rwr at h ⊢
  by_cases hw : x.wrong sh = 0
  · obtain ⟨⟨k1, k2⟩, _⟩ := x.fits sh hw
    simp only [if_pos hw] at h ⊢
    by_cases h1 : age x.b x.o (X.P (x.i sh)) (X.O (x.i sh)) < 0
    · simp only [if_pos h1]
      exact ⟨trivial, trivial⟩
    · simp only [if_neg h1] at h ⊢
      by_cases h2 : age x.b x.o (X.P (x.i sh)) (X.O (x.i sh)) = 0
      · simp only [if_pos h2]
        exact ⟨trivial, trivial⟩
      · simp only [if_neg h2] at h ⊢
        unfold RS.put at h ⊢
        by_cases hv : X.V x.k.toNat = 1000
        · simp only [if_pos hv]
          exact ⟨trivial, trivial⟩
        · simp only [if_neg hv] at h ⊢
          have hne : q ≠ x.k.toNat := by
            rcases h with h | h | h
            · omega
            · exact absurd rfl h
            · exact absurd rfl h
          rw [upd_ne _ _ hne, upd_ne _ _ hne]
          exact ⟨rfl, rfl⟩
  · simp only [if_neg hw]
    exact ⟨trivial, trivial⟩
theorem rwr_own {sh : Sh} {X : RS} {x : Wr} {q : Nat} (hq : (q : Int) = x.k) : (rwr sh X x).1.V q = X.V q ∨ (rwr sh X x).1.V q = X.V q + 1 ∧ (rwr sh X x).1.T q = x.l := by
  have hk : x.k.toNat = q := by omega
  unfold rwr
  by_cases hw : x.wrong sh = 0
  · simp only [if_pos hw]
    by_cases h1 : age x.b x.o (X.P (x.i sh)) (X.O (x.i sh)) < 0
    · simp only [if_pos h1]
      exact .inl trivial
    · simp only [if_neg h1]
      by_cases h2 : age x.b x.o (X.P (x.i sh)) (X.O (x.i sh)) = 0
      · simp only [if_pos h2]
        exact .inl trivial
      · simp only [if_neg h2]
        unfold RS.put
        simp only [hk]
        by_cases hv : X.V q = 1000
        · simp only [if_pos hv]
          exact .inl trivial
        · simp only [if_neg hv, upd_self]
          exact .inr (by first | exact ⟨rfl, rfl⟩ | exact ⟨trivial, trivial⟩)
  · simp only [if_neg hw]
    exact .inl trivial

set_option maxRecDepth 100000 in
set_option maxHeartbeats 3200000 in
theorem others_walk (B Z C S : Int) (A : Option Addr) (n cap : Nat) (f : Nat → Ac) (y : Wr) (w : World) (hn : n ≤ maxLen) (h : Acts w A n f) (hy : y.Good w) :
    Calls Try.prog 8 #[.agg #[.int .i64 B, .int .i64 Z, .int .i64 C, .int .i64 S], .slice A n cap, .agg #[.int .i64 y.c, .int .i64 y.s, .int .i64 y.b, .int .i64 y.o, .int .i64 y.k, .slice y.A y.l.length y.cap]] w fun e w' => e = .returned (.bool true) ∧ Below w.heap.size w w' := by
  obtain ⟨Wa, hWa, BXa, HBa, za⟩ := below_new w 23 #[.int .i64 B, .int .i64 Z, .int .i64 C, .int .i64 S]
  obtain ⟨W0, hW0, BXy, HBb, zb⟩ := below_new Wa 38 #[.int .i64 y.c, .int .i64 y.s, .int .i64 y.b, .int .i64 y.o, .int .i64 y.k, .slice y.A y.l.length y.cap]
  rw [za] at BXy
  have HB0 := on HBa HBb
  have HW := hid (show (w.alloc (.cells #[.int .i64 B, .int .i64 Z, .int .i64 C, .int .i64 S] 23)).alloc (.cells #[.int .i64 y.c, .int .i64 y.s, .int .i64 y.b, .int .i64 y.o, .int .i64 y.k, .slice y.A y.l.length y.cap] 38) = W0 by rw [hWa, hW0])
  have HS0 := hid (BXa.next HBb)
  have HY0 := hid BXy
  have B0 := hid HB0
  have HA0 := hid (h.below HB0)
  have HNN := hid hn
  have HA := hid h
  have HG := hid hy
  clear hWa hW0 BXa BXy HBa HBb HB0 h hy za zb
  go_enter Try.func8, Try.ntmps8
  go_wp2_with fail
  rw [HW.out]
  refine (wakes_any _).mono ?_
  rintro e w1 ⟨rfl, hb⟩
  have B1 := hid (on B0.out hb)
  have HA1 := hid (HA0.out.below hb)
  have HS1 := hid (HS0.out.next hb)
  have HY1 := hid (HY0.out.next hb)
  clear hb B0 HA0 HS0 HW
  go_wp2_with fail
  refine (long_any A n cap f _ HNN.out HA1.out).mono ?_
  rintro e w' ⟨b, rfl, rfl, hb⟩
  cases b
  case true =>
    clear hb
    go_wp2
    go_ret
    exact ⟨rfl, B1.out⟩
  obtain ⟨hn60, hl⟩ := hb rfl
  have HL := hid hl
  clear hb hl
  go_wp2_with (refine wpList_load_bxg (by rfl) 23 (.tmp 3) rfl _ _ _ _ rfl HS1.out Try.underlying23 rfl (by kernel_rfl) ?_)
  refine (lawright_any B Z C S _).mono ?_
  rintro e W ⟨rfl, hb⟩
  have HA2 := hid (HA1.out.below hb)
  have HS2 := hid (HS1.out.next hb)
  have B2 := hid (on B1.out hb)
  have HY2 := hid (HY1.out.next hb)
  clear hb HA1 HS1 B1
  by_cases hr : RightI B Z C S
  case neg =>
    rw [dec_false hr]
    clear hr
    go_wp2
    go_ret
    exact ⟨rfl, B2.out⟩
  rw [dec_true hr]
  obtain ⟨⟨b1, b2⟩, ⟨z1, z2⟩, ⟨c1, c2⟩, s1, s2⟩ := hr
  obtain ⟨B, rfl⟩ := Int.eq_ofNat_of_zero_le (show 0 ≤ B by omega)
  obtain ⟨Z, rfl⟩ := Int.eq_ofNat_of_zero_le (show 0 ≤ Z by omega)
  obtain ⟨C, rfl⟩ := Int.eq_ofNat_of_zero_le (show 0 ≤ C by omega)
  obtain ⟨S, rfl⟩ := Int.eq_ofNat_of_zero_le (show 0 ≤ S by omega)
  have OK := hid (show (Sh.mk B Z C S).ok from ⟨⟨by show 1 ≤ B; omega, by show B ≤ 32; omega⟩, ⟨by show 1 ≤ Z; omega, by show Z ≤ 16; omega⟩, ⟨by show 1 ≤ C; omega, by show C ≤ 4; omega⟩, by show 1 ≤ S; omega, by show S ≤ 4; omega⟩)
  clear b1 b2 z1 z2 c1 c2 s1 s2
  have k5 : W.cell? ⟨w.heap.size + 1, 5, none⟩ = some (.slice y.A y.l.length y.cap) := HY2.out.cell 5
  by_cases h100 : 100 < y.l.length
  · go_wp2
    go_ret
    exact ⟨rfl, B2.out⟩
  have h100' : y.l.length ≤ 100 := by omega
  clear h100
  go_upto_region 5 with fail
  have HSB := hid (fun z (hz : Below W.heap.size W z) => HS2.out.next hz)
  refine wp_region_noPanic ?_
  refine wp_region_held_drew (S := fun y => Below W.heap.size W y) (by kernel_rfl) ?_ (fun hHeld => ?_)
  · exact (Below.refl _ _).drew
  refine wpAnyH_take (i := 1) (oi := ⟨some 41, _, _, _, _, _⟩) (v := _) rfl (by kernel_rfl) (by kernel_rfl) (by kernel_rfl) (fun _ _ _ h => h) (yieldsIf_bx (by rfl) 23 (.tmp 3) rfl _ _ _ _ rfl HSB.out Try.underlying23 rfl (by kernel_rfl)) (by assumption) ?_
  (try simp only [Act.put, List.setIfInBounds_toArray, List.set_cons_zero, List.set_cons_succ])
  obtain ⟨y0, hy0⟩ : ∃ y, W.drew = y := ⟨_, rfl⟩
  rw [hy0] at hHeld ⊢
  have HY0 := hid hHeld
  clear hy0
  refine wpAnyH_ready (rs := [0]) (by kernel_rfl) (by simp) ?_
  refine AllReadyH.cons (o := ⟨some 40, _, _, _, _, _⟩) rfl (fun K hK => ?_) AllReadyH.nil
  rw [if_pos (by rfl)]
  go_simp
  go_at_call 12
  refine (new_any 64 y0).mono ?_
  rintro e y1 ⟨kd, vv, rfl, hk, hb1⟩
  have K1 := hid (show Dk y1 67 y0.heap.size kd vv ⟨List.replicate 64 [], -1, false⟩ from hk)
  have HYa := hid (on HY0.out hb1)
  have HB1 := hid hb1
  clear hk hb1
  refine hK.out _ _ HYa.out (fun hHeld => ?_)
  clear hK K
  (try simp only [Act.put, List.setIfInBounds_toArray, List.set_cons_zero, List.set_cons_succ])
  refine wpAnyH_ready (rs := [2]) (by kernel_rfl) (by simp) ?_
  refine AllReadyH.cons (o := ⟨some 42, _, _, _, _, _⟩) rfl (fun K hK => ?_) AllReadyH.nil
  rw [if_pos (by rfl)]
  go_simp
  go_at_call 14
  refine (open_new B Z C S OK.out K1.out).mono ?_
  rintro e y2 ⟨ks, rfl, hx, ho, -⟩
  have X2 := hid hx
  have HYb := hid (HY0.out.trans ((HB1.out.trans (K1.out.onlyBel ho HB1.out.size)).mono HY0.out.size))
  clear hx ho K1 HB1 HYa
  refine hK.out _ _ HYb.out (fun hHeld => ?_)
  clear hK K
  (try simp only [Act.put, List.setIfInBounds_toArray, List.set_cons_zero, List.set_cons_succ])
  refine wpAnyH_take (i := 3) (oi := ⟨some 39, _, _, _, _, _⟩) (v := ?_) rfl (by kernel_rfl) (by kernel_rfl) (by kernel_rfl) (fun _ _ _ h => h) (Or.inl ⟨by rfl, ?_⟩) (by assumption) ?_
  rotate_left 1
  · intro w0 hSw
    clear hSw
    go_simp
    try with_reducible rfl
  (try simp only [Act.put, List.setIfInBounds_toArray, List.set_cons_zero, List.set_cons_succ])
  refine wpAnyH_take (i := 4) (oi := ⟨some 43, _, _, _, _, _⟩) (v := ?_) rfl (by kernel_rfl) (by kernel_rfl) (by kernel_rfl) (fun _ _ _ h => h) (Or.inl ⟨by rfl, ?_⟩) (by assumption) ?_
  rotate_left 1
  · intro w0 hSw
    clear hSw
    go_simp
    try with_reducible rfl
  (try simp only [Act.put, List.setIfInBounds_toArray, List.set_cons_zero, List.set_cons_succ])
  refine wpAnyH_take (i := 5) (oi := ⟨some 44, _, _, _, _, _⟩) (v := ?_) rfl (by kernel_rfl) (by kernel_rfl) (by kernel_rfl) (fun _ _ _ h => h) (Or.inl ⟨by rfl, ?_⟩) (by assumption) ?_
  rotate_left 1
  · intro w0 hSw
    clear hSw
    go_simp
    try with_reducible rfl
  (try simp only [Act.put, List.setIfInBounds_toArray, List.set_cons_zero, List.set_cons_succ])
  refine wpAnyH_take (i := 6) (oi := ⟨some 7, _, _, _, _, _⟩) (v := ?_) rfl (by kernel_rfl) (by kernel_rfl) (by kernel_rfl) (fun _ _ _ h => h) (Or.inl ⟨by rfl, ?_⟩) (by assumption) ?_
  rotate_left 1
  · intro w0 hSw
    clear hSw
    go_simp
    try with_reducible rfl
  (try simp only [Act.put, List.setIfInBounds_toArray, List.set_cons_zero, List.set_cons_succ])
  refine wpAnyH_take (i := 7) (oi := ⟨some 8, _, _, _, _, _⟩) (v := ?_) rfl (by kernel_rfl) (by kernel_rfl) (by kernel_rfl) (fun _ _ _ h => h) (Or.inl ⟨by rfl, ?_⟩) (by assumption) ?_
  rotate_left 1
  · intro w0 hSw
    clear hSw
    go_simp
    try with_reducible rfl
  (try simp only [Act.put, List.setIfInBounds_toArray, List.set_cons_zero, List.set_cons_succ])
  refine wpAnyH_done (by kernel_rfl) ?_ _
  refine NoPanic.normal ?_
  have B3 := hid (B2.out.trans (HYb.out.mono B2.out.size))
  have S3 := hid (HS2.out.next HYb.out)
  have Y3 := hid (HY2.out.next HYb.out)
  have F0 := hid (fine_new OK.out)
  have LOW := hid (show w.heap.size ≤ y0.heap.size from Nat.le_trans B2.out.size HY0.out.size)
  generalize hbb : y0.heap.size = bb at *
  have OKS := hid (show ∃ sh : Sh, sh = ⟨B, Z, C, S⟩ from ⟨_, rfl⟩)
  obtain ⟨sh, hsh⟩ := OKS.out
  have HSH := hid hsh
  rw [← hsh] at F0 X2
  obtain ⟨X0, hX0⟩ : ∃ X, RS.zero sh.Z = X := ⟨_, rfl⟩
  rw [hX0] at F0
  clear HYb HY0 HA2 HS2 HY2 hHeld B2 hbb OKS hsh hX0 HSB k5
  go_wp2_with fail
  go_loopg [49] n (fun gk t wr => ∃ p : Nat, p + gk = n ∧ t = .int .i64 p ∧ ∃ L X, Hid (Sx wr bb kd ks vv ⟨L, -1, false⟩ sh) ∧ Hid (Fine sh L X) ∧ Hid (Bx wr w.heap.size 23 #[.int .i64 B, .int .i64 Z, .int .i64 C, .int .i64 S]) ∧ Hid (Bx wr (w.heap.size + 1) 38 #[.int .i64 y.c, .int .i64 y.s, .int .i64 y.b, .int .i64 y.o, .int .i64 y.k, .slice y.A y.l.length y.cap]) ∧ Hid (Below w.heap.size w wr))
  case atStart => exact ⟨0, by omega, rfl, _, _, X2, F0, S3, Y3, B3⟩
  case round =>
    obtain ⟨p, hp, rfl, L, X, HX, HF, HS, HY, HB⟩ := hrel
    clear X2 F0 S3 Y3 B3
    by_cases hlt : p < n
    · obtain ⟨ad, rfl, hat⟩ := (HA.out.below HB.out) p hlt
      obtain ⟨⟨ki, ni, x⟩, hfy⟩ : ∃ z, f p = z := ⟨_, rfl⟩
      rw [hfy] at hat
      obtain ⟨-, hc, hg, -⟩ := hat
      dsimp only at hc hg
      have HAT := hid (show At wr (ad.add (p * 8)) [.int .i64 ki, .int .i64 ni, .int .i64 x.c, .int .i64 x.s, .int .i64 x.b, .int .i64 x.o, .int .i64 x.k, .slice x.A x.l.length x.cap] from hc)
      obtain ⟨W1, hW1, BX1, HB1, -⟩ := below_new wr 40 #[.int .i64 ki, .int .i64 ni, .int .i64 x.c, .int .i64 x.s, .int .i64 x.b, .int .i64 x.o, .int .i64 x.k, .slice x.A x.l.length x.cap]
      have HW1 := hid hW1
      have E1 := hid BX1
      have X1 := hid (HX.out.below HB1)
      have G1 := hid (hg.below HB1)
      have B1 := hid (on HB.out HB1)
      have S1 := hid (HS.out.next HB1)
      have Y1 := hid (HY.out.next HB1)
      clear hW1 BX1 HB1 hc hg hfy HX HB HS HY
      go_upto_region 11 with (refine wpList_load_at rfl 40 (.tmp 51) rfl _ rfl [.int .i64 ki, .int .i64 ni, .int .i64 x.c, .int .i64 x.s, .int .i64 x.b, .int .i64 x.o, .int .i64 x.k, .slice x.A x.l.length x.cap] _ HAT.out Try.underlying40 rfl (by kernel_rfl) ?_)
      rw [HW1.out]
      clear HAT HW1
      go_wp2_with (refine wpList_load_mid rfl 38 (.tmp 54) rfl _ 2 rfl [.int .i64 x.c, .int .i64 x.s, .int .i64 x.b, .int .i64 x.o, .int .i64 x.k, .slice x.A x.l.length x.cap] _ (E1.out.range 2 _ range6) Try.underlying38 rfl (by kernel_rfl) ?_)
      refine (stw_free X1.out HF.out x G1.out.by_ G1.out.r).mono ?_
      rintro e w3 ⟨rfl, L3, hx, hf, ho⟩
      have X3 := hid hx
      have F3 := hid hf
      have B3 := hid (B1.out.trans ((X1.out.bel hx ho).mono LOW.out))
      have S3 := hid (S1.out.dsk X1.out.dk ho (by decide) (by decide))
      have Y3 := hid (Y1.out.dsk X1.out.dk ho (by decide) (by decide))
      generalize (rwr sh X x).2.1 = c1
      generalize (rwr sh X x).2.2 = e1
      clear hx hf ho X1 HF B1 E1 G1 S1 Y1
      go_wp2
      go_roundg (gk - 1)
      case measure => omega
      case rel => exact ⟨p + 1, by omega, by go_num, _, _, X3, F3, S3, Y3, B3⟩
    · obtain rfl : p = n := by omega
      clear hlt hp HL HA HNN hn60
      obtain ⟨Wa, hWa, BXa, HBa, za⟩ := below_new wr 62 #[.slice none 0 0, .slice none 0 0, .slice none 0 0, .slice none 0 0, .slice none 0 0, .slice none 0 0, .slice none 0 0, .slice none 0 0, .slice none 0 0, .slice none 0 0, .slice none 0 0, .slice none 0 0, .slice none 0 0, .slice none 0 0, .slice none 0 0, .slice none 0 0, .slice none 0 0, .slice none 0 0, .slice none 0 0, .slice none 0 0, .slice none 0 0, .slice none 0 0, .slice none 0 0, .slice none 0 0, .slice none 0 0, .slice none 0 0, .slice none 0 0, .slice none 0 0, .slice none 0 0, .slice none 0 0, .slice none 0 0, .slice none 0 0]
      obtain ⟨Wb, hWb, BXb, HBb, zb⟩ := below_new Wa 63 #[.int .i64 0, .int .i64 0, .int .i64 0, .int .i64 0, .int .i64 0, .int .i64 0, .int .i64 0, .int .i64 0, .int .i64 0, .int .i64 0, .int .i64 0, .int .i64 0, .int .i64 0, .int .i64 0, .int .i64 0, .int .i64 0, .int .i64 0, .int .i64 0, .int .i64 0, .int .i64 0, .int .i64 0, .int .i64 0, .int .i64 0, .int .i64 0, .int .i64 0, .int .i64 0, .int .i64 0, .int .i64 0, .int .i64 0, .int .i64 0, .int .i64 0, .int .i64 0]
      rw [za] at BXb
      have HWb := hid (show (wr.alloc (.cells #[.slice none 0 0, .slice none 0 0, .slice none 0 0, .slice none 0 0, .slice none 0 0, .slice none 0 0, .slice none 0 0, .slice none 0 0, .slice none 0 0, .slice none 0 0, .slice none 0 0, .slice none 0 0, .slice none 0 0, .slice none 0 0, .slice none 0 0, .slice none 0 0, .slice none 0 0, .slice none 0 0, .slice none 0 0, .slice none 0 0, .slice none 0 0, .slice none 0 0, .slice none 0 0, .slice none 0 0, .slice none 0 0, .slice none 0 0, .slice none 0 0, .slice none 0 0, .slice none 0 0, .slice none 0 0, .slice none 0 0, .slice none 0 0] 62)).alloc (.cells #[.int .i64 0, .int .i64 0, .int .i64 0, .int .i64 0, .int .i64 0, .int .i64 0, .int .i64 0, .int .i64 0, .int .i64 0, .int .i64 0, .int .i64 0, .int .i64 0, .int .i64 0, .int .i64 0, .int .i64 0, .int .i64 0, .int .i64 0, .int .i64 0, .int .i64 0, .int .i64 0, .int .i64 0, .int .i64 0, .int .i64 0, .int .i64 0, .int .i64 0, .int .i64 0, .int .i64 0, .int .i64 0, .int .i64 0, .int .i64 0, .int .i64 0, .int .i64 0] 63) = Wb by rw [hWa, hWb])
      have HBab := on HBa HBb
      have WA := hid (show Was Wb wr.heap.size 0 X.T from ⟨_, rfl, BXa.next HBb, fun j hj => ⟨none, 0, 0, nil32 j hj⟩, fun j hj => absurd hj (Nat.not_lt_zero j)⟩)
      have VR := hid (show Vrs Wb (wr.heap.size + 1) 0 X.V from ⟨_, rfl, BXb, fun j hj => ⟨0, zero32 j hj⟩, fun j hj => absurd hj (Nat.not_lt_zero j)⟩)
      have X4 := hid (HX.out.below HBab)
      have S4 := hid (HS.out.next HBab)
      have Y4 := hid (HY.out.next HBab)
      have B4 := hid (on HB.out HBab)
      have HQ := hid (show w.heap.size + 1 < wr.heap.size from HY.out.lt)
      have bz : B ≤ 32 := OK.out.b.2
      have hBs : sh.B = B := by rw [HSH.out]
      have HBS := hid hBs
      clear hWa hWb BXa BXb HBa HBb HBab za zb HX HS HY HB hBs
      obtain ⟨q0, hq0⟩ : ∃ q, wr.heap.size = q := ⟨_, rfl⟩
      rw [hq0] at WA VR HQ
      have HQ0 := hid hq0
      clear hq0
      go_upto_region 15 with fail
      rw [HWb.out, HQ0.out]
      clear HWb HQ0
      have k0 : Wb.cell? ⟨w.heap.size, 0, none⟩ = some (.int .i64 (B : Nat)) := S4.out.cell 0
      go_wp2_with fail
      clear k0
      go_loopw [60] (fun t wr => ∃ q : Nat, q ≤ B ∧ t = .int .i64 q ∧ Hid (Sx wr bb kd ks vv ⟨L, -1, false⟩ sh) ∧ Hid (Was wr q0 q X.T) ∧ Hid (Vrs wr (q0 + 1) q X.V) ∧ Hid (Bx wr w.heap.size 23 #[.int .i64 B, .int .i64 Z, .int .i64 C, .int .i64 S]) ∧ Hid (Bx wr (w.heap.size + 1) 38 #[.int .i64 y.c, .int .i64 y.s, .int .i64 y.b, .int .i64 y.o, .int .i64 y.k, .slice y.A y.l.length y.cap]) ∧ Hid (Below w.heap.size w wr)) (fun t _ => B - (intOf t).toNat)
      case atStart => exact ⟨0, Nat.zero_le _, rfl, X4, WA, VR, S4, Y4, B4⟩
      case round =>
        obtain ⟨q, hq, rfl, X5, W5, V5, S5, Y5, B5⟩ := hrel
        clear X4 WA VR S4 Y4 B4
        by_cases hlt : q < B
        · have HQB := hid (show q < sh.B by rw [HBS.out]; exact hlt)
          have hq32 : q < 32 := by omega
          go_wp2_with fail
          refine (str_any X5.out HF.out q HQB.out).mono ?_
          rintro e w6 ⟨u, rfl, hu, hb⟩
          have X6 := hid (X5.out.below hb)
          have W6 := hid (W5.out.below hb)
          have V6 := hid (V5.out.below hb)
          have S6 := hid (S5.out.next hb)
          have Y6 := hid (Y5.out.next hb)
          have B6 := hid (on B5.out hb)
          have U6 := hid hu.bs
          obtain ⟨Au, cu, rfl, -⟩ := hu.bs
          obtain ⟨v, hv⟩ : ∃ v, X.V q = v := ⟨_, rfl⟩
          rw [hv]
          have HV := hid hv
          obtain ⟨⟨A0, m0, c0, f1⟩, f2⟩ := W6.out.any hq32
          have st1 : Stay w6 (w6.setCell ⟨q0, q, none⟩ (.slice Au (X.T q).length cu)) := Stay.set w6 _ _ fun x e => by rw [f1] at e; cases e
          obtain ⟨ds, hds⟩ := W6.out.bx
          have X7 := hid (X6.out.kept2 (p := ⟨q0, q, none⟩) hds (by decide) (by decide) (by decide) st1)
          have W7 := hid (W6.out.set hq32 U6.out)
          have V7 := hid (V6.out.far ⟨q0, q, none⟩ (.slice Au (X.T q).length cu) (by show q0 ≠ q0 + 1; omega))
          have S7 := hid (S6.out.far ⟨q0, q, none⟩ (.slice Au (X.T q).length cu) (by have := HQ.out; show q0 ≠ w.heap.size; omega))
          have Y7 := hid (Y6.out.far ⟨q0, q, none⟩ (.slice Au (X.T q).length cu) (by have := HQ.out; show q0 ≠ w.heap.size + 1; omega))
          have B7 := hid (below_set B6.out ⟨q0, q, none⟩ (.slice Au (X.T q).length cu) (by have := HQ.out; show w.heap.size ≤ q0; omega))
          obtain ⟨⟨x1, g1⟩, g2⟩ := V7.out.any hq32
          obtain ⟨⟨x2, g3⟩, g4⟩ := V6.out.any hq32
          have g5 : (⟨q0, q, none⟩ : Addr) ≠ ⟨q0 + 1, q, none⟩ := by intro e; injection e with e; omega
          have st2 : Stay (w6.setCell ⟨q0, q, none⟩ (.slice Au (X.T q).length cu)) ((w6.setCell ⟨q0, q, none⟩ (.slice Au (X.T q).length cu)).setCell ⟨q0 + 1, q, none⟩ (.int .i64 v)) := Stay.set _ _ _ fun x e => by rw [g1] at e; cases e
          obtain ⟨ds2, hds2⟩ := V7.out.bx
          have X8 := hid (X7.out.kept2 (p := ⟨q0 + 1, q, none⟩) hds2 (by decide) (by decide) (by decide) st2)
          have W8 := hid (W7.out.far ⟨q0 + 1, q, none⟩ (.int .i64 v) (by show q0 + 1 ≠ q0; omega) st2)
          have V8 := hid (show Vrs ((w6.setCell ⟨q0, q, none⟩ (.slice Au (X.T q).length cu)).setCell ⟨q0 + 1, q, none⟩ (.int .i64 v)) (q0 + 1) (q + 1) X.V by rw [← HV.out]; exact V7.out.set hq32)
          have S8 := hid (S7.out.far ⟨q0 + 1, q, none⟩ (.int .i64 v) (by have := HQ.out; show q0 + 1 ≠ w.heap.size; omega))
          have Y8 := hid (Y7.out.far ⟨q0 + 1, q, none⟩ (.int .i64 v) (by have := HQ.out; show q0 + 1 ≠ w.heap.size + 1; omega))
          have B8 := hid (below_set B7.out ⟨q0 + 1, q, none⟩ (.int .i64 v) (by have := HQ.out; show w.heap.size ≤ q0 + 1; omega))
          clear hu hb hv st1 st2 hds hds2 X5 W5 V5 S5 Y5 B5 X6 W6 V6 S6 Y6 B6 U6 X7 W7 V7 S7 Y7 B7
          go_wp2
          go_roundw
          case rel => exact ⟨q + 1, by omega, by go_num, X8, W8, V8, S8, Y8, B8⟩
          case measure => simp [intOf]; omega
        · obtain rfl : B = q := by omega
          clear hlt hq
          have GY := hid (HG.out.below B5.out)
          go_wp2_with (refine wpList_load_bx rfl 38 (.tmp 5) rfl _ _ _ _ rfl Y5.out Try.underlying38 rfl (by kernel_rfl) ?_)
          refine (stw_free X5.out HF.out y GY.out.by_ GY.out.r).mono ?_
          rintro e w6 ⟨rfl, L', hx, hf, ho⟩
          have X6 := hid hx
          have F6 := hid hf
          have W6 := hid (W5.out.dsk X5.out.dk ho)
          have V6 := hid (V5.out.dsk X5.out.dk ho)
          have S6 := hid (S5.out.dsk X5.out.dk ho (by decide) (by decide))
          have Y6 := hid (Y5.out.dsk X5.out.dk ho (by decide) (by decide))
          have G6 := hid (GY.out.only ho)
          have B6 := hid (B5.out.trans ((X5.out.bel hx ho).mono LOW.out))
          have HEL := hid (fun q h => rwr_else (sh := sh) (X := X) (x := y) (q := q) h)
          have HOW := hid (fun q h => rwr_own (sh := sh) (X := X) (x := y) (q := q) h)
          have HLE := hid (fun q (h : q < sh.B) => And.intro (HF.out.agr.le h).1 (hf.agr.le h).2)
          have hz1 : 1 ≤ sh.Z := by have := OK.out.z.1; rw [HSH.out]; exact this
          have HZ1 := hid hz1
          generalize hR : rwr sh X y = R at *
          obtain ⟨X', c1, e1⟩ := R
          dsimp only at HEL HOW HLE F6 ⊢
          clear hx hf ho hz1 hR GY X5 W5 V5 S5 Y5 B5
          have k0 : w6.cell? ⟨w.heap.size, 0, none⟩ = some (.int .i64 (B : Nat)) := S6.out.cell 0
          go_wp2_with fail
          clear k0
          go_loopw [83] (fun t wr => ∃ q : Nat, q ≤ B ∧ t = .int .i64 q ∧ Hid (Sx wr bb kd ks vv ⟨L', -1, false⟩ sh) ∧ Hid (Was wr q0 B X.T) ∧ Hid (Vrs wr (q0 + 1) B X.V) ∧ Hid (Bx wr (w.heap.size + 1) 38 #[.int .i64 y.c, .int .i64 y.s, .int .i64 y.b, .int .i64 y.o, .int .i64 y.k, .slice y.A y.l.length y.cap]) ∧ Hid (y.Good wr) ∧ Hid (Below w.heap.size w wr)) (fun t _ => B - (intOf t).toNat)
          case atStart => exact ⟨0, Nat.zero_le _, rfl, X6, W6, V6, Y6, G6, B6⟩
          case round =>
            obtain ⟨q, hq, rfl, X8, W8, V8, Y8, G8, B8⟩ := hrel
            clear X6 W6 V6 S6 Y6 G6 B6
            obtain ⟨w8, rfl⟩ : ∃ z, z = wr := ⟨_, rfl⟩
            by_cases hlt : q < B
            · have HQB := hid (show q < sh.B by rw [HBS.out]; exact hlt)
              have hq32 : q < 32 := by omega
              obtain ⟨hv1000, hTZ⟩ := HLE.out q HQB.out
              have HTZ := hid hTZ
              clear hTZ
              go_wp2_with fail
              refine (str_any X8.out F6.out q HQB.out).mono ?_
              rintro e w9 ⟨u, rfl, hu, hb⟩
              have HB9 := hid hb
              have k4 : w9.cell? ⟨w.heap.size + 1, 4, none⟩ = some (.int .i64 y.k) := (Y8.out.next hb).cell 4
              have k5 : w9.cell? ⟨w.heap.size + 1, 5, none⟩ = some (.slice y.A y.l.length y.cap) := (Y8.out.next hb).cell 5
              have kv : w9.cell? ⟨q0 + 1, q, none⟩ = some (.int .i64 (X.V q : Nat)) := (V8.out.below hb).cell hlt
              obtain ⟨uw, kw, hbw⟩ := (W8.out.below hb).cell hlt
              by_cases hA : (q : Int) = y.k ∧ e1 = 0 ∧ c1 = 0
              case neg =>
                have hel : (q : Int) ≠ y.k ∨ e1 ≠ 0 ∨ c1 ≠ 0 := by
                  by_cases h1 : (q : Int) = y.k
                  · by_cases h2 : e1 = 0
                    · exact .inr (.inr fun h3 => hA ⟨h1, h2, h3⟩)
                    · exact .inr (.inl h2)
                  · exact .inl h1
                obtain ⟨hV, hT⟩ := HEL.out q hel
                rw [hT] at hu
                rw [hV]
                obtain ⟨Au, cu, rfl, hru, lu, mu⟩ := hu.bs
                obtain ⟨Aw, cw, rfl, hrw, -⟩ := hbw
                obtain ⟨T, hTT⟩ : ∃ T, X.T q = T := ⟨_, rfl⟩
                rw [hTT] at hru hrw lu kw
                simp only [hTT]
                obtain ⟨tn, htn⟩ : ∃ z, T.length = z := ⟨_, rfl⟩
                rw [htn] at lu kw
                simp only [htn]
                have HTN := hid htn
                have hmx : tn ≤ maxLen := Nat.le_trans lu mu
                have HRU := hid hru
                have HRW := hid hrw
                obtain ⟨v, hv⟩ : ∃ v, X.V q = v := ⟨_, rfl⟩
                rw [hv] at kv
                simp only [hv]
                have vv9 : ((v : Nat) != (v : Nat)) = false := by simp
                have X9 := hid (X8.out.below hb)
                have W9 := hid (W8.out.below hb)
                have V9 := hid (V8.out.below hb)
                have Y9 := hid (Y8.out.next hb)
                have G9 := hid (G8.out.below hb)
                have B9 := hid (on B8.out hb)
                have HEL2 := hid hel
                clear hA hel hu hb hru hrw htn lu mu hV hT hTT hv HB9 X8 W8 V8 Y8 G8 B8 HTZ hv1000
                by_cases h1 : (q : Int) = y.k
                · have p1 : ((q : Int) != y.k) = false := by simpa using h1
                  by_cases h2 : e1 = 0
                  · subst h2
                    have h3 : c1 ≠ 0 := by
                      rcases HEL2.out with h | h | h
                      · exact absurd h1 h
                      · exact absurd rfl h
                      · exact h
                    have p3 : (c1 != 0) = true := by simpa using h3
                    clear h1 h3
                    go_wp2_with (go_at_call 18; refine (same_yes Au Aw tn tn cu cw T _ _ _ HTN.out HTN.out hmx HRU.out HRW.out).mono ?_; rintro e w8 ⟨rfl, d8, rfl⟩)
                    go_roundw
                    case rel => exact ⟨q + 1, by omega, by go_num, hid (X9.out.below (below_draws (Below.refl _ _) _)), hid (W9.out.below (below_draws (Below.refl _ _) _)), hid (V9.out.below (below_draws (Below.refl _ _) _)), hid (Y9.out.draws _), hid (G9.out.below (below_draws (Below.refl _ _) _)), hid (below_draws B9.out _)⟩
                    case measure => simp [intOf]; omega
                  · have p2 : (e1 != 0) = true := by simpa using h2
                    clear h1 h2
                    go_wp2_with (go_at_call 18; refine (same_yes Au Aw tn tn cu cw T _ _ _ HTN.out HTN.out hmx HRU.out HRW.out).mono ?_; rintro e w8 ⟨rfl, d8, rfl⟩)
                    go_roundw
                    case rel => exact ⟨q + 1, by omega, by go_num, hid (X9.out.below (below_draws (Below.refl _ _) _)), hid (W9.out.below (below_draws (Below.refl _ _) _)), hid (V9.out.below (below_draws (Below.refl _ _) _)), hid (Y9.out.draws _), hid (G9.out.below (below_draws (Below.refl _ _) _)), hid (below_draws B9.out _)⟩
                    case measure => simp [intOf]; omega
                · have p1 : ((q : Int) != y.k) = true := by simpa using h1
                  clear h1
                  go_wp2_with (go_at_call 18; refine (same_yes Au Aw tn tn cu cw T _ _ _ HTN.out HTN.out hmx HRU.out HRW.out).mono ?_; rintro e w8 ⟨rfl, d8, rfl⟩)
                  go_roundw
                  case rel => exact ⟨q + 1, by omega, by go_num, hid (X9.out.below (below_draws (Below.refl _ _) _)), hid (W9.out.below (below_draws (Below.refl _ _) _)), hid (V9.out.below (below_draws (Below.refl _ _) _)), hid (Y9.out.draws _), hid (G9.out.below (below_draws (Below.refl _ _) _)), hid (below_draws B9.out _)⟩
                  case measure => simp [intOf]; omega
              case pos =>
                obtain ⟨h1, rfl, rfl⟩ := hA
                have p1 : ((q : Int) != y.k) = false := by simpa using h1
                obtain ⟨T, hTT⟩ : ∃ T, X'.T q = T := ⟨_, rfl⟩
                have HTT := hid hTT
                rw [hTT] at hu HTZ
                obtain ⟨tn, htn⟩ : ∃ z, T.length = z := ⟨_, rfl⟩
                have HTN := hid htn
                have ht1 : 1 ≤ tn := by rw [← htn, HTZ.out]; exact HZ1.out
                obtain ⟨g, cu, rfl, -, -⟩ := World.ownsRow.form hu (by rw [htn]; omega)
                obtain ⟨lu, mu⟩ := hu.bs.le
                have OU := hid (show OwnV w9 w8.heap.size 5 1 (.slice (some ⟨g, 0, none⟩) T.length cu) T.length (bytes T) from hu)
                rw [htn] at OU lu
                simp only [htn]
                have hmx : tn ≤ maxLen := Nat.le_trans lu mu
                have HRU := hid (show Rn w9 (some ⟨g, 0, none⟩) T from hu.bs.rn)
                obtain ⟨v, hv⟩ : ∃ v, X.V q = v := ⟨_, rfl⟩
                have HVV := hid hv
                rw [hv] at kv hv1000
                have hw9 := HOW.out q h1
                rw [hv, hTT] at hw9
                clear hu hb hTT htn lu mu hv hbw kw h1 HTZ
                rcases hw9 with hV | ⟨hV, hTy⟩
                · rw [hV]
                  have HV := hid hV
                  have vv9 : ((v : Nat) != (v : Nat)) = false := by simp
                  clear hV
                  go_wp2_with fail
                  have HO9 := OU
                  have HB9a := HB9
                  clear OU HB9 HRU kv k4 k5
                  have hmx2 := hmx
                  unfold maxLen at hmx2
                  go_loopw [140] (fun t wq => ∃ i : Nat, i ≤ tn ∧ t = .int .i64 i ∧ Hid (∃ T' : List Int, T'.length = tn ∧ OwnV wq w8.heap.size 5 1 (.slice (some ⟨g, 0, none⟩) tn cu) tn (bytes T')) ∧ Hid (Below w8.heap.size w8 wq)) (fun t _ => tn - (intOf t).toNat)
                  case atStart => exact ⟨0, Nat.zero_le _, rfl, hid ⟨T, HTN.out, HO9.out⟩, HB9a⟩
                  case round =>
                    obtain ⟨i, hi, rfl, HO, HB⟩ := hrel
                    clear HO9 HB9a
                    by_cases hli : i < tn
                    · obtain ⟨T', hT', ho'⟩ := HO.out
                      have hg : w8.heap.size ≤ g := (World.ownsRow.lt ho' g rfl).1
                      have e1 : wr.cell? ⟨g, i, none⟩ = some (.int .u8 (T'[i]'(by rw [hT']; exact hli))) := by
                        rw [World.ownsRow.cellAt ho' i (by omega)]
                        simp only [bytes, List.getElem?_map, List.getElem?_eq_getElem (show i < T'.length by rw [hT']; exact hli), Option.map_some]
                      have e2 : wr.frozen? ⟨g, i, none⟩ = false := World.ownsRow.frozenAt ho' i
                      generalize T'[i] = z at e1
                      have HO' := hid ho'
                      have HT' := hid hT'
                      have HGG := hid hg
                      have hli' : (i : Int) < (tn : Int) := by omega
                      clear ho' hT' hg HO
                      go_wp2
                      go_roundw
                      case rel =>
                        exact ⟨i + 1, by omega, by go_num, hid (own_put HO'.out HT'.out), hid (below_set HB.out _ _ HGG.out)⟩
                      case measure => simp [intOf]; omega
                    · obtain rfl : tn = i := by omega
                      have X10 := hid (X8.out.below HB.out)
                      clear hli hi
                      go_wp2_with fail
                      refine (str_any X10.out F6.out q HQB.out).mono ?_
                      rintro e w11 ⟨u11, rfl, hu11, hb11⟩
                      have HB11 := on HB.out hb11
                      rw [HTT.out] at hu11
                      obtain ⟨A11, c11, rfl, r11, -, -⟩ := hu11.bs
                      have R11 := hid r11
                      have X11 := hid (X8.out.below HB11)
                      have W11 := hid (W8.out.below HB11)
                      have V11 := hid (V8.out.below HB11)
                      have Y11 := hid (Y8.out.next HB11)
                      have G11 := hid (G8.out.below HB11)
                      have B11 := hid (on B8.out HB11)
                      have kv : w11.cell? ⟨q0 + 1, q, none⟩ = some (.int .i64 (X.V q : Nat)) := V11.out.cell hlt
                      rw [HVV.out] at kv
                      have k5 : w11.cell? ⟨w.heap.size + 1, 5, none⟩ = some (.slice y.A y.l.length y.cap) := Y11.out.cell 5
                      simp only [HTN.out]
                      clear hu11 hb11 HB11 r11 X10 X8 W8 V8 Y8 G8 B8 HO HB
                      go_wp2
                      go_roundw
                      case rel => exact ⟨q + 1, by omega, by go_num, X11, W11, V11, Y11, G11, B11⟩
                      case measure => simp [intOf]; omega
                · obtain ⟨v1, hv1⟩ : ∃ v1, X'.V q = v1 := ⟨_, rfl⟩
                  rw [hv1]
                  have HV := hid hv1
                  rw [hv1] at hV
                  have r1 : ((v1 : Nat) != (v : Nat)) = true := by simp; omega
                  have r2 : (((v1 : Nat) : Int) != ((v : Nat) : Int)) = true := by simp; omega
                  have r3 : (((v1 : Nat) : Int) - 1 != ((v : Nat) : Int)) = false := by simp; omega
                  have r4 : 1 ≤ v1 ∧ v1 ≤ 1001 := by omega
                  have r5 : (0 : Int) ≤ ((v1 : Nat) : Int) - 1 := by omega
                  have HTY := hid (show y.l.length = tn by rw [← hTy]; exact HTN.out)
                  have HTYE := hid hTy
                  clear hV hv1 hTy
                  go_wp2_with (go_at_call 18; refine (same_yes (some ⟨g, 0, none⟩) y.A tn y.l.length cu y.cap T _ _ _ HTN.out (by rw [HTYE.out]) hmx HRU.out (by rw [HTYE.out]; exact (G8.out.below HB9.out).r)).mono ?_; rintro e w8 ⟨rfl, d8, rfl⟩)
                  have HO9 := hid (show OwnV (w9.drewN d8) w8.heap.size 5 1 (.slice (some ⟨g, 0, none⟩) tn cu) tn (bytes T) from OU.out)
                  have HB9a := hid (below_draws HB9.out d8)
                  clear OU HB9 HRU kv k4 k5
                  have hmx2 := hmx
                  unfold maxLen at hmx2
                  go_loopw [140] (fun t wq => ∃ i : Nat, i ≤ tn ∧ t = .int .i64 i ∧ Hid (∃ T' : List Int, T'.length = tn ∧ OwnV wq w8.heap.size 5 1 (.slice (some ⟨g, 0, none⟩) tn cu) tn (bytes T')) ∧ Hid (Below w8.heap.size w8 wq)) (fun t _ => tn - (intOf t).toNat)
                  case atStart => exact ⟨0, Nat.zero_le _, rfl, hid ⟨T, HTN.out, HO9.out⟩, HB9a⟩
                  case round =>
                    obtain ⟨i, hi, rfl, HO, HB⟩ := hrel
                    clear HO9 HB9a
                    by_cases hli : i < tn
                    · obtain ⟨T', hT', ho'⟩ := HO.out
                      have hg : w8.heap.size ≤ g := (World.ownsRow.lt ho' g rfl).1
                      have e1 : wr.cell? ⟨g, i, none⟩ = some (.int .u8 (T'[i]'(by rw [hT']; exact hli))) := by
                        rw [World.ownsRow.cellAt ho' i (by omega)]
                        simp only [bytes, List.getElem?_map, List.getElem?_eq_getElem (show i < T'.length by rw [hT']; exact hli), Option.map_some]
                      have e2 : wr.frozen? ⟨g, i, none⟩ = false := World.ownsRow.frozenAt ho' i
                      generalize T'[i] = z at e1
                      have HO' := hid ho'
                      have HT' := hid hT'
                      have HGG := hid hg
                      have hli' : (i : Int) < (tn : Int) := by omega
                      clear ho' hT' hg HO
                      go_wp2
                      go_roundw
                      case rel =>
                        exact ⟨i + 1, by omega, by go_num, hid (own_put HO'.out HT'.out), hid (below_set HB.out _ _ HGG.out)⟩
                      case measure => simp [intOf]; omega
                    · obtain rfl : tn = i := by omega
                      have X10 := hid (X8.out.below HB.out)
                      clear hli hi
                      go_wp2_with fail
                      refine (str_any X10.out F6.out q HQB.out).mono ?_
                      rintro e w11 ⟨u11, rfl, hu11, hb11⟩
                      have HB11 := on HB.out hb11
                      rw [HTT.out] at hu11
                      obtain ⟨A11, c11, rfl, r11, -, -⟩ := hu11.bs
                      have R11 := hid r11
                      have X11 := hid (X8.out.below HB11)
                      have W11 := hid (W8.out.below HB11)
                      have V11 := hid (V8.out.below HB11)
                      have Y11 := hid (Y8.out.next HB11)
                      have G11 := hid (G8.out.below HB11)
                      have B11 := hid (on B8.out HB11)
                      have kv : w11.cell? ⟨q0 + 1, q, none⟩ = some (.int .i64 (X.V q : Nat)) := V11.out.cell hlt
                      rw [HVV.out] at kv
                      have k5 : w11.cell? ⟨w.heap.size + 1, 5, none⟩ = some (.slice y.A y.l.length y.cap) := Y11.out.cell 5
                      simp only [HTN.out]
                      clear hu11 hb11 HB11 r11 X10 X8 W8 V8 Y8 G8 B8 HO HB
                      go_wp2_with (go_at_call 18; refine (same_yes A11 y.A tn y.l.length c11 y.cap T _ _ _ HTN.out (by rw [HTYE.out]) hmx R11.out (by rw [HTYE.out]; exact G11.out.r)).mono ?_; rintro e w12 ⟨rfl, d8, rfl⟩)
                      go_roundw
                      case rel => exact ⟨q + 1, by omega, by go_num, hid (X11.out.below (below_draws (Below.refl _ _) _)), hid (W11.out.below (below_draws (Below.refl _ _) _)), hid (V11.out.below (below_draws (Below.refl _ _) _)), hid (Y11.out.draws _), hid (G11.out.below (below_draws (Below.refl _ _) _)), hid (below_draws B11.out _)⟩
                      case measure => simp [intOf]; omega
            · obtain rfl : B = q := by omega
              go_wp2
              go_ret
              exact ⟨rfl, B8.out⟩
end Go.Proofs.Ytincndblpbdnlaa
