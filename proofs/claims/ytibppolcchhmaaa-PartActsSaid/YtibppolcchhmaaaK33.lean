/-
  What is proved: what an LRU in memory is (a block of two cells: its space, its capacity); New, Use, Add, Remove, Has, All, Len, of one that is there and of none. Condition: the LRU lies in memory as one.
  (Left out here, as nothing of this law reaches it: Lq, Lq.below, Lq.draws, Lq.step, Lq.chg, Lq.nd, Lq.vb, Lq.c0, Lq.c1, lru_new, lru_has, lru_has_nil, lru_all, lru_all_nil, lru_len, lru_len_nil, lru_use, lru_use_nil, lru_remove, lru_remove_nil, lru_add, lru_add_nil.) -/
import Derived.Test.YtibppolcchhmaaaK23
import Derived.Test.YtibppolcchhmaaaK29
import Derived.Test.YtibppolcchhmaaaK30
import Derived.Deep.RegionHeld3
import Derived.BigQuiet
namespace Go.Proofs.Ytibppolcchhmaaa
open Go.RowKit

/-- the space's only list -/
theorem okp_one {L : List Int} {x : Int} : okp [L] 0 x ↔ vb x := by
  unfold okp isl
  simp
theorem putE_one (L : List Int) (x : Int) : putE [L] 0 x = if vb x then 0 else 3 := by
  unfold putE
  by_cases h : vb x
  · rw [if_pos h, if_pos (okp_one.2 h)]
  · rw [if_neg h, if_neg (fun e => h (okp_one.1 e))]
theorem front_one {L : List Int} {x : Int} (h : vb x) : frontS [L] 0 x = [x :: wo x L] := by
  unfold frontS
  rw [if_pos (okp_one.2 h)]
  rfl
theorem inS_one {L : List Int} {x : Int} : inS [L] x ↔ x ∈ L := by
  unfold inS
  constructor
  · rintro ⟨i, l, hi, hm⟩
    cases i with
    | zero => simp at hi; rw [hi]; exact hm
    | succ i => simp at hi
  · exact fun h => ⟨0, L, rfl, h⟩
theorem remE_one (L : List Int) (x : Int) (h : x ∈ L) (hv : vb x) : remE [L] x = 0 := by
  unfold remE
  rw [if_pos hv, dec_true (inS_one.2 h)]
  rfl
theorem wo_last : ∀ {l : List Int} (hn : l ≠ []), l.Nodup → wo (l.getLast hn) l = l.dropLast := by
  intro l hn hd
  have e := List.dropLast_concat_getLast hn
  have h2 : (l.dropLast ++ l.getLast hn :: []).Nodup := by rw [e]; exact hd
  have h3 := wo_split h2
  rw [e] at h3
  rw [h3, List.append_nil]






/-- which blocks of memory are an LRU's -/
def Lf (g k : Nat) (j : Nat) : Prop := j = g ∨ j = k
section
variable {w w' : World} {g k C : Nat} {L L' : List Int}








end
/-- a capacity, held within its bounds -/
def cp (m : Int) : Nat := (min (max m 1) 16).toNat
theorem cp_le (m : Int) : 1 ≤ cp m ∧ cp m ≤ 16 := by unfold cp; omega


















section
variable {w : World} {g k C : Nat} {L : List Int}






















































/-- behind Use -/
noncomputable def useL (x : Int) (L : List Int) : List Int := if dec (x ∈ L) then x :: wo x L else L



























































/-- behind Add: whether one goes, which one, what is there -/
def goes (C : Nat) (x : Int) (L : List Int) : Prop := vb x ∧ C < (x :: wo x L).length
instance (C : Nat) (x : Int) (L : List Int) : Decidable (goes C x L) := inferInstanceAs (Decidable (_ ∧ _))
def vict (C : Nat) (x : Int) (L : List Int) : Int := if goes C x L then (x :: wo x L).getLast (by simp) else 0
def addE (x : Int) : Int := if vb x then 0 else 3
def addL (C : Nat) (x : Int) (L : List Int) : List Int := if goes C x L then (x :: wo x L).dropLast else if vb x then x :: wo x L else L











































































end
end Go.Proofs.Ytibppolcchhmaaa
/-
  What is proved: the reference's Has, Cap and Do: an act on a list. Condition: the list is read.
  (Left out here, as nothing of this law reaches it: rcap_any, rdo_rem, rdo_rem0, rdo_was, rdo_miss, rdo_bad, rdo_add, rdo_over.) -/
namespace Go.Proofs.Ytibppolcchhmaaa
open Go.RowKit

set_option maxHeartbeats 400000 in
theorem rhas_any (A : Option Addr) (n cp : Nat) (l : List Int) (x : Int) (w : World) (C : Nat) (hn : l.length = n) (hlen : n ≤ maxLen) (ra : Rv w C A (ints l)) :
    Calls Try.prog 43 #[.slice A n cp, .int .i64 x] w fun e w' => e = .returned (.bool (dec (x ∈ l))) ∧ w = w' := by
  subst hn
  unfold maxLen at hlen
  go_enter Try.func43, Try.ntmps43
  go_wp2
  go_loop [5] (fun i => ∃ k : Nat, k ≤ l.length ∧ i = .int .i64 k ∧ x ∉ l.take k) (fun i => l.length - (intOf i).toNat)
  case atStart => exact ⟨0, Nat.zero_le _, rfl, by simp⟩
  case round =>
    obtain ⟨k, hk, rfl, hno⟩ := hrel
    have HNO := hid hno
    clear hno
    by_cases hlt : k < l.length
    · obtain ⟨a, rfl, _, hca⟩ := ra.get (k := k) (by rw [ints_length]; exact hlt)
      have e : (ints l)[k]'(by rw [ints_length]; exact hlt) = .int .i64 (l[k]) := by simp [ints]
      rw [e] at hca
      obtain ⟨y, hy⟩ : ∃ y, l[k] = y := ⟨_, rfl⟩
      rw [hy] at hca
      have HY := hid hy
      clear e hy
      have hlt' : (k : Int) < (l.length : Int) := by omega
      by_cases hxy : y = x
      · have hd : (y == x) = true := by simpa using hxy
        have hm := dec_true (show x ∈ l from by rw [← hxy, ← HY.out]; exact List.getElem_mem hlt)
        have HM := hid hm
        clear hm hxy
        go_wp2
        go_ret
        exact ⟨by rw [HM.out]; rfl, rfl⟩
      · have hd : (y == x) = false := by simpa using hxy
        have hd2 : decide (y = x) = false := by simpa using hxy
        have HM := hid (show x ∉ l.take (k + 1) from by
          rw [List.take_add_one, List.getElem?_eq_getElem hlt, HY.out]
          intro hm
          rcases List.mem_append.1 hm with h | h
          · exact HNO.out h
          · simp at h; exact hxy h.symm)
        clear hxy
        go_wp2
        go_round
        case rel => exact ⟨k + 1, by omega, by go_num, HM.out⟩
        case measure => simp [intOf]; omega
    · have hlt' : ¬ (k : Int) < (l.length : Int) := by omega
      obtain rfl : k = l.length := by omega
      go_wp2
      go_ret
      refine ⟨?_, rfl⟩
      have := HNO.out
      rw [List.take_length] at this
      rw [dec_false this]
      rfl
























/-- a row that is read, old or new -/
structure Rw (w : World) (A : Option Addr) (l : List Int) : Prop where
  rd : Rv w w.heap.size A (ints l)
  lt : ∀ ad, A = some ad → ad.block < w.heap.size
theorem Rw.below {w w' : World} {A : Option Addr} {l : List Int} (h : Rw w A l) (hb : Below w.heap.size w w') : Rw w' A l := ⟨h.rd.now hb, fun ad e => Nat.lt_of_lt_of_le (h.lt ad e) hb.size⟩
theorem Rw.chg {w w' : World} {A : Option Addr} {l : List Int} {F G : Nat → Prop} (h : Rw w A l) (hc : Chg w w' F G) (hf : ∀ ad, A = some ad → ¬ F ad.block) : Rw w' A l := ⟨hc.rv h.rd hf, fun ad e => Nat.lt_of_lt_of_le (h.lt ad e) hc.size⟩
theorem Rw.draws {w : World} {A : Option Addr} {l : List Int} (h : Rw w A l) (n : Nat) : Rw (w.drewN n) A l := h.below (below_draws (Below.refl _ _) n)
theorem rw_nil (w : World) : Rw w none [] := ⟨Rv.nil _ _ _, fun _ e => by cases e⟩
/-- a list that is told is such a row, of new memory -/
theorem rw_told {w w' : World} {A : Option Addr} {c : Nat} {l : List Int} (ho : OwnW w' 3 (.slice A l.length c) (ints l)) (hg : GrW w w' nl (.slice A l.length c)) :
    Rw w' A l ∧ (∀ ad, A = some ad → w.heap.size ≤ ad.block) ∧ l.length ≤ c ∧ c ≤ maxLen := by
  have hb : ∀ ad, A = some ad → (Value.slice A l.length c).ownBlock = some ad.block := by
    intro ad e
    subst e
    rfl
  obtain ⟨A', c', e', hr, h1, h2⟩ := ho.read
  simp only [Value.slice.injEq] at e'
  obtain ⟨rfl, -, rfl⟩ := e'
  rw [ints_length] at h1
  refine ⟨⟨hr, fun ad e => ho.lt (hb ad e)⟩, fun ad e => ?_, h1, h2⟩
  rcases hg.at_ with h | h
  · rw [hb ad e] at h; cases h
  · exact (h _ (hb ad e)).1
/-- what came of an act: the list's row is the old one or a new one -/
def Wn (w : World) (A0 : Option Addr) (l : List Int) (vi : Int) (gn was : Bool) (er : Int) (e : Ending) (w' : World) : Prop :=
  ∃ A c, e = .returned (.agg #[.slice A l.length c, .int .i64 vi, .bool gn, .bool was, .int .i64 er]) ∧ Rw w' A l ∧ l.length ≤ c ∧ c ≤ maxLen ∧ (A = A0 ∨ ∀ ad, A = some ad → w.heap.size ≤ ad.block) ∧ Below w.heap.size w w'
abbrev wz : Array Value := #[.slice none 0 0, .int .i64 0, .bool false, .bool false, .int .i64 0]
/-- while Do is at it: the act's block, the answer's, what is made ready -/
structure St11 (w W : World) (p : Nat) (κ b : Int) (cr : Array Value) : Prop where
  b0 : Bx W p 39 #[.int .i64 κ, .int .i64 b]
  b1 : Bx W (p + 1) 42 wz
  b2 : Bx W (p + 1 + 1) 42 cr
  bel : Below w.heap.size w W
  hp : w.heap.size = p
/-- a row beside them -/
structure Ro (w W : World) (p : Nat) (A0 A : Option Addr) (l : List Int) (c : Nat) : Prop where
  rw_ : Rw W A l
  cap : l.length ≤ c ∧ c ≤ maxLen
  old : A = A0 ∨ ∀ ad, A = some ad → w.heap.size ≤ ad.block
  off : ∀ ad, A = some ad → ad.block < p ∨ p + 1 + 1 < ad.block
theorem chg_row (w : World) (k : Nat) (cs : Array Value) : Chg w (w.setRow k cs) (· = k) (· = k) :=
  ⟨rfl, rfl, rfl, by rw [setRow_size]; exact Nat.le_refl _, fun j _ h2 => setRow_other w k j cs h2, fun _ e => .inl e⟩
section
variable {w W W' : World} {p : Nat} {κ b : Int} {cr : Array Value} {A0 A : Option Addr} {l : List Int} {c : Nat}
theorem St11.below (h : St11 w W p κ b cr) (hb : Below W.heap.size W W') : St11 w W' p κ b cr := ⟨h.b0.next hb, h.b1.next hb, h.b2.next hb, on h.bel hb, h.hp⟩
theorem St11.set (h : St11 w W p κ b cr) (i : Nat) (u : Value) : St11 w (W.setCell ⟨p + 1 + 1, i, none⟩ u) p κ b (cr.setIfInBounds i u) :=
  ⟨h.b0.far _ _ (by show p + 1 + 1 ≠ p; omega), h.b1.far _ _ (by show p + 1 + 1 ≠ p + 1; omega), h.b2.set i u, h.bel.setCell (by show w.heap.size ≤ p + 1 + 1; have := h.hp; omega) u, h.hp⟩
theorem Ro.below (h : Ro w W p A0 A l c) (hb : Below W.heap.size W W') : Ro w W' p A0 A l c := ⟨h.rw_.below hb, h.cap, h.old, h.off⟩
theorem Ro.set (h : Ro w W p A0 A l c) (i : Nat) (u : Value) : Ro w (W.setCell ⟨p + 1 + 1, i, none⟩ u) p A0 A l c :=
  ⟨h.rw_.chg (chg_set (Chg.refl W (· = p + 1 + 1)) i u) fun ad e e2 => by have := h.off ad e; omega, h.cap, h.old, h.off⟩
theorem Ro.new (_ : w.heap.size = p) (hs : p + 1 + 1 < W.heap.size) (hw : w.heap.size ≤ W.heap.size) (ho : OwnW W' 3 (.slice A l.length c) (ints l)) (hg : GrW W W' nl (.slice A l.length c)) : Ro w W' p A0 A l c := by
  obtain ⟨h1, h2, h3⟩ := rw_told ho hg
  exact ⟨h1, h3, .inr fun ad e => Nat.le_trans hw (h2 ad e), fun ad e => .inr (Nat.lt_of_lt_of_le hs (h2 ad e))⟩
theorem St11.size (h : St11 w W p κ b cr) : p + 1 + 1 < W.heap.size := h.b2.lt
/-- Do ends -/
theorem St11.fin {vi er : Int} {gn was : Bool} (h : St11 w W p κ b cr) (hc : cr = #[.slice A l.length c, .int .i64 vi, .bool gn, .bool was, .int .i64 er]) (hr : Ro w W p A0 A l c) :
    Wn w A0 l vi gn was er (.returned (.agg cr)) (W.setRow (p + 1) cr) := by
  subst hc
  refine ⟨A, c, rfl, hr.rw_.chg (chg_row W (p + 1) _) fun ad e e2 => by have := hr.off ad e; omega, hr.cap.1, hr.cap.2, hr.old, h.bel.trans ((chg_row W (p + 1) _).bel h.bel.size fun j e => by have := h.hp; omega)⟩
theorem st_made (w : World) (κ b : Int) (cr : Array Value) : St11 w (((w.alloc (.cells #[.int .i64 κ, .int .i64 b] 39)).alloc (.cells wz 42)).alloc (.cells cr 42)) w.heap.size κ b cr := by
  have h0 := Bx.new w 39 #[.int .i64 κ, .int .i64 b]
  have B0 := below_alloc w (.cells #[.int .i64 κ, .int .i64 b] 39)
  have s0 : (w.alloc (.cells #[.int .i64 κ, .int .i64 b] 39)).heap.size = w.heap.size + 1 := Array.size_push _
  generalize w.alloc (.cells #[.int .i64 κ, .int .i64 b] 39) = w1 at *
  have h1 := Bx.new w1 42 wz
  have B1 := below_alloc w1 (.cells wz 42)
  have s1 : (w1.alloc (.cells wz 42)).heap.size = w1.heap.size + 1 := Array.size_push _
  generalize w1.alloc (.cells wz 42) = w2 at *
  have h2 := Bx.new w2 42 cr
  have B2 := below_alloc w2 (.cells cr 42)
  rw [s0] at h1
  rw [s1, s0] at h2
  exact ⟨(h0.next B1).next B2, h1.next B2, h2, on (on B0 B1) B2, rfl⟩
end
-- walks
section
variable {w : World} {A : Option Addr} {n c : Nat} {l : List Int} {b : Int}
theorem Ro.own {w W : World} {p : Nat} {A : Option Addr} {l : List Int} {n c : Nat} (h : Rw w A l) (hp : w.heap.size = p) (hb : Below w.heap.size w W) (hn : l.length = n) (hc : n ≤ c ∧ c ≤ maxLen) : Ro w W p A A l c :=
  ⟨h.below hb, by rw [hn]; exact hc, .inl rfl, fun ad e => .inl (hp ▸ h.lt ad e)⟩
theorem ints_dropLast (l : List Int) : ints l.dropLast = (ints l).dropLast := by simp [ints, List.map_dropLast]
theorem Ro.cut {w W : World} {p : Nat} {A0 A : Option Addr} {l : List Int} {c : Nat} (h : Ro w W p A0 A l c) : Ro w W p A0 A l.dropLast c := by
  refine ⟨⟨fun j u hu => ?_, h.rw_.lt⟩, ⟨by have := h.cap.1; rw [List.length_dropLast]; omega, h.cap.2⟩, h.old, h.off⟩
  rw [ints_dropLast, List.dropLast_eq_take, List.getElem?_take] at hu
  split at hu
  · exact h.rw_.rd j u hu
  · cases hu







































































































































































































































































































end
end Go.Proofs.Ytibppolcchhmaaa
