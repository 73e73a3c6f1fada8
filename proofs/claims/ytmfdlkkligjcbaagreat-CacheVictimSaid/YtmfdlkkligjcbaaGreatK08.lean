/-
  What is proved: slices.insertionSortCmpFunc puts a run of places, that stand in their order, into the order that the comparison tells; the rest stays. Condition: the comparison answers one function of two places and writes new memory alone.
-/
import Derived.Test.YtmfdlkkligjcbaaGreatK02
import Derived.Test.YtmfdlkkligjcbaaGreatK07
namespace Go.Proofs.YtmfdlkkligjcbaaGreat
open Go.RowKit





/-- the comparison at places: one function of them, told in every world of the sort -/
def CmpOk (w0 : World) (k n : Nat) (cb : Addr) (cf : Nat → Nat → Int) : Prop :=
  ∀ w, w0.grownBy w (some k) → ∀ x y, x < n → y < n → Calls Tryz.prog 97 #[.int .i64 (x : Nat), .int .i64 (y : Nat), .pointer (some cb)] w fun e w' => e = .returned (.int .i64 (cf x y)) ∧ Below w.heap.size w w'

/-- the order that it tells: a later place goes ahead of an earlier one if the comparison says so, else behind -/
structure Ord (n : Nat) (cf : Nat → Nat → Int) (L : Nat → Nat → Prop) : Prop where
  irr : ∀ x, ¬ L x x
  trans : ∀ x y z, x < n → y < n → z < n → L x y → L y z → L x z
  ahead : ∀ x y, y < x → x < n → cf x y < 0 → L x y
  behind : ∀ x y, y < x → x < n → ¬ cf x y < 0 → L y x

def Sorted (L : Nat → Nat → Prop) (d : Nat → Nat) (a b : Nat) : Prop := ∀ i j, a ≤ i → i < j → j < b → L (d i) (d j)
def From (d' d : Nat → Nat) (a b : Nat) : Prop := ∀ i, a ≤ i → i < b → ∃ j, a ≤ j ∧ j < b ∧ d' i = d j
def Same (d' d : Nat → Nat) (a b : Nat) : Prop := ∀ i, ¬ (a ≤ i ∧ i < b) → d' i = d i

/-- x, from place i, put in at j: what stood in between moves up by one -/
def ins (d : Nat → Nat) (j i : Nat) : Nat → Nat := fun t => if t < j then d t else if t = j then d i else if t ≤ i then d (t - 1) else d t

theorem ins_here (d : Nat → Nat) (i t : Nat) : ins d i i t = d t := by
  unfold ins
  by_cases h : t < i
  · rw [if_pos h]
  · rw [if_neg h]
    by_cases g : t = i
    · rw [if_pos g, g]
    · rw [if_neg g, if_neg (by omega)]
theorem ins_down (d : Nat → Nat) (j i : Nat) (hj : j < i) (t : Nat) : swp (ins d (j + 1) i) (j + 1) j t = ins d j i t := by
  unfold swp ins
  by_cases h1 : t = j
  · subst h1
    rw [if_pos rfl, if_neg (by omega), if_pos rfl, if_neg (by omega), if_pos rfl]
  · rw [if_neg h1]
    by_cases h2 : t = j + 1
    · subst h2
      rw [if_pos rfl, if_pos (by omega), if_neg (by omega), if_neg (by omega), if_pos (by omega), Nat.add_sub_cancel]
    · rw [if_neg h2]
      by_cases h3 : t < j
      · rw [if_pos (by omega), if_pos h3]
      · rw [if_neg (by omega), if_neg h2, if_neg h3, if_neg h1]

theorem ins_done {n : Nat} {cf : Nat → Nat → Int} {L : Nat → Nat → Prop} (hO : Ord n cf L) {di dj d : Nat → Nat} {a q p : Nat} (hj : ∀ t, dj t = ins di q p t) (hl : ∀ t, q ≤ t → t < p → L (di p) (di t))
    (stop : q = a ∨ (a < q ∧ L (di (q - 1)) (di p))) (hqa : a ≤ q) (hqp : q ≤ p) (hv : ∀ t, a ≤ t → t ≤ p → di t < n) (h1 : Sorted L di a p) (h2 : From di d a p) (h3 : Same di d a p) :
    Sorted L dj a (p + 1) ∧ From dj d a (p + 1) ∧ Same dj d a (p + 1) := by
  refine ⟨fun i j hi hij hjp => ?_, fun i hi hip => ?_, fun i hi => ?_⟩
  · rw [hj i, hj j]
    unfold ins
    by_cases c1 : i < q
    · rw [if_pos c1]
      by_cases c2 : j < q
      · rw [if_pos c2]; exact h1 i j hi hij (by omega)
      · rw [if_neg c2]
        by_cases c3 : j = q
        · rw [if_pos c3]
          rcases stop with e | ⟨_, e⟩
          · omega
          · by_cases c4 : i = q - 1
            · rw [c4]; exact e
            · exact hO.trans _ _ _ (hv _ hi (by omega)) (hv _ (by omega) (by omega)) (hv _ (by omega) (Nat.le_refl _)) (h1 i (q - 1) hi (by omega) (by omega)) e
        · rw [if_neg c3, if_pos (by omega)]
          exact h1 i (j - 1) hi (by omega) (by omega)
    · rw [if_neg c1]
      by_cases c3 : i = q
      · rw [if_pos c3, if_neg (by omega), if_neg (by omega), if_pos (by omega)]; exact hl (j - 1) (by omega) (by omega)
      · rw [if_neg c3, if_pos (by omega), if_neg (by omega), if_neg (by omega), if_pos (by omega)]
        exact h1 (i - 1) (j - 1) (by omega) (by omega) (by omega)
  · have old : ∀ t, a ≤ t → t ≤ p → ∃ s, a ≤ s ∧ s < p + 1 ∧ di t = d s := fun t t1 t2 => by
      by_cases e : t = p
      · exact ⟨p, by omega, by omega, by rw [e]; exact h3 p (by omega)⟩
      · obtain ⟨s, s1, s2, s3⟩ := h2 t t1 (by omega)
        exact ⟨s, s1, by omega, s3⟩
    rw [hj i]
    unfold ins
    by_cases c1 : i < q
    · rw [if_pos c1]; exact old i hi (by omega)
    · rw [if_neg c1]
      by_cases c2 : i = q
      · rw [if_pos c2]; exact old p (by omega) (Nat.le_refl _)
      · rw [if_neg c2, if_pos (by omega)]; exact old (i - 1) (by omega) (by omega)
  · rw [hj i]
    unfold ins
    by_cases c1 : i < q
    · rw [if_pos c1]; exact h3 i (by omega)
    · rw [if_neg c1, if_neg (by omega), if_neg (by omega)]; exact h3 i (by omega)

set_option maxRecDepth 1000000 in
set_option maxHeartbeats 16000000 in
theorem insertion_ok (w0 : World) (k n c a b : Nat) (cb : Addr) (cf : Nat → Nat → Int) (L : Nat → Nat → Prop) (hO : Ord n cf L) (hcmp : CmpOk w0 k n cb cf) (hn : n ≤ 1000) (hab : a ≤ b) (hb : b ≤ n)
    (d : Nat → Nat) (hv : ∀ t, t < n → d t < n) (hup : ∀ s t, a ≤ s → s < t → t < b → d s < d t) (w : World) (h : St w0 k n d w) :
    Calls Tryz.prog 103 #[.slice (some ⟨k, 0, none⟩) n c, .int .i64 a, .int .i64 b, .func (.func 97) #[] #[.pointer (some cb)]] w fun e w' =>
      e = .returned (.tuple #[]) ∧ ∃ d', St w0 k n d' w' ∧ Sorted L d' a b ∧ From d' d a b ∧ Same d' d a b := by
  go_enter Tryz.func103, Tryz.ntmps103
  go_wp2
  go_loopw [8] (fun i wr => ∃ (p : Nat) (di : Nat → Nat), i = .int .i64 p ∧ a + 1 ≤ p ∧ (p ≤ b ∨ p = a + 1) ∧ St w0 k n di wr ∧ Sorted L di a p ∧ From di d a p ∧ Same di d a p) (fun i _ => n + 1 - (intOf i).toNat)
  case atStart => exact ⟨a + 1, d, by congr 1, Nat.le_refl _, .inr rfl, h, fun i j h1 h2 h3 => by omega, fun i h1 h2 => ⟨i, h1, h2, rfl⟩, fun _ _ => rfl⟩
  case round =>
    obtain ⟨p, di, rfl, hp, hpb, hs, h1, h2, h3⟩ := hrel
    have H1 := hid h1
    have H2 := hid h2
    have H3 := hid h3
    have HS := hid hs
    have HV := hid hv
    have HU := hid hup
    clear h1 h2 h3 h hs hv hup
    by_cases hlt : p < b
    · have hlt' : (p : Int) < (b : Int) := by omega
      have dip : di p = d p := H3.out p (by omega)
      have old : ∀ t, a ≤ t → t < p → ∃ s, a ≤ s ∧ s < p ∧ di t = d s := H2.out
      have less : ∀ t, a ≤ t → t < p → di t < di p ∧ di p < n := fun t ht1 ht2 => by
        obtain ⟨s, hs1, hs2, e⟩ := old t ht1 ht2
        rw [e, dip]
        exact ⟨HU.out s p hs1 hs2 hlt, HV.out p (by omega)⟩
      have vv : ∀ t, a ≤ t → t ≤ p → di t < n := fun t t1 t2 => by
        by_cases e : t = p
        · rw [e, dip]; exact HV.out p (by omega)
        · have := less t t1 (by omega); omega
      have VV := hid vv
      clear vv
      have HL := hid less
      clear less old
      obtain ⟨x, hx⟩ : ∃ x, di p = x := ⟨_, rfl⟩
      go_wp2
      go_loopw [9] (fun j w2 => ∃ (q : Nat) (dj : Nat → Nat), j = .int .i64 q ∧ a ≤ q ∧ q ≤ p ∧ St w0 k n dj w2 ∧ (∀ t, dj t = ins di q p t) ∧ ∀ t, q ≤ t → t < p → L (di p) (di t)) (fun j _ => (intOf j).toNat)
      case atStart => exact ⟨p, di, rfl, by omega, Nat.le_refl _, HS.out, fun t => (ins_here di p t).symm, fun t h1 h2 => by omega⟩
      case round =>
        obtain ⟨q, dj, rfl, hqa, hqp, hs2, hj1, hj2⟩ := hrel
        have HJ1 := hid hj1
        have HJ2 := hid hj2
        have HS2 := hid hs2
        clear hj1 hj2
        by_cases hqa' : a < q
        · obtain ⟨q, rfl⟩ : ∃ r, q = r + 1 := ⟨q - 1, by omega⟩
          have hg : (a : Int) < (q : Int) + 1 := by omega
          obtain ⟨y, hy⟩ : ∃ y, di q = y := ⟨_, rfl⟩
          have vx : dj (q + 1) = x := by rw [HJ1.out]; unfold ins; rw [if_neg (by omega), if_pos rfl, hx]
          have vy : dj q = y := by rw [HJ1.out]; unfold ins; rw [if_pos (by omega), hy]
          have hyx := HL.out q (by omega) (by omega)
          rw [hx, hy] at hyx
          have hxn : x < n := hyx.2
          have hyn : y < n := by omega
          have c1 : ∀ s : Since wr, s.at_.cell? ⟨k, q + 1, none⟩ = some (.int .i64 (x : Nat)) := fun s => by have := (HS2.out.below s.bel).cell (q + 1) (by omega); rwa [vx] at this
          have c2 : ∀ s : Since wr, s.at_.cell? ⟨k, q, none⟩ = some (.int .i64 (y : Nat)) := fun s => by have := (HS2.out.below s.bel).cell q (by omega); rwa [vy] at this
          have g1 : (q : Int) + 1 < (n : Int) := by omega
          have g3 : 0 ≤ (q : Int) + 1 := by omega
          have g5 : IntKind.i64.wrap (q : Int) = (q : Int) := by rw [IntKind.wrap_i64]; omega
          have g4 : ((q : Int) + 1).toNat = q + 1 := by omega
          have g2 : (q : Int) < (n : Int) := by omega
          have hc : ∀ s : Since wr, w0.grownBy s.at_ (some k) := fun s => (HS2.out.below s.bel).grown
          clear hs2
          go_wp2_with fail
          refine wp_region_since (by kernel_rfl) (by kernel_rfl) ?_
          repeat (quiet_step (first | (go_at_call 97; refine Calls.since _ (hcmp _ (hc _) x y hxn hyn))))
          refine wpQuiet_nil ?_
          intro _ hw'
          obtain ⟨s, rfl⟩ := hw'
          have HS3 := hid (HS2.out.below s.bel)
          clear c1 c2 hc HS2
          generalize s.at_ = w3 at HS3 ⊢
          by_cases hcf : cf x y < 0
          · have c1 := HS3.out.cell (q + 1) (by omega)
            have c2 := HS3.out.cell q (by omega)
            have f1 := HS3.out.free (q + 1) (by omega)
            have f2 := HS3.out.free q (by omega)
            rw [vx] at c1
            rw [vy] at c2
            go_wp2
            go_region
            go_wp2
            go_roundw
            case rel =>
              refine ⟨q, swp dj (q + 1) q, rfl, by omega, by omega, ?_, ?_, ?_⟩
              · have := HS3.out.swp (i := q + 1) (j := q) (by omega) (by omega)
                rw [vx, vy] at this
                exact this.drew
              · intro t
                rw [← ins_down di q p (by omega) t]
                unfold swp
                rw [HJ1.out, HJ1.out, HJ1.out]
              · intro t h1 h2
                by_cases e : t = q
                · subst e
                  rw [hx, hy]
                  exact hO.ahead x y hyx.1 hxn hcf
                · exact HJ2.out t (by omega) h2
            case measure => simp [intOf]
          · go_wp2
            go_roundw
            case rel =>
              obtain ⟨r1, r2, r3⟩ := ins_done hO (a := a) (q := q + 1) (p := p) HJ1.out HJ2.out (.inr ⟨by omega, by rw [Nat.add_sub_cancel, hx, hy]; exact hO.behind x y hyx.1 hxn hcf⟩) (by omega) hqp VV.out H1.out H2.out H3.out
              exact ⟨p + 1, dj, rfl, by omega, by omega, HS3.out, r1, r2, r3⟩
            case measure => simp [intOf]; omega
        · have : q = a := by omega
          subst this
          have hg : decide ((q : Int) < (q : Int)) = false := by simp
          go_wp2_with fail
          go_region
          go_wp2
          go_roundw
          case rel =>
            obtain ⟨r1, r2, r3⟩ := ins_done hO (a := q) (q := q) (p := p) HJ1.out HJ2.out (.inl rfl) (by omega) hqp VV.out H1.out H2.out H3.out
            exact ⟨p + 1, dj, rfl, by omega, by omega, HS2.out.drew, r1, r2, r3⟩
          case measure => simp [intOf]; omega
    · have hlt' : ¬ (p : Int) < (b : Int) := by omega
      go_wp2
      go_end0
      refine ⟨rfl, di, HS.out, ?_, ?_, ?_⟩
      · exact fun i j h1 h2 h3 => H1.out i j h1 h2 (by omega)
      · intro i h1 h2
        obtain ⟨j, e1, e2, e3⟩ := H2.out i h1 (by omega)
        refine ⟨j, e1, ?_, e3⟩
        omega
      · intro i h1
        by_cases hi : a ≤ i ∧ i < p
        · obtain ⟨j, e1, e2, e3⟩ := H2.out i hi.1 hi.2
          rw [e3]
          congr 1
          omega
        · exact H3.out i hi
end Go.Proofs.YtmfdlkkligjcbaaGreat
/-
  What is proved: plain facts on two runs that are merged where they lie: one of one place put in, and a cut with a turn in the middle. No program is in it.
-/
namespace Go.Proofs.YtmfdlkkligjcbaaGreat
open Go.RowKit

/-- the number at a, moved up to q: what stood in between moves down by one -/
def up (d : Nat → Nat) (a q : Nat) : Nat → Nat := fun t => if t < a then d t else if t < q then d (t + 1) else if t = q then d a else d t
theorem up_out (d : Nat → Nat) (a q t : Nat) (hq : a ≤ q) (h : t < a ∨ q < t) : up d a q t = d t := by
  unfold up
  rcases h with h | h
  · rw [if_pos h]
  · rw [if_neg (show ¬ t < a by omega), if_neg (show ¬ t < q by omega), if_neg (show ¬ t = q by omega)]
theorem up_in (d : Nat → Nat) (a q t : Nat) (h : a ≤ t) (g : t < q) : up d a q t = d (t + 1) := by
  unfold up; rw [if_neg (show ¬ t < a by omega), if_pos g]
theorem up_at (d : Nat → Nat) (a q : Nat) (h : a ≤ q) : up d a q q = d a := by
  unfold up; rw [if_neg (show ¬ q < a by omega), if_neg (Nat.lt_irrefl q), if_pos rfl]
theorem up_here (d : Nat → Nat) (a t : Nat) : up d a a t = d t := by
  by_cases h : t = a
  · rw [h]; exact up_at d a a (Nat.le_refl _)
  · exact up_out d a a t (Nat.le_refl _) (by omega)
theorem up_step (d : Nat → Nat) (a q : Nat) (hq : a ≤ q) (t : Nat) : swp (up d a q) q (q + 1) t = up d a (q + 1) t := by
  unfold swp up
  by_cases h1 : t = q + 1
  · rw [if_pos h1, if_neg (by omega), if_neg (by omega), if_pos rfl, if_neg (by omega), if_neg (by omega), if_pos h1]
  · rw [if_neg h1]
    by_cases h2 : t = q
    · rw [if_pos h2, if_neg (by omega), if_neg (by omega), if_neg (by omega), if_neg (by omega), if_pos (by omega), h2]
    · rw [if_neg h2]
      by_cases h3 : t < a
      · rw [if_pos h3, if_pos h3]
      · rw [if_neg h3, if_neg h3]
        by_cases h4 : t < q
        · rw [if_pos h4, if_pos (by omega)]
        · rw [if_neg h4, if_neg h2, if_neg (by omega), if_neg h1]

section
variable {n : Nat} {cf : Nat → Nat → Int} {L : Nat → Nat → Prop} {d d2 d3 d4 : Nat → Nat} {a b m : Nat}

/-- the first of all is put in where it belongs -/
theorem up_done (hO : Ord n cf L) {i : Nat} (hi : a + 1 ≤ i) (hib : i ≤ b) (hv : ∀ t, a ≤ t → t < b → d t < n) (hs : Sorted L d (a + 1) b) (h1 : ∀ t, a + 1 ≤ t → t < i → L (d t) (d a)) (h2 : ∀ t, i ≤ t → t < b → L (d a) (d t))
    (hd : ∀ t, d2 t = up d a (i - 1) t) : Sorted L d2 a b ∧ From d2 d a b ∧ Same d2 d a b := by
  have _ := hO
  have _ := hv
  refine ⟨fun x y hx hxy hy => ?_, fun x hx hxb => ?_, fun x hx => ?_⟩
  · rw [hd x, hd y]
    by_cases c1 : x < i - 1
    · rw [up_in d a _ x hx c1]
      by_cases c2 : y < i - 1
      · rw [up_in d a _ y (by omega) c2]; exact hs _ _ (by omega) (by omega) (by omega)
      · by_cases c3 : y = i - 1
        · rw [c3, up_at d a _ (by omega)]; exact h1 _ (by omega) (by omega)
        · rw [up_out d a _ y (by omega) (by omega)]; exact hs _ _ (by omega) (by omega) hy
    · rw [up_out d a _ y (by omega) (by omega)]
      by_cases c3 : x = i - 1
      · rw [c3, up_at d a _ (by omega)]; exact h2 _ (by omega) hy
      · rw [up_out d a _ x (by omega) (by omega)]; exact hs _ _ (by omega) hxy hy
  · rw [hd x]
    by_cases c1 : x < i - 1
    · rw [up_in d a _ x hx c1]; exact ⟨x + 1, by omega, by omega, rfl⟩
    · by_cases c3 : x = i - 1
      · rw [c3, up_at d a _ (by omega)]; exact ⟨a, by omega, by omega, rfl⟩
      · rw [up_out d a _ x (by omega) (by omega)]; exact ⟨x, hx, hxb, rfl⟩
  · rw [hd x]
    exact up_out d a _ x (by omega) (by omega)

/-- what holds behind the turn in the middle -/
structure Mid (L : Nat → Nat → Prop) (d d2 : Nat → Nat) (a s mid e b : Nat) : Prop where
  s1 : Sorted L d2 a s
  s2 : Sorted L d2 s mid
  s3 : Sorted L d2 mid e
  s4 : Sorted L d2 e b
  cross : ∀ i j, a ≤ i → i < mid → mid ≤ j → j < b → L (d2 i) (d2 j)
  up1 : ∀ i j, a ≤ i → i < s → s ≤ j → j < mid → d2 i < d2 j
  up2 : ∀ i j, mid ≤ i → i < e → e ≤ j → j < b → d2 i < d2 j
  src : From d2 d a b
  same : Same d2 d a b

theorem mid_of (hO : Ord n cf L) {s mid e s0 r0 : Nat} (ham : a < m) (hmb : m < b) (has : a ≤ s0) (hs0 : s0 ≤ s) (hr0 : s ≤ r0) (hrm : r0 ≤ m) (hrd : r0 ≤ mid) (hmid : mid ≤ b) (hend : mid + m ≤ b + s0) (hse : s0 = a ∨ mid + m = b + s0) (hre : r0 = m ∨ r0 = mid)
    (he : e = mid + m - s) (hv : ∀ t, a ≤ t → t < b → d t < n) (h1 : Sorted L d a m) (h2 : Sorted L d m b) (hup : ∀ i j, a ≤ i → i < m → m ≤ j → j < b → d i < d j)
    (lo : ∀ c, s0 ≤ c → c < s → L (d c) (d (mid + m - 1 - c))) (hi : ∀ c, s ≤ c → c < r0 → L (d (mid + m - 1 - c)) (d c)) : Mid L d (rotF d s m e) a s mid e b := by
  have p1 : ∀ t, t < s → rotF d s m e t = d t := fun t ht => by unfold rotF; rw [if_neg (by omega), if_neg (by omega)]
  have p2 : ∀ t, s ≤ t → t < mid → rotF d s m e t = d (t + (m - s)) := fun t h3 h4 => by unfold rotF; rw [if_pos (by omega)]
  have p3 : ∀ t, mid ≤ t → t < e → rotF d s m e t = d (t - (mid - s)) := fun t h3 h4 => by
    unfold rotF; rw [if_neg (by omega), if_pos (by omega)]; congr 1; omega
  have p4 : ∀ t, e ≤ t → rotF d s m e t = d t := fun t ht => by unfold rotF; rw [if_neg (by omega), if_neg (by omega)]
  have low : ∀ i j, a ≤ i → i < s → e ≤ j → j < b → L (d i) (d j) := fun i j g1 g2 g3 g4 => by
    by_cases c : s0 < s
    · have k := lo (s - 1) (by omega) (by omega)
      have e1 : mid + m - 1 - (s - 1) = e := by omega
      rw [e1] at k
      have k2 : L (d i) (d e) := by
        by_cases c2 : i = s - 1
        · rw [c2]; exact k
        · exact hO.trans _ _ _ (hv _ g1 (by omega)) (hv _ (by omega) (by omega)) (hv _ (by omega) (by omega)) (h1 i (s - 1) g1 (by omega) (by omega)) k
      by_cases c3 : j = e
      · rw [c3]; exact k2
      · exact hO.trans _ _ _ (hv _ g1 (by omega)) (hv _ (by omega) (by omega)) (hv _ (by omega) g4) k2 (h2 e j (by omega) (by omega) g4)
    · omega
  have high : ∀ i j, m ≤ i → i < e → s ≤ j → j < m → L (d i) (d j) := fun i j g1 g2 g3 g4 => by
    by_cases c : s < r0
    · have k := hi s (Nat.le_refl _) c
      have e1 : mid + m - 1 - s = e - 1 := by omega
      rw [e1] at k
      have k2 : L (d i) (d s) := by
        by_cases c2 : i = e - 1
        · rw [c2]; exact k
        · exact hO.trans _ _ _ (hv _ (by omega) (by omega)) (hv _ (by omega) (by omega)) (hv _ (by omega) (by omega)) (h2 i (e - 1) g1 (by omega) (by omega)) k
      by_cases c3 : j = s
      · rw [c3]; exact k2
      · exact hO.trans _ _ _ (hv _ (by omega) (by omega)) (hv _ (by omega) (by omega)) (hv _ (by omega) (by omega)) k2 (h1 s j (by omega) (by omega) g4)
    · omega
  refine ⟨fun i j g1 g2 g3 => ?_, fun i j g1 g2 g3 => ?_, fun i j g1 g2 g3 => ?_, fun i j g1 g2 g3 => ?_, fun i j g1 g2 g3 g4 => ?_, fun i j g1 g2 g3 g4 => ?_, fun i j g1 g2 g3 g4 => ?_, fun i g1 g2 => ?_, fun i g1 => ?_⟩
  · rw [p1 i (by omega), p1 j g3]; exact h1 i j g1 g2 (by omega)
  · rw [p2 i g1 (by omega), p2 j (by omega) g3]; exact h2 _ _ (by omega) (by omega) (by omega)
  · rw [p3 i g1 (by omega), p3 j (by omega) g3]; exact h1 _ _ (by omega) (by omega) (by omega)
  · rw [p4 i g1, p4 j (by omega)]; exact h2 i j (by omega) g2 g3
  · by_cases c1 : i < s
    · rw [p1 i c1]
      by_cases c2 : j < e
      · rw [p3 j g3 c2]; exact h1 _ _ g1 (by omega) (by omega)
      · rw [p4 j (by omega)]; exact low i j g1 c1 (by omega) g4
    · rw [p2 i (by omega) g2]
      by_cases c2 : j < e
      · rw [p3 j g3 c2]; exact high _ _ (by omega) (by omega) (by omega) (by omega)
      · rw [p4 j (by omega)]; exact h2 _ _ (by omega) (by omega) g4
  · rw [p1 i g2, p2 j g3 g4]; exact hup _ _ g1 (by omega) (by omega) (by omega)
  · rw [p3 i g1 g2, p4 j g3]; exact hup _ _ (by omega) (by omega) (by omega) g4
  · by_cases c1 : i < s
    · exact ⟨i, g1, g2, p1 i c1⟩
    by_cases c2 : i < mid
    · exact ⟨_, by omega, by omega, p2 i (by omega) c2⟩
    by_cases c3 : i < e
    · exact ⟨_, by omega, by omega, p3 i (by omega) c3⟩
    · exact ⟨i, g1, g2, p4 i (by omega)⟩
  · by_cases c1 : i < s
    · exact p1 i c1
    · exact p4 i (by omega)

/-- nothing to turn: as it was -/
theorem rot_same {s e : Nat} (hs : s ≤ m) (he : m ≤ e) (h : s = m ∨ m = e) (t : Nat) : rotF d s m e t = d t := by
  unfold rotF
  by_cases c1 : s ≤ t ∧ t < s + (e - m)
  · rw [if_pos c1]; congr 1; omega
  · rw [if_neg c1]
    by_cases c2 : s + (e - m) ≤ t ∧ t < e
    · rw [if_pos c2]; congr 1; omega
    · rw [if_neg c2]

/-- a run is in order, with what it had -/
def Done (L : Nat → Nat → Prop) (d' d : Nat → Nat) (a b : Nat) : Prop := Sorted L d' a b ∧ From d' d a b ∧ Same d' d a b
theorem done_refl (h : Sorted L d a b) : Done L d d a b := ⟨h, fun i h1 h2 => ⟨i, h1, h2, rfl⟩, fun _ _ => rfl⟩

theorem left_done {s mid e : Nat} (M : Mid L d d2 a s mid e b) (has : a ≤ s) (hs : s ≤ mid) (h : ¬ (a < s ∧ s < mid)) : Done L d2 d2 a mid := by
  refine done_refl fun i j g1 g2 g3 => ?_
  by_cases c : a < s
  · exact M.s1 i j g1 g2 (by omega)
  · exact M.s2 i j (by omega) g2 g3
theorem right_done {s mid e : Nat} (M : Mid L d d2 a s mid e b) (D : Done L d3 d2 a mid) (hme : mid ≤ e) (heb : e ≤ b) (h : ¬ (mid < e ∧ e < b)) : Done L d3 d3 mid b := by
  refine done_refl fun i j g1 g2 g3 => ?_
  rw [D.2.2 i (by omega), D.2.2 j (by omega)]
  by_cases c : mid < e
  · exact M.s3 i j g1 g2 (by omega)
  · exact M.s4 i j (by omega) g2 g3
theorem sym_done {s mid e : Nat} (M : Mid L d d2 a s mid e b) (D : Done L d3 d2 a mid) (E : Done L d4 d3 mid b) (h1 : a ≤ mid) (h2 : mid ≤ b) : Done L d4 d a b := by
  refine ⟨fun i j g1 g2 g3 => ?_, fun i g1 g2 => ?_, fun i g1 => ?_⟩
  · by_cases c1 : j < mid
    · rw [E.2.2 i (by omega), E.2.2 j (by omega)]; exact D.1 i j g1 g2 c1
    by_cases c2 : mid ≤ i
    · exact E.1 i j c2 g2 g3
    · rw [E.2.2 i (by omega)]
      obtain ⟨x, x1, x2, ex⟩ := D.2.1 i g1 (by omega)
      obtain ⟨y, y1, y2, ey⟩ := E.2.1 j (by omega) g3
      rw [ex, ey, D.2.2 y (by omega)]
      exact M.cross x y x1 x2 y1 y2
  · by_cases c1 : i < mid
    · rw [E.2.2 i (by omega)]
      obtain ⟨x, x1, x2, ex⟩ := D.2.1 i g1 c1
      obtain ⟨y, y1, y2, ey⟩ := M.src x x1 (by omega)
      exact ⟨y, y1, y2, ex.trans ey⟩
    · obtain ⟨x, x1, x2, ex⟩ := E.2.1 i (by omega) g2
      obtain ⟨y, y1, y2, ey⟩ := M.src x (by omega) x2
      exact ⟨y, y1, y2, by rw [ex, D.2.2 x (by omega), ey]⟩
  · rw [E.2.2 i (by omega), D.2.2 i (by omega), M.same i g1]
end
end Go.Proofs.YtmfdlkkligjcbaaGreat
/-
  What is proved: slices.symMergeCmpFunc where the left run, or the right one, has one place: it is put in where it belongs. Condition: both runs stand in order, each place of the left one is less than each of the right one.
-/
namespace Go.Proofs.YtmfdlkkligjcbaaGreat
open Go.RowKit

/-- what a merge is given: two runs in order, the left one's places ahead of the right one's -/
structure Runs (n : Nat) (L : Nat → Nat → Prop) (d : Nat → Nat) (a m b : Nat) : Prop where
  am : a < m
  mb : m < b
  bn : b ≤ n
  s1 : Sorted L d a m
  s2 : Sorted L d m b
  up : ∀ i j, a ≤ i → i < m → m ≤ j → j < b → d i < d j
  val : ∀ t, a ≤ t → t < b → d t < n

set_option maxRecDepth 1000000 in
set_option maxHeartbeats 4000000 in
theorem symA_ok (w0 : World) (k n c a b : Nat) (cb : Addr) (cf : Nat → Nat → Int) (L : Nat → Nat → Prop) (hO : Ord n cf L) (hcmp : CmpOk w0 k n cb cf) (hn : n ≤ 1000)
    (m0 : Nat) (hm0 : m0 = a + 1) (d : Nat → Nat) (R : Runs n L d a m0 b) (w : World) (h : St w0 k n d w) :
    Calls Tryz.prog 104 #[.slice (some ⟨k, 0, none⟩) n c, .int .i64 a, .int .i64 m0, .int .i64 b, .func (.func 97) #[] #[.pointer (some cb)]] w fun e w' =>
      e = .returned (.tuple #[]) ∧ ∃ d', St w0 k n d' w' ∧ Done L d' d a b := by
  have hmb := R.mb
  have hbn := R.bn
  have q1 : (m0 : Int) - (a : Int) = 1 := by omega
  have HM := hid hm0
  clear hm0
  go_enter Tryz.func104, Tryz.ntmps104
  go_wp2
  go_loopw [10, 11] (fun i j wr => ∃ p q : Nat, i = .int .i64 p ∧ j = .int .i64 q ∧ m0 ≤ p ∧ p ≤ q ∧ q ≤ b ∧ St w0 k n d wr ∧ (∀ t, m0 ≤ t → t < p → L (d t) (d a)) ∧ ∀ t, q ≤ t → t < b → L (d a) (d t)) (fun i j _ => (intOf j).toNat - (intOf i).toNat)
  case atStart => exact ⟨m0, b, rfl, rfl, by omega, by omega, by omega, h, fun t h1 h2 => by omega, fun t h1 h2 => by omega⟩
  case round =>
    obtain ⟨p, q, rfl, rfl, hp, hpq, hq, hs, h1, h2⟩ := hrel
    have ham := R.am
    have H1 := hid h1
    have H2 := hid h2
    have HS := hid hs
    clear h1 h2 h hs
    by_cases hlt : p < q
    · have hlt' : (p : Int) < (q : Int) := by omega
      obtain ⟨m, hm⟩ : ∃ m, (p + q) / 2 = m := ⟨_, rfl⟩
      have g1 : ((p : Int) + (q : Int)) / 2 = (m : Int) := by omega
      have hpm : p ≤ m := by omega
      have hmq : m < q := by omega
      obtain ⟨x, hx⟩ : ∃ x, d m = x := ⟨_, rfl⟩
      obtain ⟨y, hy⟩ : ∃ y, d a = y := ⟨_, rfl⟩
      have hxn : x < n := by rw [← hx]; exact R.val m (by omega) (by omega)
      have hyn : y < n := by rw [← hy]; exact R.val a (by omega) (by omega)
      have hyx : y < x := by rw [← hx, ← hy]; exact R.up a m (by omega) (by omega) (by omega) (by omega)
      have c1 : ∀ s : Since wr, s.at_.cell? ⟨k, m, none⟩ = some (.int .i64 (x : Nat)) := fun s => by have := (HS.out.below s.bel).cell m (by omega); rwa [hx] at this
      have c2 : ∀ s : Since wr, s.at_.cell? ⟨k, a, none⟩ = some (.int .i64 (y : Nat)) := fun s => by have := (HS.out.below s.bel).cell a (by omega); rwa [hy] at this
      have hc : ∀ s : Since wr, w0.grownBy s.at_ (some k) := fun s => (HS.out.below s.bel).grown
      have g2 : (m : Int) < (n : Int) := by omega
      have g3 : (a : Int) < (n : Int) := by omega
      go_wp2_with fail
      refine wp_region_since (by kernel_rfl) (by kernel_rfl) ?_
      repeat (quiet_step (first | (go_at_call 97; refine Calls.since _ (hcmp _ (hc _) x y hxn hyn))))
      refine wpQuiet_nil ?_
      intro _ hw'
      obtain ⟨s, rfl⟩ := hw'
      have HS3 := hid (HS.out.below s.bel)
      clear c1 c2 hc HS
      generalize s.at_ = w3 at HS3 ⊢
      by_cases hcf : cf x y < 0
      · go_wp2
        go_roundw
        case rel =>
          refine ⟨m + 1, q, rfl, rfl, by omega, by omega, hq, HS3.out, fun t t1 t2 => ?_, H2.out⟩
          have e := hO.ahead x y hyx hxn hcf
          rw [← hx, ← hy] at e
          by_cases et : t = m
          · rw [et]; exact e
          · exact hO.trans _ _ _ (R.val _ (by omega) (by omega)) (R.val _ (by omega) (by omega)) (R.val _ (by omega) (by omega)) (R.s2 t m t1 (by omega) (by omega)) e
        case measure => simp [intOf]; omega
      · go_wp2
        go_roundw
        case rel =>
          refine ⟨p, m, rfl, rfl, hp, by omega, by omega, HS3.out, H1.out, fun t t1 t2 => ?_⟩
          have e := hO.behind x y hyx hxn hcf
          rw [← hx, ← hy] at e
          by_cases et : t = m
          · rw [et]; exact e
          · exact hO.trans _ _ _ (R.val _ (by omega) (by omega)) (R.val _ (by omega) (by omega)) (R.val _ (by omega) (by omega)) e (R.s2 m t (by omega) (by omega) (by omega))
        case measure => simp [intOf]; omega
    · have hlt' : ¬ (p : Int) < (q : Int) := by omega
      have : q = p := by omega
      subst this
      go_wp2
      go_loopw [13] (fun j wr => ∃ (r : Nat) (dk : Nat → Nat), j = .int .i64 r ∧ a ≤ r ∧ r ≤ q - 1 ∧ St w0 k n dk wr ∧ ∀ t, dk t = up d a r t) (fun j _ => n - (intOf j).toNat)
      case atStart => exact ⟨a, d, rfl, Nat.le_refl _, by have := HM.out; omega, HS.out, fun t => (up_here d a t).symm⟩
      case round =>
        obtain ⟨r, dk, rfl, hra, hrq, hs2, hu⟩ := hrel
        have HU := hid hu
        have HS2 := hid hs2
        clear hu HS
        have := HM.out
        have h9 : a + 1 ≤ q := by omega
        clear this
        have g5 : (q : Int) - 1 = ((q - 1 : Nat) : Int) := by omega
        by_cases hlt2 : r < q - 1
        · have hlt3 : (r : Int) < ((q - 1 : Nat) : Int) := by omega
          obtain ⟨x, hx⟩ : ∃ x, dk r = x := ⟨_, rfl⟩
          obtain ⟨y, hy⟩ : ∃ y, dk (r + 1) = y := ⟨_, rfl⟩
          have c1 := hs2.cell r (by omega)
          have c2 := hs2.cell (r + 1) (by omega)
          have f1 := hs2.free r (by omega)
          have f2 := hs2.free (r + 1) (by omega)
          rw [hx] at c1
          rw [hy] at c2
          have g1 : (r : Int) + 1 < (n : Int) := by omega
          have g2 : (r : Int) < (n : Int) := by omega
          have g3 : 0 ≤ (r : Int) + 1 := by omega
          have g4 : ((r : Int) + 1).toNat = r + 1 := by omega
          clear hs2
          go_wp2
          go_region
          go_wp2
          go_roundw
          case rel =>
            refine ⟨r + 1, swp dk r (r + 1), rfl, by omega, by omega, ?_, fun t => ?_⟩
            · have := HS2.out.swp (i := r) (j := r + 1) (by omega) (by omega)
              rw [hx, hy] at this
              exact this.drew
            · rw [← up_step d a r hra t]
              unfold swp
              rw [HU.out, HU.out, HU.out]
          case measure => simp [intOf]; omega
        · have hlt3 : ¬ (r : Int) < ((q - 1 : Nat) : Int) := by omega
          clear hs2
          go_wp2
          (try simp only [Exit.inBlock, Exit.then])
          refine bodyPost_ret (results_none rfl _ _ _) rfl ?_
          have RS := R.s2
          have h1 := H1.out
          rw [HM.out] at RS h1
          refine ⟨rfl, dk, HS2.out, up_done hO (i := q) h9 hq R.val RS h1 H2.out fun t => ?_⟩
          rw [HU.out, show q - 1 = r by omega]
end Go.Proofs.YtmfdlkkligjcbaaGreat
