/-
  What is proved: raw's Get and GetText over any bytes, by a plain reading of the bytes; what was put is read so again. Conditions: the place lies in the list; the list is no longer than a million.
-/
import Derived.Test.YtincndblpbdnlaaGet
import Derived.Test.YtincndblpbdnlaaRoom
import Derived.Test.YtincndblpbdnlaaBsD
namespace Go.Proofs.Ytincndblpbdnlaa
open Go.RowKit

instance (t : List Int) : Decidable (Good t) := by unfold Good; infer_instance
/-- the number from a place on, and where it ends -/
def gnum (l : List Int) (p : Nat) : Option (Nat × Nat) :=
  match scan 9 (l.drop p) with
  | some t => if Good t then some (val t, p + t.length) else none
  | none => none
/-- the text from a place on, and where it ends -/
def gtext (l : List Int) (p most : Nat) : Option (List Int × Nat) :=
  match gnum l p with
  | some (n, q) => if n > most then none else if n > l.length - q then none else some ((l.drop q).take n, q + n)
  | none => none

theorem gnum_enc {l r : List Int} {p m : Nat} (hm : m < 9223372036854775808) (h : l.drop p = enc m ++ r) : gnum l p = some (m, p + (enc m).length) := by
  unfold gnum
  rw [h, scan_enc 9 m r (by simp only [Nat.reducePow]; omega) (by omega)]
  simp only [if_pos (enc_good m), val_enc]
theorem gnum_bnd {l : List Int} {p n q : Nat} (hb : ∀ x ∈ l, 0 ≤ x ∧ x ≤ 255) (h : gnum l p = some (n, q)) : n < 9223372036854775808 ∧ q ≤ l.length ∧ p < q := by
  unfold gnum at h
  split at h
  · rename_i t ht
    split at h
    · rename_i hg
      injection h with h
      injection h with h1 h2
      obtain ⟨_, q2, _⟩ := scan_sound 9 _ t (fun x hx => hb x (List.mem_of_mem_drop hx)) ht hg
      obtain ⟨r, hr⟩ := scan_prefix 9 _ t ht
      have hl := congrArg List.length hr
      rw [List.length_drop, List.length_append] at hl
      have hne : t.length ≠ 0 := fun e => scan_ne ht (List.eq_nil_of_length_eq_zero e)
      have : val t < 9223372036854775808 := by simpa using q2
      omega
    · cases h
  · cases h
theorem gtext_bnd {l t : List Int} {p q most : Nat} (hb : ∀ x ∈ l, 0 ≤ x ∧ x ≤ 255) (h : gtext l p most = some (t, q)) : q ≤ l.length ∧ t.length ≤ most := by
  unfold gtext at h
  split at h
  · rename_i n q0 hg
    obtain ⟨_, h1, _⟩ := gnum_bnd hb hg
    split at h
    · cases h
    · split at h
      · cases h
      · injection h with h
        injection h with h1 h2
        subst h1 h2
        rw [List.length_take, List.length_drop]
        omega
  · cases h
theorem gtext_enc {l t r : List Int} {p most : Nat} (hm : t.length ≤ most) (hM : most ≤ 64) (h : l.drop p = enc t.length ++ (t ++ r)) : gtext l p most = some (t, p + (enc t.length).length + t.length) := by
  unfold gtext
  rw [gnum_enc (by omega) h]
  have hl := congrArg List.length h
  rw [List.length_drop, List.length_append, List.length_append] at hl
  have hne : 0 < (enc t.length).length := enc_len_pos _
  simp only
  rw [if_neg (by omega), if_neg (by omega), ← List.drop_drop, h, List.drop_left, List.take_left]

section
variable {A : Option Addr} {c : Nat} {l : List Int} {w : World}
theorem get_some {p n q : Nat} (hlen : l.length ≤ 1000000) (hp : p ≤ l.length) (hb : ∀ x ∈ l, 0 ≤ x ∧ x ≤ 255) (ra : Rn w A l) (h : gnum l p = some (n, q)) (L : Nat) (hL : l.length = L) :
    Calls Try.prog 66 #[.slice A L c, .int .i64 p] w fun e w' => e = .returned (.tuple #[.int .i64 n, .int .i64 q, .int .i64 0]) ∧ ∃ k, w' = w.drewN k := by
  subst hL
  refine (get_any A c p l w _ (by omega) hp hb ra).mono ?_
  unfold gnum at h
  rintro e w' ⟨⟨t, ht, hg, rfl⟩ | ⟨x, hx, hno, rfl⟩, hd⟩
  · rw [ht] at h
    simp only [if_pos hg] at h
    injection h with h
    injection h with h1 h2
    subst h1 h2
    exact ⟨rfl, hd⟩
  · split at h
    · rename_i t ht
      rw [if_neg (hno t ht)] at h
      cases h
    · cases h
theorem get_none {p : Nat} (hlen : l.length ≤ 1000000) (hp : p ≤ l.length) (hb : ∀ x ∈ l, 0 ≤ x ∧ x ≤ 255) (ra : Rn w A l) (h : gnum l p = none) (L : Nat) (hL : l.length = L) :
    Calls Try.prog 66 #[.slice A L c, .int .i64 p] w fun e w' => (∃ x : Int, x ≠ 0 ∧ e = .returned (.tuple #[.int .i64 0, .int .i64 0, .int .i64 x])) ∧ ∃ k, w' = w.drewN k := by
  subst hL
  refine (get_any A c p l w _ (by omega) hp hb ra).mono ?_
  unfold gnum at h
  rintro e w' ⟨⟨t, ht, hg, rfl⟩ | ⟨x, hx, hno, rfl⟩, hd⟩
  · rw [ht] at h
    simp only [if_pos hg] at h
    cases h
  · exact ⟨⟨x, hx, rfl⟩, hd⟩

set_option maxRecDepth 100000 in
set_option maxHeartbeats 800000 in
theorem gettext_some {p q : Nat} {t : List Int} (hlen : l.length ≤ 1000000) (hp : p ≤ l.length) (hLc : l.length ≤ c) (hb : ∀ x ∈ l, 0 ≤ x ∧ x ≤ 255) (ra : Rn w A l) (h : gtext l p 16 = some (t, q)) (L : Nat) (hL : l.length = L) :
    Calls Try.prog 67 #[.slice A L c, .int .i64 p, .int .i64 16] w fun e w' => ∃ v, e = .returned (.tuple #[v, .int .i64 q, .int .i64 0]) ∧ Own w' w.heap.size v t ∧ Below w.heap.size w w' := by
  unfold gtext at h
  split at h
  · rename_i n q0 hg
    obtain ⟨b1, b2, b3⟩ := gnum_bnd hb hg
    split at h
    · cases h
    · rename_i h16
      split at h
      · cases h
      · rename_i hl
        injection h with h
        injection h with e1 e2
        have ry : ∀ B, (n ≠ 0 → B = A.map (·.add q0)) → Rd w w.heap.size B t := by
          intro B hB
          rw [← e1]
          exact ra.cut q0 n B hB
        have ht : t.length = n := by rw [← e1, List.length_take, List.length_drop]; omega
        have HG := hid (get_some (c := c) hlen hp hb ra hg L hL)
        have RY := hid ry
        have HT := hid ht
        have HQ := hid e2
        rw [hL] at hlen hp b2 hLc hl
        have hn16 : n ≤ 16 := by omega
        have hql : q0 + n ≤ L := by omega
        clear ry ht e1 e2 hg h16 hl ra hb
        go_enter Try.func67, Try.ntmps67
        go_wp2_with fail
        refine HG.out.mono ?_
        rintro e w1 ⟨rfl, d, rfl⟩
        go_wp2_with fail
        all_goals
          refine (room_any _ _ _ 0 t _ w.heap.size HT.out (by omega) (by omega) (by omega) ((RY.out _ (by intro h; first | rfl | omega)).drewN d) (Nat.le_refl _)).mono ?_
          rintro e w2 ⟨v, rfl, hown, hbel⟩
          go_wp2
          go_ret3
          exact ⟨v, by have := HQ.out; simp; omega, hown, (below_drewN (Below.refl w.heap.size w) d).trans hbel⟩
  · cases h
set_option maxRecDepth 100000 in
set_option maxHeartbeats 800000 in
theorem gettext_none {p : Nat} (hlen : l.length ≤ 1000000) (hp : p ≤ l.length) (hb : ∀ x ∈ l, 0 ≤ x ∧ x ≤ 255) (ra : Rn w A l) (h : gtext l p 16 = none) (L : Nat) (hL : l.length = L) :
    Calls Try.prog 67 #[.slice A L c, .int .i64 p, .int .i64 16] w fun e w' => (∃ x : Int, x ≠ 0 ∧ e = .returned (.tuple #[.slice none 0 0, .int .i64 0, .int .i64 x])) ∧ ∃ k, w' = w.drewN k := by
  unfold gtext at h
  split at h
  · rename_i n q0 hg
    obtain ⟨b1, b2, b3⟩ := gnum_bnd hb hg
    have HG := hid (get_some (c := c) hlen hp hb ra hg L hL)
    rw [hL] at hlen hp b2
    split at h
    · rename_i h16
      clear hg ra hb h
      go_enter Try.func67, Try.ntmps67
      go_wp2_with fail
      refine HG.out.mono ?_
      rintro e w1 ⟨rfl, d, rfl⟩
      go_wp2_with fail
      all_goals
        go_ret3
        exact ⟨⟨4, by decide, rfl⟩, d, rfl⟩
    · rename_i h16
      split at h
      · rename_i hl
        rw [hL] at hl
        have h16' : n ≤ 16 := by omega
        have hl' : L < q0 + n := by omega
        clear hg ra hb h h16 hl
        go_enter Try.func67, Try.ntmps67
        go_wp2_with fail
        refine HG.out.mono ?_
        rintro e w1 ⟨rfl, d, rfl⟩
        go_wp2_with fail
        all_goals
          go_ret3
          exact ⟨⟨1, by decide, rfl⟩, d, rfl⟩
      · cases h
  · rename_i hg
    have HG := hid (get_none (c := c) hlen hp hb ra hg L hL)
    clear hg ra hb h
    go_enter Try.func67, Try.ntmps67
    go_wp2_with fail
    refine HG.out.mono ?_
    rintro e w1 ⟨⟨x, hx, rfl⟩, d, rfl⟩
    have hx1 : (x == 0) = false := by simpa using hx
    have hx2 : (x != 0) = true := by simpa using hx
    have HX := hid hx
    clear hx
    go_wp2_with fail
    all_goals
      go_ret3
      exact ⟨⟨x, HX.out, rfl⟩, d, rfl⟩
end
end Go.Proofs.Ytincndblpbdnlaa
