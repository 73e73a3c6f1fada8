/-
  What is proved: sector's Write and Read, of a disk that lies in memory as one. Condition: what is written is read as its bytes.
-/
import Derived.Test.YtincndblpbdnlaaDFn
import Derived.Test.YtincndblpbdnlaaDText
import Derived.Deep.RegionHeld3
namespace Go.Proofs.Ytincndblpbdnlaa
open Go.RowKit

/-- what a write makes of a disk, and what it answers -/
def St.write (s : St) (i : Int) (l : List Int) : St :=
  if s.d then s else if i < 0 ∨ (s.L.length : Int) ≤ i then s else if 64 < l.length then s else if s.f = 0 then { s with d := true } else { s.burn with L := s.L.set i.toNat l }
def St.told (s : St) (i : Int) (l : List Int) : Int :=
  if s.d then 8 else if i < 0 ∨ (s.L.length : Int) ≤ i then 3 else if 64 < l.length then 4 else if s.f = 0 then 8 else 0

theorem below_of_drew {w w' : World} (h : Below w.drew.heap.size w.drew w') : Below w.heap.size w w' := ⟨h.os, h.tape, h.output, h.size, h.block⟩
theorem Rn.stay {w w' : World} {A : Option Addr} {l : List Int} (h : Rn w A l) (k : Stay w w') (hs : w.heap.size ≤ w'.heap.size) : Rn w' A l := fun j x hx => by
  obtain ⟨ad, e2, hb, hc⟩ := h j x hx
  exact ⟨ad, e2, Nat.lt_of_lt_of_le hb hs, k _ _ hc⟩
theorem dk_at {w : World} {T : TypeId} {b k g n c j : Nat} {s : St} (h : Dk w T b k (.slice (some ⟨g, 0, none⟩) n c) s) (hj : j < s.L.length) : ∃ u0, w.cell? ⟨g, j, none⟩ = some u0 ∧ w.frozen? ⟨g, j, none⟩ = false := by
  obtain ⟨g', c', u, e, h1, h2, _⟩ := h.sec (List.getElem?_eq_getElem hj)
  injection e with e
  injection e with e
  injection e with e
  subst e
  exact ⟨u, h1, h2⟩

section
variable {w : World} {b k : Nat} {v : Value} {s : St}
set_option maxHeartbeats 400000 in
theorem write_any (h : Dk w 67 b k v s) (i : Int) (A : Option Addr) (n c : Nat) (l : List Int) (hn : l.length = n) (hlen : n ≤ 140737488355328) (r : Rn w A l) :
    Calls Try.prog 24 #[.pointer (some ⟨k, 0, none⟩), .int .i64 i, .slice A n c] w fun e w' =>
      e = .returned (.int .i64 (s.told i l)) ∧ Dk w' 67 b k v (s.write i l) ∧ Only w w' k v := by
  obtain ⟨_, _, c2, _, _, _⟩ := h.cells
  have HN := hid hn
  have HR := hid r
  clear hn r
  by_cases hd : s.d = true
  · have e1 : s.told i l = 8 := by unfold St.told; rw [if_pos hd]
    have e2 : s.write i l = s := by unfold St.write; rw [if_pos hd]
    rw [e1, e2]
    rw [hd] at c2
    have H := hid (And.intro h (Only.refl w k v))
    clear h hd e1 e2
    go_enter Try.func24, Try.ntmps24
    go_wp2
    go_ret
    exact ⟨rfl, H.out⟩
  · have hd' : s.d = false := by simpa using hd
    rw [hd'] at c2
    by_cases hi : i < 0 ∨ (s.L.length : Int) ≤ i
    · have e1 : s.told i l = 3 := by unfold St.told; rw [if_neg hd, if_pos hi]
      have e2 : s.write i l = s := by unfold St.write; rw [if_neg hd, if_pos hi]
      rw [e1, e2]
      have H := hid (And.intro h (Only.refl w k v))
      have HH := hid (has_no h i hi)
      clear h hd hd' e1 e2 hi
      go_enter Try.func24, Try.ntmps24
      go_wp2_with (go_at_call 41; refine HH.out.mono ?_; rintro e w' ⟨rfl, rfl⟩)
      go_ret
      exact ⟨rfl, H.out⟩
    · obtain ⟨j, rfl⟩ : ∃ j : Nat, i = j := ⟨i.toNat, by omega⟩
      have hj : j < s.L.length := by omega
      have HH := hid (has_yes h j hj)
      by_cases h64 : 64 < n
      · have e1 : s.told j l = 4 := by unfold St.told; rw [if_neg hd, if_neg hi, if_pos (by rw [HN.out]; exact h64)]
        have e2 : s.write j l = s := by unfold St.write; rw [if_neg hd, if_neg hi, if_pos (by rw [HN.out]; exact h64)]
        rw [e1, e2]
        have H := hid (And.intro h (Only.refl w k v))
        clear h hd hd' e1 e2 hi
        go_enter Try.func24, Try.ntmps24
        go_wp2_with (go_at_call 41; refine HH.out.mono ?_; rintro e w' ⟨rfl, rfl⟩)
        go_ret
        exact ⟨rfl, H.out⟩
      · have h64' : n ≤ 64 := by omega
        have HBU := hid (burn_any h)
        by_cases hf : s.f = 0
        · have e1 : s.told j l = 8 := by unfold St.told; rw [if_neg hd, if_neg hi, if_neg (by rw [HN.out]; exact h64), if_pos hf]
          have e2 : s.write j l = s.burn := by unfold St.write St.burn; rw [if_neg hd, if_neg hi, if_neg (by rw [HN.out]; exact h64), if_pos hf, if_pos hf]
          have e3 : s.burn.d = true := by unfold St.burn; rw [if_pos hf]
          rw [e1, e2]
          have H3 := hid e3
          clear h hd hd' e1 e2 e3 hi h64
          go_enter Try.func24, Try.ntmps24
          go_wp2_with (first | (go_at_call 41; refine HH.out.mono ?_; rintro e w' ⟨rfl, rfl⟩) | (go_at_call 42; refine HBU.out.mono ?_; rintro e w1 ⟨rfl, hk1, ho1⟩; have d2 := hk1.cells.2.2.1; rw [H3.out] at d2; have HK := hid (And.intro hk1 ho1); clear hk1 ho1))
          go_ret
          exact ⟨rfl, HK.out⟩
        · have e1 : s.told j l = 0 := by unfold St.told; rw [if_neg hd, if_neg hi, if_neg (by rw [HN.out]; exact h64), if_neg hf]
          have e2 : s.write j l = { s.burn with L := s.burn.L.set j l } := by
            have : s.burn.L = s.L := by unfold St.burn; rw [if_neg hf]; split <;> rfl
            unfold St.write
            rw [if_neg hd, if_neg hi, if_neg (by rw [HN.out]; exact h64), if_neg hf, this, Int.toNat_natCast]
          have e3 : s.burn.d = false := by unfold St.burn; rw [if_neg hf]; split <;> exact hd'
          have e4 : j < s.burn.L.length := by
            have : s.burn.L = s.L := by unfold St.burn; rw [if_neg hf]; split <;> rfl
            rw [this]; exact hj
          rw [e1, e2]
          have H3 := hid e3
          have H4 := hid e4
          generalize s.burn = t at *
          clear h hd hd' e1 e2 e3 e4 hi h64 hf hj
          go_enter Try.func24, Try.ntmps24
          go_upto_region 12 with (first | (go_at_call 41; refine HH.out.mono ?_; rintro e w' ⟨rfl, rfl⟩) | (go_at_call 42; refine HBU.out.mono ?_; rintro e w1 ⟨rfl, hk1, ho1⟩; have d2 := hk1.cells.2.2.1; rw [H3.out] at d2; have HK := hid hk1; have HO := hid ho1; clear hk1 ho1))
          have HR1 := hid (HR.out.stay HO.out.stay HO.out.size)
          obtain ⟨g, cc, u0, rfl, q1, q2, q3⟩ := HK.out.sec (List.getElem?_eq_getElem H4.out)
          have c0 : w1.cell? ⟨k, 0, none⟩ = some (.slice (some ⟨g, 0, none⟩) t.L.length cc) := HK.out.cells.1
          have hjj : (j : Int) < (t.L.length : Int) := by have := H4.out; omega
          have hgk : (⟨g, j, none⟩ : Addr) ≠ ⟨k, 0, none⟩ := by
            intro e
            injection e with e
            exact HK.out.ne (congrArg some e)
          clear q1 q2 q3 d2 HBU HH HR
          go_region_held3 (fun w' => w'.cell? ⟨k, 0, none⟩ = some (.slice (some ⟨g, 0, none⟩) t.L.length cc)) (first | (exact by go_simp) | exact kp | (rw [World.cell?_setCell_other _ _ _ _ hgk]; exact kp)) ((go_at_call 43; refine (text_any A n c l _ HN.out (by omega) (by exact HR1.out)).mono ?_; rintro e w2 ⟨u, rfl, hu, hb2⟩; have HB2 := hid (below_of_drew hb2); have HU := hid hu; obtain ⟨AA, ac, rfl, -⟩ := hu; clear hb2; have kp : w2.cell? ⟨k, 0, none⟩ = some (.slice (some ⟨g, 0, none⟩) t.L.length cc) := (HK.out.below HB2.out).cells.1; obtain ⟨u0, qc, qf⟩ := dk_at (HK.out.below HB2.out) H4.out))
          obtain ⟨D1, D2⟩ := (HK.out.below HB2.out).setL j _ l H4.out HU.out
          have D := hid (And.intro D1 ((HO.out.trans (Only.of HB2.out k _)).trans D2))
          clear D1 D2 HK HO HU HB2 kp qc qf c0
          go_wp2
          go_ret
          exact ⟨rfl, D.out⟩

/-- what is read of a disk: a text of its own, and an error -/
def Reads (L : List (List Int)) (i : Int) (w : World) (e : Ending) (w' : World) : Prop :=
  ∃ u l c, e = .returned (.tuple #[u, .int .i64 c]) ∧ Bs w' u l ∧ Below w.heap.size w w' ∧ ((i < 0 ∨ (L.length : Int) ≤ i) ∧ c = 3 ∧ l = [] ∨ 0 ≤ i ∧ L[i.toNat]? = some l ∧ c = 0)
set_option maxHeartbeats 400000 in
theorem read_any (h : Dk w 67 b k v s) (hl : ∀ l ∈ s.L, l.length ≤ 64) (i : Int) :
    Calls Try.prog 25 #[.pointer (some ⟨k, 0, none⟩), .int .i64 i] w (Reads s.L i w) := by
  by_cases hi : i < 0 ∨ (s.L.length : Int) ≤ i
  · have HH := hid (has_no h i hi)
    have HI := hid hi
    clear h hi
    go_enter Try.func25, Try.ntmps25
    go_wp2_with (go_at_call 41; refine HH.out.mono ?_; rintro e w' ⟨rfl, rfl⟩)
    go_ret2
    exact ⟨_, [], 3, rfl, bs_nil _, Below.refl _ _, .inl ⟨HI.out, rfl, rfl⟩⟩
  · obtain ⟨j, rfl⟩ : ∃ j : Nat, i = j := ⟨i.toNat, by omega⟩
    have hj : j < s.L.length := by omega
    have HH := hid (has_yes h j hj)
    have hjj : (j : Int) < (s.L.length : Int) := by omega
    obtain ⟨l, hlj⟩ : ∃ l, s.L[j]? = some l := ⟨_, List.getElem?_eq_getElem hj⟩
    have h64 : l.length ≤ 64 := hl l (List.mem_of_getElem? hlj)
    obtain ⟨g, cc, u0, rfl, q1, q2, q3⟩ := h.sec hlj
    obtain ⟨A0, ac, rfl, hr0, _, _⟩ := q3
    have c0 : w.cell? ⟨k, 0, none⟩ = some (.slice (some ⟨g, 0, none⟩) s.L.length cc) := h.cells.1
    have HR := hid hr0
    have HL := hid hlj
    clear h hi hlj hr0 hj hl
    generalize hm : l.length = m at *
    have HM := hid hm
    clear hm
    go_enter Try.func25, Try.ntmps25
    go_wp2_with (first | (go_at_call 41; refine HH.out.mono ?_; rintro e w' ⟨rfl, rfl⟩) | (go_at_call 43; refine (text_any A0 m ac l _ HM.out (by omega) (by exact HR.out)).mono ?_; rintro e w2 ⟨u, rfl, hu, hb2⟩; have HB2 := hid hb2; have HU := hid hu; clear hb2 hu))
    go_ret2
    exact ⟨u, l, 0, rfl, HU.out, HB2.out, .inr ⟨by omega, by rw [Int.toNat_natCast]; exact HL.out, rfl⟩⟩
end
end Go.Proofs.Ytincndblpbdnlaa
