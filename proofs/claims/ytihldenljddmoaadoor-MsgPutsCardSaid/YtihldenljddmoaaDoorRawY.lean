/-
  What is proved: raw's Get, GetTruth over bytes that are the beginning of what was put: in one form each for enough bytes, and for too few. Conditions: the place lies in the list; the list is no longer than 2^45.
-/
import Derived.Test.YtihldenljddmoaaDoorGetQ
import Derived.Test.YtihldenljddmoaaDoorRawB
namespace Go.Proofs.YtihldenljddmoaaDoor
open Go.RowKit

theorem Rd.far {w w' : World} {C g : Nat} {A : Option Addr} {l : List Int} (h : Rd w C A l) (hC : C ≤ g) (hw : C ≤ w.heap.size) (hg : w.grownBy w' (some g)) : Rd w' C A l :=
  h.keep fun p hp => World.cell?_of_block (hg.block p.block (by omega) (fun e => by injection e with e; omega))

theorem get_cut_yes (A : Option Addr) (c p m k L : Nat) (l r : List Int) (w : World) (C : Nat) (hL : Hid (l.length = L)) (hlen : L ≤ 70368744177000) (h0 : 0 ≤ (p : Int)) (hx : p ≤ L) (hb : Hid (∀ x ∈ l, 0 ≤ x ∧ x ≤ 255)) (ra : Rd w C A l)
    (hm : m ≤ 9223372036854775807) (hr : Hid (l.drop ((p : Int)).toNat = (enc m ++ r).take k)) (hk : (enc m).length ≤ k) :
    Calls Tryd.prog 28 #[.slice A L c, .int .i64 p] w fun e w' => e = .returned (.tuple #[.int .i64 (m : Nat), .int .i64 (p + (enc m).length : Nat), .int .i64 0]) ∧ ∃ d, w' = w.drewN d := by
  have e := hL.out
  subst e
  refine (get_cut A c p m k l r w C hlen h0 (by omega) hb ra hm hr).mono ?_
  rintro e w' ⟨⟨_, rfl⟩ | ⟨h, _⟩, d⟩
  · exact ⟨rfl, d⟩
  · omega
theorem get_cut_no (A : Option Addr) (c p m k L : Nat) (l r : List Int) (w : World) (C : Nat) (hL : Hid (l.length = L)) (hlen : L ≤ 70368744177000) (h0 : 0 ≤ (p : Int)) (hx : p ≤ L) (hb : Hid (∀ x ∈ l, 0 ≤ x ∧ x ≤ 255)) (ra : Rd w C A l)
    (hm : m ≤ 9223372036854775807) (hr : Hid (l.drop ((p : Int)).toNat = (enc m ++ r).take k)) (hk : ¬ (enc m).length ≤ k) :
    Calls Tryd.prog 28 #[.slice A L c, .int .i64 p] w fun e w' => e = .returned (.tuple #[.int .i64 0, .int .i64 0, .int .i64 1]) ∧ ∃ d, w' = w.drewN d := by
  have e := hL.out
  subst e
  refine (get_cut A c p m k l r w C hlen h0 (by omega) hb ra hm hr).mono ?_
  rintro e w' ⟨⟨h, _⟩ | ⟨_, rfl⟩, d⟩
  · omega
  · exact ⟨rfl, d⟩

theorem gettruth_yes (A : Option Addr) (c p L : Nat) (l r : List Int) (t : Bool) (k : Nat) (w : World) (C : Nat) (hL : Hid (l.length = L)) (hlen : L ≤ 35184372088832) (hx : p ≤ L) (ra : Rd w C A l) (hr : Hid (l.drop ((p : Int)).toNat = (bit t :: r).take k)) (hk : 1 ≤ k) :
    Calls Tryd.prog 34 #[.slice A L c, .int .i64 p] w fun e w' => e = .returned (.tuple #[.bool t, .int .i64 (p + 1 : Nat), .int .i64 0]) ∧ w = w' := by
  have e := hL.out
  subst e
  refine (gettruth_cut A c p l r t k w C hlen (by omega) (by omega) ra hr).mono ?_
  rintro e w' ⟨⟨_, rfl⟩ | ⟨h, _⟩, rfl⟩
  · exact ⟨rfl, rfl⟩
  · omega
theorem gettruth_no (A : Option Addr) (c p L : Nat) (l r : List Int) (t : Bool) (k : Nat) (w : World) (C : Nat) (hL : Hid (l.length = L)) (hlen : L ≤ 35184372088832) (hx : p ≤ L) (ra : Rd w C A l) (hr : Hid (l.drop ((p : Int)).toNat = (bit t :: r).take k)) (hk : ¬ 1 ≤ k) :
    Calls Tryd.prog 34 #[.slice A L c, .int .i64 p] w fun e w' => e = .returned (.tuple #[.bool false, .int .i64 0, .int .i64 1]) ∧ w = w' := by
  have e := hL.out
  subst e
  refine (gettruth_cut A c p l r t k w C hlen (by omega) (by omega) ra hr).mono ?_
  rintro e w' ⟨⟨h, _⟩ | ⟨_, rfl⟩, rfl⟩
  · omega
  · exact ⟨rfl, rfl⟩

end Go.Proofs.YtihldenljddmoaaDoor
