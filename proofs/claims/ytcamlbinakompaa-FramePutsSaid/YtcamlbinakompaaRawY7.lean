/-
  What is proved: raw's Get over bytes that are the beginning of what was put: in one form each for enough bytes, and for too few. Conditions: the place lies in the list; the list is no longer than 2^45.
-/
import Derived.Test.YtcamlbinakompaaGetQ7
import Derived.Test.YtcamlbinakompaaRawB7
namespace Go.Proofs.Ytcamlbinakompaa
open Go.RowKit

theorem Rd.far {w w' : World} {C g : Nat} {A : Option Addr} {l : List Int} (h : Rd w C A l) (hC : C ≤ g) (hw : C ≤ w.heap.size) (hg : w.grownBy w' (some g)) : Rd w' C A l :=
  h.keep fun p hp => World.cell?_of_block (hg.block p.block (by omega) (fun e => by injection e with e; omega))

theorem get_cut_yes (A : Option Addr) (c p m k L : Nat) (l r : List Int) (w : World) (C : Nat) (hL : Hid (l.length = L)) (hlen : L ≤ 70368744177000) (h0 : 0 ≤ (p : Int)) (hx : p ≤ L) (hb : Hid (∀ x ∈ l, 0 ≤ x ∧ x ≤ 255)) (ra : Rd w C A l)
    (hm : m ≤ 9223372036854775807) (hr : Hid (l.drop ((p : Int)).toNat = (enc m ++ r).take k)) (hk : (enc m).length ≤ k) :
    Calls Try.prog 22 #[.slice A L c, .int .i64 p] w fun e w' => e = .returned (.tuple #[.int .i64 (m : Nat), .int .i64 (p + (enc m).length : Nat), .int .i64 0]) ∧ ∃ d, w' = w.drewN d := by
  have e := hL.out
  subst e
  refine (get_cut A c p m k l r w C hlen h0 (by omega) hb ra hm hr).mono ?_
  rintro e w' ⟨⟨_, rfl⟩ | ⟨h, _⟩, d⟩
  · exact ⟨rfl, d⟩
  · omega
theorem get_cut_no (A : Option Addr) (c p m k L : Nat) (l r : List Int) (w : World) (C : Nat) (hL : Hid (l.length = L)) (hlen : L ≤ 70368744177000) (h0 : 0 ≤ (p : Int)) (hx : p ≤ L) (hb : Hid (∀ x ∈ l, 0 ≤ x ∧ x ≤ 255)) (ra : Rd w C A l)
    (hm : m ≤ 9223372036854775807) (hr : Hid (l.drop ((p : Int)).toNat = (enc m ++ r).take k)) (hk : ¬ (enc m).length ≤ k) :
    Calls Try.prog 22 #[.slice A L c, .int .i64 p] w fun e w' => e = .returned (.tuple #[.int .i64 0, .int .i64 0, .int .i64 1]) ∧ ∃ d, w' = w.drewN d := by
  have e := hL.out
  subst e
  refine (get_cut A c p m k l r w C hlen h0 (by omega) hb ra hm hr).mono ?_
  rintro e w' ⟨⟨h, _⟩ | ⟨_, rfl⟩, d⟩
  · omega
  · exact ⟨rfl, d⟩

end Go.Proofs.Ytcamlbinakompaa
