/-
  What is proved: the reference's Do of any act; the net and the reference's, side by side. Condition: both lie in memory, apart.
-/
import Derived.Test.YtcagochalnjagaaRe9
import Derived.Test.YtcagochalnjagaaRt9
import Derived.Test.YtcagochalnjagaaRs9
namespace Go.Proofs.Ytcagochalnjagaa
open Go.RowKit

theorem rdo_any {w : World} {k : Nat} {v : Value} {us : List Value} {S : List Wy} (h : NR w k v us S) (κ way i r : Int) (hκ : 0 ≤ κ ∧ κ ≤ 5) (A : Option Addr) (n c : Nat) (bs : List Value) (l : Wy) (hn : l.length = n) (hc : n ≤ c ∧ c ≤ maxLen) (hf : Fin w (Ft k v us) A bs l) :
    Calls Try.prog 13 #[.pointer (some ⟨k, 0, none⟩), .agg #[.int .i64 κ, .int .i64 way, .int .i64 i, .int .i64 r, .slice A n c]] w (RoP k v us S κ way i r l w) := by
  have h6 : κ = 0 ∨ κ = 1 ∨ κ = 2 ∨ κ = 3 ∨ κ = 4 ∨ κ = 5 := by omega
  rcases h6 with rfl | rfl | rfl | rfl | rfl | rfl
  · by_cases hi : isw S way
    · exact rdo0_in h way i r A n c bs hn hc hf hi
    · exact rdo0_out h way i r A n c bs hn hc hi
  · by_cases hi : vld (wy S way) i
    · exact rdo1 h way i r A n c hi
    · exact rdo_out h 1 way i r A n c (by omega) (.inl hi)
  · by_cases hi : vld (wy S way) i
    · exact rdo2 h way i r A n c hi
    · exact rdo_out h 2 way i r A n c (by omega) (.inl hi)
  · by_cases hi : vld (wy S way) i
    · exact rdo3 h way i r A n c hi
    · exact rdo_out h 3 way i r A n c (by omega) (.inl hi)
  · by_cases hi : vld (wy S way) i
    · by_cases hr : vld (wy S way) r
      · exact rdo4 h way i r A n c hi hr
      · exact rdo_out h 4 way i r A n c (by omega) (.inr ⟨rfl, hr⟩)
    · exact rdo_out h 4 way i r A n c (by omega) (.inl hi)
  · exact rdo5 h way i r A n c

/-- the net and the reference's, side by side -/
structure Tw (w0 w : World) (k : Nat) (v : Value) (us : List Value) (q : Nat) (u : Value) (vs : List Value) (S R : List Wy) : Prop where
  a : NI w k v us S
  r : NR w q u vs R
  dis : ∀ j, Ft k v us j → ¬ Ft q u vs j
  la : ∀ j, Ft k v us j → w0.heap.size ≤ j
  lr : ∀ j, Ft q u vs j → w0.heap.size ≤ j
  bel : Below w0.heap.size w0 w
section
variable {w0 w w' : World} {k q : Nat} {v u : Value} {us vs us' vs' : List Value} {S R S' R' : List Wy}
theorem Tw.below (h : Tw w0 w k v us q u vs S R) (hb : Below w.heap.size w w') : Tw w0 w' k v us q u vs S R :=
  ⟨Nt.below h.a stb_Es hb, Nt.below h.r stb_Eb hb, h.dis, h.la, h.lr, on h.bel hb⟩
theorem Tw.draws (h : Tw w0 w k v us q u vs S R) (n : Nat) : Tw w0 (w.drewN n) k v us q u vs S R := h.below (below_draws (Below.refl _ _) n)
theorem Tw.first (h : Tw w0 w k v us q u vs S R) (hn : NI w' k v us' S') (hc : Chg w w' (Ft k v us) (Ft k v us')) : Tw w0 w' k v us' q u vs S' R where
  a := hn
  r := Nt.other h.r stb_Eb hc fun j hj hf => h.dis j hf hj
  dis := fun j hj hg => by
    rcases hc.foot j hj with hf | hf
    · exact h.dis j hf hg
    · have := Nt.lt h.r hg; omega
  la := fun j hj => by
    rcases hc.foot j hj with hf | hf
    · exact h.la j hf
    · have := h.bel.size; omega
  lr := h.lr
  bel := h.bel.trans (hc.bel h.bel.size h.la)
theorem Tw.second (h : Tw w0 w k v us q u vs S R) (hn : NR w' q u vs' R') (hc : Chg w w' (Ft q u vs) (Ft q u vs')) : Tw w0 w' k v us q u vs' S R' where
  a := Nt.other h.a stb_Es hc fun j hj hf => h.dis j hj hf
  r := hn
  dis := fun j hj hg => by
    rcases hc.foot j hg with hf | hf
    · exact h.dis j hj hf
    · have := Nt.lt h.a hj; omega
  la := h.la
  lr := fun j hj => by
    rcases hc.foot j hj with hf | hf
    · exact h.lr j hf
    · have := h.bel.size; omega
  bel := h.bel.trans (hc.bel h.bel.size h.lr)
end
theorem quietL {P : Program} {f : FuncId} {args : Array Value} {w : World} {n : Nat} {v : Value} (h : Calls P f args (w.drewN n) fun e w' => e = .returned v ∧ w.drewN n = w') :
    Calls P f args (w.drewN n) fun e w'' => e = .returned v ∧ ∃ m, w'' = w.drewN m := h.mono fun _ _ ⟨he, hm⟩ => ⟨he, n, hm.symm⟩
end Go.Proofs.Ytcagochalnjagaa
