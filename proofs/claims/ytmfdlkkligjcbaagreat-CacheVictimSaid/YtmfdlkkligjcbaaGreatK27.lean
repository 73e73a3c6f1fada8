/-
  What is proved: the fixed fact that each statement of this layer asks first holds; PartNil's walk; what the laws share: long, a cache that a law has made. Condition: none.
  (Left out here, as nothing of this law reaches it: wakes15, nil15, long15.) -/
import Derived.Test.YtmfdlkkligjcbaaGreatK24
import Derived.Test.YtmfdlkkligjcbaaGreatK21
import Derived.Test.YtmfdlkkligjcbaaGreatK23
namespace Go.Proofs.YtmfdlkkligjcbaaGreat
open Go.RowKit

/-- the example's hint -/
def exG (_ : Nat) : Hn := ⟨0, 3, 1, true⟩
theorem exG_ok : HintsP exG 1 3 := by
  refine ⟨by omega, fun i hi => ?_, fun i hi k hk x => ?_⟩
  · unfold okH exG; decide
  · omega
theorem exG_ord : OrdH exG 1 (fun _ => 0) := ⟨fun i j h1 h2 => by omega, fun i hi => by show 0 < 1; omega⟩
theorem exG_cap : CapP 3 2 1 1 := ⟨by omega, fun ⟨i, hi, h⟩ => by
  have h4 : i = 0 ∨ i = 1 ∨ i = 2 := by omega
  rcases h4 with rfl | rfl | rfl <;> (unfold f3 at h; simp at h)⟩
theorem exG_part : KP exG 1 (cN 2 1 1) 0 0 = 2 := by
  rw [← KP_of exG_ord]
  kernel_rfl
/-- a plan in memory, as a parted cache sees it -/
theorem Pl.pn {w : World} {q n c d T : Nat} {b : Int} {x : Nat → Nat} {hh : Nat → Hn} {A B : Option Addr} (h : Pl w q b x hh n A c B d) (h1 : 1 ≤ T) (h3 : T ≤ 3) : Pn w q T (fun z => rgi hh z n) (fun i => KP hh n x i (T - 1)) (fun i => (hh i).l) n :=
  ⟨⟨b, x, hh, A, c, B, d, h, fun _ => rfl, fun _ => rfl, fun _ => rfl⟩, h1, h3⟩







































































end Go.Proofs.YtmfdlkkligjcbaaGreat
