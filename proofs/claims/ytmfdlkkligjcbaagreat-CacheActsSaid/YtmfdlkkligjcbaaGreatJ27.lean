/-
  What is proved: the fixed fact that each statement of this layer asks first holds; PartNil's walk; what the laws share: long, a cache that a law has made. Condition: none.
  (Left out here, as nothing of this law reaches it: wakes15, nil15, long15.) -/
import Derived.Test.YtmfdlkkligjcbaaGreatJ24
import Derived.Test.YtmfdlkkligjcbaaGreatJ21
import Derived.Test.YtmfdlkkligjcbaaGreatJ23
namespace Go.Proofs.YtmfdlkkligjcbaaGreat
open Go.RowKit

/-- a plan in memory, as a parted cache sees it -/
theorem Pl.pn {w : World} {q n c d T : Nat} {b : Int} {x : Nat → Nat} {hh : Nat → Hn} {A B : Option Addr} (h : Pl w q b x hh n A c B d) (h1 : 1 ≤ T) (h3 : T ≤ 3) : Pn w q T (fun z => rgi hh z n) (fun i => KP hh n x i (T - 1)) (fun i => (hh i).l) n :=
  ⟨⟨b, x, hh, A, c, B, d, h, fun _ => rfl, fun _ => rfl, fun _ => rfl⟩, h1, h3⟩







































































end Go.Proofs.YtmfdlkkligjcbaaGreat
