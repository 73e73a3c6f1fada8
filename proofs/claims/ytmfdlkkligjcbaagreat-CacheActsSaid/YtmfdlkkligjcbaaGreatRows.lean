/-
  No cell of these rows narrows 'for every input' (looked for: loops, veiled, ifaces, maps, wideKeys, modest, calm, conditions, laid).
  DERIVED. THE GIVEN ROWS OF THIS SEAT. 5 by the template 'for every input the law returns true; each argument reads behind the call as it read before'; 0 by the template 'total and deterministic' (their statements: YtmfdlkkligjcbaaGreatTotals.lean).
  GIVEN WITH THE SEED: the statements are not yours to turn. If you find one false, say at which input.
  Laid BY PROGRAM, IN A SANDBOX (cutbox-rows.mjs): the forced cells as the released guide's own fill.sh prints them over the translation ff192d323f784a2b… (all of the seat's roots in one cut). By AI agents, Wed Nov 11 2026. No macro, syntax, notation, axiom, sorry.
-/
import Derived.Test.YtmfdlkkligjcbaaGreatChecked
import GoSem.Claim
import GoSem.ClaimJoined
import GoSem.ClaimMapViews
import Derived.JoinedTies
import Derived.KernelRfl
namespace Go.Proofs.YtmfdlkkligjcbaaGreat
/- THE CELL 'sum', in the pinned program and in every row, IS THE sha256 OF THE DUMP (.gsa) THAT YtmfdlkkligjcbaaGreatProg.lean LOADS. Nothing in Lean hashes anything: it is a label: what it is worth is what the hold of that sum in a sandbox is worth. -/
noncomputable def Tryz.pinned : Pinned := { name := "ytmfdlkkligjcbaagreat", sum := "ff192d323f784a2bd0407262e34a6263b47736ef553eb7a0ce68e4eff39294f6", checked := Tryz.checked }
namespace Rows
def none {H : Type} : Left H := { results := [], args := [] }

/-- 'gradinelaw16.CacheActs': WHATEVER THE INPUT: true; the input reads as it did. -/
def cacheActsSpec : ChangeSpec := { name := "cacheActs", fn := fun _ => fun
  | [d1, d2, d3] => { results := [.lit (.bool true)], args := [d1, d2, d3] }
  | _ => none }
def cacheActsRow : OpenClaim := { program := "ytmfdlkkligjcbaagreat", sum := "ff192d323f784a2bd0407262e34a6263b47736ef553eb7a0ce68e4eff39294f6", func := "gradine/gradinelaw16.CacheActs", spec := "cacheActs", unfollowed := true, recurses := true, apart := false }
def CacheActsSaid : Prop := cacheActsRow.holds Tryz.pinned (OpenSpec.ofChange cacheActsSpec)

/-- ITS FALSE NEIGHBOUR: 'it returns false'. Refute it at one input. -/
def cacheActsWrong : ChangeSpec := { name := "cacheActs", fn := fun _ => fun
  | [d1, d2, d3] => { results := [.lit (.bool false)], args := [d1, d2, d3] }
  | _ => none }
def CacheActsWrongFalsely : Prop := cacheActsRow.holds Tryz.pinned (OpenSpec.ofChange cacheActsWrong)

/-- 'gradinelaw16.CacheBound': WHATEVER THE INPUT: true; the input reads as it did. -/
def cacheBoundSpec : ChangeSpec := { name := "cacheBound", fn := fun _ => fun
  | [d1, d2, d3] => { results := [.lit (.bool true)], args := [d1, d2, d3] }
  | _ => none }
def cacheBoundRow : OpenClaim := { program := "ytmfdlkkligjcbaagreat", sum := "ff192d323f784a2bd0407262e34a6263b47736ef553eb7a0ce68e4eff39294f6", func := "gradine/gradinelaw16.CacheBound", spec := "cacheBound", unfollowed := true, recurses := true, apart := false }
def CacheBoundSaid : Prop := cacheBoundRow.holds Tryz.pinned (OpenSpec.ofChange cacheBoundSpec)

/-- ITS FALSE NEIGHBOUR: 'it returns false'. Refute it at one input. -/
def cacheBoundWrong : ChangeSpec := { name := "cacheBound", fn := fun _ => fun
  | [d1, d2, d3] => { results := [.lit (.bool false)], args := [d1, d2, d3] }
  | _ => none }
def CacheBoundWrongFalsely : Prop := cacheBoundRow.holds Tryz.pinned (OpenSpec.ofChange cacheBoundWrong)

/-- 'gradinelaw16.CacheNil': WHATEVER THE INPUT: true; the input reads as it did. -/
def cacheNilSpec : ChangeSpec := { name := "cacheNil", fn := fun _ => fun
  | [d] => { results := [.lit (.bool true)], args := [d] }
  | _ => none }
def cacheNilRow : OpenClaim := { program := "ytmfdlkkligjcbaagreat", sum := "ff192d323f784a2bd0407262e34a6263b47736ef553eb7a0ce68e4eff39294f6", func := "gradine/gradinelaw16.CacheNil", spec := "cacheNil", unfollowed := true, recurses := true, apart := false }
def CacheNilSaid : Prop := cacheNilRow.holds Tryz.pinned (OpenSpec.ofChange cacheNilSpec)

/-- ITS FALSE NEIGHBOUR: 'it returns false'. Refute it at one input. -/
def cacheNilWrong : ChangeSpec := { name := "cacheNil", fn := fun _ => fun
  | [d] => { results := [.lit (.bool false)], args := [d] }
  | _ => none }
def CacheNilWrongFalsely : Prop := cacheNilRow.holds Tryz.pinned (OpenSpec.ofChange cacheNilWrong)

/-- 'gradinelaw16.CacheTarget': WHATEVER THE INPUT: true; the input reads as it did. -/
def cacheTargetSpec : ChangeSpec := { name := "cacheTarget", fn := fun _ => fun
  | [d1, d2, d3] => { results := [.lit (.bool true)], args := [d1, d2, d3] }
  | _ => none }
def cacheTargetRow : OpenClaim := { program := "ytmfdlkkligjcbaagreat", sum := "ff192d323f784a2bd0407262e34a6263b47736ef553eb7a0ce68e4eff39294f6", func := "gradine/gradinelaw16.CacheTarget", spec := "cacheTarget", unfollowed := true, recurses := true, apart := false }
def CacheTargetSaid : Prop := cacheTargetRow.holds Tryz.pinned (OpenSpec.ofChange cacheTargetSpec)

/-- ITS FALSE NEIGHBOUR: 'it returns false'. Refute it at one input. -/
def cacheTargetWrong : ChangeSpec := { name := "cacheTarget", fn := fun _ => fun
  | [d1, d2, d3] => { results := [.lit (.bool false)], args := [d1, d2, d3] }
  | _ => none }
def CacheTargetWrongFalsely : Prop := cacheTargetRow.holds Tryz.pinned (OpenSpec.ofChange cacheTargetWrong)

/-- 'gradinelaw16.CacheVictim': WHATEVER THE INPUT: true; the input reads as it did. -/
def cacheVictimSpec : ChangeSpec := { name := "cacheVictim", fn := fun _ => fun
  | [d1, d2, d3] => { results := [.lit (.bool true)], args := [d1, d2, d3] }
  | _ => none }
def cacheVictimRow : OpenClaim := { program := "ytmfdlkkligjcbaagreat", sum := "ff192d323f784a2bd0407262e34a6263b47736ef553eb7a0ce68e4eff39294f6", func := "gradine/gradinelaw16.CacheVictim", spec := "cacheVictim", unfollowed := true, recurses := true, apart := false }
def CacheVictimSaid : Prop := cacheVictimRow.holds Tryz.pinned (OpenSpec.ofChange cacheVictimSpec)

/-- ITS FALSE NEIGHBOUR: 'it returns false'. Refute it at one input. -/
def cacheVictimWrong : ChangeSpec := { name := "cacheVictim", fn := fun _ => fun
  | [d1, d2, d3] => { results := [.lit (.bool false)], args := [d1, d2, d3] }
  | _ => none }
def CacheVictimWrongFalsely : Prop := cacheVictimRow.holds Tryz.pinned (OpenSpec.ofChange cacheVictimWrong)

/- THE SECOND FORM. 'bulk': how many values and letters a reading holds, each counted each time it is reached (what is shared counts as often as it is met; a slice's spare places count too). A statement '..UptoSaid' is the law's where the arguments, and the package variables that the reading takes, are together of bulk at most 1048576: NARROWER than '..Said'. Prove '..Said' where nothing that the law and all that it calls make is longer than what came in: it says more and counts as full. Else prove '..UptoSaid'. A law counts once. -/
mutual
def uptoBulk {H : Type} : DataW H → Nat
  | .lit (.string bytes) => bytes.length + 1
  | .lit _ => 1
  | .nil => 1
  | .ptr d => uptoBulk d + 1
  | .slice elems spare => uptoBulkAll elems + uptoBulkAll spare + 1
  | .agg parts => uptoBulkAll parts + 1
  | .iface _ d => uptoBulk d + 1
  | .map entries => uptoBulkEntries entries + 1
  | .held _ => 1
def uptoBulkAll {H : Type} : List (DataW H) → Nat
  | [] => 0
  | d :: r => uptoBulk d + uptoBulkAll r
def uptoBulkEntries {H : Type} : List (Lit × DataW H) → Nat
  | [] => 0
  | x :: r => uptoBulkEntry x + uptoBulkEntries r
def uptoBulkEntry {H : Type} : Lit × DataW H → Nat
  | (.string bytes, d) => bytes.length + uptoBulk d + 1
  | (_, d) => uptoBulk d + 1
 end
def uptoSmall : (H : Type) → List (DataW H) → Bool := fun _ ds => decide (uptoBulkAll ds ≤ 1048576)
def OpenSpec.upto (s : _root_.Go.ChangeSpec) : _root_.Go.OpenSpec := { _root_.Go.OpenSpec.ofChange s with cond := some uptoSmall }

/-- 'gradinelaw16.CacheActs', WHERE WHAT IT READS IS OF BULK AT MOST 1048576: true; the input reads as it did. -/
def cacheActsUptoRow : OpenClaim := { program := "ytmfdlkkligjcbaagreat", sum := "ff192d323f784a2bd0407262e34a6263b47736ef553eb7a0ce68e4eff39294f6", func := "gradine/gradinelaw16.CacheActs", spec := "cacheActs", unfollowed := true, recurses := true, apart := false, narrowed := true }
def CacheActsUptoSaid : Prop := cacheActsUptoRow.holds Tryz.pinned (OpenSpec.upto cacheActsSpec)

/-- 'gradinelaw16.CacheBound', WHERE WHAT IT READS IS OF BULK AT MOST 1048576: true; the input reads as it did. -/
def cacheBoundUptoRow : OpenClaim := { program := "ytmfdlkkligjcbaagreat", sum := "ff192d323f784a2bd0407262e34a6263b47736ef553eb7a0ce68e4eff39294f6", func := "gradine/gradinelaw16.CacheBound", spec := "cacheBound", unfollowed := true, recurses := true, apart := false, narrowed := true }
def CacheBoundUptoSaid : Prop := cacheBoundUptoRow.holds Tryz.pinned (OpenSpec.upto cacheBoundSpec)

/-- 'gradinelaw16.CacheNil', WHERE WHAT IT READS IS OF BULK AT MOST 1048576: true; the input reads as it did. -/
def cacheNilUptoRow : OpenClaim := { program := "ytmfdlkkligjcbaagreat", sum := "ff192d323f784a2bd0407262e34a6263b47736ef553eb7a0ce68e4eff39294f6", func := "gradine/gradinelaw16.CacheNil", spec := "cacheNil", unfollowed := true, recurses := true, apart := false, narrowed := true }
def CacheNilUptoSaid : Prop := cacheNilUptoRow.holds Tryz.pinned (OpenSpec.upto cacheNilSpec)

/-- 'gradinelaw16.CacheTarget', WHERE WHAT IT READS IS OF BULK AT MOST 1048576: true; the input reads as it did. -/
def cacheTargetUptoRow : OpenClaim := { program := "ytmfdlkkligjcbaagreat", sum := "ff192d323f784a2bd0407262e34a6263b47736ef553eb7a0ce68e4eff39294f6", func := "gradine/gradinelaw16.CacheTarget", spec := "cacheTarget", unfollowed := true, recurses := true, apart := false, narrowed := true }
def CacheTargetUptoSaid : Prop := cacheTargetUptoRow.holds Tryz.pinned (OpenSpec.upto cacheTargetSpec)

/-- 'gradinelaw16.CacheVictim', WHERE WHAT IT READS IS OF BULK AT MOST 1048576: true; the input reads as it did. -/
def cacheVictimUptoRow : OpenClaim := { program := "ytmfdlkkligjcbaagreat", sum := "ff192d323f784a2bd0407262e34a6263b47736ef553eb7a0ce68e4eff39294f6", func := "gradine/gradinelaw16.CacheVictim", spec := "cacheVictim", unfollowed := true, recurses := true, apart := false, narrowed := true }
def CacheVictimUptoSaid : Prop := cacheVictimUptoRow.holds Tryz.pinned (OpenSpec.upto cacheVictimSpec)

end Rows
end Go.Proofs.YtmfdlkkligjcbaaGreat
