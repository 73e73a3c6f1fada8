/-
  What is proved: list's Of, First, Last, All, Len and Ahead. Condition: the space lies in memory as one.
  (Left out here, as nothing of this law reaches it: of_yes, of_no, of_nil, blockat_any, first_in, last_in, first_nil, last_nil, all_out, all_nil, all_in, len_in, len_out, len_nil, ahead_nil, ahead_no, ahead_in.) -/
import Derived.Test.YtdpniggabidmbaaSp10
import Derived.BigQuiet
namespace Go.Proofs.Ytdpniggabidmbaa
open Go.RowKit

abbrev nl : Value := .slice none 0 0
theorem GrW.nilBelow {w w' : World} {v : Value} (h : GrW w w' nl v) : Below w.heap.size w w' := ⟨h.gr.os, h.gr.tape, h.gr.output, h.gr.size, fun j hj => h.gr.block j hj (by simp [Value.ownBlock])⟩
theorem GrW.fresh {w w' : World} {v : Value} (h : GrW w w' nl v) (u : Value) : GrW w w' u v := ⟨grown_below h.nilBelow _, .inr fun g e => by
  rcases h.at_ with e1 | e1
  · rw [e1] at e; simp [Value.ownBlock] at e
  · exact e1 g e⟩
theorem infoInt : (Try.prog.info? 3).map (fun i => (i.zero, i.size, i.bytes)) = some (some (.int .i64 0), 1, 8) := by kernel_rfl
theorem elt_int : Elt Try.prog 33 3 (.int .i64 0) 1 8 := ⟨Try.underlying33, infoInt, rfl, by decide⟩
theorem quietL {P : Program} {f : FuncId} {args : Array Value} {w : World} {n : Nat} {v : Value} (h : Calls P f args (w.drewN n) fun e w' => e = .returned v ∧ w.drewN n = w') :
    Calls P f args (w.drewN n) fun e w'' => e = .returned v ∧ ∃ m, w'' = w.drewN m := h.mono fun _ _ ⟨he, hm⟩ => ⟨he, n, hm.symm⟩
theorem ints_take_succ {l : List Int} {j : Nat} (h : j < l.length) : ints (l.take (j + 1)) = ints (l.take j) ++ [.int .i64 l[j]] := by
  unfold ints
  rw [List.take_succ_eq_append_getElem h, List.map_append]
  rfl

section
variable {w : World} {k : Nat} {S : List (List Int)}

































/-- the front one, the back one -/
def firstV (l : List Int) : Value := match l with | [] => .tuple #[.int .i64 0, .bool false] | x :: _ => .tuple #[.int .i64 x, .bool true]
def lastV (l : List Int) : Value := if h : l = [] then .tuple #[.int .i64 0, .bool false] else .tuple #[.int .i64 (l.getLast h), .bool true]
def atV (x : Int) : Value := if vb x then .tuple #[.int .i64 x, .bool true] else .tuple #[.int .i64 0, .bool false]





theorem atV_shape (x : Int) : ∃ y b, atV x = .tuple #[.int .i64 y, .bool b] := by
  unfold atV
  split
  · exact ⟨_, _, rfl⟩
  · exact ⟨_, _, rfl⟩












































































/-- a list that is told: new memory -/
def Told (w : World) (l : List Int) (e : Ending) (w' : World) : Prop := ∃ A c, e = .returned (.slice A l.length c) ∧ OwnW w' 3 (.slice A l.length c) (ints l) ∧ GrW w w' nl (.slice A l.length c)

































































































































/-- y stands in l behind place j -/
def behind (l : List Int) (j : Nat) (y : Int) : Prop := ∃ q, j < q ∧ l[q]? = some y











































































end
end Go.Proofs.Ytdpniggabidmbaa
