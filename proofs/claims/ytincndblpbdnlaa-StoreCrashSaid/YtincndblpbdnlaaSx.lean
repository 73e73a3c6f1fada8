/-
  What is proved: what a store in memory is; a reader of a sector. Condition: the store lies in memory as one of a shape that may be, over a disk of enough sectors.
-/
import Derived.Test.YtincndblpbdnlaaFill
import Derived.Test.YtincndblpbdnlaaShp
import Derived.Test.YtincndblpbdnlaaDIo
import Derived.Test.YtincndblpbdnlaaEnd
import Derived.Laws.ResultCell
namespace Go.Proofs.Ytincndblpbdnlaa
open Go.RowKit

theorem run_loadVar_int (w : World) {a : Addr} {x : Value} (hc : w.cell? a = some x) : (loadVar 3 a).run Try.prog w = .ok x w := by
  have hu := Try.underlying3
  simp [go_sem, loadVar, isAgg, hc]
/-- results of which the first lies in a variable -/
theorem results_ci {fn : Func} {p u : Tmp} (h : fn.results = #[.cell p 3, .tmp u]) (tmps : Array Value) {w : World} {a : Addr} {x : Value} (hs : tmps.getD p undef = .pointer (some a)) (hc : w.cell? a = some x) :
    (results fn tmps).run Try.prog w = .ok (.tuple #[x, tmps.getD u undef]) w := by
  rw [results_cell_tmp h, hs]
  simp [asAddr, run_loadVar_int w hc]
/-- results of which the first two lie in variables -/
theorem results_cci {fn : Func} {p q u : Tmp} (h : fn.results = #[.cell p 3, .cell q 3, .tmp u]) (tmps : Array Value) {w : World} {a b : Addr} {x y : Value} (hs : tmps.getD p undef = .pointer (some a)) (ht : tmps.getD q undef = .pointer (some b)) (hc : w.cell? a = some x) (hd : w.cell? b = some y) :
    (results fn tmps).run Try.prog w = .ok (.tuple #[x, y, tmps.getD u undef]) w := by
  rw [Array.getD_eq_getD_getElem?] at hs ht
  simp [results, h, hs, ht, asAddr, run_loadVar_int w hc, run_loadVar_int w hd]
/-- block ks is a store of that shape over the disk -/
structure Sx (w : World) (b kd ks : Nat) (v : Value) (s : St) (sh : Sh) : Prop where
  dk : Dk w 67 b kd v s
  bx : Bx w ks 73 #[.pointer (some ⟨kd, 0, none⟩), .int .i64 sh.B, .int .i64 sh.Z, .int .i64 sh.C, .int .i64 sh.S]
  ok : sh.ok
  len : sh.at_ sh.C 0 ≤ s.L.length
  by_ : ∀ l ∈ s.L, Ok1 l
theorem Sx.below {w w' : World} {b kd ks : Nat} {v : Value} {s : St} {sh : Sh} (h : Sx w b kd ks v s sh) (hb : Below w.heap.size w w') : Sx w' b kd ks v s sh :=
  ⟨h.dk.below hb, h.bx.next hb, h.ok, h.len, h.by_⟩
theorem Sx.l64 {w : World} {b kd ks : Nat} {v : Value} {s : St} {sh : Sh} (h : Sx w b kd ks v s sh) : ∀ l ∈ s.L, l.length ≤ 64 := fun l hl => (h.by_ l hl).1
theorem Bx.only {w w' : World} {k kr : Nat} {t : TypeId} {cs : Array Value} (h : Bx w k t cs) (ho : O1 w w' kr) (hk : k ≠ kr) : Bx w' k t cs :=
  (ho.block k h.lt hk (by simp [Value.ownBlock])).trans h
theorem O1.below {B : Nat} {w w' : World} {k : Nat} (h : O1 w w' k) (hk : B ≤ k) (hB : B ≤ w.heap.size) : Below B w w' := Only.bel h hk (fun g e => by simp [Value.ownBlock] at e) hB
theorem Rq.next {w w' : World} {kr : Nat} {l : List Int} {o : Option Nat} (h : Rq w kr l o) (hb : Below w.heap.size w w') : Rq w' kr l o := by
  obtain ⟨A, c, p, x, h1, r, h2⟩ := h
  exact ⟨A, c, p, x, h1.next hb, r.now hb, h2⟩
theorem Rq.lt {w : World} {kr : Nat} {l : List Int} {o : Option Nat} (h : Rq w kr l o) : kr < w.heap.size := by
  obtain ⟨A, c, p, x, h1, _⟩ := h
  exact h1.lt
/-- the places of a fill are read -/
theorem rv_places {w : World} {g : Nat} {t : TypeId} (ps : List Addr) (cs : Array Value) (hcs : cs.toList = ps.map fun p => .pointer (some p)) (h : Bx w g t cs) : Rv w w.heap.size (some ⟨g, 0, none⟩) (ps.map fun p => .pointer (some p)) := fun j u hu => by
  refine ⟨_, rfl, h.lt, ?_⟩
  have hadd : (⟨g, 0, none⟩ : Addr).add j = ⟨g, j, none⟩ := by unfold Addr.add; split <;> simp_all
  rw [hadd, h.cell, ← Array.getElem?_toList, hcs]
  exact hu
theorem below_new (w : World) (t : TypeId) (cs : Array Value) : ∃ W, w.alloc (.cells cs t) = W ∧ Bx W w.heap.size t cs ∧ Below w.heap.size w W ∧ W.heap.size = w.heap.size + 1 :=
  ⟨_, rfl, Bx.new w t cs, below_alloc w _, by rw [World.size_alloc]⟩

section
variable {w : World} {b kd ks : Nat} {v : Value} {s : St} {sh : Sh}
set_option maxHeartbeats 400000 in
theorem reader_any (h : Sx w b kd ks v s sh) (i : Nat) (l : List Int) (hl : s.L[i]? = some l) :
    Calls Try.prog 53 #[.pointer (some ⟨ks, 0, none⟩), .int .i64 i] w fun e w' => ∃ kr, e = .returned (.pointer (some ⟨kr, 0, none⟩)) ∧ w.heap.size ≤ kr ∧ Rq w' kr l (some 0) ∧ Below w.heap.size w w' := by
  have HR := hid (read_any h.dk h.l64 i)
  have c0 : w.cell? ⟨ks, 0, none⟩ = _ := h.bx.cell 0
  simp at c0
  have HL := hid hl
  have hlt : i < s.L.length := (List.getElem?_eq_some_iff.1 hl).1
  have HLT := hid hlt
  clear h hl hlt
  go_enter Try.func53, Try.ntmps53
  go_wp2_with fail
  refine HR.out.mono ?_
  rintro e w1 ⟨u, l', c, rfl, hu, hb1, h1⟩
  have h2 : c = 0 ∧ l' = l := by
    rcases h1 with ⟨h1, _⟩ | ⟨_, h1, h2⟩
    · have := HLT.out; omega
    · rw [Int.toNat_natCast, HL.out] at h1
      injection h1 with h1
      exact ⟨h2, h1.symm⟩
  obtain ⟨rfl, rfl⟩ := h2
  obtain ⟨A, cc, rfl, hr, hc1, _⟩ := hu
  have HR1 := hid hr
  have HC := hid hc1
  have HB := hid hb1
  clear h1 hr hc1 hb1
  go_wp2
  go_ret
  exact ⟨_, rfl, HB.out.size, ⟨A, cc, 0, 0, Bx.new w1 _ _, HR1.out.alloc _, HC.out, fun q hq => (by cases hq; exact ⟨rfl, rfl, Nat.zero_le _⟩), fun h => (by cases h)⟩, on HB.out (below_alloc w1 _)⟩
end
end Go.Proofs.Ytincndblpbdnlaa
