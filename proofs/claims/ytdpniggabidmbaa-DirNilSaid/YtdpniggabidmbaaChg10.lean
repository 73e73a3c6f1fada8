/-
  What is proved: worlds that differ in given blocks alone, and in new ones. No condition on a program.
-/
import Derived.Test.YtdpniggabidmbaaBase
namespace Go.Proofs.Ytdpniggabidmbaa
open Go.RowKit

/-- w' is w but for the blocks F, which have become G, and new ones -/
structure Chg (w w' : World) (F G : Nat → Prop) : Prop where
  os : w'.os = w.os
  tape : w'.tape = w.tape
  output : w'.output = w.output
  size : w.heap.size ≤ w'.heap.size
  block : ∀ j, j < w.heap.size → ¬ F j → w'.heap[j]? = w.heap[j]?
  foot : ∀ j, G j → F j ∨ (w.heap.size ≤ j ∧ j < w'.heap.size)
section
variable {w w' w'' : World} {F G H : Nat → Prop}
theorem Chg.refl (w : World) (F : Nat → Prop) : Chg w w F F := ⟨rfl, rfl, rfl, Nat.le_refl _, fun _ _ _ => rfl, fun _ h => .inl h⟩
theorem Chg.trans (h : Chg w w' F G) (k : Chg w' w'' G H) : Chg w w'' F H := by
  refine ⟨k.os.trans h.os, k.tape.trans h.tape, k.output.trans h.output, Nat.le_trans h.size k.size, fun j h1 h2 => (k.block j (Nat.lt_of_lt_of_le h1 h.size) fun hg => ?_).trans (h.block j h1 h2), fun j hj => ?_⟩
  · rcases h.foot j hg with hf | hf
    · exact h2 hf
    · omega
  · rcases k.foot j hj with hg | hg
    · rcases h.foot j hg with hf | hf
      · exact .inl hf
      · right; have := k.size; omega
    · right; have := h.size; omega
theorem Chg.of (h : Below w.heap.size w w') (F : Nat → Prop) : Chg w w' F F := ⟨h.os, h.tape, h.output, h.size, fun j h1 _ => h.block j h1, fun _ h => .inl h⟩
theorem Chg.bel {B : Nat} (h : Chg w w' F G) (hB : B ≤ w.heap.size) (hF : ∀ j, F j → B ≤ j) : Below B w w' := ⟨h.os, h.tape, h.output, h.size, fun j hj => h.block j (by omega) fun hf => by have := hF j hf; omega⟩
theorem Chg.cell (h : Chg w w' F G) {p : Addr} (hp : p.block < w.heap.size) (hf : ¬ F p.block) : w'.cell? p = w.cell? p := World.cell?_of_block (h.block _ hp hf)
theorem Chg.bx (h : Chg w w' F G) {g : Nat} {t : TypeId} {cs : Array Value} (hx : Bx w g t cs) (hf : ¬ F g) : Bx w' g t cs := (h.block g hx.lt hf).trans hx
theorem Chg.rv (h : Chg w w' F G) {A : Option Addr} {us : List Value} (hr : Rv w w.heap.size A us) (hf : ∀ ad, A = some ad → ¬ F ad.block) : Rv w' w'.heap.size A us := fun j u hu => by
  obtain ⟨ad, e, hb, hc⟩ := hr j u hu
  exact ⟨ad, e, Nat.lt_of_lt_of_le hb h.size, (h.cell (p := ad.add j) (by rw [addBlk]; exact hb) (by rw [addBlk]; exact hf ad e)).trans hc⟩
theorem Chg.ofDrew (h : Chg w.drew w' F G) : Chg w w' F G := ⟨h.os, h.tape, h.output, h.size, h.block, h.foot⟩
theorem Chg.draws (h : Chg w w' F G) (n : Nat) : Chg w (w'.drewN n) F G := ⟨h.os, h.tape, h.output, h.size, h.block, h.foot⟩
end
end Go.Proofs.Ytdpniggabidmbaa
