/-
  What is proved: an order in memory (an LRU, an MQ, a parted cache behind an interface): what its methods do, as the lists of Po16 tell it. Condition: an MQ was used at most 10000000 times.
-/
import Derived.Test.YtmfdlkkligjcbaaGreatJ24
import Derived.Test.YtmfdlkkligjcbaaGreatRows
import Derived.Test.YtmfdlkkligjcbaaGreatJ12
import Derived.Deep.QuietTactic
import Derived.BigQuiet
import Derived.Test.YtmfdlkkligjcbaaGreatJ19
import Derived.Test.YtmfdlkkligjcbaaGreatJ04
import Derived.Deep.MidRow
namespace Go.Proofs.YtmfdlkkligjcbaaGreat
open Go.RowKit

theorem dec_eq (p : Prop) [Decidable p] : decide p = dec p := by
  by_cases h : p
  · rw [dec_true h, decide_eq_true h]
  · rw [dec_false h, decide_eq_false h]
namespace Ob
/-- how often it was used, of an MQ -/
def tm : Ob → Nat
  | mq _ _ _ _ m => m.t
  | _ => 0
end Ob
/-- an order's value and what it lies on: F the blocks that are its own -/
def Om (w : World) (F : Nat → Prop) (v : Value) : Ob → Prop
  | .lru C L => ∃ g k, v = .iface 111 (.pointer (some ⟨g, 0, none⟩)) ∧ Lq w g k C L ∧ F g ∧ F k
  | .mq C N L H m => ∃ g k, v = .iface 106 (.pointer (some ⟨g, 0, none⟩)) ∧ Mq w g k C N L H m ∧ F g ∧ F k
  | .prt rg pt lp n S => ∃ w0 g k q T, v = .iface 103 (.pointer (some ⟨g, 0, none⟩)) ∧ Pt w0 w g k q T rg pt lp n S ∧ F g ∧ F k ∧ ∀ j, q ≤ j → j < w0.heap.size → F j
variable {w w' : World} {F G : Nat → Prop} {v : Value} {o : Ob} {K : Nat}
theorem Om.below (h : Om w F v o) (hb : Below w.heap.size w w') : Om w' F v o := by
  cases o with
  | lru C L => obtain ⟨g, k, e, h1, h2⟩ := h; exact ⟨g, k, e, h1.below hb, h2⟩
  | mq C N L H m => obtain ⟨g, k, e, h1, h2⟩ := h; exact ⟨g, k, e, h1.below hb, h2⟩
  | prt rg pt lp n S => obtain ⟨w0, g, k, q, T, e, h1, h2⟩ := h; exact ⟨w0, g, k, q, T, e, h1.below hb, h2⟩
/-- a plan stands where nothing from its block on changes -/
theorem Pn.off {w w' : World} {q T n : Nat} {rg : Int → Option Nat} {pt : Nat → Nat} {lp : Nat → Bool} (h : Pn w q T rg pt lp n) (hs : w.heap.size ≤ w'.heap.size) (hb : ∀ j, q ≤ j → j < w.heap.size → w'.heap[j]? = w.heap[j]?) : Pn w' q T rg pt lp n := by
  obtain ⟨⟨b, x, hh, A, c, B, d, h1, h2⟩, h3, h4⟩ := h
  have rv : ∀ {A : Option Addr} {us : List Value}, Rv w w.heap.size A us → (∀ ad, A = some ad → q ≤ ad.block) → Rv w' w'.heap.size A us := fun hr hf j u hu => by
    obtain ⟨ad, e, hb1, hc⟩ := hr j u hu
    have hq := hf ad e
    refine ⟨ad, e, Nat.lt_of_lt_of_le hb1 hs, ?_⟩
    rw [World.cell?_of_block (a := ad.add j) (hb _ (by rw [addBlock]; exact hq) (by rw [addBlock]; exact hb1))]
    exact hc
  exact ⟨⟨b, x, hh, A, c, B, d, ⟨(hb q (Nat.le_refl q) h1.bx.lt).trans h1.bx, rv h1.hr h1.fa, rv h1.pr h1.fb, h1.ok, h1.od, h1.nb, h1.fa, h1.fb⟩, h2⟩, h3, h4⟩
/-- a parted cache stands where nothing of its own changes -/
theorem Pt.off {w0 w w' : World} {g k q T n : Nat} {rg : Int → Option Nat} {pt : Nat → Nat} {lp : Nat → Bool} {S : List (List Int)} (h : Pt w0 w g k q T rg pt lp n S) (hs : w.heap.size ≤ w'.heap.size) (hb : ∀ j, q ≤ j → j < w0.heap.size → w'.heap[j]? = w.heap[j]?) (hg : w'.heap[g]? = w.heap[g]?) (hk : w'.heap[k]? = w.heap[k]?) :
    ∃ w1, w1.heap.size = w0.heap.size ∧ Pt w1 w' g k q T rg pt lp n S := by
  have h0 := h.bel.size
  have e1 : (w'.heap.extract 0 w0.heap.size).size = w0.heap.size := by rw [Array.size_extract]; omega
  have e2 : ∀ j, j < w0.heap.size → (w'.heap.extract 0 w0.heap.size)[j]? = w'.heap[j]? := fun j hj => by
    rw [Array.getElem?_extract]
    simp
    omega
  refine ⟨{ w' with heap := w'.heap.extract 0 w0.heap.size }, e1, h.pn.off (by show w0.heap.size ≤ (w'.heap.extract 0 w0.heap.size).size; omega) fun j h1 h2 => ?_, ⟨rfl, rfl, rfl, ?_, ?_⟩, hg.trans h.box, ?_, h.ok, h.ne, ?_, ?_⟩
  · show (w'.heap.extract 0 w0.heap.size)[j]? = _
    rw [e2 j h2, hb j h1 h2]
    exact h.bel.block j h2
  · show (w'.heap.extract 0 w0.heap.size).size ≤ _
    omega
  · intro j hj
    have hj' : j < (w'.heap.extract 0 w0.heap.size).size := hj
    exact (e2 j (by omega)).symm
  · obtain ⟨a, b, c, h1, h2⟩ := h.sq
    exact ⟨a, b, c, hk.trans h1, h2⟩
  · have := h.hg
    show (w'.heap.extract 0 w0.heap.size).size ≤ g
    omega
  · have := h.hk
    show (w'.heap.extract 0 w0.heap.size).size ≤ k
    omega
/-- an order stands where nothing of its own changes -/
theorem Om.chg {X Y : Nat → Prop} (h : Om w F v o) (hc : Chg w w' X Y) (hF : ∀ j, F j → ¬ X j) : Om w' F v o := by
  cases o with
  | lru C L =>
    obtain ⟨g, k, e, h1, h2, h3⟩ := h
    exact ⟨g, k, e, ⟨hc.bx h1.box (hF g h2), h1.sq.same (hc.block k h1.sq.lt (hF k h3)), h1.ne, h1.cap⟩, h2, h3⟩
  | mq C N L H m =>
    obtain ⟨g, k, e, h1, h2, h3⟩ := h
    exact ⟨g, k, e, h1.chg hc (hF g h2) (hF k h3), h2, h3⟩
  | prt rg pt lp n S =>
    obtain ⟨w0, g, k, q, T, e, h1, h2, h3, h4⟩ := h
    have hs := h1.bel.size
    obtain ⟨w1, e1, h5⟩ := h1.off hc.size (fun j h6 h7 => hc.block j (by omega) (hF j (h4 j h6 h7))) (hc.block g h1.box.lt (hF g h2)) (hc.block k h1.sq.lt (hF k h3))
    exact ⟨w1, g, k, q, T, e, h5, h2, h3, fun j h6 h7 => h4 j h6 (by omega)⟩
theorem Chg.wide {X Y X' : Nat → Prop} (h : Chg w w' X Y) (hX : ∀ j, X j → X' j) : Chg w w' X' X' := ⟨h.os, h.tape, h.output, h.size, fun j h1 h2 => h.block j h1 fun h3 => h2 (hX j h3), fun _ h => .inl h⟩
/-- an order becomes another one, and tells r -/
def OmQ (w : World) (F : Nat → Prop) (v : Value) (o' : Ob) (r : Value) (e : Ending) (w' : World) : Prop := e = .returned r ∧ Om w' F v o' ∧ Chg w w' F F
theorem prt_in {w0 : World} {g k q T n : Nat} {rg : Int → Option Nat} {pt : Nat → Nat} {lp : Nat → Bool} {S : List (List Int)} (h : Pt w0 w g k q T rg pt lp n S) (b : Int) : dec (inS S b) = dec (b ∈ allp S n) := by
  congr 1
  exact propext (allp_in h.ok (fun z i hz => h.pn.rl hz) b).symm
section
variable {C N L H n : Nat} {Ls : List Int} {m : Ms} {rg : Int → Option Nat} {pt : Nat → Nat} {lp : Nat → Bool} {S : List (List Int)}
theorem oml_use (h : Om w F v (.lru C Ls)) (b : Int) : ∃ g, v = .iface 111 (.pointer (some ⟨g, 0, none⟩)) ∧ Calls Tryz.prog 172 #[.pointer (some ⟨g, 0, none⟩), .int .i64 b] w (OmQ w F v ((Ob.lru C Ls).use b) (.bool (dec (b ∈ (Ob.lru C Ls).all)))) := by
  obtain ⟨g, k, rfl, h1, h2, h3⟩ := h
  exact ⟨_, rfl, (lru_use h1 b).mono fun e w' ⟨he, h4, h5⟩ => ⟨he, ⟨g, k, rfl, h4, h2, h3⟩, h5.wide fun j e => e ▸ h3⟩⟩
theorem oml_rem (h : Om w F v (.lru C Ls)) (b : Int) : ∃ g, v = .iface 111 (.pointer (some ⟨g, 0, none⟩)) ∧ Calls Tryz.prog 171 #[.pointer (some ⟨g, 0, none⟩), .int .i64 b] w (OmQ w F v ((Ob.lru C Ls).rem b) (.bool (dec (b ∈ (Ob.lru C Ls).all)))) := by
  obtain ⟨g, k, rfl, h1, h2, h3⟩ := h
  exact ⟨_, rfl, (lru_remove h1 b).mono fun e w' ⟨he, h4, h5⟩ => ⟨he, ⟨g, k, rfl, h4, h2, h3⟩, h5.wide fun j e => e ▸ h3⟩⟩
theorem oml_add (h : Om w F v (.lru C Ls)) {b : Int} (ht : (Ob.lru C Ls).tk b) : ∃ g, v = .iface 111 (.pointer (some ⟨g, 0, none⟩)) ∧ Calls Tryz.prog 167 #[.pointer (some ⟨g, 0, none⟩), .int .i64 b] w (OmQ w F v ((Ob.lru C Ls).add b) (.tuple #[.int .i64 ((Ob.lru C Ls).vi b), .bool ((Ob.lru C Ls).gn b), .int .i64 0])) := by
  obtain ⟨g, k, rfl, h1, h2, h3⟩ := h
  have ht' : vb b := ht
  have e0 : addE b = 0 := if_pos ht'
  exact ⟨_, rfl, (lru_add h1 b).mono fun e w' ⟨he, h4, h5⟩ => ⟨by rw [he, e0]; rfl, ⟨g, k, rfl, h4, h2, h3⟩, h5.wide fun j e => e ▸ h3⟩⟩
theorem oml_has (h : Om w F v (.lru C Ls)) (b : Int) : ∃ g, v = .iface 111 (.pointer (some ⟨g, 0, none⟩)) ∧ Calls Tryz.prog 169 #[.pointer (some ⟨g, 0, none⟩), .int .i64 b] w fun e w' => e = .returned (.bool (dec (b ∈ (Ob.lru C Ls).all))) ∧ w = w' := by
  obtain ⟨g, k, rfl, h1, h2, h3⟩ := h
  exact ⟨_, rfl, lru_has h1 b⟩
theorem oml_all (h : Om w F v (.lru C Ls)) : ∃ g, v = .iface 111 (.pointer (some ⟨g, 0, none⟩)) ∧ Calls Tryz.prog 168 #[.pointer (some ⟨g, 0, none⟩)] w (Told w (Ob.lru C Ls).all) := by
  obtain ⟨g, k, rfl, h1, h2, h3⟩ := h
  exact ⟨_, rfl, lru_all h1⟩
theorem oml_len (h : Om w F v (.lru C Ls)) : ∃ g, v = .iface 111 (.pointer (some ⟨g, 0, none⟩)) ∧ Calls Tryz.prog 170 #[.pointer (some ⟨g, 0, none⟩)] w fun e w' => e = .returned (.int .i64 (Ob.lru C Ls).all.length) ∧ Below w.heap.size w w' := by
  obtain ⟨g, k, rfl, h1, h2, h3⟩ := h
  exact ⟨_, rfl, lru_len h1⟩
theorem omm_use (h : Om w F v (.mq C N L H m)) (ok : (Ob.mq C N L H m).Ok K) (ht : (Ob.mq C N L H m).tm ≤ 10000000) (b : Int) : ∃ g, v = .iface 106 (.pointer (some ⟨g, 0, none⟩)) ∧ Calls Tryz.prog 155 #[.pointer (some ⟨g, 0, none⟩), .int .i64 b] w (OmQ w F v ((Ob.mq C N L H m).use b) (.bool (dec (b ∈ (Ob.mq C N L H m).all)))) := by
  obtain ⟨g, k, rfl, h1, h2, h3⟩ := h
  exact ⟨_, rfl, (mq_Use h1 ok.2.1 ht b).mono fun e w' ⟨he, h4, h5⟩ => ⟨by rw [he, dec_eq]; rfl, ⟨g, k, rfl, h4, h2, h3⟩, h5.wide fun j e => e.elim (fun e => e ▸ h2) (fun e => e ▸ h3)⟩⟩
theorem omm_rem (h : Om w F v (.mq C N L H m)) (ok : (Ob.mq C N L H m).Ok K) (b : Int) : ∃ g, v = .iface 106 (.pointer (some ⟨g, 0, none⟩)) ∧ Calls Tryz.prog 154 #[.pointer (some ⟨g, 0, none⟩), .int .i64 b] w (OmQ w F v ((Ob.mq C N L H m).rem b) (.bool (dec (b ∈ (Ob.mq C N L H m).all)))) := by
  obtain ⟨g, k, rfl, h1, h2, h3⟩ := h
  exact ⟨_, rfl, (mq_remove h1 ok.2.1 b).mono fun e w' ⟨he, h4, h5⟩ => ⟨by rw [he, dec_eq]; rfl, ⟨g, k, rfl, h4, h2, h3⟩, h5.wide fun j e => e.elim (fun e => e ▸ h2) (fun e => e ▸ h3)⟩⟩
theorem omm_add (h : Om w F v (.mq C N L H m)) (ok : (Ob.mq C N L H m).Ok K) (ht : (Ob.mq C N L H m).tm ≤ 10000000) {b : Int} (hb : (Ob.mq C N L H m).tk b) : ∃ g, v = .iface 106 (.pointer (some ⟨g, 0, none⟩)) ∧ Calls Tryz.prog 150 #[.pointer (some ⟨g, 0, none⟩), .int .i64 b] w (OmQ w F v ((Ob.mq C N L H m).add b) (.tuple #[.int .i64 ((Ob.mq C N L H m).vi b), .bool ((Ob.mq C N L H m).gn b), .int .i64 0])) := by
  obtain ⟨g, k, rfl, h1, h2, h3⟩ := h
  have hb' : vb b := hb
  have e0 : Ms.adE b = 0 := if_pos hb'
  exact ⟨_, rfl, (mq_add h1 ok.2.1 ok.2.2 ht b).mono fun e w' ⟨he, h4, h5⟩ => ⟨by rw [he, e0]; rfl, ⟨g, k, rfl, h4, h2, h3⟩, h5.wide fun j e => e.elim (fun e => e ▸ h2) (fun e => e ▸ h3)⟩⟩
theorem omm_has (h : Om w F v (.mq C N L H m)) (ok : (Ob.mq C N L H m).Ok K) (b : Int) : ∃ g, v = .iface 106 (.pointer (some ⟨g, 0, none⟩)) ∧ Calls Tryz.prog 152 #[.pointer (some ⟨g, 0, none⟩), .int .i64 b] w fun e w' => e = .returned (.bool (dec (b ∈ (Ob.mq C N L H m).all))) ∧ w = w' := by
  obtain ⟨g, k, rfl, h1, h2, h3⟩ := h
  exact ⟨_, rfl, (mq_has h1 ok.2.1 b).mono fun e w' ⟨he, h4⟩ => ⟨by rw [he, dec_eq]; rfl, h4⟩⟩
theorem omm_all (h : Om w F v (.mq C N L H m)) (ok : (Ob.mq C N L H m).Ok K) : ∃ g, v = .iface 106 (.pointer (some ⟨g, 0, none⟩)) ∧ Calls Tryz.prog 151 #[.pointer (some ⟨g, 0, none⟩)] w (Told w (Ob.mq C N L H m).all) := by
  obtain ⟨g, k, rfl, h1, h2, h3⟩ := h
  exact ⟨_, rfl, mq_all h1 ok.2.1⟩
theorem omm_len (h : Om w F v (.mq C N L H m)) (ok : (Ob.mq C N L H m).Ok K) : ∃ g, v = .iface 106 (.pointer (some ⟨g, 0, none⟩)) ∧ Calls Tryz.prog 153 #[.pointer (some ⟨g, 0, none⟩)] w fun e w' => e = .returned (.int .i64 (Ob.mq C N L H m).all.length) ∧ Below w.heap.size w w' := by
  obtain ⟨g, k, rfl, h1, h2, h3⟩ := h
  exact ⟨_, rfl, mq_len h1 ok.2.1⟩
theorem omp_use (h : Om w F v (.prt rg pt lp n S)) (b : Int) : ∃ g, v = .iface 103 (.pointer (some ⟨g, 0, none⟩)) ∧ Calls Tryz.prog 134 #[.pointer (some ⟨g, 0, none⟩), .int .i64 b] w (OmQ w F v ((Ob.prt rg pt lp n S).use b) (.bool (dec (b ∈ (Ob.prt rg pt lp n S).all)))) := by
  obtain ⟨w0, g, k, q, T, rfl, h1, h2, h3⟩ := h
  exact ⟨_, rfl, (pt_use h1 b).mono fun e w' ⟨he, h4, h5⟩ => ⟨by rw [he, prt_in h1]; rfl, ⟨w0, g, k, q, T, rfl, h4, h2, h3⟩, h5.wide fun j e => e ▸ h3.1⟩⟩
theorem omp_rem (h : Om w F v (.prt rg pt lp n S)) (b : Int) : ∃ g, v = .iface 103 (.pointer (some ⟨g, 0, none⟩)) ∧ Calls Tryz.prog 133 #[.pointer (some ⟨g, 0, none⟩), .int .i64 b] w (OmQ w F v ((Ob.prt rg pt lp n S).rem b) (.bool (dec (b ∈ (Ob.prt rg pt lp n S).all)))) := by
  obtain ⟨w0, g, k, q, T, rfl, h1, h2, h3⟩ := h
  exact ⟨_, rfl, (pt_remove h1 b).mono fun e w' ⟨he, h4, h5⟩ => ⟨by rw [he, prt_in h1]; rfl, ⟨w0, g, k, q, T, rfl, h4, h2, h3⟩, h5.wide fun j e => e ▸ h3.1⟩⟩
theorem omp_add (h : Om w F v (.prt rg pt lp n S)) {b : Int} (hb : (Ob.prt rg pt lp n S).tk b) : ∃ g, v = .iface 103 (.pointer (some ⟨g, 0, none⟩)) ∧ Calls Tryz.prog 129 #[.pointer (some ⟨g, 0, none⟩), .int .i64 b] w (OmQ w F v ((Ob.prt rg pt lp n S).add b) (.tuple #[.int .i64 ((Ob.prt rg pt lp n S).vi b), .bool ((Ob.prt rg pt lp n S).gn b), .int .i64 0])) := by
  obtain ⟨w0, g, k, q, T, rfl, h1, h2, h3⟩ := h
  have hb' : 0 < ptO pt (rg b) := hb
  have e0 : adE pt (rg b) = 0 := if_neg (by omega)
  exact ⟨_, rfl, (pt_add h1 b).mono fun e w' ⟨he, h4, h5⟩ => ⟨by rw [he, e0]; rfl, ⟨w0, g, k, q, T, rfl, h4, h2, h3⟩, h5.wide fun j e => e ▸ h3.1⟩⟩
theorem omp_has (h : Om w F v (.prt rg pt lp n S)) (b : Int) : ∃ g, v = .iface 103 (.pointer (some ⟨g, 0, none⟩)) ∧ Calls Tryz.prog 131 #[.pointer (some ⟨g, 0, none⟩), .int .i64 b] w fun e w' => e = .returned (.bool (dec (b ∈ (Ob.prt rg pt lp n S).all))) ∧ w = w' := by
  obtain ⟨w0, g, k, q, T, rfl, h1, h2, h3⟩ := h
  exact ⟨_, rfl, (pt_has h1 b).mono fun e w' ⟨he, h4⟩ => ⟨by rw [he, prt_in h1]; rfl, h4⟩⟩
theorem omp_takes (h : Om w F v (.prt rg pt lp n S)) (b : Int) : ∃ g, v = .iface 103 (.pointer (some ⟨g, 0, none⟩)) ∧ Calls Tryz.prog 63 #[.pointer (some ⟨g, 0, none⟩), .int .i64 b] w fun e w' => e = .returned (.bool (decide (0 < ptO pt (rg b)))) ∧ Below w.heap.size w w' := by
  obtain ⟨w0, g, k, q, T, rfl, h1, h2, h3⟩ := h
  exact ⟨_, rfl, pt_takes h1 b⟩
theorem omp_all (h : Om w F v (.prt rg pt lp n S)) : ∃ g, v = .iface 103 (.pointer (some ⟨g, 0, none⟩)) ∧ Calls Tryz.prog 130 #[.pointer (some ⟨g, 0, none⟩)] w (Told w (Ob.prt rg pt lp n S).all) := by
  obtain ⟨w0, g, k, q, T, rfl, h1, h2, h3⟩ := h
  exact ⟨_, rfl, pt_all h1⟩
theorem omp_len (h : Om w F v (.prt rg pt lp n S)) : ∃ g, v = .iface 103 (.pointer (some ⟨g, 0, none⟩)) ∧ Calls Tryz.prog 132 #[.pointer (some ⟨g, 0, none⟩)] w fun e w' => e = .returned (.int .i64 (Ob.prt rg pt lp n S).all.length) ∧ Below w.heap.size w w' := by
  obtain ⟨w0, g, k, q, T, rfl, h1, h2, h3⟩ := h
  exact ⟨_, rfl, pt_len h1⟩
end
namespace Ob
theorem tm_use : ∀ {o : Ob}, o.Ok K → ∀ b, (o.use b).tm ≤ o.tm + 1
  | lru _ _, _, _ => Nat.zero_le _
  | mq _ _ _ _ _, h, b => (h.2.1.useM b).2
  | prt _ _ _ _ _, _, _ => Nat.zero_le _
theorem tm_add : ∀ {o : Ob}, o.Ok K → ∀ b, (o.add b).tm ≤ o.tm + 1
  | lru _ _, _, _ => Nat.zero_le _
  | mq _ _ _ _ _, h, b => (h.2.1.adM h.2.2 b).2
  | prt _ _ _ _ _, _, _ => Nat.zero_le _
theorem tm_rem : ∀ {o : Ob}, o.Ok K → ∀ b, (o.rem b).tm ≤ o.tm + 1
  | lru _ _, _, _ => Nat.zero_le _
  | mq C N L H m, h, b => by
    show (m.remM b).t ≤ m.t + 1
    unfold Ms.remM
    split
    · exact Nat.le_succ _
    · exact Nat.le_succ _
  | prt _ _ _ _ _, _, _ => Nat.zero_le _
end Ob
end Go.Proofs.YtmfdlkkligjcbaaGreat
namespace Go.Proofs.YtmfdlkkligjcbaaGreat
open Go.RowKit

set_option maxHeartbeats 400000 in
theorem same_yes (A B : Option Addr) (n m ca cb : Nat) (l : List Int) (w : World) (C D : Nat) (hn : l.length = n) (hm : l.length = m) (hlen : n ≤ maxLen) (ra : Rd w C A l) (rb : Rd w D B l) :
    Calls Tryz.prog 25 #[.slice A n ca, .slice B m cb] w fun e w' => e = .returned (.bool true) ∧ ∃ k, w' = w.drewN k := by
  subst hn
  subst hm
  unfold maxLen at hlen
  go_enter Tryz.func25, Tryz.ntmps25
  go_wp2
  go_loopw [5] (fun i wr => ∃ k d : Nat, k ≤ l.length ∧ i = .int .i64 k ∧ wr = w.drewN d) (fun i _ => l.length - (intOf i).toNat)
  case atStart => exact ⟨0, 0, Nat.zero_le _, rfl, rfl⟩
  case round =>
    obtain ⟨k, d, hk, rfl, rfl⟩ := hrel
    by_cases hlt : k < l.length
    · obtain ⟨a, rfl, _, hca⟩ := ra.get hlt
      obtain ⟨b, rfl, _, hcb⟩ := rb.get hlt
      go_wp2
      go_quiet (fail)
      go_wp2
      go_roundw
      case rel => exact ⟨k + 1, _, by omega, by go_num, rfl⟩
      case measure => simp [intOf]; omega
    · go_wp2
      go_ret
      exact ⟨rfl, _, rfl⟩
end Go.Proofs.YtmfdlkkligjcbaaGreat
namespace Go.Proofs.YtmfdlkkligjcbaaGreat
open Go.RowKit

theorem infoU8 : (Tryz.prog.info? 5).map (fun i => (i.zero, i.size, i.bytes)) = some (some (.int .u8 0), 1, 1) := by kernel_rfl
theorem elt_u8 : Elt Tryz.prog 36 5 (.int .u8 0) 1 1 := ⟨Tryz.underlying36, infoU8, rfl, by decide⟩
theorem rv_rd {w : World} {B : Nat} {A : Option Addr} {l : List Int} (h : Rv w B A (bytes l)) : Rd w B A l := fun j x hx => h j (.int .u8 x) (by unfold bytes; rw [List.getElem?_map, hx]; rfl)
/-- the value is a slice that reads as these bytes, off the blocks X -/
def By (w : World) (X : Nat → Prop) (v : Value) (l : List Int) : Prop := ∃ A c, v = .slice A l.length c ∧ Rv w w.heap.size A (bytes l) ∧ l.length ≤ c ∧ c ≤ maxLen ∧ ∀ ad, A = some ad → 0 < l.length → ad.block < w.heap.size ∧ ¬ X ad.block
section
variable {w w' : World} {X Y F G : Nat → Prop} {v : Value} {l : List Int}
theorem By.below (h : By w X v l) (hb : Below w.heap.size w w') : By w' X v l := by
  obtain ⟨A, c, e, h1, h2, h3, h4⟩ := h
  exact ⟨A, c, e, (h1.below hb (Nat.le_refl _)).more hb.size, h2, h3, fun ad ea hp => ⟨Nat.lt_of_lt_of_le (h4 ad ea hp).1 hb.size, (h4 ad ea hp).2⟩⟩
theorem By.chg (h : By w X v l) (hc : Chg w w' F G) (hF : ∀ j, F j → X j) : By w' X v l := by
  obtain ⟨A, c, e, h1, h2, h3, h4⟩ := h
  by_cases hl : 0 < l.length
  · exact ⟨A, c, e, hc.rv h1 fun ad ea hf => (h4 ad ea hl).2 (hF _ hf), h2, h3, fun ad ea hp => ⟨Nat.lt_of_lt_of_le (h4 ad ea hp).1 hc.size, (h4 ad ea hp).2⟩⟩
  · obtain rfl : l = [] := List.length_eq_zero_iff.1 (by omega)
    exact ⟨A, c, e, Rv.nil _ _ _, h2, h3, fun ad ea hp => absurd hp hl⟩
theorem By.less (h : By w X v l) (hY : ∀ j, Y j → X j) : By w Y v l := by
  obtain ⟨A, c, e, h1, h2, h3, h4⟩ := h
  exact ⟨A, c, e, h1, h2, h3, fun ad ea hp => ⟨(h4 ad ea hp).1, fun hy => (h4 ad ea hp).2 (hY _ hy)⟩⟩
theorem By.more (h : By w X v l) (hY : ∀ j, Y j → X j ∨ w.heap.size ≤ j) : By w Y v l := by
  obtain ⟨A, c, e, h1, h2, h3, h4⟩ := h
  exact ⟨A, c, e, h1, h2, h3, fun ad ea hp => ⟨(h4 ad ea hp).1, fun hy => (hY _ hy).elim (h4 ad ea hp).2 fun h5 => by have := (h4 ad ea hp).1; omega⟩⟩
end
/-- a copy: new memory -/
def CpQ (w : World) (l : List Int) (e : Ending) (w' : World) : Prop :=
  ∃ A c, e = .returned (.slice A l.length c) ∧ Rv w' w'.heap.size A (bytes l) ∧ l.length ≤ c ∧ c ≤ maxLen ∧ (∀ ad, A = some ad → w.heap.size ≤ ad.block ∧ ad.block < w'.heap.size) ∧ Below w.heap.size w w'
theorem CpQ.by_ {w w' : World} {l : List Int} {e : Ending} (h : CpQ w l e w') (X : Nat → Prop) (hX : ∀ j, X j → j < w.heap.size) : ∃ v, e = .returned v ∧ By w' X v l ∧ Below w.heap.size w w' := by
  obtain ⟨A, c, he, h1, h2, h3, h4, h5⟩ := h
  exact ⟨_, he, ⟨A, c, rfl, h1, h2, h3, fun ad ea _ => ⟨(h4 ad ea).2, fun hx => by have := hX _ hx; have := (h4 ad ea).1; omega⟩⟩, h5⟩
theorem own_by {w w' : World} {b n : Nat} {v : Value} {l : List Int} (h : OwnV w' b 5 1 v n (bytes l)) (hn : l.length = n) (hb : w.heap.size ≤ b) : ∃ A c, v = .slice A l.length c ∧ Rv w' w'.heap.size A (bytes l) ∧ l.length ≤ c ∧ c ≤ maxLen ∧ ∀ ad, A = some ad → w.heap.size ≤ ad.block ∧ ad.block < w'.heap.size := by
  subst hn
  obtain ⟨A, c, e, hr, h1, h2⟩ := OwnV.read h
  exact ⟨A, c, e, hr, h1, h2, fun ad ea => by
    have := World.ownsRow.lt h ad.block (by rw [e, ea]; rfl)
    exact ⟨Nat.le_trans hb this.1, this.2⟩⟩
set_option maxHeartbeats 400000 in
theorem clone_bytes (A : Option Addr) (n c : Nat) (l : List Int) (w : World) (hl : l.length = n) (hn : n ≤ 1000) (hr : Rv w w.heap.size A (bytes l)) :
    Calls Tryz.prog 50 #[.slice A n c] w (CpQ w l) := by
  cases A with
  | none =>
    have h0 := rv_none hr
    obtain rfl : l = [] := by unfold bytes at h0; simpa using h0
    clear h0 hr
    have hnil := fun w => eql_nil (P := Tryz.prog) 36 _ none n c Tryz.underlying36 w
    rw [show (none : Option Addr).isNone = true from rfl] at hnil
    go_enter Tryz.func50, Tryz.ntmps50
    go_wp2
    go_ret
    exact ⟨none, 0, rfl, Rv.nil _ _ _, Nat.le_refl _, by unfold maxLen; omega, (fun ad e => by cases e), Below.refl _ _⟩
  | some a =>
    have HR := hid hr
    have HL := hid hl
    clear hr
    have O := World.ownsRow_lit (size := 1) (e := 5) (base := w.heap.size) w #[] 0 (Nat.le_refl _) (by unfold maxLen; omega) rfl
    have HO := hid O
    clear O
    have hnil := fun w => eql_nil (P := Tryz.prog) 36 _ (some a) n c Tryz.underlying36 w
    rw [show (some a).isNone = false from rfl] at hnil
    have hbl : (bytes l).length = n := by unfold bytes; rw [List.length_map]; exact hl
    have HBL := hid hbl
    clear hbl hl
    go_enter Tryz.func50, Tryz.ntmps50
    go_wp2_with (at_builtin; refine wpList_appV elt_u8 rfl _ _ rfl w.heap.size _ 0 [] HO.out rfl _ _ n c (bytes l) rfl (by have := HBL.out; omega) (HR.out.below (below_alloc w _) (Nat.le_refl _)) (bytes_one l) (by unfold maxLen; omega) (by omega) (by rw [World.size_alloc]; omega) ?_; intro v' w2 hown2 hg2)
    have hb2 : Below w.heap.size w w2 := (below_alloc w _).trans (hg2.below HO.out (by rw [World.size_alloc]; omega))
    rw [List.nil_append, Nat.zero_add] at hown2
    obtain ⟨A', c', rfl, hr', h1, h2, hge⟩ := own_by (w := w) hown2 HL.out (Nat.le_refl _)
    have HF := hid (And.intro hr' (And.intro h1 (And.intro h2 (And.intro hge hb2))))
    clear hown2 hg2 hb2 hr' hge h1 h2
    go_wp2
    go_ret
    exact ⟨A', c', rfl, HF.out.1, HF.out.2.1, HF.out.2.2.1, HF.out.2.2.2.1, HF.out.2.2.2.2⟩
/-- two that hold the same bytes are alike -/
theorem same_by {w : World} {X Y : Nat → Prop} {u v : Value} {l : List Int} (hu : By w X u l) (hv : By w Y v l) :
    Calls Tryz.prog 25 #[u, v] w fun e w' => e = .returned (.bool true) ∧ ∃ k, w' = w.drewN k := by
  obtain ⟨A, c, rfl, h1, h2, h3, -⟩ := hu
  obtain ⟨B, d, rfl, h4, h5, h6, -⟩ := hv
  exact same_yes A B _ _ c d l w _ _ rfl rfl (by omega) (rv_rd h1) (rv_rd h4)
/-- nothing at all, twice -/
theorem same_nil (w : World) : Calls Tryz.prog 25 #[.slice none 0 0, .slice none 0 0] w fun e w' => e = .returned (.bool true) ∧ ∃ k, w' = w.drewN k :=
  same_yes none none 0 0 0 0 [] w 0 0 rfl rfl (by unfold maxLen; omega) (Rd.nil _ _ _) (Rd.nil _ _ _)
end Go.Proofs.YtmfdlkkligjcbaaGreat
