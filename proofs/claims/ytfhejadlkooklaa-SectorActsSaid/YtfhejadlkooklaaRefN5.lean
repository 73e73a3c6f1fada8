/-
  What is proved: the reference's New answers a disk of so many empty sectors. No condition.
-/
import Derived.Test.YtfhejadlkooklaaRef5
namespace Go.Proofs.Ytfhejadlkooklaa
open Go.RowKit

/-- behind p rounds: p empty sectors -/
structure Mk (w : World) (wr : World) (p : Nat) (v : Value) : Prop where
  box : Bx wr w.heap.size 39 #[v, .int .i64 (-1), .bool false]
  row : OwnV wr w.heap.size 29 1 v p (List.replicate p (.slice none 0 0))
  bel : Below w.heap.size w wr
  ne : v.ownBlock ≠ some w.heap.size
theorem Mk.alloc {w wr : World} {p : Nat} {v : Value} (h : Mk w wr p v) (o : Obj) : Mk w (wr.alloc o) p v :=
  ⟨h.box.alloc o, h.row.below (below_alloc wr o), h.bel.trans ((below_alloc wr o).mono h.bel.size), h.ne⟩
theorem Mk.dk {w wr : World} {p : Nat} {v : Value} (h : Mk w wr p v) : Dk wr 39 w.heap.size w.heap.size v ⟨List.replicate p [], -1, false⟩ where
  box := h.box
  low := Nat.le_refl _
  bnd := ⟨by show (-9223372036854775808 : Int) ≤ -1; omega, by show (-1 : Int) ≤ 9223372036854775807; omega⟩
  ne := h.ne
  row := by
    refine ⟨List.replicate p (.slice none 0 0), ?_, fun i l e => ?_⟩
    · have := h.row
      show OwnV _ _ _ _ _ (List.replicate p ([] : List Int)).length _
      rw [List.length_replicate]
      exact this
    · have e' : (List.replicate p ([] : List Int))[i]? = some l := e
      have hi : i < p := by
        have := (List.getElem?_eq_some_iff.1 e').1
        simpa using this
      rw [List.getElem?_replicate, if_pos hi] at e'
      injection e' with e'
      subst e'
      exact ⟨_, by rw [List.getElem?_replicate, if_pos hi], bs_nil _⟩
/-- one sector more -/
theorem Mk.more {w wr w2 : World} {p : Nat} {v v2 : Value} (h : Mk w wr p v) (ho : OwnV w2 w.heap.size 29 1 v2 (p + 1) (List.replicate p (.slice none 0 0) ++ [.slice none 0 0])) (hg : GrownV wr w2 v v2) :
    Bx w2 w.heap.size 39 #[v, .int .i64 (-1), .bool false] ∧ Mk w (w2.setCell ⟨w.heap.size, 0, none⟩ v2) (p + 1) v2 := by
  have hlt := h.box.lt
  have X : Bx w2 w.heap.size 39 #[v, .int .i64 (-1), .bool false] := h.box.apart hg.1 (fun e => h.ne e.symm)
  have hne : v2.ownBlock ≠ some w.heap.size := by
    rcases hg.2 with e | e
    · rw [e]; exact h.ne
    · rw [e]
      intro e2
      injection e2 with e2
      omega
  refine ⟨X, ⟨X.set 0 v2, ?_, (h.bel.trans (hg.below h.row (Nat.le_of_lt hlt))).setCell (Nat.le_refl _) v2, hne⟩⟩
  rw [List.replicate_succ']
  exact Dk.setF.ownsRow_setCell_other' ho hne v2

set_option maxRecDepth 10000 in
set_option maxHeartbeats 400000 in
theorem refnew_any (m : Int) (w : World) : Calls Try.prog 10 #[.int .i64 m] w (Made 39 (cl m) w) := by
  obtain ⟨n, hn⟩ : ∃ n, cl m = n := ⟨_, rfl⟩
  have hle := cl_le m
  rw [hn] at hle ⊢
  have HC := hid (show (∀ p : Nat, p < n → (p : Int) < m) ∧ (∀ p : Nat, p = n → decide ((p : Int) < m) = true → 256 ≤ p) from by
    unfold cl at hn
    refine ⟨fun p hp => by omega, fun p hp h => ?_⟩
    have : (p : Int) < m := by simpa using h
    omega)
  clear hn
  go_enter Try.func10, Try.ntmps10
  go_wp2_with fail
  have M0 : Mk w (w.alloc (.cells #[.slice none 0 0, .int .i64 (-1), .bool false] 39)) 0 (.slice none 0 0) :=
    ⟨Bx.new w _ _, ownV_nil _ _ _ _, below_alloc w _, by simp [Value.ownBlock]⟩
  have HM0 := hid M0
  clear M0
  go_loopw [4] (fun t wr => ∃ p : Nat, p ≤ n ∧ t = .int .i64 p ∧ ∃ v, Mk w wr p v) (fun t _ => n - (intOf t).toNat)
  case atStart => exact ⟨0, Nat.zero_le _, rfl, _, HM0.out⟩
  case round =>
    obtain ⟨p, hp, rfl, v, hm⟩ := hrel
    have HMk := hid hm
    obtain ⟨A, c, rfl, r, hc, hcm⟩ := hm.row.read
    by_cases hlt : p < n
    · have h1 : (p : Int) < m := HC.out.1 p hlt
      have h2 : (p : Int) < 256 := by omega
      have c1 : wr.cell? ⟨w.heap.size, 0, none⟩ = some (.slice A p c) := hm.box.cell 0
      have HM1 := hid (hm.alloc (.cells #[.slice none 0 0] 29))
      have HR1 := hid (rv_new wr 29 #[.slice none 0 0])
      have hlt1 : w.heap.size < wr.heap.size := hm.box.lt
      clear hm r hp
      generalize hgg : w.heap.size = g at c1 hlt1 ⊢
      have HGG := hid hgg
      clear hgg
      go_wp2_with (at_builtin; go_loud (refine wpList_appV elt_text rfl (.tmp 20) (.tmp 21) rfl w.heap.size _ p _ HM1.out.row rfl _ _ 1 1 [.slice none 0 0] rfl rfl HR1.out (fun u hu => by simp at hu; subst hu; rfl) (by unfold maxLen; omega) (by omega) (Nat.le_of_lt HM1.out.box.lt) ?_); intro v2 w2 hown2 hg2; obtain ⟨X2, M2⟩ := HM1.out.more hown2 hg2; obtain ⟨AA, ac, rfl, -, -, -⟩ := hown2.read; have y0 := X2.cell 0; have y1 := X2.free 0; rw [HGG.out] at y0 y1; have HM2 := hid M2; clear X2 M2 hown2 hg2)
      go_roundw
      case rel => exact ⟨p + 1, by omega, by go_num, _, by rw [← HGG.out]; exact HM2.out⟩
      case measure => simp [intOf]; omega
    · obtain rfl : p = n := by omega
      have hdk := hid hm.dk
      have hbel := hid hm.bel
      have h2 := HC.out.2 p rfl
      clear hm r
      by_cases hq : (p : Int) < m
      · have h3 : (256 : Int) ≤ p := by have := h2 (by simpa using hq); omega
        have hd : decide ((p : Int) < 256) = false := by simpa using h3
        clear h2 hp hlt
        go_wp2
        go_ret
        exact ⟨_, _, rfl, hdk.out, hbel.out⟩
      · have hd : decide ((p : Int) < m) = false := by simpa using hq
        clear h2 hq hp hlt
        go_wp2
        go_ret
        exact ⟨_, _, rfl, hdk.out, hbel.out⟩
end Go.Proofs.Ytfhejadlkooklaa
