/-
  What is proved: sector's text answers its bytes in memory of their own; New answers a disk of so many empty sectors, held within 0 and 256. Condition: the text is read as its bytes.
-/
import Derived.Test.YtincndblpbdnlaaRows
import Derived.Test.YtincndblpbdnlaaDk
import Derived.Laws.CopyOwn
import Derived.Deep.DeepCutAuto
import Derived.Deep.CutBlock
import Derived.Deep.DeepMust
namespace Go.Proofs.Ytincndblpbdnlaa
open Go.RowKit

theorem infoByte : (Try.prog.info? 5).map (fun i => (i.zero, i.size, i.bytes)) = some (some (.int .u8 0), 1, 1) := by kernel_rfl
theorem infoText : (Try.prog.info? 36).map (fun i => (i.zero, i.size, i.bytes)) = some (some (.slice none 0 0), 1, 24) := by kernel_rfl
theorem elt_text : Elt Try.prog 51 36 (.slice none 0 0) 1 24 := ⟨Try.underlying51, infoText, rfl, by decide⟩
theorem elt_byte : Elt Try.prog 36 5 (.int .u8 0) 1 1 := ⟨Try.underlying36, infoByte, rfl, by decide⟩

theorem wpList_makeV {P : Program} {S e : TypeId} {z : Value} {bytes : Nat} (E : Elt P S e z 1 bytes) (hz1 : z.cells = #[z]) {w : World} {ops : Array Oper} {rest : List Oper} {o : Oper} {a : Act} {Q : Exit → Act → World → Prop} (hgd : o.guard = none) (x y : Operand)
    (ho : o.op = .makeSlice S x y) (n : Nat) (hx : a.eval x = .int .i64 n) (hy : a.eval y = .int .i64 n) (hbytes : bytes * n ≤ 281474976710656) (hn : n ≤ maxLen)
    (h : ∀ w1, Hid (w1 = w.alloc (.cells (List.replicate n z).toArray e)) → wpList P ops Q rest (a.put o.dst (.slice (some ⟨w.heap.size, 0, none⟩) n n)) w1) : wpList P ops Q (o :: rest) a w := by
  obtain ⟨i, hi, hz, hs, hb⟩ := info_parts E.info
  refine wpList_plain hgd fun K hK => ?_
  have hn' : (n : Int) ≤ 9223372036854775807 := by
    have := hn
    simp [maxLen] at this
    omega
  have hb' : (i.bytes : Int) * (n : Int) ≤ 281474976710656 := by
    have h : ((i.bytes * n : Nat) : Int) ≤ 281474976710656 := by rw [hb]; omega
    rwa [Int.natCast_mul] at h
  have hrun := run_make (P := P) w S e i z E.und hi hz .i64 .i64 n n (by omega) (Int.le_refl _) hb' hn'
  have hc : madeCells z.cells ((n : Int).toNat * i.size) = (List.replicate n z).toArray := by
    rw [hz1, hs, Nat.mul_one, Int.toNat_natCast]
    apply Array.toList_inj.1
    rw [toList_madeCells_one]
  rw [hc, Int.toNat_natCast] at hrun
  unfold Oper.wp execOp
  simp only [ho, hx, hy, hrun, Sem.run_bind, Sem.run_pure, Result.andThen_ok]
  exact hK _ _ (h _ rfl)

set_option maxHeartbeats 400000 in
theorem text_any (A : Option Addr) (n c : Nat) (l : List Int) (w : World) (hn : l.length = n) (hlen : n ≤ 1000000) (r : Rn w A l) :
    Calls Try.prog 43 #[.slice A n c] w fun e w' => ∃ u, e = .returned u ∧ Bs w' u l ∧ Below w.heap.size w w' := by
  have HN := hid hn
  have HR := hid r
  clear hn r
  go_enter Try.func43, Try.ntmps43
  go_upto_region 2 with (at_make; refine wpList_makeV elt_byte rfl rfl (.tmp 5) (.tmp 5) rfl n rfl rfl (by omega) (by unfold maxLen; omega) ?_; intro w1 hw1)
  have B1 : Below w.heap.size w w1 := by rw [hw1.out]; exact below_alloc w _
  have X1 : w1.heap[w.heap.size]? = some (.cells (List.replicate n (Value.int .u8 0)).toArray 5 (0, 0)) := by rw [hw1.out]; exact heap_alloc_new w _
  have HR1 := hid (HR.out.now B1)
  have HB1 := hid B1
  have HX1 := hid X1
  clear hw1 B1 X1 HR
  go_wp2_with (with_reducible refine wpList_copy_splice rfl (.tmp 7) (.tmp 8) 36 36 rfl 5 Try.underlying36 (by kernel_rfl) _ _ n n n c rfl rfl w.heap.size 0 (List.replicate n (Value.int .u8 0)) 5 HX1.out (bytes l) (by rw [bytes_length, HN.out]; simp) (fun hp => ⟨rfl, ?_⟩) (by rw [bytes_length, HN.out]; simp) (bytes_one l) w.heap.size w HB1.out (Nat.le_refl _) ?_)
  · have hp' : 0 < l.length := by rw [← bytes_length]; exact hp
    obtain ⟨ad, e, _, _⟩ := HR1.out.get hp'
    refine ⟨ad, e, fun j v hv => ?_⟩
    simp only [bytes, List.getElem?_map, Option.map_eq_some_iff] at hv
    obtain ⟨x, hx, rfl⟩ := hv
    obtain ⟨ad', e', _, hc⟩ := HR1.out j x hx
    rw [e] at e'
    injection e' with e'
    subst e'
    exact hc
  intro w2 HG2 hB2
  have hs : splice (List.replicate n (Value.int .u8 0)) 0 (bytes l) = bytes l := by
    have := HN.out
    unfold splice
    rw [List.take_zero, List.nil_append, Nat.zero_add, bytes_length, List.drop_of_length_le (by simp; omega), List.append_nil]
  have G2 := HG2.out
  rw [hs] at G2
  have HG := hid G2
  have HB2 := hid hB2
  clear G2 HG2 hB2 hs
  go_wp2
  go_ret
  refine ⟨.slice (some ⟨w.heap.size, 0, none⟩) n n, rfl, ⟨some ⟨w.heap.size, 0, none⟩, n, by rw [HN.out], fun j x hx => ⟨_, rfl, ?_, ?_⟩, by rw [HN.out]; exact Nat.le_refl _, by unfold maxLen; omega⟩, HB2.out⟩
  · exact (Array.getElem?_eq_some_iff.1 HG.out).1
  · have hadd : (⟨w.heap.size, 0, none⟩ : Addr).add j = ⟨w.heap.size, j, none⟩ := by unfold Addr.add; split <;> simp_all
    rw [hadd, cell_of_row w2 _ j _ _ (0, 0) HG.out]
    simp [bytes, hx]

/-- as many sectors as there may be -/
def cl (m : Int) : Nat := (min (max m 0) 256).toNat
theorem cl_le (m : Int) : cl m ≤ 256 := by unfold cl; omega
/-- a new disk of n sectors has been made -/
def Made (T : TypeId) (n : Nat) (w : World) (e : Ending) (w' : World) : Prop :=
  ∃ k v, e = .returned (.pointer (some ⟨k, 0, none⟩)) ∧ Dk w' T w.heap.size k v ⟨List.replicate n [], -1, false⟩ ∧ Below w.heap.size w w'
set_option maxHeartbeats 400000 in
theorem new_any (m : Int) (w : World) : Calls Try.prog 12 #[.int .i64 m] w (Made 67 (cl m) w) := by
  have key : ∀ n : Nat, n ≤ 256 → ∀ W : World, W = (w.alloc (.cells (List.replicate n (Value.slice none 0 0)).toArray 36)).alloc (.cells #[.slice (some ⟨w.heap.size, 0, none⟩) n n, .int .i64 (-1), .bool false] 67) →
      Dk W 67 w.heap.size (w.heap.size + 1) (.slice (some ⟨w.heap.size, 0, none⟩) n n) ⟨List.replicate n [], -1, false⟩ ∧ Below w.heap.size w W := by
    intro n hn W e
    subst e
    obtain ⟨w1, hw1⟩ : ∃ w1, w.alloc (.cells (List.replicate n (Value.slice none 0 0)).toArray 36) = w1 := ⟨_, rfl⟩
    have hs : w1.heap.size = w.heap.size + 1 := by rw [← hw1, World.size_alloc]
    have O := World.ownsRow_lit (size := 1) (e := 36) (base := w.heap.size) w (List.replicate n (Value.slice none 0 0)).toArray n (Nat.le_refl _) (by unfold maxLen; omega) (by simp)
    have B1 : Below w.heap.size w w1 := by rw [← hw1]; exact below_alloc w _
    rw [hw1] at O ⊢
    refine ⟨⟨by rw [← hs]; exact Bx.new w1 _ _, by omega, ⟨List.replicate n (Value.slice none 0 0), ?_, fun i l e => ?_⟩, ⟨by show (-9223372036854775808 : Int) ≤ -1; omega, by show (-1 : Int) ≤ 9223372036854775807; omega⟩, by simp [Value.ownBlock]⟩, on B1 (below_alloc w1 _)⟩
    · rw [List.length_replicate]
      exact O.alloc _
    · have e' : (List.replicate n ([] : List Int))[i]? = some l := e
      have hi : i < n := by
        have := (List.getElem?_eq_some_iff.1 e').1
        simpa using this
      rw [List.getElem?_replicate, if_pos hi] at e'
      injection e' with e'
      subst e'
      exact ⟨_, by rw [List.getElem?_replicate, if_pos hi], bs_nil _⟩
  have K := hid (key (cl m) (cl_le m))
  have HE := hid (show (if 256 < (if m < 0 then (0 : Int) else m) then (256 : Int) else if m < 0 then 0 else m) = (cl m : Nat) from by
    unfold cl
    split <;> split <;> omega)
  have hle := cl_le m
  generalize cl m = n at *
  clear key
  go_enter Try.func12, Try.ntmps12
  go_wp2_with (at_make; refine wpList_makeV elt_text rfl rfl (.tmp 7) (.tmp 7) rfl n (congrArg (Value.int .i64) HE.out) (congrArg (Value.int .i64) HE.out) (by omega) (by unfold maxLen; omega) ?_; intro w1 hw1)
  all_goals
   have hs : w1.heap.size = w.heap.size + 1 := by rw [hw1.out, World.size_alloc]
   refine bodyPost_ret (v := .pointer (some ⟨w1.heap.size, 0, none⟩)) (by simp [results, Try.results12, go_sem]) rfl ⟨w1.heap.size, .slice (some ⟨w.heap.size, 0, none⟩) n n, rfl, ?_⟩
   rw [hs]
   exact K.out _ (by rw [hw1.out])
end Go.Proofs.Ytincndblpbdnlaa
