/-
  What is proved: sector's text answers its bytes in memory of their own; New answers a disk of so many empty sectors, held within 0 and 256. Condition: the text is read as its bytes.
-/
import Derived.Test.YtbcejfonkehjgaaGreatDoorRows
import Derived.Test.YtbcejfonkehjgaaGreatDoorK32
import Derived.Laws.CopyOwn
import Derived.Deep.DeepCutAuto
import Derived.Deep.CutBlock
import Derived.Deep.DeepMust
import Derived.Test.YtbcejfonkehjgaaGreatDoorK33
import Derived.Deep.RegionHeld3
import Derived.Deep.QuietTactic
import Derived.BigQuiet
import Derived.Laws.ResultCell
namespace Go.Proofs.YtbcejfonkehjgaaGreatDoor
open Go.RowKit

theorem infoByteD : (Tryz.prog.info? 5).map (fun i => (i.zero, i.size, i.bytes)) = some (some (.int .u8 0), 1, 1) := by kernel_rfl
theorem infoText : (Tryz.prog.info? 38).map (fun i => (i.zero, i.size, i.bytes)) = some (some (.slice none 0 0), 1, 24) := by kernel_rfl
theorem elt_text : Elt Tryz.prog 57 38 (.slice none 0 0) 1 24 := ⟨Tryz.underlying57, infoText, rfl, by decide⟩
theorem elt_byte : Elt Tryz.prog 38 5 (.int .u8 0) 1 1 := ⟨Tryz.underlying38, infoByteD, rfl, by decide⟩

theorem wpList_makeV {P : Program} {S e : TypeId} {z : Value} {bytes : Nat} (E : Elt P S e z 1 bytes) (hz1 : z.cells = #[z]) {w : World} {ops : Array Oper} {rest : List Oper} {o : Oper} {a : Act} {Q : Exit → Act → World → Prop} (hgd : o.guard = none) (x y : Operand)
    (ho : o.op = .makeSlice S x y) (n : Nat) (hx : a.eval x = .int .i64 n) (hy : a.eval y = .int .i64 n) (hbytes : bytes * n ≤ 281474976710656) (hn : n ≤ maxLen)
    (h : ∀ w1, Hid (w1 = w.alloc (.cells (List.replicate n z).toArray e)) → wpList P ops Q rest (a.put o.dst (.slice (some ⟨w.heap.size, 0, none⟩) n n)) w1) : wpList P ops Q (o :: rest) a w := by
  obtain ⟨i, hi, hz, hs, hb⟩ := info_parts E.info
  refine wpList_plain hgd fun K hK => ?_
  have hn' : (n : Int) ≤ 9223372036854775807 := by
    have := hn
    simp [maxLen] at this
    omega
  have hb' : (i.bytes : Int) * (n : Int) ≤ 281474976710656 := by
    have h : ((i.bytes * n : Nat) : Int) ≤ 281474976710656 := by rw [hb]; omega
    rwa [Int.natCast_mul] at h
  have hrun := run_make (P := P) w S e i z E.und hi hz .i64 .i64 n n (by omega) (Int.le_refl _) hb' hn'
  have hc : madeCells z.cells ((n : Int).toNat * i.size) = (List.replicate n z).toArray := by
    rw [hz1, hs, Nat.mul_one, Int.toNat_natCast]
    apply Array.toList_inj.1
    rw [toList_madeCells_one]
  rw [hc, Int.toNat_natCast] at hrun
  unfold Oper.wp execOp
  simp only [ho, hx, hy, hrun, Sem.run_bind, Sem.run_pure, Result.andThen_ok]
  exact hK _ _ (h _ rfl)

set_option maxHeartbeats 400000 in
theorem text_any (A : Option Addr) (n c : Nat) (l : List Int) (w : World) (hn : l.length = n) (hlen : n ≤ 1000000) (r : Rn w A l) :
    Calls Tryz.prog 152 #[.slice A n c] w fun e w' => ∃ u, e = .returned u ∧ Bs w' u l ∧ (∀ A n c, u = .slice (some A) n c → w.heap.size ≤ A.block) ∧ Below w.heap.size w w' := by
  have HN := hid hn
  have HR := hid r
  clear hn r
  go_enter Tryz.func152, Tryz.ntmps152
  go_upto_region 2 with (at_make; refine wpList_makeV elt_byte rfl rfl (.tmp 5) (.tmp 5) rfl n rfl rfl (by omega) (by unfold maxLen; omega) ?_; intro w1 hw1)
  have B1 : Below w.heap.size w w1 := by rw [hw1.out]; exact below_alloc w _
  have X1 : w1.heap[w.heap.size]? = some (.cells (List.replicate n (Value.int .u8 0)).toArray 5 (0, 0)) := by rw [hw1.out]; exact heap_alloc_new w _
  have HR1 := hid (HR.out.now B1)
  have HB1 := hid B1
  have HX1 := hid X1
  clear hw1 B1 X1 HR
  go_wp2_with (with_reducible refine wpList_copy_splice rfl (.tmp 7) (.tmp 8) 38 38 rfl 5 Tryz.underlying38 (by kernel_rfl) _ _ n n n c rfl rfl w.heap.size 0 (List.replicate n (Value.int .u8 0)) 5 HX1.out (bytes l) (by rw [bytes_length, HN.out]; simp) (fun hp => ⟨rfl, ?_⟩) (by rw [bytes_length, HN.out]; simp) (bytes_one l) w.heap.size w HB1.out (Nat.le_refl _) ?_)
  · have hp' : 0 < l.length := by rw [← bytes_length]; exact hp
    obtain ⟨ad, e, _, _⟩ := HR1.out.get hp'
    refine ⟨ad, e, fun j v hv => ?_⟩
    simp only [bytes, List.getElem?_map, Option.map_eq_some_iff] at hv
    obtain ⟨x, hx, rfl⟩ := hv
    obtain ⟨ad', e', _, hc⟩ := HR1.out j x hx
    rw [e] at e'
    injection e' with e'
    subst e'
    exact hc
  intro w2 HG2 hB2
  have hs : splice (List.replicate n (Value.int .u8 0)) 0 (bytes l) = bytes l := by
    have := HN.out
    unfold splice
    rw [List.take_zero, List.nil_append, Nat.zero_add, bytes_length, List.drop_of_length_le (by simp; omega), List.append_nil]
  have G2 := HG2.out
  rw [hs] at G2
  have HG := hid G2
  have HB2 := hid hB2
  clear G2 HG2 hB2 hs
  go_wp2
  go_ret
  refine ⟨.slice (some ⟨w.heap.size, 0, none⟩) n n, rfl, ⟨some ⟨w.heap.size, 0, none⟩, n, by rw [HN.out], fun j x hx => ⟨_, rfl, ?_, ?_⟩, by rw [HN.out]; exact Nat.le_refl _, by unfold maxLen; omega⟩, fun _ _ _ e => by injection e with e; injection e with e; rw [← e]; exact Nat.le_refl _, HB2.out⟩
  · exact (Array.getElem?_eq_some_iff.1 HG.out).1
  · have hadd : (⟨w.heap.size, 0, none⟩ : Addr).add j = ⟨w.heap.size, j, none⟩ := by unfold Addr.add; split <;> simp_all
    rw [hadd, cell_of_row w2 _ j _ _ (0, 0) HG.out]
    simp [bytes, hx]

def dcl (m : Int) : Nat := (min (max m 0) 256).toNat
theorem dcl_le (m : Int) : dcl m ≤ 256 := by unfold dcl; omega
def DMade (T : TypeId) (n : Nat) (w : World) (e : Ending) (w' : World) : Prop :=
  ∃ k v, e = .returned (.pointer (some ⟨k, 0, none⟩)) ∧ Dk w' T w.heap.size k v ⟨List.replicate n [], -1, false⟩ ∧ Below w.heap.size w w'
set_option maxHeartbeats 400000 in
theorem disknew_any (m : Int) (w : World) : Calls Tryz.prog 11 #[.int .i64 m] w (DMade 77 (dcl m) w) := by
  have key : ∀ n : Nat, n ≤ 256 → ∀ W : World, W = (w.alloc (.cells (List.replicate n (Value.slice none 0 0)).toArray 38)).alloc (.cells #[.slice (some ⟨w.heap.size, 0, none⟩) n n, .int .i64 (-1), .bool false] 77) →
      Dk W 77 w.heap.size (w.heap.size + 1) (.slice (some ⟨w.heap.size, 0, none⟩) n n) ⟨List.replicate n [], -1, false⟩ ∧ Below w.heap.size w W := by
    intro n hn W e
    subst e
    obtain ⟨w1, hw1⟩ : ∃ w1, w.alloc (.cells (List.replicate n (Value.slice none 0 0)).toArray 38) = w1 := ⟨_, rfl⟩
    have hs : w1.heap.size = w.heap.size + 1 := by rw [← hw1, World.size_alloc]
    have O := World.ownsRow_lit (size := 1) (e := 38) (base := w.heap.size) w (List.replicate n (Value.slice none 0 0)).toArray n (Nat.le_refl _) (by unfold maxLen; omega) (by simp)
    have B1 : Below w.heap.size w w1 := by rw [← hw1]; exact below_alloc w _
    rw [hw1] at O ⊢
    refine ⟨⟨by rw [← hs]; exact Bx.new w1 _ _, by omega, ⟨List.replicate n (Value.slice none 0 0), ?_, fun i l e => ?_⟩, ⟨by show (-9223372036854775808 : Int) ≤ -1; omega, by show (-1 : Int) ≤ 9223372036854775807; omega⟩, by simp [Value.ownBlock]⟩, on B1 (below_alloc w1 _)⟩
    · rw [List.length_replicate]
      exact O.alloc _
    · have e' : (List.replicate n ([] : List Int))[i]? = some l := e
      have hi : i < n := by
        have := (List.getElem?_eq_some_iff.1 e').1
        simpa using this
      rw [List.getElem?_replicate, if_pos hi] at e'
      injection e' with e'
      subst e'
      exact ⟨_, by rw [List.getElem?_replicate, if_pos hi], bs_nil _⟩
  have K := hid (key (dcl m) (dcl_le m))
  have HE := hid (show (if 256 < (if m < 0 then (0 : Int) else m) then (256 : Int) else if m < 0 then 0 else m) = (dcl m : Nat) from by
    unfold dcl
    split <;> split <;> omega)
  have hle := dcl_le m
  generalize dcl m = n at *
  clear key
  go_enter Tryz.func11, Tryz.ntmps11
  go_wp2_with (at_make; refine wpList_makeV elt_text rfl rfl (.tmp 7) (.tmp 7) rfl n (congrArg (Value.int .i64) HE.out) (congrArg (Value.int .i64) HE.out) (by omega) (by unfold maxLen; omega) ?_; intro w1 hw1)
  all_goals
   have hs : w1.heap.size = w.heap.size + 1 := by rw [hw1.out, World.size_alloc]
   refine bodyPost_ret (v := .pointer (some ⟨w1.heap.size, 0, none⟩)) (by simp [results, Tryz.results11, go_sem]) rfl ⟨w1.heap.size, .slice (some ⟨w.heap.size, 0, none⟩) n n, rfl, ?_⟩
   rw [hs]
   exact K.out _ (by rw [hw1.out])
end Go.Proofs.YtbcejfonkehjgaaGreatDoor
namespace Go.Proofs.YtbcejfonkehjgaaGreatDoor
open Go.RowKit

def St.write (s : St) (i : Int) (l : List Int) : St :=
  if s.d then s else if i < 0 ∨ (s.L.length : Int) ≤ i then s else if 64 < l.length then s else if s.f = 0 then { s with d := true } else { s.burn with L := s.L.set i.toNat l }
def St.told (s : St) (i : Int) (l : List Int) : Int :=
  if s.d then 8 else if i < 0 ∨ (s.L.length : Int) ≤ i then 3 else if 64 < l.length then 4 else if s.f = 0 then 8 else 0

theorem below_of_drew {w w' : World} (h : Below w.drew.heap.size w.drew w') : Below w.heap.size w w' := ⟨h.os, h.tape, h.output, h.size, h.block⟩
theorem Rn.stay {w w' : World} {A : Option Addr} {l : List Int} (h : Rn w A l) (k : Stay w w') (hs : w.heap.size ≤ w'.heap.size) : Rn w' A l := fun j x hx => by
  obtain ⟨ad, e2, hb, hc⟩ := h j x hx
  exact ⟨ad, e2, Nat.lt_of_lt_of_le hb hs, k _ _ hc⟩
theorem dk_at {w : World} {T : TypeId} {b k g n c j : Nat} {s : St} (h : Dk w T b k (.slice (some ⟨g, 0, none⟩) n c) s) (hj : j < s.L.length) : ∃ u0, w.cell? ⟨g, j, none⟩ = some u0 ∧ w.frozen? ⟨g, j, none⟩ = false := by
  obtain ⟨g', c', u, e, h1, h2, _⟩ := h.sec (List.getElem?_eq_getElem hj)
  injection e with e
  injection e with e
  injection e with e
  subst e
  exact ⟨u, h1, h2⟩

section
variable {w : World} {b k : Nat} {v : Value} {s : St}
set_option maxHeartbeats 400000 in
theorem write_any (h : Dk w 77 b k v s) (i : Int) (A : Option Addr) (n c : Nat) (l : List Int) (hn : l.length = n) (hlen : n ≤ 140737488355328) (r : Rn w A l) :
    Calls Tryz.prog 120 #[.pointer (some ⟨k, 0, none⟩), .int .i64 i, .slice A n c] w fun e w' =>
      e = .returned (.int .i64 (s.told i l)) ∧ Dk w' 77 b k v (s.write i l) ∧ Only w w' k v := by
  obtain ⟨_, _, c2, _, _, _⟩ := h.cells
  have HN := hid hn
  have HR := hid r
  clear hn r
  by_cases hd : s.d = true
  · have e1 : s.told i l = 8 := by unfold St.told; rw [if_pos hd]
    have e2 : s.write i l = s := by unfold St.write; rw [if_pos hd]
    rw [e1, e2]
    rw [hd] at c2
    have H := hid (And.intro h (Only.refl w k v))
    clear h hd e1 e2
    go_enter Tryz.func120, Tryz.ntmps120
    go_wp2
    go_ret
    exact ⟨rfl, H.out⟩
  · have hd' : s.d = false := by simpa using hd
    rw [hd'] at c2
    by_cases hi : i < 0 ∨ (s.L.length : Int) ≤ i
    · have e1 : s.told i l = 3 := by unfold St.told; rw [if_neg hd, if_pos hi]
      have e2 : s.write i l = s := by unfold St.write; rw [if_neg hd, if_pos hi]
      rw [e1, e2]
      have H := hid (And.intro h (Only.refl w k v))
      have HH := hid (has_no h i hi)
      clear h hd hd' e1 e2 hi
      go_enter Tryz.func120, Tryz.ntmps120
      go_wp2_with (go_at_call 150; refine HH.out.mono ?_; rintro e w' ⟨rfl, rfl⟩)
      go_ret
      exact ⟨rfl, H.out⟩
    · obtain ⟨j, rfl⟩ : ∃ j : Nat, i = j := ⟨i.toNat, by omega⟩
      have hj : j < s.L.length := by omega
      have HH := hid (has_yes h j hj)
      by_cases h64 : 64 < n
      · have e1 : s.told j l = 4 := by unfold St.told; rw [if_neg hd, if_neg hi, if_pos (by rw [HN.out]; exact h64)]
        have e2 : s.write j l = s := by unfold St.write; rw [if_neg hd, if_neg hi, if_pos (by rw [HN.out]; exact h64)]
        rw [e1, e2]
        have H := hid (And.intro h (Only.refl w k v))
        clear h hd hd' e1 e2 hi
        go_enter Tryz.func120, Tryz.ntmps120
        go_wp2_with (go_at_call 150; refine HH.out.mono ?_; rintro e w' ⟨rfl, rfl⟩)
        go_ret
        exact ⟨rfl, H.out⟩
      · have h64' : n ≤ 64 := by omega
        have HBU := hid (burn_any h)
        by_cases hf : s.f = 0
        · have e1 : s.told j l = 8 := by unfold St.told; rw [if_neg hd, if_neg hi, if_neg (by rw [HN.out]; exact h64), if_pos hf]
          have e2 : s.write j l = s.burn := by unfold St.write St.burn; rw [if_neg hd, if_neg hi, if_neg (by rw [HN.out]; exact h64), if_pos hf, if_pos hf]
          have e3 : s.burn.d = true := by unfold St.burn; rw [if_pos hf]
          rw [e1, e2]
          have H3 := hid e3
          clear h hd hd' e1 e2 e3 hi h64
          go_enter Tryz.func120, Tryz.ntmps120
          go_wp2_with (first | (go_at_call 150; refine HH.out.mono ?_; rintro e w' ⟨rfl, rfl⟩) | (go_at_call 151; refine HBU.out.mono ?_; rintro e w1 ⟨rfl, hk1, ho1⟩; have d2 := hk1.cells.2.2.1; rw [H3.out] at d2; have HK := hid (And.intro hk1 ho1); clear hk1 ho1))
          go_ret
          exact ⟨rfl, HK.out⟩
        · have e1 : s.told j l = 0 := by unfold St.told; rw [if_neg hd, if_neg hi, if_neg (by rw [HN.out]; exact h64), if_neg hf]
          have e2 : s.write j l = { s.burn with L := s.burn.L.set j l } := by
            have : s.burn.L = s.L := by unfold St.burn; rw [if_neg hf]; split <;> rfl
            unfold St.write
            rw [if_neg hd, if_neg hi, if_neg (by rw [HN.out]; exact h64), if_neg hf, this, Int.toNat_natCast]
          have e3 : s.burn.d = false := by unfold St.burn; rw [if_neg hf]; split <;> exact hd'
          have e4 : j < s.burn.L.length := by
            have : s.burn.L = s.L := by unfold St.burn; rw [if_neg hf]; split <;> rfl
            rw [this]; exact hj
          rw [e1, e2]
          have H3 := hid e3
          have H4 := hid e4
          generalize s.burn = t at *
          clear h hd hd' e1 e2 e3 e4 hi h64 hf hj
          go_enter Tryz.func120, Tryz.ntmps120
          go_upto_region 12 with (first | (go_at_call 150; refine HH.out.mono ?_; rintro e w' ⟨rfl, rfl⟩) | (go_at_call 151; refine HBU.out.mono ?_; rintro e w1 ⟨rfl, hk1, ho1⟩; have d2 := hk1.cells.2.2.1; rw [H3.out] at d2; have HK := hid hk1; have HO := hid ho1; clear hk1 ho1))
          have HR1 := hid (HR.out.stay HO.out.stay HO.out.size)
          obtain ⟨g, cc, u0, rfl, q1, q2, q3⟩ := HK.out.sec (List.getElem?_eq_getElem H4.out)
          have c0 : w1.cell? ⟨k, 0, none⟩ = some (.slice (some ⟨g, 0, none⟩) t.L.length cc) := HK.out.cells.1
          have hjj : (j : Int) < (t.L.length : Int) := by have := H4.out; omega
          have hgk : (⟨g, j, none⟩ : Addr) ≠ ⟨k, 0, none⟩ := by
            intro e
            injection e with e
            exact HK.out.ne (congrArg some e)
          clear q1 q2 q3 d2 HBU HH HR
          go_region_held3 (fun w' => w'.cell? ⟨k, 0, none⟩ = some (.slice (some ⟨g, 0, none⟩) t.L.length cc)) (first | (exact by go_simp) | exact kp | (rw [World.cell?_setCell_other _ _ _ _ hgk]; exact kp)) ((go_at_call 152; refine (text_any A n c l _ HN.out (by omega) (by exact HR1.out)).mono ?_; rintro e w2 ⟨u, rfl, hu, hn2, hb2⟩; have HB2 := hid (below_of_drew hb2); have HU := hid hu; have HN2 := hid hn2; obtain ⟨AA, ac, rfl, -⟩ := hu; clear hb2 hn2; have kp : w2.cell? ⟨k, 0, none⟩ = some (.slice (some ⟨g, 0, none⟩) t.L.length cc) := (HK.out.below HB2.out).cells.1; obtain ⟨u0, qc, qf⟩ := dk_at (HK.out.below HB2.out) H4.out))
          obtain ⟨D1, D2⟩ := (HK.out.below HB2.out).setL HB2.out j _ l H4.out HU.out HN2.out
          have D := hid (And.intro D1 (HO.out.trans D2))
          clear D1 D2 HK HO HU HB2 kp qc qf c0
          go_wp2
          go_ret
          exact ⟨rfl, D.out⟩

def Reads (L : List (List Int)) (i : Int) (w : World) (e : Ending) (w' : World) : Prop :=
  ∃ u l c, e = .returned (.tuple #[u, .int .i64 c]) ∧ Bs w' u l ∧ Below w.heap.size w w' ∧ ((i < 0 ∨ (L.length : Int) ≤ i) ∧ c = 3 ∧ l = [] ∨ 0 ≤ i ∧ L[i.toNat]? = some l ∧ c = 0)
set_option maxHeartbeats 400000 in
theorem read_any (h : Dk w 77 b k v s) (hl : ∀ l ∈ s.L, l.length ≤ 64) (i : Int) :
    Calls Tryz.prog 139 #[.pointer (some ⟨k, 0, none⟩), .int .i64 i] w (Reads s.L i w) := by
  by_cases hi : i < 0 ∨ (s.L.length : Int) ≤ i
  · have HH := hid (has_no h i hi)
    have HI := hid hi
    clear h hi
    go_enter Tryz.func139, Tryz.ntmps139
    go_wp2_with (go_at_call 150; refine HH.out.mono ?_; rintro e w' ⟨rfl, rfl⟩)
    go_ret2
    exact ⟨_, [], 3, rfl, bs_nil _, Below.refl _ _, .inl ⟨HI.out, rfl, rfl⟩⟩
  · obtain ⟨j, rfl⟩ : ∃ j : Nat, i = j := ⟨i.toNat, by omega⟩
    have hj : j < s.L.length := by omega
    have HH := hid (has_yes h j hj)
    have hjj : (j : Int) < (s.L.length : Int) := by omega
    obtain ⟨l, hlj⟩ : ∃ l, s.L[j]? = some l := ⟨_, List.getElem?_eq_getElem hj⟩
    have h64 : l.length ≤ 64 := hl l (List.mem_of_getElem? hlj)
    obtain ⟨g, cc, u0, rfl, q1, q2, q3⟩ := h.sec hlj
    obtain ⟨A0, ac, rfl, hr0, _, _⟩ := q3
    have c0 : w.cell? ⟨k, 0, none⟩ = some (.slice (some ⟨g, 0, none⟩) s.L.length cc) := h.cells.1
    have HR := hid hr0
    have HL := hid hlj
    clear h hi hlj hr0 hj hl
    generalize hm : l.length = m at *
    have HM := hid hm
    clear hm
    go_enter Tryz.func139, Tryz.ntmps139
    go_wp2_with (first | (go_at_call 150; refine HH.out.mono ?_; rintro e w' ⟨rfl, rfl⟩) | (go_at_call 152; refine (text_any A0 m ac l _ HM.out (by omega) (by exact HR.out)).mono ?_; rintro e w2 ⟨u, rfl, hu, -, hb2⟩; have HB2 := hid hb2; have HU := hid hu; clear hb2 hu))
    go_ret2
    exact ⟨u, l, 0, rfl, HU.out, HB2.out, .inr ⟨by omega, by rw [Int.toNat_natCast]; exact HL.out, rfl⟩⟩
end
end Go.Proofs.YtbcejfonkehjgaaGreatDoor
namespace Go.Proofs.YtbcejfonkehjgaaGreatDoor
open Go.RowKit

section
variable {w : World} {kr : Nat} {l : List Int}
set_option maxRecDepth 100000 in
set_option maxHeartbeats 400000 in
theorem ended_any {o : Option Nat} (h : Rdq w kr l o) (hl : Ok1 l) : Calls Tryz.prog 107 #[.pointer (some ⟨kr, 0, none⟩)] w fun e w' => e = .returned (.bool (endd l o)) ∧ ∃ d, w' = w.drewN d := by
  obtain ⟨A, c, p, x, hb, r, hc, h1, h2⟩ := h
  have c0 : w.cell? ⟨kr, 0, none⟩ = _ := hb.cell 0
  have c1 : w.cell? ⟨kr, 1, none⟩ = _ := hb.cell 1
  have c2 : w.cell? ⟨kr, 2, none⟩ = _ := hb.cell 2
  simp at c0 c1 c2
  have hll := hl.1
  have key : (x = 0 ∧ p = l.length) ↔ endd l o = true := by
    unfold endd
    cases o with
    | none => simp; exact fun h => absurd h (h2 rfl)
    | some q =>
      obtain ⟨e1, e2, _⟩ := h1 q rfl
      simp [e1, e2]
      omega
  have KEY := hid key
  clear hb r h1 h2 key hl
  generalize l.length = L at *
  by_cases hx : x = 0
  · subst hx
    by_cases hp : p = L
    · have e : endd l o = true := KEY.out.1 ⟨rfl, hp⟩
      rw [e]
      subst hp
      go_enter Tryz.func107, Tryz.ntmps107
      go_wp2
      go_quiet (fail)
      go_wp2
      go_ret
      exact ⟨rfl, _, rfl⟩
    · have e : endd l o = false := by
        cases hE : endd l o with
        | false => rfl
        | true => exact absurd (KEY.out.2 hE).2 hp
      rw [e]
      have hp' : (p == (L : Int)) = false := by simpa using hp
      clear e
      go_enter Tryz.func107, Tryz.ntmps107
      go_wp2
      go_quiet (fail)
      go_wp2
      go_ret
      exact ⟨rfl, _, rfl⟩
  · have e : endd l o = false := by
      cases hE : endd l o with
      | false => rfl
      | true => exact absurd (KEY.out.2 hE).1 hx
    rw [e]
    have hx' : (x == 0) = false := by simpa using hx
    clear e hx
    go_enter Tryz.func107, Tryz.ntmps107
    go_wp2
    go_quiet (fail)
    go_wp2
    go_ret
    exact ⟨rfl, _, rfl⟩
end
end Go.Proofs.YtbcejfonkehjgaaGreatDoor
namespace Go.Proofs.YtbcejfonkehjgaaGreatDoor
open Go.RowKit

theorem run_loadVar_int (w : World) {a : Addr} {x : Value} (hc : w.cell? a = some x) : (loadVar 3 a).run Tryz.prog w = .ok x w := by
  have hu := Tryz.underlying3
  simp [go_sem, loadVar, isAgg, hc]
theorem results_ci {fn : Func} {p u : Tmp} (h : fn.results = #[.cell p 3, .tmp u]) (tmps : Array Value) {w : World} {a : Addr} {x : Value} (hs : tmps.getD p undef = .pointer (some a)) (hc : w.cell? a = some x) :
    (results fn tmps).run Tryz.prog w = .ok (.tuple #[x, tmps.getD u undef]) w := by
  rw [results_cell_tmp h, hs]
  simp [asAddr, run_loadVar_int w hc]
theorem results_cci {fn : Func} {p q u : Tmp} (h : fn.results = #[.cell p 3, .cell q 3, .tmp u]) (tmps : Array Value) {w : World} {a b : Addr} {x y : Value} (hs : tmps.getD p undef = .pointer (some a)) (ht : tmps.getD q undef = .pointer (some b)) (hc : w.cell? a = some x) (hd : w.cell? b = some y) :
    (results fn tmps).run Tryz.prog w = .ok (.tuple #[x, y, tmps.getD u undef]) w := by
  rw [Array.getD_eq_getD_getElem?] at hs ht
  simp [results, h, hs, ht, asAddr, run_loadVar_int w hc, run_loadVar_int w hd]
structure Sx (w : World) (b kd ks : Nat) (v : Value) (s : St) (sh : Sh) : Prop where
  dk : Dk w 77 b kd v s
  bx : Bx w ks 109 #[.pointer (some ⟨kd, 0, none⟩), .int .i64 sh.B, .int .i64 sh.Z, .int .i64 sh.C, .int .i64 sh.S]
  ok : sh.ok
  len : sh.at_ sh.C 0 ≤ s.L.length
  by_ : ∀ l ∈ s.L, Ok1 l
theorem Sx.below {w w' : World} {b kd ks : Nat} {v : Value} {s : St} {sh : Sh} (h : Sx w b kd ks v s sh) (hb : Below w.heap.size w w') : Sx w' b kd ks v s sh :=
  ⟨h.dk.below hb, h.bx.next hb, h.ok, h.len, h.by_⟩
theorem Sx.l64 {w : World} {b kd ks : Nat} {v : Value} {s : St} {sh : Sh} (h : Sx w b kd ks v s sh) : ∀ l ∈ s.L, l.length ≤ 64 := fun l hl => (h.by_ l hl).1
theorem Bx.only {w w' : World} {k kr : Nat} {t : TypeId} {cs : Array Value} (h : Bx w k t cs) (ho : O1 w w' kr) (hk : k ≠ kr) : Bx w' k t cs :=
  (ho.block k h.lt hk (by simp [Value.ownBlock])).trans h
theorem O1.below {B : Nat} {w w' : World} {k : Nat} (h : O1 w w' k) (hk : B ≤ k) (hB : B ≤ w.heap.size) : Below B w w' := Only.bel h hk (fun g e => by simp [Value.ownBlock] at e) hB
theorem Rdq.next {w w' : World} {kr : Nat} {l : List Int} {o : Option Nat} (h : Rdq w kr l o) (hb : Below w.heap.size w w') : Rdq w' kr l o := by
  obtain ⟨A, c, p, x, h1, r, h2⟩ := h
  exact ⟨A, c, p, x, h1.next hb, r.now hb, h2⟩
theorem Rdq.lt {w : World} {kr : Nat} {l : List Int} {o : Option Nat} (h : Rdq w kr l o) : kr < w.heap.size := by
  obtain ⟨A, c, p, x, h1, _⟩ := h
  exact h1.lt
theorem rv_places {w : World} {g : Nat} {t : TypeId} (ps : List Addr) (cs : Array Value) (hcs : cs.toList = ps.map fun p => .pointer (some p)) (h : Bx w g t cs) : Rv w w.heap.size (some ⟨g, 0, none⟩) (ps.map fun p => .pointer (some p)) := fun j u hu => by
  refine ⟨_, rfl, h.lt, ?_⟩
  have hadd : (⟨g, 0, none⟩ : Addr).add j = ⟨g, j, none⟩ := by unfold Addr.add; split <;> simp_all
  rw [hadd, h.cell, ← Array.getElem?_toList, hcs]
  exact hu
theorem below_new (w : World) (t : TypeId) (cs : Array Value) : ∃ W, w.alloc (.cells cs t) = W ∧ Bx W w.heap.size t cs ∧ Below w.heap.size w W ∧ W.heap.size = w.heap.size + 1 :=
  ⟨_, rfl, Bx.new w t cs, below_alloc w _, by rw [World.size_alloc]⟩

section
variable {w : World} {b kd ks : Nat} {v : Value} {s : St} {sh : Sh}
set_option maxHeartbeats 400000 in
theorem reader_any (h : Sx w b kd ks v s sh) (i : Nat) (l : List Int) (hl : s.L[i]? = some l) :
    Calls Tryz.prog 102 #[.pointer (some ⟨ks, 0, none⟩), .int .i64 i] w fun e w' => ∃ kr, e = .returned (.pointer (some ⟨kr, 0, none⟩)) ∧ w.heap.size ≤ kr ∧ Rdq w' kr l (some 0) ∧ Below w.heap.size w w' := by
  have HR := hid (read_any h.dk h.l64 i)
  have c0 : w.cell? ⟨ks, 0, none⟩ = _ := h.bx.cell 0
  simp at c0
  have HL := hid hl
  have hlt : i < s.L.length := (List.getElem?_eq_some_iff.1 hl).1
  have HLT := hid hlt
  clear h hl hlt
  go_enter Tryz.func102, Tryz.ntmps102
  go_wp2_with fail
  refine HR.out.mono ?_
  rintro e w1 ⟨u, l', c, rfl, hu, hb1, h1⟩
  have h2 : c = 0 ∧ l' = l := by
    rcases h1 with ⟨h1, _⟩ | ⟨_, h1, h2⟩
    · have := HLT.out; omega
    · rw [Int.toNat_natCast, HL.out] at h1
      injection h1 with h1
      exact ⟨h2, h1.symm⟩
  obtain ⟨rfl, rfl⟩ := h2
  obtain ⟨A, cc, rfl, hr, hc1, _⟩ := hu
  have HR1 := hid hr
  have HC := hid hc1
  have HB := hid hb1
  clear h1 hr hc1 hb1
  go_wp2
  go_ret
  exact ⟨_, rfl, HB.out.size, ⟨A, cc, 0, 0, Bx.new w1 _ _, HR1.out.alloc _, HC.out, fun q hq => (by cases hq; exact ⟨rfl, rfl, Nat.zero_le _⟩), fun h => (by cases h)⟩, on HB.out (below_alloc w1 _)⟩
end
end Go.Proofs.YtbcejfonkehjgaaGreatDoor
