/-
  What is proved: store's writer, captured, writes an entry's sectors step by step, till the disk has an error. Conditions: the store lies in memory as one; the entry's bytes are as they are; the steps are 0 to 3.
-/
import Derived.Test.YtincndblpbdnlaaWtr
namespace Go.Proofs.Ytincndblpbdnlaa
open Go.RowKit

theorem OwnV.typ {w : World} {b size n : Nat} {e : TypeId} {v : Value} {us : List Value} {g : Nat} (h : OwnV w b e size v n us) (hg : v.ownBlock = some g) {t : TypeId} {cs : Array Value} (hb : Bx w g t cs) : t = e := by
  rcases h.2 with ⟨hn, _⟩ | ⟨g', cap, cur, hv, hb', hgg, rest⟩
  · rw [hn] at hg; cases hg
  · rw [hv] at hg
    injection hg with hg
    subst hg
    have := hb.symm.trans hgg
    injection this with this
    injection this with _ this
/-- a block of another kind than the disk's is left alone by the disk's work -/
theorem Bx.dsk {w w' : World} {T t : TypeId} {b k j : Nat} {v : Value} {s : St} {cs : Array Value} (h : Bx w j t cs) (hd : Dk w T b k v s) (ho : Only w w' k v) (h1 : t ≠ T) (h2 : t ≠ 36) : Bx w' j t cs := by
  refine (ho.block j h.lt ?_ ?_).trans h
  · rintro rfl
    have := h.symm.trans hd.box
    injection this with this
    injection this with _ this
    exact h1 this
  · intro e
    obtain ⟨us, hw, _⟩ := hd.row
    exact h2 (OwnV.typ hw e.symm h)
theorem St.write_len (s : St) (i : Int) (l : List Int) : (s.write i l).L.length = s.L.length := by
  unfold St.write St.burn
  repeat' split
  all_goals simp
theorem St.write_mem (s : St) (i : Int) (l : List Int) : ∀ x ∈ (s.write i l).L, x ∈ s.L ∨ x = l := by
  unfold St.write St.burn
  intro x hx
  repeat' split at hx
  all_goals first | exact .inl hx | exact List.mem_or_eq_of_mem_set hx
section
variable {w w' : World} {b kd ks : Nat} {v : Value} {s s' : St} {sh : Sh}
theorem Sx.turn (h : Sx w b kd ks v s sh) (hd : Dk w' 67 b kd v s') (ho : Only w w' kd v) (hl : s'.L.length = s.L.length) (hb : ∀ l ∈ s'.L, Ok1 l) : Sx w' b kd ks v s' sh :=
  ⟨hd, h.bx.dsk h.dk ho (by decide) (by decide), h.ok, by rw [hl]; exact h.len, hb⟩
theorem Sx.wrote (h : Sx w b kd ks v s sh) {i : Int} {l : List Int} (hl : Ok1 l) (hd : Dk w' 67 b kd v (s.write i l)) (ho : Only w w' kd v) : Sx w' b kd ks v (s.write i l) sh :=
  h.turn hd ho (s.write_len i l) fun x hx => by
    rcases s.write_mem i l x hx with h1 | rfl
    · exact h.by_ x h1
    · exact hl
theorem Wtr.only {t2 g a1 a2 : Nat} {f : Nat → List Int} (h : Wtr w ks t2 g a1 a2 f) (hd : Dk w 67 b kd v s) (ho : Only w w' kd v) : Wtr w' ks t2 g a1 a2 f := by
  obtain ⟨h1, u0, u1, u2, h2, b0, b1, b2⟩ := h
  exact ⟨h1.dsk hd ho (by decide) (by decide), u0, u1, u2, h2.dsk hd ho (by decide) (by decide), b0.stay ho.stay ho.size, b1.stay ho.stay ho.size, b2.stay ho.stay ho.size⟩
theorem Wtr.below {t2 g a1 a2 : Nat} {f : Nat → List Int} (h : Wtr w ks t2 g a1 a2 f) (hb : Below w.heap.size w w') : Wtr w' ks t2 g a1 a2 f := by
  obtain ⟨h1, u0, u1, u2, h2, b0, b1, b2⟩ := h
  exact ⟨h1.next hb, u0, u1, u2, h2.next hb, b0.below hb, b1.below hb, b2.below hb⟩
end
/-- where the steps write -/
def wat (a1 a2 : Nat) : Nat → Nat
  | 1 => a1
  | 2 => a2
  | _ => 0
/-- a disk behind these steps, and the error -/
def runs (a : Nat → Nat) (f : Nat → List Int) : St → List Nat → St × Int
  | s, [] => (s, 0)
  | s, i :: r => if s.told (a i : Nat) (f i) = 0 then runs a f (s.write (a i : Nat) (f i)) r else (s.write (a i : Nat) (f i), s.told (a i : Nat) (f i))
/-- the page of a step, in memory -/
theorem Wtr.page {w : World} {ks t2 g a1 a2 : Nat} {f : Nat → List Int} (h : Wtr w ks t2 g a1 a2 f) (h3 : f 3 = []) {i : Nat} (hi : i < 4) :
    ∃ A q, (∀ y : World, y.heap[g]? = w.heap[g]? → y.cell? ⟨g, 2 * i, none⟩ = some (.int .i64 (wat a1 a2 i : Nat)) ∧ y.cell? ⟨g, 2 * i + 1, none⟩ = some (.slice A (f i).length q)) ∧ Rn w A (f i) := by
  obtain ⟨_, u0, u1, u2, h2, ⟨A0, q0, rfl, r0, _⟩, ⟨A1, q1, rfl, r1, _⟩, A2, q2, rfl, r2, _⟩ := h
  match i, hi with
  | 0, _ => exact ⟨A0, q0, fun y e => ⟨Bx.cell (e.trans h2) 0, Bx.cell (e.trans h2) 1⟩, r0⟩
  | 1, _ => exact ⟨A1, q1, fun y e => ⟨Bx.cell (e.trans h2) 2, Bx.cell (e.trans h2) 3⟩, r1⟩
  | 2, _ => exact ⟨A2, q2, fun y e => ⟨Bx.cell (e.trans h2) 4, Bx.cell (e.trans h2) 5⟩, r2⟩
  | 3, _ => exact ⟨none, 0, fun y e => ⟨Bx.cell (e.trans h2) 6, by rw [h3]; exact Bx.cell (e.trans h2) 7⟩, by rw [h3]; exact fun j x hx => by cases hx⟩
theorem Wtr.eqs {w w' : World} {b kd ks t2 g a1 a2 : Nat} {v : Value} {s : St} {f : Nat → List Int} (h : Wtr w ks t2 g a1 a2 f) (hd : Dk w 67 b kd v s) (ho : Only w w' kd v) : w'.heap[t2]? = w.heap[t2]? ∧ w'.heap[g]? = w.heap[g]? := by
  obtain ⟨h1, u0, u1, u2, h2, _⟩ := h
  exact ⟨(h1.dsk hd ho (by decide) (by decide)).trans h1.symm, (h2.dsk hd ho (by decide) (by decide)).trans h2.symm⟩
theorem Sx.eqs {w w' : World} {b kd ks : Nat} {v : Value} {s : St} {sh : Sh} (h : Sx w b kd ks v s sh) (ho : Only w w' kd v) : w'.heap[ks]? = w.heap[ks]? := (h.bx.dsk h.dk ho (by decide) (by decide)).trans h.bx.symm
section
variable {w : World} {b kd ks : Nat} {v : Value} {s : St} {sh : Sh}
set_option maxRecDepth 100000 in
set_option maxHeartbeats 1600000 in
theorem runs_any (h : Sx w b kd ks v s sh) {t2 g a1 a2 : Nat} {f : Nat → List Int} (hw : Wtr w ks t2 g a1 a2 f) (h3 : f 3 = []) (ns : List Nat) (n : Nat) (hn : ns.length = n) (hn4 : n ≤ 4) (hns : ∀ i ∈ ns, i < 4 ∧ Ok1 (f i)) (A : Option Addr) (c B0 : Nat) (_: B0 ≤ w.heap.size) (_ : Rv w B0 A (nats ns)) (hrk : ∀ w', Only w w' kd v → Rv w' w'.heap.size A (nats ns)) :
    Calls Try.prog 65 #[.slice A n c, .pointer (some ⟨t2, 0, none⟩), .pointer (some ⟨g, 0, none⟩)] w fun e w' => e = .returned (.int .i64 (runs (wat a1 a2) f s ns).2) ∧ Sx w' b kd ks v (runs (wat a1 a2) f s ns).1 sh ∧ Only w w' kd v := by
  have HN := hid hn
  have H3 := hid h3
  have HNS := hid hns
  have HRK := hid hrk
  have HX := hid h
  have HWT := hid hw
  clear hn h3 hns hrk h hw
  go_enter Try.func65, Try.ntmps65
  go_wp2
  go_loopw [10] (fun i wr => ∃ k : Nat, i = .int .i64 k ∧ k ≤ n ∧ ∃ s', Hid (Sx wr b kd ks v s' sh) ∧ Hid (Wtr wr ks t2 g a1 a2 f) ∧ Hid (Only w wr kd v) ∧ Hid (runs (wat a1 a2) f s ns = runs (wat a1 a2) f s' (ns.drop k))) (fun i _ => n - (intOf i).toNat)
  case atStart => exact ⟨0, by rfl, by omega, s, HX, HWT, Only.refl _ _ _, rfl⟩
  case round =>
    obtain ⟨k, rfl, hk, s', hx, hwt, ho, hrun⟩ := hrel
    by_cases hlt : k < n
    · have hlt' : (k : Int) < (n : Int) := by omega
      have hkp : k < ns.length := by rw [HN.out]; exact hlt
      obtain ⟨ad, rfl, hbl, hc⟩ := (HRK.out wr ho.out) k (.int .i64 (ns[k] : Nat)) (by unfold nats; rw [List.getElem?_map, List.getElem?_eq_getElem hkp]; rfl)
      obtain ⟨hi4, hfm⟩ := HNS.out ns[k] (List.getElem_mem hkp)
      have HD := hid (List.drop_eq_getElem_cons hkp)
      generalize ns[k] = m at *
      obtain ⟨PA, PQ, hpg, hpr⟩ := hwt.out.page H3.out hi4
      have c0 : ∀ y : World, y.heap[t2]? = wr.heap[t2]? → y.cell? ⟨t2, 0, none⟩ = some (.pointer (some ⟨ks, 0, none⟩)) := fun y e => Bx.cell (e.trans hwt.out.1) 0
      have c1 : ∀ y : World, y.heap[ks]? = wr.heap[ks]? → y.cell? ⟨ks, 0, none⟩ = some (.pointer (some ⟨kd, 0, none⟩)) := fun y e => Bx.cell (e.trans hx.out.bx) 0
      have HFM := hid hfm
      obtain ⟨at1, ha1⟩ : ∃ q, wat a1 a2 m = q := ⟨_, rfl⟩
      obtain ⟨l1, hl1⟩ : ∃ q, f m = q := ⟨_, rfl⟩
      rw [ha1, hl1] at hpg
      rw [hl1] at hpr HFM
      have HST := hid (show runs (wat a1 a2) f s' (ns.drop k) = if s'.told (at1 : Nat) l1 = 0 then runs (wat a1 a2) f (s'.write (at1 : Nat) l1) (ns.drop (k + 1)) else (s'.write (at1 : Nat) l1, s'.told (at1 : Nat) l1) by rw [HD.out, ← ha1, ← hl1]; rfl)
      have HRP := hid hpr
      obtain ⟨L1, hL1⟩ : ∃ q, l1.length = q := ⟨_, rfl⟩
      have HL1 := hid hL1
      rw [hL1] at hpg
      have HWR := hid (fun w1 (d1 : Dk w1 67 b kd v s') (r1 : Rn w1 PA l1) => write_any (w := w1) d1 (at1 : Nat) PA L1 PQ l1 HL1.out (by rw [← HL1.out]; have := HFM.out.1; omega) r1)
      clear hkp HD hL1 ha1 hl1 hpr hfm
      -- BEGIN
      by_cases ht : s'.told (at1 : Nat) l1 = 0
      · have HT := hid (HST.out.trans (if_pos ht))
        have HTT := hid ht
        clear ht HST
        rcases (by omega : m = 0 ∨ m = 1 ∨ m = 2 ∨ m = 3) with rfl | rfl | rfl | rfl
        · rw [show (((0 : Nat) : Int)) = 0 from rfl] at hc
          have HKP := hid (fun (y : World) (h1 : y.heap[t2]? = wr.heap[t2]?) (h2 : y.heap[ks]? = wr.heap[ks]?) (h4 : y.heap[g]? = wr.heap[g]?) => show y.cell? ⟨t2, 0, none⟩ = some (.pointer (some ⟨ks, 0, none⟩)) ∧ y.cell? ⟨ks, 0, none⟩ = some (.pointer (some ⟨kd, 0, none⟩)) ∧ y.cell? ⟨g, 0, none⟩ = some (.int .i64 (at1 : Nat)) ∧ y.cell? ⟨g, 1, none⟩ = some (.slice PA L1 PQ) from ⟨c0 y h1, c1 y h2, (hpg y h4).1, (hpg y h4).2⟩)
          clear hpg c0 c1 hi4
          go_upto_region 4 with fail
          have kp := HKP.out wr.drew rfl rfl rfl
          go_region_held3 (fun y => y.cell? ⟨t2, 0, none⟩ = some (.pointer (some ⟨ks, 0, none⟩)) ∧ y.cell? ⟨ks, 0, none⟩ = some (.pointer (some ⟨kd, 0, none⟩)) ∧ y.cell? ⟨g, 0, none⟩ = some (.int .i64 (at1 : Nat)) ∧ y.cell? ⟨g, 1, none⟩ = some (.slice PA L1 PQ)) (exact kp) ((go_at_call 24; refine (HWR.out wr.drew (hx.out.dk.draws 1) (HRP.out.drewN 1)).mono ?_; rintro e w1 ⟨rfl, hd1, ho1⟩; have HO1 := hid (show Only wr w1 kd v from ⟨ho1.os, ho1.tape, ho1.output, ho1.size, ho1.block, ho1.stay⟩); have HD1 := hid hd1; have kp := HKP.out w1 (hwt.out.eqs hx.out.dk HO1.out).1 (hx.out.eqs HO1.out) (hwt.out.eqs hx.out.dk HO1.out).2; clear hd1 ho1))
          clear kp
          have HX1 := hid (hx.out.wrote HFM.out HD1.out HO1.out)
          have HW1 := hid (hwt.out.only hx.out.dk HO1.out)
          have HO2 := hid (ho.out.trans HO1.out)
          clear HKP HD1 HO1 HRP
          rw [HTT.out]
          go_wp2
          go_roundw
          case rel => exact ⟨k + 1, by go_num, by omega, _, HX1, HW1, HO2, hid (hrun.out.trans HT.out)⟩
          case measure => simp [intOf]; omega
        · rw [show (((1 : Nat) : Int)) = 1 from rfl] at hc
          have HKP := hid (fun (y : World) (h1 : y.heap[t2]? = wr.heap[t2]?) (h2 : y.heap[ks]? = wr.heap[ks]?) (h4 : y.heap[g]? = wr.heap[g]?) => show y.cell? ⟨t2, 0, none⟩ = some (.pointer (some ⟨ks, 0, none⟩)) ∧ y.cell? ⟨ks, 0, none⟩ = some (.pointer (some ⟨kd, 0, none⟩)) ∧ y.cell? ⟨g, 2, none⟩ = some (.int .i64 (at1 : Nat)) ∧ y.cell? ⟨g, 3, none⟩ = some (.slice PA L1 PQ) from ⟨c0 y h1, c1 y h2, (hpg y h4).1, (hpg y h4).2⟩)
          clear hpg c0 c1 hi4
          go_upto_region 4 with fail
          have kp := HKP.out wr.drew rfl rfl rfl
          go_region_held3 (fun y => y.cell? ⟨t2, 0, none⟩ = some (.pointer (some ⟨ks, 0, none⟩)) ∧ y.cell? ⟨ks, 0, none⟩ = some (.pointer (some ⟨kd, 0, none⟩)) ∧ y.cell? ⟨g, 2, none⟩ = some (.int .i64 (at1 : Nat)) ∧ y.cell? ⟨g, 3, none⟩ = some (.slice PA L1 PQ)) (exact kp) ((go_at_call 24; refine (HWR.out wr.drew (hx.out.dk.draws 1) (HRP.out.drewN 1)).mono ?_; rintro e w1 ⟨rfl, hd1, ho1⟩; have HO1 := hid (show Only wr w1 kd v from ⟨ho1.os, ho1.tape, ho1.output, ho1.size, ho1.block, ho1.stay⟩); have HD1 := hid hd1; have kp := HKP.out w1 (hwt.out.eqs hx.out.dk HO1.out).1 (hx.out.eqs HO1.out) (hwt.out.eqs hx.out.dk HO1.out).2; clear hd1 ho1))
          clear kp
          have HX1 := hid (hx.out.wrote HFM.out HD1.out HO1.out)
          have HW1 := hid (hwt.out.only hx.out.dk HO1.out)
          have HO2 := hid (ho.out.trans HO1.out)
          clear HKP HD1 HO1 HRP
          rw [HTT.out]
          go_wp2
          go_roundw
          case rel => exact ⟨k + 1, by go_num, by omega, _, HX1, HW1, HO2, hid (hrun.out.trans HT.out)⟩
          case measure => simp [intOf]; omega
        · rw [show (((2 : Nat) : Int)) = 2 from rfl] at hc
          have HKP := hid (fun (y : World) (h1 : y.heap[t2]? = wr.heap[t2]?) (h2 : y.heap[ks]? = wr.heap[ks]?) (h4 : y.heap[g]? = wr.heap[g]?) => show y.cell? ⟨t2, 0, none⟩ = some (.pointer (some ⟨ks, 0, none⟩)) ∧ y.cell? ⟨ks, 0, none⟩ = some (.pointer (some ⟨kd, 0, none⟩)) ∧ y.cell? ⟨g, 4, none⟩ = some (.int .i64 (at1 : Nat)) ∧ y.cell? ⟨g, 5, none⟩ = some (.slice PA L1 PQ) from ⟨c0 y h1, c1 y h2, (hpg y h4).1, (hpg y h4).2⟩)
          clear hpg c0 c1 hi4
          go_upto_region 4 with fail
          have kp := HKP.out wr.drew rfl rfl rfl
          go_region_held3 (fun y => y.cell? ⟨t2, 0, none⟩ = some (.pointer (some ⟨ks, 0, none⟩)) ∧ y.cell? ⟨ks, 0, none⟩ = some (.pointer (some ⟨kd, 0, none⟩)) ∧ y.cell? ⟨g, 4, none⟩ = some (.int .i64 (at1 : Nat)) ∧ y.cell? ⟨g, 5, none⟩ = some (.slice PA L1 PQ)) (exact kp) ((go_at_call 24; refine (HWR.out wr.drew (hx.out.dk.draws 1) (HRP.out.drewN 1)).mono ?_; rintro e w1 ⟨rfl, hd1, ho1⟩; have HO1 := hid (show Only wr w1 kd v from ⟨ho1.os, ho1.tape, ho1.output, ho1.size, ho1.block, ho1.stay⟩); have HD1 := hid hd1; have kp := HKP.out w1 (hwt.out.eqs hx.out.dk HO1.out).1 (hx.out.eqs HO1.out) (hwt.out.eqs hx.out.dk HO1.out).2; clear hd1 ho1))
          clear kp
          have HX1 := hid (hx.out.wrote HFM.out HD1.out HO1.out)
          have HW1 := hid (hwt.out.only hx.out.dk HO1.out)
          have HO2 := hid (ho.out.trans HO1.out)
          clear HKP HD1 HO1 HRP
          rw [HTT.out]
          go_wp2
          go_roundw
          case rel => exact ⟨k + 1, by go_num, by omega, _, HX1, HW1, HO2, hid (hrun.out.trans HT.out)⟩
          case measure => simp [intOf]; omega
        · rw [show (((3 : Nat) : Int)) = 3 from rfl] at hc
          have HKP := hid (fun (y : World) (h1 : y.heap[t2]? = wr.heap[t2]?) (h2 : y.heap[ks]? = wr.heap[ks]?) (h4 : y.heap[g]? = wr.heap[g]?) => show y.cell? ⟨t2, 0, none⟩ = some (.pointer (some ⟨ks, 0, none⟩)) ∧ y.cell? ⟨ks, 0, none⟩ = some (.pointer (some ⟨kd, 0, none⟩)) ∧ y.cell? ⟨g, 6, none⟩ = some (.int .i64 (at1 : Nat)) ∧ y.cell? ⟨g, 7, none⟩ = some (.slice PA L1 PQ) from ⟨c0 y h1, c1 y h2, (hpg y h4).1, (hpg y h4).2⟩)
          clear hpg c0 c1 hi4
          go_upto_region 4 with fail
          have kp := HKP.out wr.drew rfl rfl rfl
          go_region_held3 (fun y => y.cell? ⟨t2, 0, none⟩ = some (.pointer (some ⟨ks, 0, none⟩)) ∧ y.cell? ⟨ks, 0, none⟩ = some (.pointer (some ⟨kd, 0, none⟩)) ∧ y.cell? ⟨g, 6, none⟩ = some (.int .i64 (at1 : Nat)) ∧ y.cell? ⟨g, 7, none⟩ = some (.slice PA L1 PQ)) (exact kp) ((go_at_call 24; refine (HWR.out wr.drew (hx.out.dk.draws 1) (HRP.out.drewN 1)).mono ?_; rintro e w1 ⟨rfl, hd1, ho1⟩; have HO1 := hid (show Only wr w1 kd v from ⟨ho1.os, ho1.tape, ho1.output, ho1.size, ho1.block, ho1.stay⟩); have HD1 := hid hd1; have kp := HKP.out w1 (hwt.out.eqs hx.out.dk HO1.out).1 (hx.out.eqs HO1.out) (hwt.out.eqs hx.out.dk HO1.out).2; clear hd1 ho1))
          clear kp
          have HX1 := hid (hx.out.wrote HFM.out HD1.out HO1.out)
          have HW1 := hid (hwt.out.only hx.out.dk HO1.out)
          have HO2 := hid (ho.out.trans HO1.out)
          clear HKP HD1 HO1 HRP
          rw [HTT.out]
          go_wp2
          go_roundw
          case rel => exact ⟨k + 1, by go_num, by omega, _, HX1, HW1, HO2, hid (hrun.out.trans HT.out)⟩
          case measure => simp [intOf]; omega
      · have HT := hid (HST.out.trans (if_neg ht))
        have HTT := hid ht
        clear ht HST
        rcases (by omega : m = 0 ∨ m = 1 ∨ m = 2 ∨ m = 3) with rfl | rfl | rfl | rfl
        · rw [show (((0 : Nat) : Int)) = 0 from rfl] at hc
          have HKP := hid (fun (y : World) (h1 : y.heap[t2]? = wr.heap[t2]?) (h2 : y.heap[ks]? = wr.heap[ks]?) (h4 : y.heap[g]? = wr.heap[g]?) => show y.cell? ⟨t2, 0, none⟩ = some (.pointer (some ⟨ks, 0, none⟩)) ∧ y.cell? ⟨ks, 0, none⟩ = some (.pointer (some ⟨kd, 0, none⟩)) ∧ y.cell? ⟨g, 0, none⟩ = some (.int .i64 (at1 : Nat)) ∧ y.cell? ⟨g, 1, none⟩ = some (.slice PA L1 PQ) from ⟨c0 y h1, c1 y h2, (hpg y h4).1, (hpg y h4).2⟩)
          clear hpg c0 c1 hi4
          go_upto_region 4 with fail
          have kp := HKP.out wr.drew rfl rfl rfl
          go_region_held3 (fun y => y.cell? ⟨t2, 0, none⟩ = some (.pointer (some ⟨ks, 0, none⟩)) ∧ y.cell? ⟨ks, 0, none⟩ = some (.pointer (some ⟨kd, 0, none⟩)) ∧ y.cell? ⟨g, 0, none⟩ = some (.int .i64 (at1 : Nat)) ∧ y.cell? ⟨g, 1, none⟩ = some (.slice PA L1 PQ)) (exact kp) ((go_at_call 24; refine (HWR.out wr.drew (hx.out.dk.draws 1) (HRP.out.drewN 1)).mono ?_; rintro e w1 ⟨rfl, hd1, ho1⟩; have HO1 := hid (show Only wr w1 kd v from ⟨ho1.os, ho1.tape, ho1.output, ho1.size, ho1.block, ho1.stay⟩); have HD1 := hid hd1; have kp := HKP.out w1 (hwt.out.eqs hx.out.dk HO1.out).1 (hx.out.eqs HO1.out) (hwt.out.eqs hx.out.dk HO1.out).2; clear hd1 ho1))
          clear kp
          have HX1 := hid (hx.out.wrote HFM.out HD1.out HO1.out)
          have HW1 := hid (hwt.out.only hx.out.dk HO1.out)
          have HO2 := hid (ho.out.trans HO1.out)
          clear HKP HD1 HO1 HRP
          obtain ⟨ev, hev⟩ : ∃ q, s'.told (at1 : Nat) l1 = q := ⟨_, rfl⟩
          rw [hev] at HT ⊢
          have hne : (ev == 0) = false := by simpa [hev] using HTT.out
          have hne2 : (ev != 0) = true := by simpa [hev] using HTT.out
          have HH := hid (hrun.out.trans HT.out)
          clear hev HT HTT hrun
          go_wp2
          go_ret
          rw [HH.out]
          exact ⟨rfl, HX1.out, HO2.out⟩
        · rw [show (((1 : Nat) : Int)) = 1 from rfl] at hc
          have HKP := hid (fun (y : World) (h1 : y.heap[t2]? = wr.heap[t2]?) (h2 : y.heap[ks]? = wr.heap[ks]?) (h4 : y.heap[g]? = wr.heap[g]?) => show y.cell? ⟨t2, 0, none⟩ = some (.pointer (some ⟨ks, 0, none⟩)) ∧ y.cell? ⟨ks, 0, none⟩ = some (.pointer (some ⟨kd, 0, none⟩)) ∧ y.cell? ⟨g, 2, none⟩ = some (.int .i64 (at1 : Nat)) ∧ y.cell? ⟨g, 3, none⟩ = some (.slice PA L1 PQ) from ⟨c0 y h1, c1 y h2, (hpg y h4).1, (hpg y h4).2⟩)
          clear hpg c0 c1 hi4
          go_upto_region 4 with fail
          have kp := HKP.out wr.drew rfl rfl rfl
          go_region_held3 (fun y => y.cell? ⟨t2, 0, none⟩ = some (.pointer (some ⟨ks, 0, none⟩)) ∧ y.cell? ⟨ks, 0, none⟩ = some (.pointer (some ⟨kd, 0, none⟩)) ∧ y.cell? ⟨g, 2, none⟩ = some (.int .i64 (at1 : Nat)) ∧ y.cell? ⟨g, 3, none⟩ = some (.slice PA L1 PQ)) (exact kp) ((go_at_call 24; refine (HWR.out wr.drew (hx.out.dk.draws 1) (HRP.out.drewN 1)).mono ?_; rintro e w1 ⟨rfl, hd1, ho1⟩; have HO1 := hid (show Only wr w1 kd v from ⟨ho1.os, ho1.tape, ho1.output, ho1.size, ho1.block, ho1.stay⟩); have HD1 := hid hd1; have kp := HKP.out w1 (hwt.out.eqs hx.out.dk HO1.out).1 (hx.out.eqs HO1.out) (hwt.out.eqs hx.out.dk HO1.out).2; clear hd1 ho1))
          clear kp
          have HX1 := hid (hx.out.wrote HFM.out HD1.out HO1.out)
          have HW1 := hid (hwt.out.only hx.out.dk HO1.out)
          have HO2 := hid (ho.out.trans HO1.out)
          clear HKP HD1 HO1 HRP
          obtain ⟨ev, hev⟩ : ∃ q, s'.told (at1 : Nat) l1 = q := ⟨_, rfl⟩
          rw [hev] at HT ⊢
          have hne : (ev == 0) = false := by simpa [hev] using HTT.out
          have hne2 : (ev != 0) = true := by simpa [hev] using HTT.out
          have HH := hid (hrun.out.trans HT.out)
          clear hev HT HTT hrun
          go_wp2
          go_ret
          rw [HH.out]
          exact ⟨rfl, HX1.out, HO2.out⟩
        · rw [show (((2 : Nat) : Int)) = 2 from rfl] at hc
          have HKP := hid (fun (y : World) (h1 : y.heap[t2]? = wr.heap[t2]?) (h2 : y.heap[ks]? = wr.heap[ks]?) (h4 : y.heap[g]? = wr.heap[g]?) => show y.cell? ⟨t2, 0, none⟩ = some (.pointer (some ⟨ks, 0, none⟩)) ∧ y.cell? ⟨ks, 0, none⟩ = some (.pointer (some ⟨kd, 0, none⟩)) ∧ y.cell? ⟨g, 4, none⟩ = some (.int .i64 (at1 : Nat)) ∧ y.cell? ⟨g, 5, none⟩ = some (.slice PA L1 PQ) from ⟨c0 y h1, c1 y h2, (hpg y h4).1, (hpg y h4).2⟩)
          clear hpg c0 c1 hi4
          go_upto_region 4 with fail
          have kp := HKP.out wr.drew rfl rfl rfl
          go_region_held3 (fun y => y.cell? ⟨t2, 0, none⟩ = some (.pointer (some ⟨ks, 0, none⟩)) ∧ y.cell? ⟨ks, 0, none⟩ = some (.pointer (some ⟨kd, 0, none⟩)) ∧ y.cell? ⟨g, 4, none⟩ = some (.int .i64 (at1 : Nat)) ∧ y.cell? ⟨g, 5, none⟩ = some (.slice PA L1 PQ)) (exact kp) ((go_at_call 24; refine (HWR.out wr.drew (hx.out.dk.draws 1) (HRP.out.drewN 1)).mono ?_; rintro e w1 ⟨rfl, hd1, ho1⟩; have HO1 := hid (show Only wr w1 kd v from ⟨ho1.os, ho1.tape, ho1.output, ho1.size, ho1.block, ho1.stay⟩); have HD1 := hid hd1; have kp := HKP.out w1 (hwt.out.eqs hx.out.dk HO1.out).1 (hx.out.eqs HO1.out) (hwt.out.eqs hx.out.dk HO1.out).2; clear hd1 ho1))
          clear kp
          have HX1 := hid (hx.out.wrote HFM.out HD1.out HO1.out)
          have HW1 := hid (hwt.out.only hx.out.dk HO1.out)
          have HO2 := hid (ho.out.trans HO1.out)
          clear HKP HD1 HO1 HRP
          obtain ⟨ev, hev⟩ : ∃ q, s'.told (at1 : Nat) l1 = q := ⟨_, rfl⟩
          rw [hev] at HT ⊢
          have hne : (ev == 0) = false := by simpa [hev] using HTT.out
          have hne2 : (ev != 0) = true := by simpa [hev] using HTT.out
          have HH := hid (hrun.out.trans HT.out)
          clear hev HT HTT hrun
          go_wp2
          go_ret
          rw [HH.out]
          exact ⟨rfl, HX1.out, HO2.out⟩
        · rw [show (((3 : Nat) : Int)) = 3 from rfl] at hc
          have HKP := hid (fun (y : World) (h1 : y.heap[t2]? = wr.heap[t2]?) (h2 : y.heap[ks]? = wr.heap[ks]?) (h4 : y.heap[g]? = wr.heap[g]?) => show y.cell? ⟨t2, 0, none⟩ = some (.pointer (some ⟨ks, 0, none⟩)) ∧ y.cell? ⟨ks, 0, none⟩ = some (.pointer (some ⟨kd, 0, none⟩)) ∧ y.cell? ⟨g, 6, none⟩ = some (.int .i64 (at1 : Nat)) ∧ y.cell? ⟨g, 7, none⟩ = some (.slice PA L1 PQ) from ⟨c0 y h1, c1 y h2, (hpg y h4).1, (hpg y h4).2⟩)
          clear hpg c0 c1 hi4
          go_upto_region 4 with fail
          have kp := HKP.out wr.drew rfl rfl rfl
          go_region_held3 (fun y => y.cell? ⟨t2, 0, none⟩ = some (.pointer (some ⟨ks, 0, none⟩)) ∧ y.cell? ⟨ks, 0, none⟩ = some (.pointer (some ⟨kd, 0, none⟩)) ∧ y.cell? ⟨g, 6, none⟩ = some (.int .i64 (at1 : Nat)) ∧ y.cell? ⟨g, 7, none⟩ = some (.slice PA L1 PQ)) (exact kp) ((go_at_call 24; refine (HWR.out wr.drew (hx.out.dk.draws 1) (HRP.out.drewN 1)).mono ?_; rintro e w1 ⟨rfl, hd1, ho1⟩; have HO1 := hid (show Only wr w1 kd v from ⟨ho1.os, ho1.tape, ho1.output, ho1.size, ho1.block, ho1.stay⟩); have HD1 := hid hd1; have kp := HKP.out w1 (hwt.out.eqs hx.out.dk HO1.out).1 (hx.out.eqs HO1.out) (hwt.out.eqs hx.out.dk HO1.out).2; clear hd1 ho1))
          clear kp
          have HX1 := hid (hx.out.wrote HFM.out HD1.out HO1.out)
          have HW1 := hid (hwt.out.only hx.out.dk HO1.out)
          have HO2 := hid (ho.out.trans HO1.out)
          clear HKP HD1 HO1 HRP
          obtain ⟨ev, hev⟩ : ∃ q, s'.told (at1 : Nat) l1 = q := ⟨_, rfl⟩
          rw [hev] at HT ⊢
          have hne : (ev == 0) = false := by simpa [hev] using HTT.out
          have hne2 : (ev != 0) = true := by simpa [hev] using HTT.out
          have HH := hid (hrun.out.trans HT.out)
          clear hev HT HTT hrun
          go_wp2
          go_ret
          rw [HH.out]
          exact ⟨rfl, HX1.out, HO2.out⟩
      -- END
    · have hkn : k = n := by omega
      subst hkn
      have HE := hid (show runs (wat a1 a2) f s ns = (s', 0) by rw [hrun.out, ← HN.out, List.drop_length]; rfl)
      go_wp2
      go_ret
      rw [HE.out]
      exact ⟨rfl, hx.out, ho.out⟩
end
end Go.Proofs.Ytincndblpbdnlaa
