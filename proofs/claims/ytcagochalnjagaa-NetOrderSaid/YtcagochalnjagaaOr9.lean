/-
  What is proved: the walk of NetOrder: frames that are sent are taken, from the first on, as they were sent; nobody else's list is in them. Condition: the frames are read as such.
-/
import Derived.Test.YtcagochalnjagaaKe9
import Derived.Test.YtcagochalnjagaaRs9
namespace Go.Proofs.Ytcagochalnjagaa
open Go.RowKit

/-- a slice of bytes that may be written to, from block b on -/
def By (b : Nat) (w : World) (u : Value) : Prop :=
  ∃ A n c, u = .slice A n c ∧ n ≤ c ∧ c ≤ maxLen ∧ ∀ t, t < n → ∃ ad y, A = some ad ∧ b ≤ ad.block ∧ w.cell? (ad.add t) = some (.int .u8 y) ∧ w.frozen? (ad.add t) = false
theorem By.mono {b b' : Nat} {w : World} {u : Value} (h : By b w u) (hb : b' ≤ b) : By b' w u := by
  obtain ⟨A, n, c, e, h1, h2, h3⟩ := h
  exact ⟨A, n, c, e, h1, h2, fun t ht => by obtain ⟨ad, y, e1, e2, e3⟩ := h3 t ht; exact ⟨ad, y, e1, Nat.le_trans hb e2, e3⟩⟩
theorem By.keep {b : Nat} {w w' : World} {u : Value} (h : By b w u) (hk : ∀ p y, w.cell? p = some (.int .u8 y) → w'.heap[p.block]? = w.heap[p.block]?) : By b w' u := by
  obtain ⟨A, n, c, e, h1, h2, h3⟩ := h
  refine ⟨A, n, c, e, h1, h2, fun t ht => ?_⟩
  obtain ⟨ad, y, e1, e2, e3, e4⟩ := h3 t ht
  exact ⟨ad, y, e1, e2, (World.cell?_of_block (hk _ _ e3)).trans e3, (World.frozen?_of_block (hk _ _ e3)).trans e4⟩
theorem By.below {b : Nat} {w w' : World} {u : Value} (h : By b w u) (hb : Below w.heap.size w w') : By b w' u := h.keep fun p _ e => hb.block _ (World.block_lt_of_cell? w p e)
theorem By.poke {b : Nat} {w : World} {u : Value} (h : By b w u) (p : Addr) (z : Int) (_ : (w.cell? p).isSome = true) : By b (w.setCell p (.int .u8 z)) u := by
  obtain ⟨A, n, c, e, h1, h2, h3⟩ := h
  refine ⟨A, n, c, e, h1, h2, fun t ht => ?_⟩
  obtain ⟨ad, y, e1, e2, e3, e4⟩ := h3 t ht
  by_cases hq : p = ad.add t
  · subst hq
    exact ⟨ad, z, e1, e2, World.cell?_setCell_same _ _ _ e3, by rw [World.frozen?_setCell]; exact e4⟩
  · exact ⟨ad, y, e1, e2, by rw [World.cell?_setCell_other _ _ _ _ hq]; exact e3, by rw [World.frozen?_setCell]; exact e4⟩
/-- a byte's block is no row of the call's own -/
theorem OwnW.byte {w : World} {e : TypeId} {v : Value} {us : List Value} (h : OwnW w e v us) {p : Addr} {y : Int} (hp : w.cell? p = some (.int .u8 y)) : v.ownBlock ≠ some p.block := by
  intro e2
  rcases h with ⟨rfl, _⟩ | ⟨g, cap, cur, rfl, hh, _, _, _, _, hb⟩
  · simp [Value.ownBlock] at e2
  · simp [Value.ownBlock] at e2
    subst e2
    obtain ⟨b, o, q⟩ := p
    have hgt : w.heap[b]? = some (.cells cur e (0, 0)) := hh
    cases q with
    | none =>
      have h2 : w.cell? ⟨b, o, none⟩ = cur[o]? := cell_of_row w b o cur e (0, 0) hgt
      rw [h2] at hp
      exact hb _ (by rw [Array.mem_toList_iff]; exact Array.mem_of_getElem? hp) y rfl
    | some q => simp [World.cell?, hgt] at hp
theorem NI.byte {w : World} {k : Nat} {v : Value} {us : List Value} {S : List Wy} (h : NI w k v us S) {p : Addr} {y : Int} (hp : w.cell? p = some (.int .u8 y)) : ¬ Ft k v us p.block := by
  rintro (e | e | ⟨u, hu, e⟩)
  · obtain ⟨b, o, q⟩ := p
    have hb : b = k := e
    subst hb
    have hx := h.box
    unfold Bx at hx
    cases q with
    | none =>
      have h2 : w.cell? ⟨b, o, none⟩ = #[v][o]? := h.box.cell o
      rw [h2] at hp
      obtain ⟨A, c, e3, _⟩ := Nt.cells h
      have := Array.mem_of_getElem? hp
      simp at this
      rw [e3] at this
      cases this
    | some q => simp [World.cell?, hx] at hp
  · exact h.row.byte hp e
  · obtain ⟨i, hi, rfl⟩ := List.mem_iff_getElem.1 hu
    obtain ⟨cs, ho, _⟩ := h.way i _ _ (List.getElem?_eq_getElem hi) (List.getElem?_eq_getElem (h.len ▸ hi))
    exact ho.byte hp e
/-- a byte elsewhere is another one -/
theorem NI.poke {w : World} {k : Nat} {v : Value} {us : List Value} {S : List Wy} (h : NI w k v us S) {p : Addr} {y : Int} (hp : w.cell? p = some (.int .u8 y)) (z : Value) : NI (w.setCell p z) k v us S := by
  have hb : ∀ j, Ft k v us j → (w.setCell p z).heap[j]? = w.heap[j]? := fun j hj => Below.heap_setCell w p z j (fun e => h.byte hp (e ▸ hj))
  exact
  { box := (hb k (.inl rfl)).trans h.box
    row := h.row.kept fun g hg => hb g (.inr (.inl hg))
    len := h.len
    w32 := h.w32
    cap := h.cap
    way := fun i u fs hu hf => by
      obtain ⟨cs, h1, h2⟩ := h.way i u fs hu hf
      exact ⟨cs, h1.kept fun g hg => hb g (.inr (.inr ⟨u, List.mem_of_getElem? hu, hg⟩)), h2.1, fun j x l hx hl => h2.2 j x l hx hl⟩
    vk := h.vk
    uk := h.uk
    uv := h.uv
    uu := h.uu }
theorem OwnW.poke {w : World} {e : TypeId} {v : Value} {us : List Value} (h : OwnW w e v us) {p : Addr} {y : Int} (hp : w.cell? p = some (.int .u8 y)) (z : Value) : OwnW (w.setCell p z) e v us :=
  h.kept fun g hg => Below.heap_setCell w p z g (fun e => h.byte hp (by rw [hg, e]))
theorem GrW.chg {w w' : World} {v v' : Value} (h : GrW w w' v v') : Chg w w' (fun j => v.ownBlock = some j) (fun j => v'.ownBlock = some j) :=
  ⟨h.gr.os, h.gr.tape, h.gr.output, h.gr.size, fun j h1 h2 => h.other h1 h2, fun j hj => by
    rcases h.at_ with e | e
    · exact .inl (by rw [← e]; exact hj)
    · exact .inr (e j hj), h.stay⟩
theorem ownV_by {w : World} {b n : Nat} {v : Value} {l : List Int} (h : OwnV w b 5 1 v n (bytes l)) (hn : l.length = n) : By b w v := by
  obtain ⟨A, c, e, r, h1, h2⟩ := h.read
  refine ⟨A, n, c, e, h1, h2, fun t ht => ?_⟩
  obtain ⟨g, cap, rfl, hb, _⟩ := World.ownsRow.form h (by omega)
  simp only [Value.slice.injEq, true_and] at e
  obtain ⟨rfl, rfl⟩ := e
  obtain ⟨y, hy⟩ : ∃ y, l[t]? = some y := ⟨_, List.getElem?_eq_getElem (by omega)⟩
  refine ⟨_, y, rfl, hb, ?_, ?_⟩
  · rw [addG, World.ownsRow.cellAt h t (by omega)]; simp [bytes, hy]
  · rw [addG]; exact World.ownsRow.frozenAt h t

/-- the frames of one's own, behind p rounds -/
structure Ow (w1 w : World) (k : Nat) (vn : Value) (us : List Value) (S : List Wy) (v : Value) (hs : List Value) (l : Wy) : Prop where
  n : Kp w1 w k vn us S
  o : OwnW w 32 v hs
  cs : Cs Eb w hs l
  by_ : ∀ u ∈ hs, By w1.heap.size w u
  dis : ∀ j, Ft k vn us j → v.ownBlock ≠ some j
  low : ∀ j, v.ownBlock = some j → w1.heap.size ≤ j
section
variable {w1 w w' : World} {k : Nat} {vn v v' : Value} {us hs : List Value} {S : List Wy} {l : Wy}
theorem Ow.below (h : Ow w1 w k vn us S v hs l) (hb : Below w.heap.size w w') : Ow w1 w' k vn us S v hs l :=
  ⟨h.n.below hb, h.o.below hb, h.cs.below stb_Eb hb, fun u hu => (h.by_ u hu).below hb, h.dis, h.low⟩
theorem Ow.more (h : Ow w1 w k vn us S v hs l) {u : Value} {x : List Int} (ho : OwnW w' 32 v' (hs ++ [u])) (hg : GrW w w' v v') (hu : Bs w u x) (hby : By w1.heap.size w u) : Ow w1 w' k vn us S v' (hs ++ [u]) (l ++ [x]) := by
  have hc := hg.chg
  have hk : ∀ p y, w.cell? p = some (.int .u8 y) → w'.heap[p.block]? = w.heap[p.block]? := fun p y e => hg.other (World.block_lt_of_cell? w p e) (h.o.byte e)
  refine ⟨⟨Nt.other h.n.a stb_Es hc (fun j hj => h.dis j hj), h.n.la, h.n.bel.trans (hc.bel h.n.bel.size h.low)⟩, ho, (h.cs.keep stb_Eb hg.stay hg.gr.size).append (Cs.one (E := Eb) (Bs.stay hu hg.stay hg.gr.size)), fun u' hu' => ?_, fun j hj e => ?_, fun j e => ?_⟩
  · rcases List.mem_append.1 hu' with h1 | h1
    · exact (h.by_ u' h1).keep hk
    · simp at h1; subst h1; exact hby.keep hk
  · rcases hg.at_ with e1 | e1
    · exact h.dis j hj (by rw [← e1]; exact e)
    · have := Nt.lt h.n.a hj; have := e1 j e; omega
  · rcases hg.at_ with e1 | e1
    · exact h.low j (by rw [← e1]; exact e)
    · have := (e1 j e).1; have := h.n.bel.size; omega
/-- what is left of one's own behind Send -/
structure Mo (w1 w : World) (k : Nat) (vn : Value) (us : List Value) (S : List Wy) (v : Value) (hs : List Value) : Prop where
  n : Kp w1 w k vn us S
  o : OwnW w 32 v hs
  by_ : ∀ u ∈ hs, By w1.heap.size w u
theorem Mo.poke (h : Mo w1 w k vn us S v hs) {p : Addr} {y : Int} (hp : w.cell? p = some (.int .u8 y)) (hb : w1.heap.size ≤ p.block) (z : Int) : Mo w1 (w.setCell p (.int .u8 z)) k vn us S v hs :=
  ⟨⟨NI.poke h.n.a hp _, h.n.la, below_set h.n.bel p _ hb⟩, h.o.poke hp _, fun u hu => (h.by_ u hu).poke p z (by rw [hp]; rfl)⟩
/-- two ways, of which the second holds the frames -/
theorem two_send (l : Wy) (h : l.length ≤ 400) : sendS [[], []] 1 l = [[], l] ∧ sendN [[], []] 1 l = l.length := by
  have hi : isw [[], []] 1 := ⟨by omega, by show (1 : Int) < (2 : Int); omega⟩
  have e : wy [[], []] 1 = [] := rfl
  have e2 : room [[], []] 1 = 400 := by unfold room; rw [if_pos hi, e]; rfl
  unfold sendS sendN
  rw [if_pos hi, e2, e, List.take_of_length_le h, Nat.min_eq_left h]
  exact ⟨rfl, rfl⟩
theorem two_take (x : List Int) (r : Wy) : takeS [[], x :: r] 1 0 = [[], r] ∧ takeB [[], x :: r] 1 0 = x ∧ errS [[], x :: r] 1 0 = 0 := by
  have e : wy [[], x :: r] 1 = x :: r := rfl
  have v : vld (wy [[], x :: r] 1) 0 := ⟨by omega, by rw [e, List.length_cons]; omega⟩
  unfold takeS takeB errS
  rw [if_pos v, if_pos v, if_pos v, e]
  exact ⟨rfl, rfl, rfl⟩
theorem two_none : takeS [[], []] 1 0 = [[], []] ∧ takeB [[], []] 1 0 = [] ∧ errS [[], []] 1 0 = 5 := by decide
end
set_option maxRecDepth 100000 in
set_option maxHeartbeats 3200000 in
theorem order_walk (A : Option Addr) (n c : Nat) (bs : List Value) (l : Wy) (w : World) (hn : l.length = n) (hc : n ≤ c ∧ c ≤ maxLen) (h : Fr w A bs l) :
    Calls Try.prog 4 #[.slice A n c] w fun e w' => e = .returned (.bool true) ∧ Below w.heap.size w w' := by
  have HFR := hid h
  have HN := hid hn
  obtain ⟨hnc, hcm⟩ := hc
  unfold maxLen at hcm
  clear h hn
  go_enter Try.func4, Try.ntmps4
  go_upto_region 3 with (go_at_call 8; refine (wakes_any _).mono ?_; rintro e w1 ⟨rfl, hb⟩; have HB := hid hb; clear hb)
  by_cases h400 : 400 < n
  · go_wp2
    go_ret
    exact ⟨rfl, HB.out⟩
  have h4 : n ≤ 400 := by omega
  clear h400
  have HF1 := hid (HFR.out.below HB.out)
  go_wp2_with fail
  refine (nnew_any 2 _).mono ?_
  rintro e w2 ⟨k, vn, us, rfl, hk, hb2, hF2⟩
  have HO0 := hid (show Ow w1 w2 k vn us [[], []] (.slice none 0 0) [] [] from ⟨⟨hk, hF2, hb2⟩, ownW_nil _ _, Cs.nil _ _, fun u hu => by simp at hu, fun j _ => by simp [Value.ownBlock], fun j e => by simp [Value.ownBlock] at e⟩)
  clear hk hb2 hF2
  go_wp2_with fail
  go_loopg [4, 21] n (fun gk s t wr => ∃ p : Nat, p + gk = n ∧ t = .int .i64 p ∧ ∃ hs, Ow w1 wr k vn us [[], []] s hs (l.take p))
  case atStart => exact ⟨0, by omega, rfl, _, HO0.out⟩
  case round =>
    obtain ⟨p, hp, rfl, hs, ho⟩ := hrel
    obtain ⟨A4, c4, e4, _, hc4, hm4⟩ := ho.o.read
    have hsl : hs.length = p := by rw [ho.cs.1, List.length_take, HN.out]; omega
    rw [hsl] at e4
    subst e4
    have HO := hid ho
    have HSL := hid hsl
    clear ho hsl HO0
    by_cases hlt : p < n
    · have hpl : p < l.length := by rw [HN.out]; exact hlt
      obtain ⟨lp, hlp⟩ : ∃ x, l[p]? = some x := ⟨_, List.getElem?_eq_getElem hpl⟩
      have hfr := HF1.out.below HO.out.n.bel
      obtain ⟨b, hb, hbE⟩ := hfr.cs.get hlp
      obtain ⟨ad, rfl, hadl, hadc⟩ := hfr.rv p b hb
      obtain ⟨Bp, cp, rfl, hbr, hb1, hb2⟩ := hbE
      have hrg := (hfr.rng lp (List.mem_of_getElem? hlp)).2
      have HTK := hid (show l.take p ++ [lp] = l.take (p + 1) from by rw [List.take_succ_eq_append_getElem hpl, (List.getElem?_eq_some_iff.1 hlp).2])
      obtain ⟨lx, hlx⟩ : ∃ z, lp.length = z := ⟨_, rfl⟩
      rw [hlx] at hadc hb1 hrg
      have HLX := hid hlx
      have HBR := hid hbr
      have hpp : (p : Int) < (n : Int) := by omega
      have HB0 := hid (below_alloc wr (.cells #[] 5))
      have O2 := hid (show OwnV (wr.alloc (.cells #[] 5)) wr.heap.size 5 1 (.slice (some ⟨wr.heap.size, 0, none⟩) 0 0) 0 [] from World.ownsRow_lit (size := 1) wr #[] 0 (Nat.le_refl _) (by unfold maxLen; omega) rfl)
      have y0 : (wr.alloc (.cells #[] 5)).cell? (ad.add p) = some (.slice Bp lx cp) := (HB0.out.cell (p := ad.add p) (by rw [addBlk]; exact hadl)).trans hadc
      clear hfr hb hadc hbr hlp hlx hpl hadl
      go_upto_region 11 with (first
        | (at_builtin; (refine wpList_appV elt_byte rfl (.tmp 25) (.tmp 29) rfl wr.heap.size _ 0 [] O2.out rfl _ Bp lx cp (bytes lp) rfl (by rw [bytes_length, HLX.out, Nat.mul_one]) (rv_of_rd (HBR.out.alloc (.cells #[] 5))) (bytes_one lp) (by unfold maxLen; omega) (by omega) (by rw [World.size_alloc]; omega) ?_); intro v3 w3 hown3 hg3; rw [Nat.zero_add, List.nil_append] at hown3; have B3 := hid (HB0.out.trans (hg3.below O2.out (by rw [World.size_alloc]; omega))); have HE3 := hid (ownV_bs hown3 HLX.out); have HY3 := hid ((ownV_by hown3 HLX.out).mono HO.out.n.bel.size); obtain ⟨Ax, cx, rfl, -⟩ := hown3.read; have HO3 := hid ((HO.out.below B3.out).below (below_alloc w3 (.cells #[.slice Ax lx cx] 32))); have HE4 := hid (HE3.out.below (below_alloc w3 (.cells #[.slice Ax lx cx] 32))); have HY4 := hid (HY3.out.below (below_alloc w3 (.cells #[.slice Ax lx cx] 32))); have HR4 := hid (rv_new w3 32 #[.slice Ax lx cx]); clear hown3 hg3)
        | (at_builtin; (refine wpList_appW elt_txt rfl (nb_slice _ _ _) rfl (.tmp 24) (.tmp 31) rfl _ hs HO3.out.o rfl _ _ 1 1 [.slice Ax lx cx] rfl rfl HR4.out (fun u hu => by simp at hu; subst hu; rfl) (fun u hu => by simp at hu; subst hu; exact nb_slice _ _ _) (by rw [HSL.out]; unfold maxLen; omega) (by rw [HSL.out]; omega) ?_); intro v5 w5 ho5 hg5; have HO5 := hid (HO3.out.more ho5 hg5 HE4.out HY4.out); clear ho5 hg5))
      clear y0
      go_wp2_with fail
      go_roundg (gk - 1)
      case measure => omega
      case rel => exact ⟨p + 1, by omega, by go_num, _, by rw [← HTK.out]; exact HO5.out⟩
    · obtain rfl : p = n := by omega
      clear hlt hp
      have HLT := hid (show l.take p = l from List.take_of_length_le (by rw [HN.out]; exact Nat.le_refl _))
      have HFN := hid (show Fin wr (Ft k vn us) A4 hs l from by
        have hr := HO.out.o.read
        obtain ⟨A5, c5, e5, r5, _, _⟩ := hr
        simp only [Value.slice.injEq] at e5
        obtain ⟨rfl, -, -⟩ := e5
        refine ⟨fun j u hu => ?_, by have := HO.out.cs; rw [HLT.out] at this; exact this, (HF1.out).rng⟩
        obtain ⟨ad, e, hb, hcc⟩ := r5 j u hu
        subst e
        exact ⟨ad, rfl, hb, fun hf => HO.out.dis _ hf rfl, hcc⟩)
      have hn0 : ((p : Int) != (p : Int)) = false := by simp
      go_wp2_with fail
      refine (nsend_any HO.out.n.a 1 A4 p c4 hs l HN.out ⟨by have := HSL.out; omega, hm4⟩ HFN.out).mono ?_
      rintro e w6 ⟨rfl, us6, hN, hC⟩
      obtain ⟨t1, t2⟩ := two_send l (by rw [HN.out]; exact h4)
      rw [t1] at hN
      rw [t2, HN.out]
      have HM := hid (show Mo w1 w6 k vn us6 [[], l] (.slice A4 p c4) hs from ⟨HO.out.n.step hN hC, HO.out.o.kept (fun g hg => hC.block g (HO.out.o.lt hg) (fun hf => HO.out.dis g hf hg)), fun u hu => (HO.out.by_ u hu).keep (fun q y e => hC.block _ (World.block_lt_of_cell? wr q e) (NI.byte HO.out.n.a e))⟩)
      clear hN hC t1 t2 HFN HLT HO
      go_wp2_with fail
      clear hn0
      go_loopg [42] p (fun gk t wr => ∃ i : Nat, i + gk = p ∧ t = .int .i64 i ∧ Mo w1 wr k vn us6 [[], l] (.slice A4 p c4) hs)
      case atStart => exact ⟨0, by omega, rfl, HM.out⟩
      case round =>
        obtain ⟨i, hi, rfl, hm⟩ := hrel
        have HI := hid hm
        clear hm HM
        by_cases hlt : i < p
        · have hil : i < hs.length := by rw [HSL.out]; exact hlt
          obtain ⟨g4, d4, e5⟩ := HI.out.o.place (by omega)
          simp only [Value.slice.injEq] at e5
          obtain ⟨rfl, -, -⟩ := e5
          obtain ⟨u, hu⟩ : ∃ x, hs[i]? = some x := ⟨_, List.getElem?_eq_getElem hil⟩
          have HUM := hid (List.mem_of_getElem? hu)
          obtain ⟨Ai, ni, ci, rfl, hni, hnc2, -⟩ := HI.out.by_ u HUM.out
          have HU := hid hu
          have q1 : wr.cell? ⟨g4, i, none⟩ = some (.slice Ai ni ci) := (HI.out.o.cellAt hil).1.trans hu
          have hii : (i : Int) < (p : Int) := by omega
          have HIL := hid hil
          unfold maxLen at hnc2
          clear hu hil
          go_upto_region 18 with fail
          go_wp2_with fail
          clear q1
          generalize gk = K0 at *
          go_loopg [50] ni (fun gk t wr => ∃ q : Nat, q + gk = ni ∧ t = .int .i64 q ∧ Mo w1 wr k vn us6 [[], l] (.slice (some ⟨g4, 0, none⟩) p c4) hs)
          case atStart => exact ⟨0, by omega, rfl, HI.out⟩
          case round =>
            obtain ⟨q, hq, rfl, hm⟩ := hrel
            have HJ := hid hm
            clear hm HI
            by_cases hql : q < ni
            · obtain ⟨A9, n9, c9, e9, -, -, hby⟩ := HJ.out.by_ _ HUM.out
              simp only [Value.slice.injEq] at e9
              obtain ⟨rfl, rfl, rfl⟩ := e9
              obtain ⟨ad, y, rfl, hbb, hcc, hff⟩ := hby q hql
              have q1 : wr.cell? ⟨g4, i, none⟩ = some (.slice (some ad) ni ci) := (HJ.out.o.cellAt HIL.out).1.trans HU.out
              have hqq : (q : Int) < (ni : Int) := by omega
              have HBB := hid (show w1.heap.size ≤ (ad.add q).block by rw [addBlk]; exact hbb)
              have HCC := hid hcc
              clear hby hbb
              go_wp2_with fail
              go_roundg (gk - 1)
              case measure => omega
              case rel => exact ⟨q + 1, by omega, by go_num, HJ.out.poke HCC.out HBB.out _⟩
            · obtain rfl : q = ni := by omega
              clear hql hq
              go_wp2_with fail
              go_roundg (K0 - 1)
              case measure => omega
              case rel => exact ⟨i + 1, by omega, by go_num, HJ.out⟩
        · obtain rfl : i = p := by omega
          clear hlt hi
          have HK := hid HI.out.n
          clear HI HSL
          go_wp2_with fail
          go_loopg [66] i (fun gk t wr => ∃ j : Nat, j + gk = i ∧ t = .int .i64 j ∧ ∃ us, Kp w1 wr k vn us [[], l.drop j])
          case atStart => exact ⟨0, by omega, rfl, _, HK.out⟩
          case round =>
            obtain ⟨j, hj, rfl, us7, hk7⟩ := hrel
            have HK7 := hid hk7
            clear hk7 HK
            by_cases hlt : j < i
            · have hjl : j < l.length := by rw [HN.out]; exact hlt
              obtain ⟨x, hx⟩ : ∃ x, l[j]? = some x := ⟨_, List.getElem?_eq_getElem hjl⟩
              have hdr : l.drop j = x :: l.drop (j + 1) := by rw [List.drop_eq_getElem_cons hjl, (List.getElem?_eq_some_iff.1 hx).2]
              have HT := hid (ntake_any HK7.out.a 1 0)
              rw [hdr] at HT
              obtain ⟨t1, t2, t3⟩ := two_take x (l.drop (j + 1))
              rw [t1, t2, t3] at HT
              have hfr := HF1.out.below HK7.out.bel
              obtain ⟨b, hb, hbE⟩ := hfr.cs.get hx
              obtain ⟨ad, rfl, hadl, hadc⟩ := hfr.rv j b hb
              obtain ⟨Bp, cp, rfl, hbr, hb1, hb2⟩ := hbE
              obtain ⟨lx, hlx⟩ : ∃ z, x.length = z := ⟨_, rfl⟩
              rw [hlx] at hadc hb1
              have HLX := hid hlx
              have HXB := hid (Nat.le_trans hb1 hb2)
              have hb0 := (HF1.out.rv j _ hb)
              have HAD := hid hb0
              have HBR := hid hbr
              have HBB := hid hb
              have hjj : (j : Int) < (i : Int) := by omega
              clear hdr t1 t2 t3 hfr hb hb0 hb1 hb2 hbr hlx hx hjl hadl
              go_upto_region 27 with (go_at_call 18; refine HT.out.mono ?_; rintro e w8 ⟨u8, us8, rfl, hB, hN, hC⟩; have HK8 := hid (HK7.out.step hN hC); obtain ⟨A8, x8, rfl, hr8, -, -⟩ := hB; have HR8 := hid hr8; have HRB := hid (show Rn w8 Bp x from fun j y hy => by obtain ⟨ad, e, h1, h2⟩ := HBR.out j y hy; exact ⟨ad, e, Nat.lt_of_lt_of_le h1 hC.size, hC.stay _ _ h2⟩); clear hN hC hr8)
              rw [HLX.out]
              clear hadc
              have y8 : w8.cell? (ad.add j) = some (.slice Bp lx cp) := by
                obtain ⟨ad', e', h1, h2⟩ := (HF1.out.below HK8.out.bel).rv j _ HBB.out
                injection e' with e'
                subst e'
                rw [← HLX.out]
                exact h2
              go_wp2_with (go_at_call 14; refine (same_yes A8 Bp lx lx x8 cp x _ _ _ HLX.out HLX.out HXB.out HR8.out HRB.out).mono ?_; rintro e w9 ⟨rfl, d9, rfl⟩)
              go_roundg (gk - 1)
              case measure => omega
              case rel => exact ⟨j + 1, by omega, by go_num, _, HK8.out.below (below_draws (Below.refl _ _) d9)⟩
            · obtain rfl : j = i := by omega
              have hdr : l.drop j = [] := List.drop_of_length_le (by rw [HN.out]; exact Nat.le_refl _)
              have HT := hid (ntake_any HK7.out.a 1 0)
              rw [hdr] at HT
              obtain ⟨t1, t2, t3⟩ := two_none
              rw [t1, t2, t3] at HT
              clear hdr t1 t2 t3 hlt hj
              go_wp2_with (first | (go_at_call 18; refine HT.out.mono ?_; rintro e w8 ⟨u8, us8, rfl, hB, hN, hC⟩; have HK8 := hid (HK7.out.step hN hC); have HAL := hid (show Calls Try.prog 16 #[.pointer (some ⟨k, 0, none⟩)] w8 fun e w' => e = .returned (.int .i64 0) ∧ w8 = w' from nall_any hN); clear hB hN hC) | (go_at_call 16; refine HAL.out.mono ?_; rintro e w9 ⟨rfl, rfl⟩))
              go_ret
              exact ⟨rfl, on HB.out HK8.out.bel⟩
end Go.Proofs.Ytcagochalnjagaa
