/-
  What is proved: net's Send. Condition: the net lies in memory as one; what is sent is read as its frames, in memory that isn't the net's.
-/
import Derived.Test.YtcagochalnjagaaSen9
namespace Go.Proofs.Ytcagochalnjagaa
open Go.RowKit

section
variable {w : World} {k : Nat} {v : Value} {us : List Value} {S : List Wy}
/-- frames that came in, in memory that isn't F's -/
structure Fin (w : World) (F : Nat → Prop) (A : Option Addr) (bs : List Value) (l : Wy) : Prop where
  rv : ∀ (j : Nat) u, bs[j]? = some u → ∃ ad, A = some ad ∧ ad.block < w.heap.size ∧ ¬ F ad.block ∧ w.cell? (ad.add j) = some u
  cs : Cs Eb w bs l
  rng : ∀ x ∈ l, (∀ y ∈ x, 0 ≤ y ∧ y ≤ 255) ∧ x.length ≤ 140737488355328
theorem Fin.chg {w w' : World} {F G : Nat → Prop} {A : Option Addr} {bs : List Value} {l : Wy} (h : Fin w F A bs l) (hc : Chg w w' F G) : Fin w' G A bs l :=
  ⟨fun j u hu => by
    obtain ⟨ad, e, h1, h2, h3⟩ := h.rv j u hu
    refine ⟨ad, e, Nat.lt_of_lt_of_le h1 hc.size, fun hg => ?_, (hc.cell (p := ad.add j) (by rw [addBlk]; exact h1) (by rw [addBlk]; exact h2)).trans h3⟩
    rcases hc.foot _ hg with hf | hf
    · exact h2 hf
    · omega, h.cs.keep stb_Eb hc.stay hc.size, h.rng⟩
/-- what is put of what is sent, behind Send, and how many -/
def room (S : List Wy) (way : Int) : Nat := if isw S way then 400 - (wy S way).length else 0
def sendS (S : List Wy) (way : Int) (l : Wy) : List Wy := if isw S way then S.set way.toNat (wy S way ++ l.take (room S way)) else S
def sendN (S : List Wy) (way : Int) (l : Wy) : Nat := min l.length (room S way)
theorem take_set_self {S : List Wy} {p : Nat} {fs : Wy} (h : S[p]? = some fs) : S.set p (fs ++ []) = S := by
  obtain ⟨h1, h2⟩ := List.getElem?_eq_some_iff.1 h
  rw [List.append_nil, ← h2]
  exact List.set_getElem_self h1
theorem conv_str (w : World) {A : Option Addr} {l : List Int} {c : Nat} (hr : Rn w A l) : (convert 32 9 (.slice A l.length c)).run Try.prog w = .ok (.string (strOfNums l)) w := by
  cases A with
  | none =>
    have hl : l = [] := by
      cases l with
      | nil => rfl
      | cons x r => obtain ⟨_, e, _⟩ := hr 0 x rfl; cases e
    subst hl
    exact run_convert_bytes_nil w 32 5 Try.underlying32 Try.underlying5 _ _ 9 Try.underlying9
  | some ad =>
    have hc : ∀ (i : Nat), i < l.length → w.cell? (ad.add i) = some (.int .u8 (l.getD i 0)) := fun i hi => by
      obtain ⟨ad', e, _, hc⟩ := hr.get hi
      injection e with e
      subst e
      rw [hc, List.getD, List.getElem?_eq_getElem hi]
      rfl
    have hl := run_loadCells_list (P := Try.prog) w ad (bytes l) (fun j v hj => by
      have hjl : j < l.length := by
        have := (List.getElem?_eq_some_iff.1 hj).1
        rwa [bytes_length] at this
      rw [hc j hjl]
      simp [bytes, List.getElem?_eq_getElem hjl] at hj
      simp [List.getD, List.getElem?_eq_getElem hjl, hj])
    rw [bytes_length] at hl
    rw [run_convert_bytes_string w 32 9 5 _ l.length c Try.underlying32 Try.underlying5 Try.underlying9, run_bytesToString w _ l.length c l hl, foldl_push_bytes]
    simp [strOfNums, ByteArray.empty, ByteArray.emptyWithCapacity]
    rfl
set_option maxRecDepth 10000 in
set_option maxHeartbeats 1600000 in
theorem nsend_any (h : NI w k v us S) (way : Int) (A : Option Addr) (n c : Nat) (bs : List Value) (l : Wy) (hn : l.length = n) (hc : n ≤ c ∧ c ≤ maxLen) (hf : Fin w (Ft k v us) A bs l) :
    Calls Try.prog 17 #[.pointer (some ⟨k, 0, none⟩), .int .i64 way, .slice A n c] w fun e w' => e = .returned (.int .i64 (sendN S way l)) ∧ ∃ us', NI w' k v us' (sendS S way l) ∧ Chg w w' (Ft k v us) (Ft k v us') := by
  obtain ⟨hnc, hcm⟩ := hc
  unfold maxLen at hcm
  by_cases hi : isw S way
  · have HH := hid (nhas_yes h hi)
    have HG := hid (nlen_any h way)
    have e1 : sendS S way l = S.set way.toNat (wy S way ++ l.take (room S way)) := if_pos hi
    have e2 : room S way = 400 - (wy S way).length := if_pos hi
    rw [e1]
    unfold sendN
    rw [e2]
    obtain ⟨p, fs, rfl, hp, hw⟩ := isw_at hi
    rw [hw] at HG ⊢
    have h400 : fs.length ≤ 400 := h.cap fs (List.mem_of_getElem? hp)
    have H := hid h
    have HP := hid hp
    have HF := hid hf
    have HLN := hid hn
    rw [Int.toNat_natCast, hn]
    clear h hi e1 e2 hw hp hf
    obtain ⟨m, hm⟩ : ∃ m, fs.length = m := ⟨_, rfl⟩
    rw [hm] at h400 HG ⊢
    have HM := hid hm
    clear hm hn
    obtain ⟨T, hT⟩ : ∃ T, min n (400 - m) = T := ⟨_, rfl⟩
    have hTn : T ≤ n := by omega
    have HE := hid (show (if 400 - (m : Int) < (n : Int) then 400 - (m : Int) else (n : Int)) = (T : Nat) from by split <;> omega)
    have HTT := hid (show l.take (400 - m) = l.take T from by
      by_cases h1 : 400 - m ≤ n
      · rw [show T = 400 - m from by omega]
      · rw [List.take_of_length_le (by have := HLN.out; omega), List.take_of_length_le (by have := HLN.out; omega)])
    have HT4 := hid (show m + T ≤ 400 from by omega)
    rw [HTT.out, hT]
    clear hT
    go_enter Try.func17, Try.ntmps17
    go_upto_region 4 with (first | (go_at_call 25; refine HH.out.mono ?_; rintro e w' ⟨rfl, rfl⟩) | (go_at_call 15; refine HG.out.mono ?_; rintro e w' ⟨rfl, rfl⟩))
    rw [HE.out, Int.toNat_natCast]
    clear HH HG HE
    go_wp2
    go_loopg [24] T (fun gk t wr => ∃ j : Nat, j + gk = T ∧ t = .int .i64 j ∧ ∃ us', NI wr k v us' (S.set p (fs ++ l.take j)) ∧ Chg w wr (Ft k v us) (Ft k v us'))
    case atStart => exact ⟨0, by omega, rfl, us, by rw [List.take_zero, take_set_self HP.out]; exact H.out, Chg.refl _ _⟩
    case round =>
      obtain ⟨j, hj, rfl, us1, hN, hC⟩ := hrel
      by_cases hlt : j < T
      · have hjl : j < l.length := by have := HLN.out; omega
        obtain ⟨lj, hlj⟩ : ∃ x, l[j]? = some x := ⟨_, List.getElem?_eq_getElem hjl⟩
        have hf1 := HF.out.chg hC
        obtain ⟨b, hb, hbs⟩ := hf1.cs.get hlj
        obtain ⟨ad, rfl, hal, -, hac⟩ := hf1.rv j b hb
        obtain ⟨hr1, hr2⟩ := hf1.rng lj (List.mem_of_getElem? hlj)
        obtain ⟨B, cb, rfl, hbr, -, -⟩ := hbs
        have KC := conv_str wr.drew (c := cb) (show Rn wr.drew B lj from hbr)
        have hSp : (S.set p (fs ++ l.take j))[p]? = some (fs ++ l.take j) := List.getElem?_set_self (List.getElem?_eq_some_iff.1 HP.out).1
        obtain ⟨g, cg, u, Au, d, cs, hv, hu, hu2, q1, q2, ho, hcs, h4⟩ := Nt.at_ hN hSp
        rw [List.length_set] at hv
        subst hv
        have c0 : wr.cell? ⟨k, 0, none⟩ = some (.slice (some ⟨g, 0, none⟩) S.length cg) := by have := hN.box.cell 0; rw [this]; rfl
        have hpp : (p : Int) < (S.length : Int) := by have := (List.getElem?_eq_some_iff.1 HP.out).1; omega
        rw [hu2] at ho hu q1
        have hjl2 : (l.take j).length = j := by rw [List.length_take]; omega
        have hm2 : (fs ++ l.take j).length = m + j := by rw [List.length_append, hjl2, HM.out]
        rw [hm2] at q1 ho hu h4
        have B2 : Below wr.heap.size wr (wr.alloc (.cells #[.string (strOfNums lj)] 9)).drew := below_draws (below_alloc wr _) 1
        have H2 := hid (show NI (wr.alloc (.cells #[.string (strOfNums lj)] 9)).drew k (.slice (some ⟨g, 0, none⟩) S.length cg) us1 (S.set p (fs ++ l.take j)) from Nt.below hN stb_Es B2)
        have HO2 := hid (ho.below B2)
        have HC := hid (hcs.below stb_Es B2)
        have HEE := hid (show ∀ W : World, Es W (.string (strOfNums lj)) lj from fun _ => ⟨rfl, hr1, hr2⟩)
        have HR2 := hid (show Rv (wr.alloc (.cells #[.string (strOfNums lj)] 9)).drew (wr.heap.size + 1) (some ⟨wr.heap.size, 0, none⟩) [.string (strOfNums lj)] from rv_new wr 9 #[.string (strOfNums lj)])
        have HL := hid (And.intro (show cs.length = m + j by rw [hcs.1, hm2]) (show m + j < 400 from by have := HT4.out; omega))
        have H4 := hid (show (fs ++ l.take j ++ [lj]).length ≤ 400 by rw [List.length_append, hm2]; have := HT4.out; simp; omega)
        have HU := hid hu
        have HB := hid B2
        have HCC := hid hC
        have HTK := hid (show fs ++ l.take j ++ [lj] = fs ++ l.take (j + 1) from by rw [List.append_assoc, List.take_succ_eq_append_getElem hjl, (List.getElem?_eq_some_iff.1 hlj).2])
        have k2 : (wr.alloc (.cells #[.string (strOfNums lj)] 9)).cell? ⟨k, 0, none⟩ = some (.slice (some ⟨g, 0, none⟩) S.length cg) := by have := H2.out.box.cell 0; exact this.trans rfl
        have k3 : (wr.alloc (.cells #[.string (strOfNums lj)] 9)).cell? ⟨g, p, none⟩ = some (.slice Au (m + j) d) := (B2.cell (World.block_lt_of_cell? wr _ q1)).trans q1
        have hgk : (⟨g, p, none⟩ : Addr) ≠ ⟨k, 0, none⟩ := by
          intro e
          injection e with e
          exact H2.out.vk (congrArg some e)
        have hjj : (j : Int) < (T : Int) := by omega
        clear hN hC hf1 hb hbr hr1 hr2 hSp hu hu2 ho hcs h4 B2 q2 hjl hlj hjl2 hm2 hal
        generalize hn : S.length = n1 at *
        generalize hmj : m + j = mj at *
        generalize lj.length = llj at *
        have hmj4 := HL.out.2
        go_upto_region 7 with fail
        clear hac hjj
        refine wp_region_noPanic ?_
        refine wp_region_held_drew (S := fun w' => w'.cell? ⟨k, 0, none⟩ = some (.slice (some ⟨g, 0, none⟩) n1 cg)) (by kernel_rfl) ?_ (fun hHeld => ?_)
        · go_simp
        refine wpAnyH_take (i := 0) (oi := ⟨some 28, _, _, _, _, _⟩) (v := ?_) rfl (by kernel_rfl) (by kernel_rfl) (by kernel_rfl) (fun _ _ _ h => h) (Or.inl ⟨by rfl, ?_⟩) (by assumption) ?_
        rotate_left 1
        · intro w0 hSw
          try dsimp only at hSw
          go_simp
          try with_reducible rfl
        (try simp only [Act.put, List.setIfInBounds_toArray, List.set_cons_zero, List.set_cons_succ])
        refine wpAnyH_take (i := 1) (oi := ⟨some 29, _, _, _, _, _⟩) (v := ?_) rfl (by kernel_rfl) (by kernel_rfl) (by kernel_rfl) (fun _ _ _ h => h) (Or.inl ⟨by rfl, ?_⟩) (by assumption) ?_
        rotate_left 1
        · intro w0 hSw
          try dsimp only at hSw
          go_simp
          try with_reducible rfl
        (try simp only [Act.put, List.setIfInBounds_toArray, List.set_cons_zero, List.set_cons_succ])
        refine wpAnyH_take (i := 2) (oi := ⟨some 30, _, _, _, _, _⟩) (v := ?_) rfl (by kernel_rfl) (by kernel_rfl) (by kernel_rfl) (fun _ _ _ h => h) (Or.inl ⟨by rfl, ?_⟩) (by assumption) ?_
        rotate_left 1
        · intro w0 hSw
          try dsimp only at hSw
          go_simp
          try with_reducible rfl
        (try simp only [Act.put, List.setIfInBounds_toArray, List.set_cons_zero, List.set_cons_succ])
        refine wpAnyH_take (i := 3) (oi := ⟨some 31, _, _, _, _, _⟩) (v := ?_) rfl (by kernel_rfl) (by kernel_rfl) (by kernel_rfl) (fun _ _ _ h => h) (Or.inl ⟨by rfl, ?_⟩) (by assumption) ?_
        rotate_left 1
        · intro w0 hSw
          try dsimp only at hSw
          go_simp
          try with_reducible rfl
        (try simp only [Act.put, List.setIfInBounds_toArray, List.set_cons_zero, List.set_cons_succ])
        refine wpAnyH_take (i := 4) (oi := ⟨some 32, _, _, _, _, _⟩) (v := ?_) rfl (by kernel_rfl) (by kernel_rfl) (by kernel_rfl) (fun _ _ _ h => h) (Or.inl ⟨by rfl, ?_⟩) (by assumption) ?_
        rotate_left 1
        · intro w0 hSw
          try dsimp only at hSw
          go_simp
          try with_reducible rfl
        (try simp only [Act.put, List.setIfInBounds_toArray, List.set_cons_zero, List.set_cons_succ])
        refine wpAnyH_take (i := 5) (oi := ⟨some 33, _, _, _, _, _⟩) (v := ?_) rfl (by kernel_rfl) (by kernel_rfl) (by kernel_rfl) (fun _ _ _ h => h) (Or.inl ⟨by rfl, ?_⟩) (by assumption) ?_
        rotate_left 1
        · intro w0 hSw
          try dsimp only at hSw
          go_simp
          try with_reducible rfl
        (try simp only [Act.put, List.setIfInBounds_toArray, List.set_cons_zero, List.set_cons_succ])
        refine wpAnyH_take (i := 6) (oi := ⟨some 34, _, _, _, _, _⟩) (v := ?_) rfl (by kernel_rfl) (by kernel_rfl) (by kernel_rfl) (fun _ _ _ h => h) (Or.inl ⟨by rfl, ?_⟩) (by assumption) ?_
        rotate_left 1
        · intro w0 hSw
          try dsimp only at hSw
          go_simp
          try with_reducible rfl
        (try simp only [Act.put, List.setIfInBounds_toArray, List.set_cons_zero, List.set_cons_succ])
        refine wpAnyH_take (i := 7) (oi := ⟨some 35, _, _, _, _, _⟩) (v := ?_) rfl (by kernel_rfl) (by kernel_rfl) (by kernel_rfl) (fun _ _ _ h => h) (Or.inl ⟨by rfl, ?_⟩) (by assumption) ?_
        rotate_left 1
        · intro w0 hSw
          try dsimp only at hSw
          go_simp
          try with_reducible rfl
        (try simp only [Act.put, List.setIfInBounds_toArray, List.set_cons_zero, List.set_cons_succ])
        refine wpAnyH_take (i := 8) (oi := ⟨some 36, _, _, _, _, _⟩) (v := ?_) rfl (by kernel_rfl) (by kernel_rfl) (by kernel_rfl) (fun _ _ _ h => h) (Or.inl ⟨by rfl, ?_⟩) (by assumption) ?_
        rotate_left 1
        · intro w0 hSw
          try dsimp only at hSw
          go_simp
          try with_reducible rfl
        (try simp only [Act.put, List.setIfInBounds_toArray, List.set_cons_zero, List.set_cons_succ])
        refine wpAnyH_take (i := 9) (oi := ⟨some 37, _, _, _, _, _⟩) (v := ?_) rfl (by kernel_rfl) (by kernel_rfl) (by kernel_rfl) (fun _ _ _ h => h) (Or.inl ⟨by rfl, ?_⟩) (by assumption) ?_
        rotate_left 1
        · intro w0 hSw
          try dsimp only at hSw
          go_simp
          try with_reducible rfl
        (try simp only [Act.put, List.setIfInBounds_toArray, List.set_cons_zero, List.set_cons_succ])
        refine wpAnyH_take (i := 10) (oi := ⟨some 38, _, _, _, _, _⟩) (v := ?_) rfl (by kernel_rfl) (by kernel_rfl) (by kernel_rfl) (fun _ _ _ h => h) (Or.inl ⟨by rfl, ?_⟩) (by assumption) ?_
        rotate_left 1
        · intro w0 hSw
          try dsimp only at hSw
          go_simp
          try with_reducible rfl
        (try simp only [Act.put, List.setIfInBounds_toArray, List.set_cons_zero, List.set_cons_succ])
        refine wpAnyH_take (i := 12) (oi := ⟨some 40, _, _, _, _, _⟩) (v := ?_) rfl (by kernel_rfl) (by kernel_rfl) (by kernel_rfl) (fun _ _ _ h => h) (Or.inl ⟨by rfl, ?_⟩) (by assumption) ?_
        rotate_left 1
        · intro w0 hSw
          try dsimp only at hSw
          go_simp
          try with_reducible rfl
        (try simp only [Act.put, List.setIfInBounds_toArray, List.set_cons_zero, List.set_cons_succ])
        refine wpAnyH_ready (rs := [11, 13]) (by kernel_rfl) (by simp) ?_
        refine (AllReadyH.cons (o := ⟨some 39, _, _, _, _, _⟩) rfl (fun K hK => ?_) (AllReadyH.cons (o := ⟨some 41, _, _, _, _, _⟩) rfl (fun K hK => ?_) AllReadyH.nil))
        · rw [if_pos (by rfl)]
          go_simp
          refine hK.out _ _ hHeld (fun hHeld => ?_)
          clear hK K
          (try simp only [Act.put, List.setIfInBounds_toArray, List.set_cons_zero, List.set_cons_succ])
          refine wpAnyH_ready (rs := [13]) (by kernel_rfl) (by simp) ?_
          refine AllReadyH.cons (o := ⟨some 41, _, _, _, _, _⟩) rfl (fun K hK => ?_) AllReadyH.nil
          rw [if_pos (by rfl)]
          go_simp
          refine hK.out _ _ hHeld (fun hHeld => ?_)
          clear hK K
          (try simp only [Act.put, List.setIfInBounds_toArray, List.set_cons_zero, List.set_cons_succ])
          refine wpAnyH_ready (rs := [14]) (by kernel_rfl) (by simp) ?_
          refine AllReadyH.cons (o := ⟨some 42, _, _, _, _, _⟩) rfl (fun K hK => ?_) AllReadyH.nil
          rw [if_pos (by rfl)]
          go_simp
          refine hK.out _ _ k2 (fun hHeld => ?_)
          clear hK K
          (try simp only [Act.put, List.setIfInBounds_toArray, List.set_cons_zero, List.set_cons_succ])
          refine wpAnyH_ready (rs := [15]) (by kernel_rfl) (by simp) ?_
          refine AllReadyH.cons (o := ⟨some 43, _, _, _, _, _⟩) rfl (fun K hK => ?_) AllReadyH.nil
          rw [if_pos (by rfl)]
          refine wp_appW elt_str rfl (nb_str _) (.tmp 39) (.tmp 42) rfl _ _ HO2.out rfl _ _ 1 1 [.string (strOfNums lj)] rfl rfl HR2.out (fun u hu => by simp at hu; subst hu; rfl) (fun u hu => by simp at hu; subst hu; exact nb_str _) (by rw [HL.out.1]; unfold maxLen; omega) (by rw [HL.out.1]; omega) ?_
          intro v9 w9 ho9 hg9
          obtain ⟨A9, n9, c9, rfl⟩ : ∃ A n c, v9 = .slice A n c := by obtain ⟨A, c, e, -⟩ := ho9.read; exact ⟨A, _, c, e⟩
          obtain ⟨kp, xc, xf, XN, XC⟩ := H2.out.put stb_Es (by rfl) HU.out hg9 ho9 ((Cs.keep HC.out stb_Es hg9.stay hg9.gr.size).append (Cs.one (HEE.out _))) H4.out (nb_slice _ _ _)
          have HX := hid (And.intro XN XC)
          have kq : (w9.setCell ⟨g, p, none⟩ (.slice A9 n9 c9)).cell? ⟨k, 0, none⟩ = some (.slice (some ⟨g, 0, none⟩) n1 cg) := by rw [World.cell?_setCell_other _ _ _ _ hgk]; exact kp
          clear XN XC ho9 hg9
          refine hK.out _ _ kp (fun hHeld => ?_)
          clear hK K
          (try simp only [Act.put, List.setIfInBounds_toArray, List.set_cons_zero, List.set_cons_succ])
          refine wpAnyH_take (i := 16) (oi := ⟨some 44, _, _, _, _, _⟩) (v := ?_) rfl (by kernel_rfl) (by kernel_rfl) (by kernel_rfl) (fun _ _ _ h => h) (Or.inl ⟨by rfl, ?_⟩) (by assumption) ?_
          rotate_left 1
          · intro w0 hSw
            try dsimp only at hSw
            go_simp
            try with_reducible rfl
          (try simp only [Act.put, List.setIfInBounds_toArray, List.set_cons_zero, List.set_cons_succ])
          refine wpAnyH_ready (rs := [17]) (by kernel_rfl) (by simp) ?_
          refine AllReadyH.cons (o := ⟨none, _, _, _, _, _⟩) rfl (fun K hK => ?_) AllReadyH.nil
          rw [if_pos (by rfl)]
          go_simp
          refine hK.out _ _ kq (fun hHeld => ?_)
          clear hK K
          (try simp only [Act.put, List.setIfInBounds_toArray, List.set_cons_zero, List.set_cons_succ])
          refine wpAnyH_done (by kernel_rfl) ?_ _
          refine NoPanic.normal ?_
          go_wp2
          go_roundg (gk - 1)
          case measure => omega
          case rel =>
            refine ⟨j + 1, by omega, by go_num, _, ?_, HCC.out.trans ((Chg.of HB.out _).trans HX.out.2)⟩
            have := HX.out.1
            rw [List.set_set, HTK.out] at this
            exact this
        · rw [if_pos (by rfl)]
          go_simp
          refine hK.out _ _ hHeld (fun hHeld => ?_)
          clear hK K
          (try simp only [Act.put, List.setIfInBounds_toArray, List.set_cons_zero, List.set_cons_succ])
          refine wpAnyH_ready (rs := [11, 14]) (by kernel_rfl) (by simp) ?_
          refine (AllReadyH.cons (o := ⟨some 39, _, _, _, _, _⟩) rfl (fun K hK => ?_) (AllReadyH.cons (o := ⟨some 42, _, _, _, _, _⟩) rfl (fun K hK => ?_) AllReadyH.nil))
          · rw [if_pos (by rfl)]
            go_simp
            refine hK.out _ _ hHeld (fun hHeld => ?_)
            clear hK K
            (try simp only [Act.put, List.setIfInBounds_toArray, List.set_cons_zero, List.set_cons_succ])
            refine wpAnyH_ready (rs := [14]) (by kernel_rfl) (by simp) ?_
            refine AllReadyH.cons (o := ⟨some 42, _, _, _, _, _⟩) rfl (fun K hK => ?_) AllReadyH.nil
            rw [if_pos (by rfl)]
            go_simp
            refine hK.out _ _ k2 (fun hHeld => ?_)
            clear hK K
            (try simp only [Act.put, List.setIfInBounds_toArray, List.set_cons_zero, List.set_cons_succ])
            refine wpAnyH_ready (rs := [15]) (by kernel_rfl) (by simp) ?_
            refine AllReadyH.cons (o := ⟨some 43, _, _, _, _, _⟩) rfl (fun K hK => ?_) AllReadyH.nil
            rw [if_pos (by rfl)]
            refine wp_appW elt_str rfl (nb_str _) (.tmp 39) (.tmp 42) rfl _ _ HO2.out rfl _ _ 1 1 [.string (strOfNums lj)] rfl rfl HR2.out (fun u hu => by simp at hu; subst hu; rfl) (fun u hu => by simp at hu; subst hu; exact nb_str _) (by rw [HL.out.1]; unfold maxLen; omega) (by rw [HL.out.1]; omega) ?_
            intro v9 w9 ho9 hg9
            obtain ⟨A9, n9, c9, rfl⟩ : ∃ A n c, v9 = .slice A n c := by obtain ⟨A, c, e, -⟩ := ho9.read; exact ⟨A, _, c, e⟩
            obtain ⟨kp, xc, xf, XN, XC⟩ := H2.out.put stb_Es (by rfl) HU.out hg9 ho9 ((Cs.keep HC.out stb_Es hg9.stay hg9.gr.size).append (Cs.one (HEE.out _))) H4.out (nb_slice _ _ _)
            have HX := hid (And.intro XN XC)
            have kq : (w9.setCell ⟨g, p, none⟩ (.slice A9 n9 c9)).cell? ⟨k, 0, none⟩ = some (.slice (some ⟨g, 0, none⟩) n1 cg) := by rw [World.cell?_setCell_other _ _ _ _ hgk]; exact kp
            clear XN XC ho9 hg9
            refine hK.out _ _ kp (fun hHeld => ?_)
            clear hK K
            (try simp only [Act.put, List.setIfInBounds_toArray, List.set_cons_zero, List.set_cons_succ])
            refine wpAnyH_take (i := 16) (oi := ⟨some 44, _, _, _, _, _⟩) (v := ?_) rfl (by kernel_rfl) (by kernel_rfl) (by kernel_rfl) (fun _ _ _ h => h) (Or.inl ⟨by rfl, ?_⟩) (by assumption) ?_
            rotate_left 1
            · intro w0 hSw
              try dsimp only at hSw
              go_simp
              try with_reducible rfl
            (try simp only [Act.put, List.setIfInBounds_toArray, List.set_cons_zero, List.set_cons_succ])
            refine wpAnyH_ready (rs := [17]) (by kernel_rfl) (by simp) ?_
            refine AllReadyH.cons (o := ⟨none, _, _, _, _, _⟩) rfl (fun K hK => ?_) AllReadyH.nil
            rw [if_pos (by rfl)]
            go_simp
            refine hK.out _ _ kq (fun hHeld => ?_)
            clear hK K
            (try simp only [Act.put, List.setIfInBounds_toArray, List.set_cons_zero, List.set_cons_succ])
            refine wpAnyH_done (by kernel_rfl) ?_ _
            refine NoPanic.normal ?_
            go_wp2
            go_roundg (gk - 1)
            case measure => omega
            case rel =>
              refine ⟨j + 1, by omega, by go_num, _, ?_, HCC.out.trans ((Chg.of HB.out _).trans HX.out.2)⟩
              have := HX.out.1
              rw [List.set_set, HTK.out] at this
              exact this
          · rw [if_pos (by rfl)]
            go_simp
            refine hK.out _ _ k2 (fun hHeld => ?_)
            clear hK K
            (try simp only [Act.put, List.setIfInBounds_toArray, List.set_cons_zero, List.set_cons_succ])
            refine wpAnyH_ready (rs := [11]) (by kernel_rfl) (by simp) ?_
            refine AllReadyH.cons (o := ⟨some 39, _, _, _, _, _⟩) rfl (fun K hK => ?_) AllReadyH.nil
            rw [if_pos (by rfl)]
            go_simp
            refine hK.out _ _ hHeld (fun hHeld => ?_)
            clear hK K
            (try simp only [Act.put, List.setIfInBounds_toArray, List.set_cons_zero, List.set_cons_succ])
            refine wpAnyH_ready (rs := [15]) (by kernel_rfl) (by simp) ?_
            refine AllReadyH.cons (o := ⟨some 43, _, _, _, _, _⟩) rfl (fun K hK => ?_) AllReadyH.nil
            rw [if_pos (by rfl)]
            refine wp_appW elt_str rfl (nb_str _) (.tmp 39) (.tmp 42) rfl _ _ HO2.out rfl _ _ 1 1 [.string (strOfNums lj)] rfl rfl HR2.out (fun u hu => by simp at hu; subst hu; rfl) (fun u hu => by simp at hu; subst hu; exact nb_str _) (by rw [HL.out.1]; unfold maxLen; omega) (by rw [HL.out.1]; omega) ?_
            intro v9 w9 ho9 hg9
            obtain ⟨A9, n9, c9, rfl⟩ : ∃ A n c, v9 = .slice A n c := by obtain ⟨A, c, e, -⟩ := ho9.read; exact ⟨A, _, c, e⟩
            obtain ⟨kp, xc, xf, XN, XC⟩ := H2.out.put stb_Es (by rfl) HU.out hg9 ho9 ((Cs.keep HC.out stb_Es hg9.stay hg9.gr.size).append (Cs.one (HEE.out _))) H4.out (nb_slice _ _ _)
            have HX := hid (And.intro XN XC)
            have kq : (w9.setCell ⟨g, p, none⟩ (.slice A9 n9 c9)).cell? ⟨k, 0, none⟩ = some (.slice (some ⟨g, 0, none⟩) n1 cg) := by rw [World.cell?_setCell_other _ _ _ _ hgk]; exact kp
            clear XN XC ho9 hg9
            refine hK.out _ _ kp (fun hHeld => ?_)
            clear hK K
            (try simp only [Act.put, List.setIfInBounds_toArray, List.set_cons_zero, List.set_cons_succ])
            refine wpAnyH_take (i := 16) (oi := ⟨some 44, _, _, _, _, _⟩) (v := ?_) rfl (by kernel_rfl) (by kernel_rfl) (by kernel_rfl) (fun _ _ _ h => h) (Or.inl ⟨by rfl, ?_⟩) (by assumption) ?_
            rotate_left 1
            · intro w0 hSw
              try dsimp only at hSw
              go_simp
              try with_reducible rfl
            (try simp only [Act.put, List.setIfInBounds_toArray, List.set_cons_zero, List.set_cons_succ])
            refine wpAnyH_ready (rs := [17]) (by kernel_rfl) (by simp) ?_
            refine AllReadyH.cons (o := ⟨none, _, _, _, _, _⟩) rfl (fun K hK => ?_) AllReadyH.nil
            rw [if_pos (by rfl)]
            go_simp
            refine hK.out _ _ kq (fun hHeld => ?_)
            clear hK K
            (try simp only [Act.put, List.setIfInBounds_toArray, List.set_cons_zero, List.set_cons_succ])
            refine wpAnyH_done (by kernel_rfl) ?_ _
            refine NoPanic.normal ?_
            go_wp2
            go_roundg (gk - 1)
            case measure => omega
            case rel =>
              refine ⟨j + 1, by omega, by go_num, _, ?_, HCC.out.trans ((Chg.of HB.out _).trans HX.out.2)⟩
              have := HX.out.1
              rw [List.set_set, HTK.out] at this
              exact this
      · obtain rfl : j = T := by omega
        have HK := hid (And.intro hN hC)
        clear hN hC
        go_wp2
        go_ret
        exact ⟨rfl, _, HK.out.1, HK.out.2⟩
  · have HH := hid (nhas_no h hi)
    have e1 : sendS S way l = S := if_neg hi
    have e2 : sendN S way l = 0 := by unfold sendN room; rw [if_neg hi]; exact Nat.min_zero _
    rw [e1, e2]
    have HK := hid h
    clear h hi e1 e2 hf
    go_enter Try.func17, Try.ntmps17
    go_wp2_with (go_at_call 25; refine HH.out.mono ?_; rintro e w' ⟨rfl, rfl⟩)
    go_ret
    exact ⟨rfl, _, HK.out, Chg.refl _ _⟩
end
end Go.Proofs.Ytcagochalnjagaa
