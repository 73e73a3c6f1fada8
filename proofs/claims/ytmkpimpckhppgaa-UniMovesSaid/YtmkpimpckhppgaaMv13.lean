/-
  What is proved: the walk of UniMoves: the levels that blocks have are those that they were told, and the moves behind. Condition: the capacities and the numbers are read as such.
-/
import Derived.Test.YtmkpimpckhppgaaBo13
namespace Go.Proofs.Ytmkpimpckhppgaa
open Go.RowKit

theorem uf_one {w : World} {r : Nat} (i : Nat) (v : Value) : Chg w (w.setCell ⟨r, i, none⟩ v) (· = r) (· = r) :=
  ⟨rfl, rfl, rfl, by rw [setSize]; exact Nat.le_refl _, fun j _ h2 => Below.heap_setCell w ⟨r, i, none⟩ v j (fun e => h2 e), fun _ e => .inl e⟩
/-- an array of 64 numbers -/
def ac (a : Int → Int) : Array Value := Array.ofFn (n := 64) fun i => .int .i64 (a ((i : Nat) : Int))
theorem ac_size (a : Int → Int) : (ac a).size = 64 := by simp [ac]
theorem ac_at (a : Int → Int) {p : Nat} (h : p < 64) : (ac a)[p]? = some (.int .i64 (a p)) := by simp [ac, h]
theorem ac_set (a : Int → Int) (p : Nat) (x : Int) : (ac a).setIfInBounds p (.int .i64 x) = ac (upd a p x) := by
  refine Array.ext (by simp [ac]) fun j h1 h2 => ?_
  rw [Array.getElem_setIfInBounds (by simpa using h1)]
  simp only [ac, Array.getElem_ofFn]
  unfold upd
  by_cases hp : p = j
  · rw [if_pos hp, if_pos (by omega)]
  · rw [if_neg hp, if_neg (by omega)]
theorem ac_zero : Array.replicate 64 (Value.int .i64 0) = ac (fun _ => 0) := by
  refine Array.ext (by simp [ac]) fun j h1 h2 => ?_
  simp [ac]
/-- moves that are read, in memory from b on -/
structure Mr (w : World) (b : Nat) (A : Option Addr) (M : List (Int × Nat)) : Prop where
  rd : Rv w w.heap.size A (mvc M)
  low : ∀ ad, A = some ad → b ≤ ad.block
theorem mvs_row {w : World} {b : Nat} {v : Value} {M : List (Int × Nat)} (h : Mvs w b v M) : ∃ A cp, v = .slice A M.length cp ∧ Mr w b A M := by
  obtain ⟨A, cp, e, hr, -, -⟩ := OwnV.read h
  refine ⟨A, cp, e, hr, fun ad ea => ?_⟩
  rcases h.2 with ⟨hv, h0⟩ | ⟨g, cap, cur, hv, hb, -⟩
  · rw [hv] at e
    simp only [Value.slice.injEq] at e
    rw [← e.1] at ea
    cases ea
  · rw [hv] at e
    simp only [Value.slice.injEq] at e
    rw [ea] at e
    have := e.1
    injection this with this
    rw [← this]
    exact hb
theorem Mr.below {w w' : World} {b : Nat} {A : Option Addr} {M : List (Int × Nat)} (h : Mr w b A M) (hb : Below w.heap.size w w') : Mr w' b A M := ⟨h.rd.now hb, h.low⟩
theorem Mr.set {w : World} {b : Nat} {A : Option Addr} {M : List (Int × Nat)} (h : Mr w b A M) {p : Addr} (hp : p.block < b) (u : Value) : Mr (w.setCell p u) b A M := ⟨fun j x hx => by
  obtain ⟨ad, e, h1, h2⟩ := h.rd j x hx
  have hl := h.low ad e
  refine ⟨ad, e, by rw [setSize]; exact h1, ?_⟩
  rw [World.cell?_of_block (Below.heap_setCell w p u _ (by rw [addBlk]; omega))]
  exact h2, h.low⟩
/-- a move at an address -/
structure MvAt (w : World) (p : Addr) (m : Int × Nat) : Prop where
  lt : p.block < w.heap.size
  c0 : w.cell? p = some (.int .i64 m.1)
  c1 : w.cell? ⟨p.block, p.off + 1, none⟩ = some (.int .i64 (m.2 : Nat))
  c2 : w.cell? ⟨p.block, p.off + 2, none⟩ = some (.int .i64 (m.2 + 1 : Nat))
theorem mvc_at {M : List (Int × Nat)} {j : Nat} {m : Int × Nat} (h : M[j]? = some m) (r : Nat) (hr : r < 3) : (mvc M)[j * 3 + r]? = (mvc [m])[r]? := by
  obtain ⟨hj, e⟩ := List.getElem?_eq_some_iff.1 h
  have e2 : M = M.take j ++ ([m] ++ M.drop (j + 1)) := by
    rw [← e]
    simp
  have hl : (mvc (M.take j)).length = j * 3 := by rw [mvc_len, List.length_take]; rw [Nat.min_eq_left (by omega)]
  conv => lhs; rw [e2]
  rw [mvc_app, mvc_app, List.getElem?_append_right (by rw [hl]; omega), hl, show j * 3 + r - j * 3 = r from by omega, List.getElem?_append_left (by rw [mvc_len]; show r < 1 * 3; omega)]
theorem Mr.at_ {w : World} {b : Nat} {A : Option Addr} {M : List (Int × Nat)} (h : Mr w b A M) {j : Nat} {m : Int × Nat} (hm : M[j]? = some m) : ∃ ad, A = some ad ∧ MvAt w (ad.add (j * 3)) m := by
  obtain ⟨ad, e, h1, h2⟩ := h.rd (j * 3 + 0) _ (mvc_at hm 0 (by omega))
  obtain ⟨ad1, e1, h3, h4⟩ := h.rd (j * 3 + 1) _ (mvc_at hm 1 (by omega))
  obtain ⟨ad2, e2, h5, h6⟩ := h.rd (j * 3 + 2) _ (mvc_at hm 2 (by omega))
  rw [e] at e1 e2
  injection e1 with e1
  injection e2 with e2
  subst e1 e2
  refine ⟨ad, e, by rw [addBlk]; exact h1, h2, ?_, ?_⟩
  · rw [addSucc ad (j * 3) 1 (by omega)] at h4; exact h4
  · rw [addSucc ad (j * 3) 2 (by omega)] at h6; exact h6
theorem stl_len {c : Nat → Nat} : ∀ {k : Nat} {s : Us}, (s.stl c k).2.length ≤ k
  | 0, _ => Nat.le_refl _
  | k + 1, s => by
    unfold Us.stl
    split
    · exact Nat.succ_le_succ stl_len
    · exact Nat.zero_le _
theorem ac_lit : (#[.int .i64 0, .int .i64 0, .int .i64 0, .int .i64 0, .int .i64 0, .int .i64 0, .int .i64 0, .int .i64 0, .int .i64 0, .int .i64 0, .int .i64 0, .int .i64 0, .int .i64 0, .int .i64 0, .int .i64 0, .int .i64 0, .int .i64 0, .int .i64 0, .int .i64 0, .int .i64 0, .int .i64 0, .int .i64 0, .int .i64 0, .int .i64 0, .int .i64 0, .int .i64 0, .int .i64 0, .int .i64 0, .int .i64 0, .int .i64 0, .int .i64 0, .int .i64 0, .int .i64 0, .int .i64 0, .int .i64 0, .int .i64 0, .int .i64 0, .int .i64 0, .int .i64 0, .int .i64 0, .int .i64 0, .int .i64 0, .int .i64 0, .int .i64 0, .int .i64 0, .int .i64 0, .int .i64 0, .int .i64 0, .int .i64 0, .int .i64 0, .int .i64 0, .int .i64 0, .int .i64 0, .int .i64 0, .int .i64 0, .int .i64 0, .int .i64 0, .int .i64 0, .int .i64 0, .int .i64 0, .int .i64 0, .int .i64 0, .int .i64 0, .int .i64 0] : Array Value) = ac (fun _ => 0) := ac_zero
theorem ac_congr {a a' : Int → Int} (h : ∀ p : Nat, p < 64 → a p = a' p) : ac a = ac a' := by
  refine Array.ext (by simp [ac]) fun j h1 h2 => ?_
  have hj : j < 64 := by rw [ac_size] at h2; exact h2
  simp only [ac, Array.getElem_ofFn]
  rw [h j hj]
theorem drop_cons {M : List (Int × Nat)} {j : Nat} {m : Int × Nat} (h : M[j]? = some m) : M.drop j = m :: M.drop (j + 1) := by
  obtain ⟨hj, e⟩ := List.getElem?_eq_some_iff.1 h
  rw [List.drop_eq_getElem_cons hj, e]
/-- while the levels are looked at one behind the other -/
def mixv (v v' : Int → Int) (j : Nat) (i : Int) : Int := if i < j then v i else v' i
theorem mix_go {v v' : Int → Int} {j : Nat} (h : v j = v' j) : ac (mixv v v' j) = ac (mixv v v' (j + 1)) := ac_congr fun p _ => by
  unfold mixv
  by_cases e : p = j
  · subst e
    rw [if_neg (by omega), if_pos (by omega)]
    exact h.symm
  · by_cases h2 : (p : Int) < j
    · rw [if_pos h2, if_pos (by omega)]
    · rw [if_neg h2, if_neg (by omega)]
theorem mix_set {v v' : Int → Int} {j : Nat} (h : v j = 0) : ac (upd (mixv v v' j) j 0) = ac (mixv v v' (j + 1)) := ac_congr fun p _ => by
  unfold mixv upd
  by_cases e : p = j
  · subst e
    rw [if_pos rfl, if_pos (by omega)]
    exact h.symm
  · rw [if_neg (by omega)]
    show (if (p : Int) < j then v p else v' p) = _
    by_cases h2 : (p : Int) < j
    · rw [if_pos h2, if_pos (by omega)]
    · rw [if_neg h2, if_neg (by omega)]
theorem Lc.store {w0 w : World} {g k : Nat} {c : Nat → Nat} {s : Us} {q C1 C2 C3 r : Nat} (h : Lc w0 w g k c s q C1 C2 C3) (hr : r ≠ g ∧ r ≠ k ∧ r ≠ q ∧ w0.heap.size ≤ r) (i : Nat) (u : Value) : Lc w0 (w.setCell ⟨r, i, none⟩ u) g k c s q C1 C2 C3 := by
  have hc := uf_one (w := w) (r := r) i u
  exact ⟨h.l.chg hc (fun j e => by rw [e]; exact hr.2.2.2) (fun e => hr.1 e.symm) (fun e => hr.2.1 e.symm), h.oc, hc.bx h.box (fun e => hr.2.2.1 e.symm), h.ng, h.nk⟩
set_option maxRecDepth 100000 in
set_option maxHeartbeats 4000000 in
theorem moves_walk (x y z : Int) (A : Option Addr) (n cp : Nat) (L : List Int) (w : World) (hn : L.length = n) (hm : n ≤ maxLen) (h : Ns w .i64 A L) :
    Calls Try.prog 5 #[.agg #[.int .i64 x, .int .i64 y, .int .i64 z], .slice A n cp] w fun e w' => e = .returned (.bool true) ∧ Below w.heap.size w w' := by
  have HA := hid h
  have HLN := hid hn
  unfold maxLen at hm
  have HX0 := hid (Bx.new w 22 #[.int .i64 x, .int .i64 y, .int .i64 z])
  have HB0 := hid (below_alloc w (.cells #[.int .i64 x, .int .i64 y, .int .i64 z] 22))
  obtain ⟨q, hq⟩ : ∃ q, w.heap.size = q := ⟨_, rfl⟩
  rw [hq] at HX0
  have HQ := hid hq
  have HNEW := hid (fun w => un_new x y z w)
  clear h hq hn
  go_enter Try.func5, Try.ntmps5
  go_upto_region 3 with (go_at_call 8; refine (wakes_any _).mono ?_; rintro e w1 ⟨rfl, hb⟩; have HX1 := hid (HX0.out.next hb); have HB := hid (on HB0.out hb); clear hb)
  rw [HQ.out]
  by_cases h120 : 120 < n
  · have hd : decide ((120 : Int) < (n : Int)) = true := by simp; omega
    clear h120
    go_wp2
    go_ret
    exact ⟨rfl, HB.out⟩
  have hd : decide ((120 : Int) < (n : Int)) = false := by simp; omega
  obtain ⟨a0, a1, a2⟩ := HX1.out.all3
  by_cases hR : capR [x, y, z]
  · obtain ⟨C1, C2, C3, rfl, rfl, rfl, e1, e2, e3⟩ := caps_nat hR
    obtain ⟨c, hcf⟩ : ∃ c, capf [(C1 : Int), (C2 : Int), (C3 : Int)] = c := ⟨_, rfl⟩
    unfold NewR at HNEW
    rw [hcf] at e1 e2 e3 HNEW
    have HCE := hid (And.intro e1 (And.intro e2 e3))
    have HR := hid hR
    clear e1 e2 e3 hcf hR
    go_upto_region 6 with (go_at_call 9; refine (HNEW.out _).mono ?_; intro e w2 hq; rw [if_pos HR.out] at hq; obtain ⟨g, k, rfl, hu, hb, hg, hk⟩ := hq; have HL0 := hid (show Lc w w2 g k c s00 q C1 C2 C3 from ⟨Ls.new HB.out hu hb hg hk, Okc.new c, HX1.out.next hb, fun e => by have := HX1.out.lt; omega, fun e => by have := HX1.out.lt; omega⟩); clear hu hb hg hk)
    clear a0 a1 a2
    go_upto_region 9 with fail
    obtain ⟨r, hr⟩ : ∃ r, w2.heap.size = r := ⟨_, rfl⟩
    obtain ⟨W, hW⟩ : ∃ W, w2.alloc (.cells #[.int .i64 0, .int .i64 0, .int .i64 0, .int .i64 0, .int .i64 0, .int .i64 0, .int .i64 0, .int .i64 0, .int .i64 0, .int .i64 0, .int .i64 0, .int .i64 0, .int .i64 0, .int .i64 0, .int .i64 0, .int .i64 0, .int .i64 0, .int .i64 0, .int .i64 0, .int .i64 0, .int .i64 0, .int .i64 0, .int .i64 0, .int .i64 0, .int .i64 0, .int .i64 0, .int .i64 0, .int .i64 0, .int .i64 0, .int .i64 0, .int .i64 0, .int .i64 0, .int .i64 0, .int .i64 0, .int .i64 0, .int .i64 0, .int .i64 0, .int .i64 0, .int .i64 0, .int .i64 0, .int .i64 0, .int .i64 0, .int .i64 0, .int .i64 0, .int .i64 0, .int .i64 0, .int .i64 0, .int .i64 0, .int .i64 0, .int .i64 0, .int .i64 0, .int .i64 0, .int .i64 0, .int .i64 0, .int .i64 0, .int .i64 0, .int .i64 0, .int .i64 0, .int .i64 0, .int .i64 0, .int .i64 0, .int .i64 0, .int .i64 0, .int .i64 0] 47) = W := ⟨_, rfl⟩
    have BW : Below w2.heap.size w2 W := by rw [← hW]; exact below_alloc _ _
    have HL1 := hid (HL0.out.below BW)
    have HXR := hid (show Bx W r 47 (ac s00.v) from by rw [← hW, ← hr]; have := Bx.new w2 47 #[.int .i64 0, .int .i64 0, .int .i64 0, .int .i64 0, .int .i64 0, .int .i64 0, .int .i64 0, .int .i64 0, .int .i64 0, .int .i64 0, .int .i64 0, .int .i64 0, .int .i64 0, .int .i64 0, .int .i64 0, .int .i64 0, .int .i64 0, .int .i64 0, .int .i64 0, .int .i64 0, .int .i64 0, .int .i64 0, .int .i64 0, .int .i64 0, .int .i64 0, .int .i64 0, .int .i64 0, .int .i64 0, .int .i64 0, .int .i64 0, .int .i64 0, .int .i64 0, .int .i64 0, .int .i64 0, .int .i64 0, .int .i64 0, .int .i64 0, .int .i64 0, .int .i64 0, .int .i64 0, .int .i64 0, .int .i64 0, .int .i64 0, .int .i64 0, .int .i64 0, .int .i64 0, .int .i64 0, .int .i64 0, .int .i64 0, .int .i64 0, .int .i64 0, .int .i64 0, .int .i64 0, .int .i64 0, .int .i64 0, .int .i64 0, .int .i64 0, .int .i64 0, .int .i64 0, .int .i64 0, .int .i64 0, .int .i64 0, .int .i64 0, .int .i64 0]; rw [ac_lit] at this ⊢; exact this)
    have HRG := hid (show r ≠ g ∧ r ≠ k ∧ r ≠ q ∧ w.heap.size ≤ r from ⟨fun e => by have := HL0.out.l.u.box.lt; omega, fun e => by have := HL0.out.l.u.sq.lt; omega, fun e => by have := HL0.out.box.lt; omega, by have := HL0.out.l.bel.size; omega⟩)
    rw [hr, hW]
    clear BW hr hW HL0
    go_wp2
    go_loopg [33] n (fun gk t wr => ∃ p : Nat, p + gk = n ∧ t = .int .i64 p ∧ ∃ s, Lc w wr g k c s q C1 C2 C3 ∧ Bx wr r 47 (ac s.v))
    case atStart => exact ⟨0, by omega, rfl, _, HL1.out, HXR.out⟩
    case round =>
      obtain ⟨p, hp, rfl, s, hT, hx⟩ := hrel
      have HT := hid hT
      have HXA := hid hx
      clear hT hx HL1 HXR
      by_cases hlt : p < n
      · have hpl : p < L.length := by rw [HLN.out]; exact hlt
        obtain ⟨ad, rfl, hab, hca⟩ := (HA.out.below HT.out.l.bel) p _ (List.getElem?_eq_getElem hpl)
        generalize L[p] = b at *
        have hpn : (p : Int) < (n : Int) := by omega
        clear hpl hab
        generalize gk = K0 at *
        by_cases hv : vb b
        · obtain ⟨bp, rfl⟩ : ∃ p : Nat, b = p := ⟨b.toNat, by have := hv.1; omega⟩
          have hbp : bp < 64 := by have := hv.2; omega
          have hbp2 : (bp : Int) < 64 := by omega
          have hn14 := nx_le (c := c) s bp
          have HRUN := hid (stl_run (c := c) (s := s.pt bp (s.nx c bp)) (k := 4 - s.nx c bp) (by omega) (HT.out.l.ok.pt hv (by omega)))
          have HTV := hid (fun y => trm_v (HT.out.l.ok.ust (c := c) hv) y)
          have HU := hid (un_use HT.out.l.u HT.out.l.ok hv)
          have HUS := hid (fun (w' : World) => HT.out.use (w' := w') hv)
          unfold UseQ at HU
          have hUS : s.us c bp = (s.ust c bp).1.trm := rfl
          have hUT : s.ust c bp = (s.pt bp (s.nx c bp)).stl c (4 - s.nx c bp) := rfl
          rw [← hUT] at HRUN
          rw [← hUS] at HTV
          have hPT : (s.pt bp (s.nx c bp)).v = upd s.v bp (s.nx c bp) := rfl
          rw [hPT] at HRUN
          have HSZ := hid (And.intro HXA.out.lt (Nat.le_refl wr.heap.size))
          generalize s.us c bp = us at *
          generalize s.nx c bp = nx at *
          have hlm : (s.ust c bp).2.length ≤ 4 := by rw [hUT]; have := stl_len (c := c) (k := 4 - nx) (s := s.pt bp nx); omega
          obtain ⟨T, M, hTM⟩ : ∃ T M, s.ust c bp = (T, M) := ⟨_, _, rfl⟩
          rw [hTM] at HRUN HU HTV hlm
          have HLM := hid (show M.length ≤ 4 from hlm)
          clear hUS hUT hPT hTM hv hn14 hlm
          go_upto_region 14 with (go_at_call 14; refine HU.out.mono ?_; rintro e w3 ⟨v, rfl, ho, hu, hc⟩; have HT3 := hid (HUS.out _ hu hc); obtain ⟨A3, c3, rfl, hmr⟩ := mvs_row ho; have HM3 := hid hmr; have HX3 := hid (hc.bx HXA.out (fun e => e.elim HRG.out.1 HRG.out.2.1)); clear ho hu hc hmr)
          clear HUS HU HT
          generalize wr.heap.size = B0 at *
          have y0 := (HX3.out.cell bp).trans (ac_at _ hbp)
          have yf := HX3.out.free
          generalize s.v bp = ov at *
          go_upto_region 15 with fail
          have HX4 := hid (show Bx (w3.setCell ⟨r, bp, none⟩ (.int .i64 nx)) r 47 (ac (upd s.v bp nx)) from by rw [← ac_set]; exact HX3.out.set bp _)
          have HT4 := hid (HT3.out.store HRG.out bp (.int .i64 nx))
          have HM4 := hid (HM3.out.set (p := ⟨r, bp, none⟩) HSZ.out.1 (.int .i64 nx))
          generalize w3.setCell ⟨r, bp, none⟩ (.int .i64 nx) = w4 at *
          clear y0 yf HX3 HM3 HT3 HXA
          go_wp2
          go_loopg [51] M.length (fun gk t wr => ∃ (j : Nat) (a : Int → Int), j + gk = M.length ∧ t = .int .i64 j ∧ mvOk a (M.drop j) ∧ mvRun a (M.drop j) = T.v ∧ Lc w wr g k c us q C1 C2 C3 ∧ Bx wr r 47 (ac a) ∧ Mr wr B0 A3 M)
          case atStart => exact ⟨0, _, by omega, rfl, HRUN.out.1, HRUN.out.2, HT4.out, HX4.out, HM4.out⟩
          case round =>
            obtain ⟨j, a, hj, rfl, hok, hrun, hT, hx, hm⟩ := hrel
            have HT5 := hid hT
            have HX5 := hid hx
            have HM5 := hid hm
            have HRU := hid hrun
            clear hT hx hm hrun HT4 HX4 HM4
            by_cases hjl : j < M.length
            · obtain ⟨⟨my, ml⟩, hm⟩ : ∃ m, M[j]? = some m := ⟨_, List.getElem?_eq_getElem hjl⟩
              rw [drop_cons hm] at hok
              have hru := HRU.out
              rw [drop_cons hm] at hru
              obtain ⟨hm64, hay, hok2⟩ := hok
              obtain ⟨ad, rfl, alt, d0, d1, d2⟩ := HM5.out.at_ hm
              dsimp only at d0 d1 d2
              obtain ⟨yp, rfl⟩ : ∃ p : Nat, my = p := ⟨my.toNat, by omega⟩
              have hyp : yp < 64 := by omega
              have hyp2 : (yp : Int) < 64 := by omega
              have y0 := (HX5.out.cell yp).trans (ac_at _ hyp)
              rw [hay] at y0
              have HOK2 := hid hok2
              have HRU2 := hid (show mvRun (upd a yp (ml + 1 : Nat)) (M.drop (j + 1)) = T.v from hru)
              have hjm : (j : Int) < (M.length : Int) := by omega
              have hml := HLM.out
              clear hok2 hru hm hm64 hay HRU
              generalize M.length = mlen at *
              obtain ⟨r2, hr2⟩ : ∃ g, wr.heap.size = g := ⟨_, rfl⟩
              obtain ⟨W2, hW2⟩ : ∃ W, wr.alloc (.cells #[.int .i64 yp, .int .i64 ml, .int .i64 ((ml : Int) + 1)] 49) = W := ⟨_, rfl⟩
              have BW2 : Below wr.heap.size wr W2 := by rw [← hW2]; exact below_alloc _ _
              have HB2 := hid (show Bx W2 r2 49 #[.int .i64 yp, .int .i64 ml, .int .i64 ((ml : Int) + 1)] from by rw [← hW2, ← hr2]; exact Bx.new _ _ _)
              have HT6 := hid (HT5.out.below BW2)
              have HX6 := hid (HX5.out.next BW2)
              have HM6 := hid (HM5.out.below BW2)
              have z0 : W2.cell? ⟨r, yp, none⟩ = some (.int .i64 (ml : Nat)) := (BW2.cell (p := ⟨r, yp, none⟩) HX5.out.lt).trans y0
              have HH := hid (And.intro hr2 hW2)
              clear BW2 hr2 hW2
              go_upto_region 18 with fail
              rw [HH.out.1, HH.out.2]
              clear d0 d1 d2 y0 alt HH
              have e0 : W2.cell? ⟨r2, 0, none⟩ = some (.int .i64 yp) := HB2.out.cell 0
              have e1 : W2.cell? ⟨r2, 1, none⟩ = some (.int .i64 (ml : Nat)) := HB2.out.cell 1
              have e2 : W2.cell? ⟨r2, 2, none⟩ = some (.int .i64 ((ml : Int) + 1)) := HB2.out.cell 2
              have nn : ((ml : Int) != (ml : Int)) = false := by simp
              have zf := HX6.out.free
              go_region
              go_upto_region 21 with fail
              have HX7 := hid (show Bx (W2.setCell ⟨r, yp, none⟩ (.int .i64 ((ml : Int) + 1))) r 47 (ac (upd a yp (ml + 1 : Nat))) from by rw [← ac_set]; exact HX6.out.set yp _)
              have HT7 := hid (HT6.out.store HRG.out yp (.int .i64 ((ml : Int) + 1)))
              have HM7 := hid (HM6.out.set (p := ⟨r, yp, none⟩) HSZ.out.1 (.int .i64 ((ml : Int) + 1)))
              have HT8 := hid (show Lc w (W2.setCell ⟨r, yp, none⟩ (.int .i64 ((ml : Int) + 1))).drew g k c us q C1 C2 C3 from HT7.out.draws 1)
              have HX8 := hid (show Bx (W2.setCell ⟨r, yp, none⟩ (.int .i64 ((ml : Int) + 1))).drew r 47 (ac (upd a yp (ml + 1 : Nat))) from HX7.out)
              have HM8 := hid (show Mr (W2.setCell ⟨r, yp, none⟩ (.int .i64 ((ml : Int) + 1))).drew B0 (some ad) M from HM7.out.below (below_draws (Below.refl _ _) 1))
              clear e0 e1 e2 nn z0 zf
              go_wp2
              go_roundg (gk - 1)
              case measure => omega
              case rel => exact ⟨j + 1, _, by omega, by go_num, HOK2.out, HRU2.out, HT8.out, HX8.out, HM8.out⟩
            · obtain rfl : j = M.length := by omega
              have ha : a = T.v := by have := HRU.out; rw [List.drop_length] at this; exact this
              subst ha
              clear hok HRU HRUN HM5 hjl hj
              go_wp2
              go_loopg [68] 64 (fun gk t wr => ∃ j : Nat, j + gk = 64 ∧ t = .int .i64 j ∧ Lc w wr g k c us q C1 C2 C3 ∧ Bx wr r 47 (ac (mixv us.v T.v j)))
              case atStart => exact ⟨0, by omega, rfl, HT5.out, by rw [show ac (mixv us.v T.v 0) = ac T.v from ac_congr fun p _ => if_neg (by omega)]; exact HX5.out⟩
              case round =>
                obtain ⟨j, hj, rfl, hT, hx⟩ := hrel
                have HT9 := hid hT
                have HX9 := hid hx
                clear hT hx HT5 HX5
                by_cases hj64 : j < 64
                · have hjj : (j : Int) < 64 := by omega
                  have HLV := hid (un_level HT9.out.l.u HT9.out.l.ok j)
                  have y0 := (HX9.out.cell j).trans (ac_at _ hj64)
                  have e0 : mixv us.v T.v j j = T.v j := if_neg (by omega)
                  rw [e0] at y0
                  have yf := HX9.out.free
                  have HST := hid (fun (h : us.v j = 0) => show Bx (wr.setCell ⟨r, j, none⟩ (.int .i64 0)) r 47 (ac (mixv us.v T.v (j + 1))) from by rw [← mix_set h, ← ac_set]; exact HX9.out.set j _)
                  have HT10 := hid (HT9.out.store HRG.out j (.int .i64 0))
                  have htv : us.v j = T.v j ∨ (us.v j = 0 ∧ T.v j = 4) := (HTV.out j).2
                  clear e0
                  rcases htv with he | ⟨he0, he4⟩
                  · have HGO := hid (mix_go he)
                    rw [← he] at y0
                    by_cases hz : us.v j = 0
                    · have HST2 := hid (HST.out hz)
                      rw [hz] at y0 HLV
                      clear he hz HGO HST
                      go_wp2_with (go_at_call 19; refine HLV.out.mono ?_; rintro e w9 ⟨rfl, rfl⟩)
                      go_roundg (gk - 1)
                      case measure => omega
                      case rel => exact ⟨j + 1, by omega, by go_num, HT10.out, HST2.out⟩
                    · generalize us.v j = yv at *
                      have n0 : (yv == 0) = false := by simpa using hz
                      have d0 : decide (yv = 0) = false := by simpa using hz
                      have nn : (yv != yv) = false := by simp
                      clear he hz HST
                      go_wp2_with (go_at_call 19; refine HLV.out.mono ?_; rintro e w9 ⟨rfl, rfl⟩)
                      go_roundg (gk - 1)
                      case measure => omega
                      case rel => exact ⟨j + 1, by omega, by go_num, HT9.out, by rw [← HGO.out]; exact HX9.out⟩
                  · have HST2 := hid (HST.out he0)
                    rw [he4] at y0
                    rw [he0] at HLV
                    clear he0 he4 HST
                    go_wp2_with (go_at_call 19; refine HLV.out.mono ?_; rintro e w9 ⟨rfl, rfl⟩)
                    go_roundg (gk - 1)
                    case measure => omega
                    case rel => exact ⟨j + 1, by omega, by go_num, HT10.out, HST2.out⟩
                · obtain rfl : j = 64 := by omega
                  clear hj64 hj
                  have HX10 := hid (show Bx wr r 47 (ac us.v) from by rw [show ac us.v = ac (mixv us.v T.v 64) from ac_congr fun p hp => (if_pos (by omega)).symm]; exact HX9.out)
                  go_wp2
                  go_roundg (K0 - 1)
                  case measure => omega
                  case rel => exact ⟨p + 1, by omega, by go_num, _, HT9.out, HX10.out⟩
        · have HU := hid (un_use_out wr g hv)
          clear hv
          go_wp2_with (go_at_call 14; refine HU.out.mono ?_; rintro e w3 ⟨rfl, rfl⟩)
          go_roundg (K0 - 1)
          case measure => omega
          case rel => exact ⟨p + 1, by omega, by go_num, _, HT.out, HXA.out⟩
      · obtain rfl : p = n := by omega
        clear hlt hp
        go_wp2
        go_ret
        exact ⟨rfl, HT.out.l.bel⟩
  · unfold NewR at HNEW
    have HR := hid hR
    clear hR
    go_wp2_with (go_at_call 9; refine (HNEW.out _).mono ?_; intro e w2 hq; rw [if_neg HR.out] at hq; obtain ⟨rfl, hb⟩ := hq; have HB2 := hid (on HB.out hb); clear hb)
    go_ret
    exact ⟨rfl, HB2.out⟩
end Go.Proofs.Ytmkpimpckhppgaa
