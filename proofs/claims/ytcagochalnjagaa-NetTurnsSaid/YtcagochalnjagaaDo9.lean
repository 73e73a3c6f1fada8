/-
  What is proved: the laws' do, of a net and of none; long; the fixed fact that each statement asks first; NetNil's walk. Condition: the net lies in memory as one, what comes in is read as such.
-/
import Derived.Test.YtcagochalnjagaaArg9
import Derived.Test.YtcagochalnjagaaSame
namespace Go.Proofs.Ytcagochalnjagaa
open Go.RowKit

/-- behind an act, and what it tells -/
def doS (κ way i r : Int) (l : Wy) (S : List Wy) : List Wy :=
  if κ = 0 then sendS S way l else if κ = 1 then takeS S way i else if κ = 2 then twiceS S way i else if κ = 3 then takeS S way i else if κ = 4 then turnS S way i r else clearS S way
def doN (κ way : Int) (l : Wy) (S : List Wy) : Int := if κ = 0 then sendN S way l else 0
def doB (κ way i : Int) (S : List Wy) : List Int := if κ = 1 then takeB S way i else []
def doE (κ way i r : Int) (S : List Wy) : Int := if κ = 0 then 0 else if κ = 1 then errS S way i else if κ = 2 then twiceE S way i else if κ = 3 then errS S way i else if κ = 4 then turnE S way i r else 0
section
variable {w : World} {k : Nat} {v : Value} {us : List Value} {S : List Wy}
def DoP (k : Nat) (v : Value) (us : List Value) (S : List Wy) (κ way i r : Int) (l : Wy) (w : World) (e : Ending) (w' : World) : Prop :=
  ∃ u us', e = .returned (.tuple #[.int .i64 (doN κ way l S), u, .int .i64 (doE κ way i r S)]) ∧ Bs w' u (doB κ way i S) ∧ NI w' k v us' (doS κ way i r l S) ∧ Chg w w' (Ft k v us) (Ft k v us')
set_option maxRecDepth 10000 in
set_option maxHeartbeats 400000 in
theorem ndo_any (h : NI w k v us S) (κ way i r : Int) (A : Option Addr) (n c : Nat) (bs : List Value) (l : Wy) (hn : l.length = n) (hc : n ≤ c ∧ c ≤ maxLen) (hf : Fin w (Ft k v us) A bs l) :
    Calls Try.prog 12 #[.pointer (some ⟨k, 0, none⟩), .agg #[.int .i64 κ, .int .i64 way, .int .i64 i, .int .i64 r, .slice A n c]] w (DoP k v us S κ way i r l w) := by
  have B1 := below_alloc w (.cells #[.int .i64 κ, .int .i64 way, .int .i64 i, .int .i64 r, .slice A n c] 31)
  have H1 := hid (Nt.below h stb_Es B1)
  have C1 := hid (Chg.of B1 (Ft k v us))
  have HF := hid (hf.chg C1.out)
  have HN := hid hn
  have HC := hid hc
  clear h hf B1 hn hc
  unfold DoP
  by_cases h0 : κ = 0
  · subst h0
    have e1 : doS 0 way i r l S = sendS S way l := if_pos rfl
    have e2 : doN 0 way l S = sendN S way l := if_pos rfl
    have e3 : doB 0 way i S = [] := if_neg (by decide)
    have e4 : doE 0 way i r S = 0 := if_pos rfl
    rw [e1, e2, e3, e4]
    have HK := hid (nsend_any (show NI _ _ _ _ _ from H1.out) way A n c bs l HN.out HC.out HF.out)
    clear e1 e2 e3 e4
    go_enter Try.func12, Try.ntmps12
    go_wp2_with (go_at_call 17; refine HK.out.mono ?_; rintro e w2 ⟨rfl, us2, hN, hC⟩; have HX := hid (And.intro hN hC); clear hN hC)
    go_ret3
    exact ⟨_, _, rfl, bs_nil _, HX.out.1, C1.out.trans HX.out.2⟩
  by_cases h1 : κ = 1
  · subst h1
    have e1 : doS 1 way i r l S = takeS S way i := rfl
    have e2 : doN 1 way l S = 0 := rfl
    have e3 : doB 1 way i S = takeB S way i := rfl
    have e4 : doE 1 way i r S = errS S way i := rfl
    rw [e1, e2, e3, e4]
    have HK := hid (ntake_any (show NI _ _ _ _ _ from H1.out) way i)
    clear e1 e2 e3 e4 h0
    go_enter Try.func12, Try.ntmps12
    go_wp2_with (go_at_call 18; refine HK.out.mono ?_; rintro e w2 ⟨u2, us2, rfl, hB, hN, hC⟩; have HX := hid (And.intro hN hC); have HB := hid hB; clear hN hC hB)
    go_ret3
    exact ⟨_, _, rfl, HB.out, HX.out.1, C1.out.trans HX.out.2⟩
  by_cases h2 : κ = 2
  · subst h2
    have e1 : doS 2 way i r l S = twiceS S way i := rfl
    have e2 : doN 2 way l S = 0 := rfl
    have e3 : doB 2 way i S = [] := rfl
    have e4 : doE 2 way i r S = twiceE S way i := rfl
    rw [e1, e2, e3, e4]
    have HK := hid (ntwice_any (show NI _ _ _ _ _ from H1.out) way i)
    clear e1 e2 e3 e4 h0 h1
    go_enter Try.func12, Try.ntmps12
    go_wp2_with (go_at_call 19; refine HK.out.mono ?_; rintro e w2 ⟨rfl, us2, hN, hC⟩; have HX := hid (And.intro hN hC); clear hN hC)
    go_ret3
    exact ⟨_, _, rfl, bs_nil _, HX.out.1, C1.out.trans HX.out.2⟩
  by_cases h3 : κ = 3
  · subst h3
    have e1 : doS 3 way i r l S = takeS S way i := rfl
    have e2 : doN 3 way l S = 0 := rfl
    have e3 : doB 3 way i S = [] := rfl
    have e4 : doE 3 way i r S = errS S way i := rfl
    rw [e1, e2, e3, e4]
    have HK := hid (nlose_any (show NI _ _ _ _ _ from H1.out) way i)
    clear e1 e2 e3 e4 h0 h1 h2
    go_enter Try.func12, Try.ntmps12
    go_wp2_with (go_at_call 21; refine HK.out.mono ?_; rintro e w2 ⟨rfl, us2, hN, hC⟩; have HX := hid (And.intro hN hC); clear hN hC)
    go_ret3
    exact ⟨_, _, rfl, bs_nil _, HX.out.1, C1.out.trans HX.out.2⟩
  by_cases h4 : κ = 4
  · subst h4
    have e1 : doS 4 way i r l S = turnS S way i r := rfl
    have e2 : doN 4 way l S = 0 := rfl
    have e3 : doB 4 way i S = [] := rfl
    have e4 : doE 4 way i r S = turnE S way i r := rfl
    rw [e1, e2, e3, e4]
    have HK := hid (nturn_any (show NI _ _ _ _ _ from H1.out) way i r)
    clear e1 e2 e3 e4 h0 h1 h2 h3
    go_enter Try.func12, Try.ntmps12
    go_wp2_with (go_at_call 20; refine HK.out.mono ?_; rintro e w2 ⟨rfl, us2, hN, hC⟩; have HX := hid (And.intro hN hC); clear hN hC)
    go_ret3
    exact ⟨_, _, rfl, bs_nil _, HX.out.1, C1.out.trans HX.out.2⟩
  · have e1 : doS κ way i r l S = clearS S way := by unfold doS; rw [if_neg h0, if_neg h1, if_neg h2, if_neg h3, if_neg h4]
    have e2 : doN κ way l S = 0 := if_neg h0
    have e3 : doB κ way i S = [] := if_neg h1
    have e4 : doE κ way i r S = 0 := by unfold doE; rw [if_neg h0, if_neg h1, if_neg h2, if_neg h3, if_neg h4]
    rw [e1, e2, e3, e4]
    have HK := hid (nclear_any (show NI _ _ _ _ _ from H1.out) way)
    clear e1 e2 e3 e4
    go_enter Try.func12, Try.ntmps12
    go_wp2_with (go_at_call 22; refine HK.out.mono ?_; rintro e w2 ⟨rfl, us2, hN, hC⟩; have HX := hid (And.intro hN hC); clear hN hC)
    go_ret3
    exact ⟨_, _, rfl, bs_nil _, HX.out.1, C1.out.trans HX.out.2⟩
end

/-- what no net tells -/
def nilE (κ : Int) : Int := if 1 ≤ κ ∧ κ ≤ 4 then 7 else 0
set_option maxHeartbeats 400000 in
theorem nsend_nil (w : World) (way : Int) (A : Option Addr) (n c : Nat) : Calls Try.prog 17 #[.pointer none, .int .i64 way, .slice A n c] w fun e w' => e = .returned (.int .i64 0) ∧ w = w' := by
  go_enter Try.func17, Try.ntmps17
  go_wp2_with (go_at_call 25; refine (nhas_nil _ _).mono ?_; rintro e w' ⟨rfl, rfl⟩)
  go_ret
  exact ⟨rfl, rfl⟩
set_option maxHeartbeats 400000 in
theorem ntake_nil (w : World) (way i : Int) : Calls Try.prog 18 #[.pointer none, .int .i64 way, .int .i64 i] w fun e w' => e = .returned (.tuple #[.slice none 0 0, .int .i64 7]) ∧ w = w' := by
  go_enter Try.func18, Try.ntmps18
  go_wp2_with (go_at_call 26; refine (nfind_nil _ _ _).mono ?_; rintro e w' ⟨rfl, rfl⟩)
  go_ret2
  exact ⟨rfl, rfl⟩
set_option maxHeartbeats 400000 in
theorem ntwice_nil (w : World) (way i : Int) : Calls Try.prog 19 #[.pointer none, .int .i64 way, .int .i64 i] w fun e w' => e = .returned (.int .i64 7) ∧ w = w' := by
  go_enter Try.func19, Try.ntmps19
  go_wp2_with (go_at_call 26; refine (nfind_nil _ _ _).mono ?_; rintro e w' ⟨rfl, rfl⟩)
  go_ret
  exact ⟨rfl, rfl⟩
set_option maxHeartbeats 400000 in
theorem nlose_nil (w : World) (way i : Int) : Calls Try.prog 21 #[.pointer none, .int .i64 way, .int .i64 i] w fun e w' => e = .returned (.int .i64 7) ∧ w = w' := by
  go_enter Try.func21, Try.ntmps21
  go_wp2_with (go_at_call 26; refine (nfind_nil _ _ _).mono ?_; rintro e w' ⟨rfl, rfl⟩)
  go_ret
  exact ⟨rfl, rfl⟩
set_option maxHeartbeats 400000 in
theorem nturn_nil (w : World) (way i r : Int) : Calls Try.prog 20 #[.pointer none, .int .i64 way, .int .i64 i, .int .i64 r] w fun e w' => e = .returned (.int .i64 7) ∧ w = w' := by
  go_enter Try.func20, Try.ntmps20
  go_wp2_with (go_at_call 26; refine (nfind_nil _ _ _).mono ?_; rintro e w' ⟨rfl, rfl⟩)
  go_ret
  exact ⟨rfl, rfl⟩
set_option maxHeartbeats 400000 in
theorem ndo_nil (w : World) (κ way i r : Int) (A : Option Addr) (n c : Nat) :
    Calls Try.prog 12 #[.pointer none, .agg #[.int .i64 κ, .int .i64 way, .int .i64 i, .int .i64 r, .slice A n c]] w fun e w' => e = .returned (.tuple #[.int .i64 0, .slice none 0 0, .int .i64 (nilE κ)]) ∧ Below w.heap.size w w' := by
  have HB := hid (below_alloc w (.cells #[.int .i64 κ, .int .i64 way, .int .i64 i, .int .i64 r, .slice A n c] 31))
  by_cases h0 : κ = 0
  · subst h0
    go_enter Try.func12, Try.ntmps12
    go_wp2_with (go_at_call 17; refine (nsend_nil _ _ _ _ _).mono ?_; rintro e w2 ⟨rfl, rfl⟩)
    go_ret3
    exact ⟨rfl, HB.out⟩
  by_cases h1 : κ = 1
  · subst h1
    go_enter Try.func12, Try.ntmps12
    go_wp2_with (go_at_call 18; refine (ntake_nil _ _ _).mono ?_; rintro e w2 ⟨rfl, rfl⟩)
    go_ret3
    exact ⟨rfl, HB.out⟩
  by_cases h2 : κ = 2
  · subst h2
    go_enter Try.func12, Try.ntmps12
    go_wp2_with (go_at_call 19; refine (ntwice_nil _ _ _).mono ?_; rintro e w2 ⟨rfl, rfl⟩)
    go_ret3
    exact ⟨rfl, HB.out⟩
  by_cases h3 : κ = 3
  · subst h3
    go_enter Try.func12, Try.ntmps12
    go_wp2_with (go_at_call 21; refine (nlose_nil _ _ _).mono ?_; rintro e w2 ⟨rfl, rfl⟩)
    go_ret3
    exact ⟨rfl, HB.out⟩
  by_cases h4 : κ = 4
  · subst h4
    go_enter Try.func12, Try.ntmps12
    go_wp2_with (go_at_call 20; refine (nturn_nil _ _ _ _).mono ?_; rintro e w2 ⟨rfl, rfl⟩)
    go_ret3
    exact ⟨rfl, HB.out⟩
  · have e4 : nilE κ = 0 := if_neg (by omega)
    rw [e4]
    go_enter Try.func12, Try.ntmps12
    go_wp2_with (go_at_call 22; refine (nclear_nil _ _).mono ?_; rintro e w2 ⟨rfl, rfl⟩)
    go_ret3
    exact ⟨rfl, HB.out⟩

/-- what 'long' tells -/
def LongP (n : Nat) (f : Nat → A9) (w : World) (e : Ending) (w' : World) : Prop :=
  ∃ b, e = .returned (.bool b) ∧ w = w' ∧ (b = false → n ≤ 100 ∧ ∀ i, i < n → (f i).l.length ≤ 500)
set_option maxHeartbeats 400000 in
theorem long_any (A : Option Addr) (n c : Nat) (f : Nat → A9) (w : World) (hn : n ≤ maxLen) (h : Acts w A n f) :
    Calls Try.prog 9 #[.slice A n c] w (LongP n f w) := by
  unfold maxLen at hn
  have HA := hid h
  clear h
  by_cases h100 : 100 < n
  · go_enter Try.func9, Try.ntmps9
    go_wp2
    go_ret
    exact ⟨true, rfl, rfl, fun e => by cases e⟩
  · have hle : n ≤ 100 := by omega
    clear h100
    go_enter Try.func9, Try.ntmps9
    go_wp2
    go_loop [9] (fun t => ∃ p : Nat, p ≤ n ∧ t = .int .i64 p ∧ ∀ i, i < p → (f i).l.length ≤ 500) (fun t => n - (intOf t).toNat)
    case atStart => exact ⟨0, Nat.zero_le _, rfl, fun i hi => absurd hi (Nat.not_lt_zero i)⟩
    case round =>
      obtain ⟨p, hp, rfl, hall⟩ := hrel
      have HL := hid hall
      clear hall
      by_cases hlt : p < n
      · obtain ⟨ad, rfl, hat⟩ := HA.out p hlt
        have cb := hat.c4
        have hm := hat.g.le
        unfold maxLen at hm
        clear hat
        generalize hx : (f p).l.length = x at *
        have HX := hid hx
        clear hx
        by_cases h2 : 500 < x
        · go_wp2
          go_ret
          exact ⟨true, rfl, rfl, fun e => by cases e⟩
        · go_wp2
          go_round
          case rel =>
            refine ⟨p + 1, by omega, by go_num, fun i hi => ?_⟩
            by_cases e : i = p
            · subst e; rw [HX.out]; omega
            · exact HL.out i (by omega)
          case measure => simp [intOf]; omega
      · go_wp2
        go_ret
        exact ⟨false, rfl, rfl, fun _ => ⟨hle, fun i hi => HL.out i (by omega)⟩⟩
end Go.Proofs.Ytcagochalnjagaa
