/-
  What is proved: net's small functions: has, Len, find, Clear, All, and what they tell of no net. Condition: the net lies in memory as one.
-/
import Derived.Test.YtcagochalnjagaaRows
import Derived.Test.YtcagochalnjagaaNet9
import Derived.Laws.BytesArg
import Derived.Laws.IdiomStrings
import Derived.Deep.DeepCutAuto
import Derived.Deep.CutBlock
import Derived.Deep.DeepMust
namespace Go.Proofs.Ytcagochalnjagaa
open Go.RowKit

/-- a frame is a string of its bytes -/
def Es : Tell := fun _ x l => x = .string (strOfNums l) ∧ (∀ y ∈ l, 0 ≤ y ∧ y ≤ 255) ∧ l.length ≤ 140737488355328
theorem stb_Es : Stb Es := ⟨fun _ _ _ _ _ _ h => h, fun _ _ _ h => by rw [h.1]; exact nb_str _, fun _ _ _ h => by rw [h.1]; rfl⟩
/-- a frame is a slice that reads as its bytes -/
def Eb : Tell := fun w x l => Bs w x l
theorem stb_Eb : Stb Eb := ⟨fun _ _ _ _ k hs h => Bs.stay h k hs, fun _ _ _ h => Bs.no8 h, fun _ _ _ h => Bs.one h⟩
def NI (w : World) (k : Nat) (v : Value) (us : List Value) (S : List Wy) : Prop := Nt Es 57 62 9 w k v us S
def NR (w : World) (k : Nat) (v : Value) (us : List Value) (S : List Wy) : Prop := Nt Eb 41 29 32 w k v us S

section
variable {w : World} {k : Nat} {v : Value} {us : List Value} {S : List Wy}
set_option maxHeartbeats 400000 in
theorem nhas_yes (h : NI w k v us S) {way : Int} (hi : isw S way) :
    Calls Try.prog 25 #[.pointer (some ⟨k, 0, none⟩), .int .i64 way] w fun e w' => e = .returned (.bool true) ∧ w = w' := by
  obtain ⟨A, c, rfl, c0, _⟩ := Nt.cells h
  obtain ⟨h0, h1⟩ := hi
  clear h
  generalize S.length = n at *
  go_enter Try.func25, Try.ntmps25
  go_wp2
  go_ret
  exact ⟨rfl, rfl⟩
set_option maxHeartbeats 400000 in
theorem nhas_no (h : NI w k v us S) {way : Int} (hi : ¬ isw S way) :
    Calls Try.prog 25 #[.pointer (some ⟨k, 0, none⟩), .int .i64 way] w fun e w' => e = .returned (.bool false) ∧ w = w' := by
  obtain ⟨A, c, rfl, c0, _⟩ := Nt.cells h
  unfold isw at hi
  clear h
  generalize S.length = n at *
  by_cases h0 : way < 0
  · clear hi
    have hd : decide ((0 : Int) ≤ way) = false := by simpa using h0
    go_enter Try.func25, Try.ntmps25
    go_wp2
    go_ret
    exact ⟨rfl, rfl⟩
  · have h1 : (n : Int) ≤ way := by omega
    have h2 : 0 ≤ way := by omega
    have hd : decide (way < (n : Int)) = false := by simpa using h1
    clear hi h0
    go_enter Try.func25, Try.ntmps25
    go_wp2
    go_ret
    exact ⟨rfl, rfl⟩
set_option maxHeartbeats 400000 in
theorem nhas_nil (w : World) (way : Int) :
    Calls Try.prog 25 #[.pointer none, .int .i64 way] w fun e w' => e = .returned (.bool false) ∧ w = w' := by
  go_enter Try.func25, Try.ntmps25
  go_wp2
  go_ret
  exact ⟨rfl, rfl⟩
set_option maxHeartbeats 400000 in
theorem nlen_any (h : NI w k v us S) (way : Int) :
    Calls Try.prog 15 #[.pointer (some ⟨k, 0, none⟩), .int .i64 way] w fun e w' => e = .returned (.int .i64 (wy S way).length) ∧ w = w' := by
  by_cases hi : isw S way
  · have HH := hid (nhas_yes h hi)
    obtain ⟨p, fs, rfl, hp, hw⟩ := isw_at hi
    obtain ⟨g, c, u, A, d, cs, rfl, _, rfl, q1, _, _, _, _⟩ := Nt.at_ h hp
    have c0 : w.cell? ⟨k, 0, none⟩ = some (.slice (some ⟨g, 0, none⟩) S.length c) := h.box.cell 0
    have hpp : (p : Int) < (S.length : Int) := hi.2
    rw [hw]
    clear h hi hp hw
    generalize S.length = n at *
    generalize fs.length = m at *
    go_enter Try.func15, Try.ntmps15
    go_wp2_with (go_at_call 25; refine HH.out.mono ?_; rintro e w' ⟨rfl, rfl⟩)
    go_ret
    exact ⟨rfl, rfl⟩
  · have HH := hid (nhas_no h hi)
    rw [wy_out hi]
    clear h hi
    go_enter Try.func15, Try.ntmps15
    go_wp2_with (go_at_call 25; refine HH.out.mono ?_; rintro e w' ⟨rfl, rfl⟩)
    go_ret
    exact ⟨rfl, rfl⟩
set_option maxHeartbeats 400000 in
theorem nlen_nil (w : World) (way : Int) :
    Calls Try.prog 15 #[.pointer none, .int .i64 way] w fun e w' => e = .returned (.int .i64 0) ∧ w = w' := by
  go_enter Try.func15, Try.ntmps15
  go_wp2_with (go_at_call 25; refine (nhas_nil _ _).mono ?_; rintro e w' ⟨rfl, rfl⟩)
  go_ret
  exact ⟨rfl, rfl⟩
set_option maxHeartbeats 400000 in
theorem nfind_yes (h : NI w k v us S) {way i : Int} (hi : vld (wy S way) i) :
    Calls Try.prog 26 #[.pointer (some ⟨k, 0, none⟩), .int .i64 way, .int .i64 i] w fun e w' => e = .returned (.int .i64 0) ∧ w = w' := by
  have HH := hid (nlen_any h way)
  obtain ⟨h0, h1⟩ := hi
  clear h
  generalize (wy S way).length = m at *
  have hd : decide (i < (0 : Int)) = false := by simpa using h0
  have hd2 : decide ((m : Int) ≤ i) = false := by simpa using h1
  go_enter Try.func26, Try.ntmps26
  go_wp2_with (go_at_call 15; refine HH.out.mono ?_; rintro e w' ⟨rfl, rfl⟩)
  go_ret
  exact ⟨rfl, rfl⟩
set_option maxHeartbeats 400000 in
theorem nfind_no (h : NI w k v us S) {way i : Int} (hi : ¬ vld (wy S way) i) :
    Calls Try.prog 26 #[.pointer (some ⟨k, 0, none⟩), .int .i64 way, .int .i64 i] w fun e w' => e = .returned (.int .i64 5) ∧ w = w' := by
  have HH := hid (nlen_any h way)
  unfold vld at hi
  clear h
  generalize (wy S way).length = m at *
  by_cases h0 : i < 0
  · have hd : decide (i < (0 : Int)) = true := by simpa using h0
    clear hi
    go_enter Try.func26, Try.ntmps26
    go_wp2_with (go_at_call 15; refine HH.out.mono ?_; rintro e w' ⟨rfl, rfl⟩)
    go_ret
    exact ⟨rfl, rfl⟩
  · have h1 : (m : Int) ≤ i := by omega
    have hd : decide (i < (0 : Int)) = false := by simpa using h0
    have hd2 : decide ((m : Int) ≤ i) = true := by simpa using h1
    clear hi
    go_enter Try.func26, Try.ntmps26
    go_wp2_with (go_at_call 15; refine HH.out.mono ?_; rintro e w' ⟨rfl, rfl⟩)
    go_ret
    exact ⟨rfl, rfl⟩
set_option maxHeartbeats 400000 in
theorem nfind_nil (w : World) (way i : Int) :
    Calls Try.prog 26 #[.pointer none, .int .i64 way, .int .i64 i] w fun e w' => e = .returned (.int .i64 7) ∧ w = w' := by
  go_enter Try.func26, Try.ntmps26
  go_wp2
  go_ret
  exact ⟨rfl, rfl⟩
/-- behind Clear -/
def clearS (S : List Wy) (way : Int) : List Wy := if isw S way then S.set way.toNat [] else S
set_option maxHeartbeats 400000 in
theorem nclear_any (h : NI w k v us S) (way : Int) :
    Calls Try.prog 22 #[.pointer (some ⟨k, 0, none⟩), .int .i64 way] w fun e w' => e = .returned (.tuple #[]) ∧ ∃ us', NI w' k v us' (clearS S way) ∧ Chg w w' (Ft k v us) (Ft k v us') := by
  by_cases hi : isw S way
  · have HH := hid (nhas_yes h hi)
    have e1 : clearS S way = S.set way.toNat [] := if_pos hi
    rw [e1]
    obtain ⟨p, fs, rfl, hp, hw⟩ := isw_at hi
    obtain ⟨g, c, u, A, d, cs, rfl, hu, rfl, q1, q2, _, _, _⟩ := Nt.at_ h hp
    have c0 : w.cell? ⟨k, 0, none⟩ = some (.slice (some ⟨g, 0, none⟩) S.length c) := h.box.cell 0
    have hpp : (p : Int) < (S.length : Int) := hi.2
    have HP := hid (Nt.put h stb_Es rfl hu (u1 := .slice none 0 0) ⟨World.grownBy.refl w _, .inr fun g hg => by simp [Value.ownBlock] at hg, fun _ _ e => e⟩ (ownW_nil w _) (Cs.nil _ _) (Nat.zero_le _) (nb_slice _ _ _)).2.2.2
    rw [Int.toNat_natCast]
    clear h hi hp hw e1
    generalize S.length = n at *
    generalize fs.length = m at *
    go_enter Try.func22, Try.ntmps22
    go_wp2_with (go_at_call 25; refine HH.out.mono ?_; rintro e w' ⟨rfl, rfl⟩)
    exact bodyPost_end (results_none rfl _ _ _) rfl ⟨rfl, _, HP.out⟩
  · have HH := hid (nhas_no h hi)
    have e1 : clearS S way = S := if_neg hi
    rw [e1]
    have HK := hid h
    clear h hi e1
    go_enter Try.func22, Try.ntmps22
    go_wp2_with (go_at_call 25; refine HH.out.mono ?_; rintro e w' ⟨rfl, rfl⟩)
    exact bodyPost_end (results_none rfl _ _ _) rfl ⟨rfl, _, HK.out, Chg.refl _ _⟩
set_option maxHeartbeats 400000 in
theorem nclear_nil (w : World) (way : Int) :
    Calls Try.prog 22 #[.pointer none, .int .i64 way] w fun e w' => e = .returned (.tuple #[]) ∧ w = w' := by
  go_enter Try.func22, Try.ntmps22
  go_wp2_with (go_at_call 25; refine (nhas_nil _ _).mono ?_; rintro e w' ⟨rfl, rfl⟩)
  exact bodyPost_end (results_none rfl _ _ _) rfl ⟨rfl, rfl⟩
set_option maxHeartbeats 400000 in
theorem nall_nil (w : World) : Calls Try.prog 16 #[.pointer none] w fun e w' => e = .returned (.int .i64 0) ∧ w = w' := by
  go_enter Try.func16, Try.ntmps16
  go_wp2
  go_ret
  exact ⟨rfl, rfl⟩
/-- how many frames there are on the first n ways, on all -/
def tot (S : List Wy) (n : Nat) : Nat := ((S.take n).map List.length).sum
theorem tot_succ {S : List Wy} {n : Nat} {fs : Wy} (h : S[n]? = some fs) : tot S (n + 1) = tot S n + fs.length := by
  unfold tot
  have hn := (List.getElem?_eq_some_iff.1 h).1
  have e := (List.getElem?_eq_some_iff.1 h).2
  rw [List.take_succ_eq_append_getElem hn, e]
  simp
theorem tot_le {S : List Wy} (h : ∀ fs ∈ S, fs.length ≤ 400) : ∀ n, n ≤ S.length → tot S n ≤ 400 * n
  | 0, _ => by simp [tot]
  | n + 1, hn => by
    have := tot_le h n (by omega)
    rw [tot_succ (List.getElem?_eq_getElem (by omega))]
    have := h _ (List.getElem_mem (show n < S.length by omega))
    omega
set_option maxHeartbeats 400000 in
theorem nall_any (h : NI w k v us S) : Calls Try.prog 16 #[.pointer (some ⟨k, 0, none⟩)] w fun e w' => e = .returned (.int .i64 (tot S S.length)) ∧ w = w' := by
  obtain ⟨A, c, hv, c0, _⟩ := Nt.cells h
  have H := hid h
  have HL := hid (tot_le h.cap)
  have h32 := h.w32
  obtain ⟨n, hn⟩ : ∃ n, S.length = n := ⟨_, rfl⟩
  rw [hn] at c0 h32 ⊢
  have HN := hid hn
  have HV := hid hv
  clear h hn hv
  go_enter Try.func16, Try.ntmps16
  go_wp2
  go_loopw [3, 13] (fun s t wr => ∃ p : Nat, p ≤ n ∧ t = .int .i64 p ∧ s = .int .i64 (tot S p) ∧ wr = w) (fun _ t _ => n - (intOf t).toNat)
  case atStart => exact ⟨0, Nat.zero_le _, rfl, rfl, rfl⟩
  case round =>
    obtain ⟨p, hp, rfl, rfl, rfl⟩ := hrel
    by_cases hlt : p < n
    · obtain ⟨fs, hf⟩ : ∃ fs, S[p]? = some fs := ⟨_, List.getElem?_eq_getElem (by rw [HN.out]; exact hlt)⟩
      obtain ⟨g, d, u, B, m, cs, hv, _, rfl, q1, _, _, _, h400⟩ := Nt.at_ H.out hf
      have hA : A = some ⟨g, 0, none⟩ := by
        have := HV.out.symm.trans hv
        injection this
      subst hA
      have hpp : (p : Int) < (n : Int) := by omega
      have e1 := tot_succ hf
      have e2 := HL.out p (by rw [HN.out]; omega)
      obtain ⟨s, hs⟩ : ∃ s, tot S p = s := ⟨_, rfl⟩
      obtain ⟨m2, hm2⟩ : ∃ s, fs.length = s := ⟨_, rfl⟩
      rw [hs] at e1 e2 ⊢
      rw [hm2] at e1 q1 h400
      have E1 := hid e1
      clear hf hv hs hm2 e1
      go_wp2
      go_roundw
      case rel => exact ⟨p + 1, by omega, by go_num, by rw [E1.out]; go_num, trivial⟩
      case measure => simp [intOf]; omega
    · obtain rfl : p = n := by omega
      go_wp2
      go_ret
      exact ⟨rfl, rfl⟩
end
end Go.Proofs.Ytcagochalnjagaa
