/-
  What is proved: lists that share a space, and rings of places that hold them: what a ring is, and what becomes of it when a place is taken out or put in. No program's function is in it.
-/
namespace Go.Proofs.Ytdpniggabidmbaa

section
variable {α : Type}
theorem mem_dropLast_of {l : List α} {x : α} (h : x ∈ l.dropLast) : x ∈ l := (List.dropLast_sublist l).subset h
theorem mem_tail_of {l : List α} {x : α} (h : x ∈ l.tail) : x ∈ l := List.mem_of_mem_tail h
end

/-- y is behind x, on both sides -/
def Adj (a b : Int → Int) (x y : Int) : Prop := b x = y ∧ a y = x
def Chn (a b : Int → Int) : List Int → Prop
  | [] => True
  | [_] => True
  | x :: y :: l => Adj a b x y ∧ Chn a b (y :: l)
theorem Chn.split {a b : Int → Int} {x : Int} {B : List Int} : ∀ {A : List Int}, Chn a b (A ++ x :: B) ↔ Chn a b (A ++ [x]) ∧ Chn a b (x :: B)
  | [] => by simp [Chn]
  | [y] => by simp [Chn]
  | y :: z :: A => by
    have := Chn.split (a := a) (b := b) (x := x) (B := B) (A := z :: A)
    simp only [List.cons_append, Chn] at this ⊢
    rw [this, and_assoc]
theorem Chn.frame {a b a' b' : Int → Int} : ∀ {r : List Int}, Chn a b r → (∀ x ∈ r.dropLast, b' x = b x) → (∀ x ∈ r.tail, a' x = a x) → Chn a' b' r
  | [], _, _, _ => trivial
  | [_], _, _, _ => trivial
  | x :: y :: l, h, hb, ha => by
    refine ⟨⟨?_, ?_⟩, h.2.frame (fun z hz => hb z ?_) (fun z hz => ha z ?_)⟩
    · rw [hb x (by simp [List.dropLast])]; exact h.1.1
    · rw [ha y (by simp)]; exact h.1.2
    · simp only [List.dropLast_cons_cons, List.mem_cons]; exact .inr hz
    · exact List.mem_cons_of_mem _ hz
theorem Chn.at_ {a b : Int → Int} : ∀ {r : List Int} {j : Nat} {x y : Int}, Chn a b r → r[j]? = some x → r[j + 1]? = some y → b x = y ∧ a y = x
  | [], j, x, y, _, h1, _ => by simp at h1
  | [_], j, x, y, _, _, h2 => by simp at h2
  | u :: v :: l, 0, x, y, h, h1, h2 => by
    simp at h1 h2
    subst h1 h2
    exact h.1
  | u :: v :: l, j + 1, x, y, h, h1, h2 => Chn.at_ (r := v :: l) h.2 (by simpa using h1) (by simpa using h2)

def upd (f : Int → Int) (i v : Int) : Int → Int := fun j => if j = i then v else f j
theorem upd_same (f : Int → Int) (i v : Int) : upd f i v i = v := if_pos rfl
theorem upd_ne (f : Int → Int) {i j : Int} (v : Int) (h : j ≠ i) : upd f i v j = f j := if_neg h

/-- a list without a block -/
def wo (b : Int) (l : List Int) : List Int := l.filter (· != b)
theorem mem_wo {b x : Int} {l : List Int} : x ∈ wo b l ↔ x ∈ l ∧ x ≠ b := by simp [wo]
theorem wo_out {b : Int} {l : List Int} (h : b ∉ l) : wo b l = l := by
  unfold wo
  rw [List.filter_eq_self]
  intro x hx
  simp
  intro e
  subst e
  exact h hx
theorem wo_split {b : Int} {A B : List Int} (h : (A ++ b :: B).Nodup) : wo b (A ++ b :: B) = A ++ B := by
  have h1 : b ∉ A := by
    intro hb
    rw [List.nodup_append] at h
    exact h.2.2 b hb b (by simp) rfl
  have h2 : b ∉ B := by
    rw [List.nodup_append] at h
    have := h.2.1
    rw [List.nodup_cons] at this
    exact this.1
  have e1 := wo_out h1
  have e2 := wo_out h2
  unfold wo at e1 e2 ⊢
  rw [List.filter_append, List.filter_cons, e1, e2]
  simp
theorem wo_nodup {b : Int} {l : List Int} (h : l.Nodup) : (wo b l).Nodup := h.sublist List.filter_sublist

/-- lists that share a space -/
structure Wf (S : List (List Int)) : Prop where
  lt : ∀ (i : Nat) l x, S[i]? = some l → x ∈ l → 0 ≤ x ∧ x < 64
  nd : ∀ (i : Nat) l, S[i]? = some l → l.Nodup
  one : ∀ (i j : Nat) l l' x, S[i]? = some l → S[j]? = some l' → x ∈ l → x ∈ l' → i = j

theorem nodup_le : ∀ (n : Nat) (l : List Int), l.Nodup → (∀ x ∈ l, 0 ≤ x ∧ x < n) → l.length ≤ n
  | 0, l, _, h => by
    cases l with
    | nil => simp
    | cons x l => have := h x (by simp); omega
  | n + 1, l, hd, h => by
    by_cases hm : (n : Int) ∈ l
    · have h1 := nodup_le n (l.erase n) (hd.erase _) (fun x hx => by
        have hx' := (List.Nodup.mem_erase_iff hd).1 hx
        have := h x hx'.2
        have := hx'.1
        omega)
      rw [List.length_erase_of_mem hm] at h1
      omega
    · have h1 := nodup_le n l hd (fun x hx => by
        have := h x hx
        have : x ≠ n := fun e => hm (e ▸ hx)
        omega)
      omega
theorem Wf.len {S : List (List Int)} (h : Wf S) {i : Nat} {l : List Int} (hi : S[i]? = some l) : l.length ≤ 64 := nodup_le 64 l (h.nd i l hi) (fun x hx => h.lt i l x hi hx)

/-- all lists without a block -/
def woS (b : Int) (S : List (List Int)) : List (List Int) := S.map (wo b)
theorem woS_len (b : Int) (S : List (List Int)) : (woS b S).length = S.length := List.length_map _
theorem woS_at {b : Int} {S : List (List Int)} {i : Nat} {l : List Int} (h : (woS b S)[i]? = some l) : ∃ l0, S[i]? = some l0 ∧ l = wo b l0 := by
  unfold woS at h
  rw [List.getElem?_map] at h
  obtain ⟨l0, h0, rfl⟩ := Option.map_eq_some_iff.1 h
  exact ⟨l0, h0, rfl⟩
theorem Wf.wo {S : List (List Int)} (h : Wf S) (b : Int) : Wf (woS b S) where
  lt := fun i l x hi hx => by
    obtain ⟨l0, h0, rfl⟩ := woS_at hi
    exact h.lt i l0 x h0 (mem_wo.1 hx).1
  nd := fun i l hi => by
    obtain ⟨l0, h0, rfl⟩ := woS_at hi
    exact wo_nodup (h.nd i l0 h0)
  one := fun i j l l' x hi hj hx hx' => by
    obtain ⟨l0, h0, rfl⟩ := woS_at hi
    obtain ⟨l1, h1, rfl⟩ := woS_at hj
    exact h.one i j l0 l1 x h0 h1 (mem_wo.1 hx).1 (mem_wo.1 hx').1
/-- the block is in one of them -/
def inS (S : List (List Int)) (b : Int) : Prop := ∃ (i : Nat) (l : List Int), S[i]? = some l ∧ b ∈ l
theorem woS_not (b : Int) (S : List (List Int)) : ¬ inS (woS b S) b := by
  rintro ⟨i, l, hi, hb⟩
  obtain ⟨l0, h0, rfl⟩ := woS_at hi
  exact (mem_wo.1 hb).2 rfl
theorem woS_out {b : Int} {S : List (List Int)} (h : ¬ inS S b) : woS b S = S := by
  unfold woS
  have e : S.map (wo b) = S.map id := List.map_congr_left fun l hl => by
    obtain ⟨i, hi⟩ := List.getElem?_of_mem hl
    exact wo_out fun hb => h ⟨i, l, hi, hb⟩
  rw [e, List.map_id]
/-- where the block is in list i, that one alone changes -/
theorem woS_set {b : Int} {S : List (List Int)} (h : Wf S) {i : Nat} {l : List Int} (hi : S[i]? = some l) (hb : b ∈ l) : woS b S = S.set i (wo b l) := by
  refine List.ext_getElem? fun j => ?_
  unfold woS
  rw [List.getElem?_map, List.getElem?_set]
  have hl := (List.getElem?_eq_some_iff.1 hi).1
  by_cases hij : i = j
  · subst hij
    rw [if_pos rfl, if_pos hl, hi]; rfl
  · rw [if_neg hij]
    cases hj : S[j]? with
    | none => rfl
    | some l' =>
      show some (Go.Proofs.Ytdpniggabidmbaa.wo b l') = _
      rw [wo_out fun hb' => hij (h.one i j l l' b hi hj hb hb')]

/-- a block that was in none is put into list i -/
theorem Wf.put {S : List (List Int)} (h : Wf S) {b : Int} (hb : 0 ≤ b ∧ b < 64) (hn : ¬ inS S b) {i : Nat} {l l' : List Int} (hi : S[i]? = some l) (hm : ∀ x, x ∈ l' ↔ x = b ∨ x ∈ l) (hd : l'.Nodup) : Wf (S.set i l') := by
  have hl := (List.getElem?_eq_some_iff.1 hi).1
  have key : ∀ (j : Nat) m, (S.set i l')[j]? = some m → (j = i ∧ m = l') ∨ (j ≠ i ∧ S[j]? = some m) := fun j m hj => by
    rw [List.getElem?_set] at hj
    by_cases hij : i = j
    · subst hij
      rw [if_pos rfl, if_pos hl] at hj
      injection hj with hj
      exact .inl ⟨rfl, hj.symm⟩
    · rw [if_neg hij] at hj
      exact .inr ⟨fun e => hij e.symm, hj⟩
  refine ⟨fun j m x hj hx => ?_, fun j m hj => ?_, fun j k m m' x hj hk hx hx' => ?_⟩
  · rcases key j m hj with ⟨rfl, rfl⟩ | ⟨_, hj⟩
    · rcases (hm x).1 hx with rfl | hx
      · exact hb
      · exact h.lt _ l x hi hx
    · exact h.lt j m x hj hx
  · rcases key j m hj with ⟨rfl, rfl⟩ | ⟨_, hj⟩
    · exact hd
    · exact h.nd j m hj
  · rcases key j m hj with ⟨rfl, rfl⟩ | ⟨hj1, hj2⟩
    · rcases key k m' hk with ⟨rfl, rfl⟩ | ⟨hk1, hk⟩
      · rfl
      · rcases (hm x).1 hx with rfl | hx
        · exact absurd ⟨k, m', hk, hx'⟩ hn
        · exact h.one _ k l m' x hi hk hx hx'
    · rcases key k m' hk with ⟨rfl, rfl⟩ | ⟨hk1, hk2⟩
      · rcases (hm x).1 hx' with rfl | hx'
        · exact absurd ⟨j, m, hj2, hx⟩ hn
        · exact h.one j _ m l x hj2 hi hx hx'
      · exact h.one j k m m' x hj2 hk2 hx hx'

/-- the rings a (nearer to the front), b (nearer to the back) and c (where a block's list is closed) hold the lists S -/
structure Inv (a b c : Int → Int) (S : List (List Int)) : Prop where
  sz : 1 ≤ S.length ∧ S.length ≤ 40
  wf : Wf S
  ring : ∀ (i : Nat) l, S[i]? = some l → Chn a b ((64 + (i : Int)) :: (l ++ [64 + (i : Int)]))
  inn : ∀ (i : Nat) l x, S[i]? = some l → x ∈ l → c x = 64 + (i : Int)
  out : ∀ x, 0 ≤ x → x < 64 → ¬ inS S x → c x = 0

section
variable {a b c : Int → Int} {S : List (List Int)}
theorem Inv.c_zero (h : Inv a b c S) {x : Int} (h0 : 0 ≤ x) (h1 : x < 64) : c x = 0 ↔ ¬ inS S x := by
  refine ⟨fun hc => ?_, h.out x h0 h1⟩
  rintro ⟨i, l, hi, hx⟩
  have := h.inn i l x hi hx
  omega
/-- a place of ring i -/
theorem node_lt (h : Inv a b c S) {i : Nat} {l : List Int} (hi : S[i]? = some l) {x : Int} (hx : x ∈ (64 + (i : Int)) :: l) : 0 ≤ x ∧ x < 104 := by
  have hl := (List.getElem?_eq_some_iff.1 hi).1
  have := h.sz
  rcases List.mem_cons.1 hx with rfl | hx
  · omega
  · have := h.wf.lt i l x hi hx; omega
theorem node_one (h : Inv a b c S) {i j : Nat} {l l' : List Int} (hi : S[i]? = some l) (hj : S[j]? = some l') {x : Int} (hx : x ∈ (64 + (i : Int)) :: l) (hx' : x ∈ (64 + (j : Int)) :: l') : i = j := by
  rcases List.mem_cons.1 hx with rfl | hx
  · rcases List.mem_cons.1 hx' with e | hx'
    · omega
    · have := h.wf.lt j l' _ hj hx'; omega
  · rcases List.mem_cons.1 hx' with e | hx'
    · have := h.wf.lt i l _ hi hx; omega
    · exact h.wf.one i j l l' x hi hj hx hx'
theorem node_nd (h : Inv a b c S) {i : Nat} {l : List Int} (hi : S[i]? = some l) : ((64 + (i : Int)) :: l).Nodup := by
  rw [List.nodup_cons]
  exact ⟨fun hx => by have := h.wf.lt i l _ hi hx; omega, h.wf.nd i l hi⟩
/-- the place j steps behind the closing one -/
def nd (l : List Int) (e : Int) (j : Nat) : Int := l.getD j e
theorem nd_in {l : List Int} {e : Int} {j : Nat} (hj : j < l.length) : nd l e j = l[j] := by simp [nd, hj]
theorem nd_end {l : List Int} {e : Int} {j : Nat} (hj : l.length ≤ j) : nd l e j = e := by simp [nd, hj]
theorem ring_get (l : List Int) (e : Int) (j : Nat) (hj : j ≤ l.length) : (l ++ [e])[j]? = some (nd l e j) := by
  by_cases h : j < l.length
  · rw [List.getElem?_append_left h, nd_in h, List.getElem?_eq_getElem h]
  · obtain rfl : j = l.length := by omega
    rw [nd_end (Nat.le_refl _), List.getElem?_append_right (Nat.le_refl _)]
    simp
theorem Inv.first (h : Inv a b c S) {i : Nat} {l : List Int} (hi : S[i]? = some l) : b (64 + (i : Int)) = nd l (64 + (i : Int)) 0 :=
  ((h.ring i l hi).at_ (j := 0) rfl (by rw [List.getElem?_cons_succ]; exact ring_get l _ 0 (Nat.zero_le _))).1
theorem Inv.next (h : Inv a b c S) {i : Nat} {l : List Int} (hi : S[i]? = some l) {j : Nat} (hj : j < l.length) : b (nd l (64 + (i : Int)) j) = nd l (64 + (i : Int)) (j + 1) :=
  ((h.ring i l hi).at_ (j := j + 1) (by rw [List.getElem?_cons_succ]; exact ring_get l _ j (by omega)) (by rw [List.getElem?_cons_succ]; exact ring_get l _ (j + 1) (by omega))).1
theorem Inv.last (h : Inv a b c S) {i : Nat} {l : List Int} (hi : S[i]? = some l) : a (64 + (i : Int)) = ((64 + (i : Int)) :: l).getLast (by simp) := by
  refine ((h.ring i l hi).at_ (j := l.length) (x := ((64 + (i : Int)) :: l).getLast (by simp)) ?_ (by rw [List.getElem?_cons_succ]; have := ring_get l (64 + (i : Int)) l.length (Nat.le_refl _); rw [nd_end (Nat.le_refl _)] at this; exact this)).2
  rw [List.getLast_eq_getElem]
  rw [show (64 + (i : Int)) :: (l ++ [64 + (i : Int)]) = ((64 + (i : Int)) :: l) ++ [64 + (i : Int)] from rfl, List.getElem?_append_left (by simp)]
  simp
theorem nd_lt (h : Inv a b c S) {i : Nat} {l : List Int} (hi : S[i]? = some l) (j : Nat) : 0 ≤ nd l (64 + (i : Int)) j ∧ nd l (64 + (i : Int)) j < 104 := by
  refine node_lt h hi ?_
  by_cases hj : j < l.length
  · rw [nd_in hj]; exact List.mem_cons_of_mem _ (List.getElem_mem hj)
  · rw [nd_end (by omega)]; exact List.mem_cons_self
theorem nd_block (h : Inv a b c S) {i : Nat} {l : List Int} (hi : S[i]? = some l) (j : Nat) : (0 ≤ nd l (64 + (i : Int)) j ∧ nd l (64 + (i : Int)) j < 64) ↔ j < l.length := by
  by_cases hj : j < l.length
  · rw [nd_in hj]
    exact ⟨fun _ => hj, fun _ => h.wf.lt i l _ hi (List.getElem_mem hj)⟩
  · rw [nd_end (by omega)]
    omega

/-- a block is taken out of its ring -/
theorem Inv.unl (h : Inv a b c S) {x : Int} (hx : inS S x) :
    (0 ≤ a x ∧ a x < 104) ∧ (0 ≤ b x ∧ b x < 104) ∧ Inv (upd a (b x) (a x)) (upd b (a x) (b x)) (upd c x 0) (woS x S) := by
  obtain ⟨i, l, hi, hxl⟩ := hx
  obtain ⟨A, B, rfl⟩ := List.append_of_mem hxl
  have hnd := node_nd h hi
  have hx64 := h.wf.lt i _ x hi hxl
  have hlt := fun y => node_lt h hi (x := y)
  have hone : ∀ (j : Nat) l', S[j]? = some l' → ∀ y, y ∈ (64 + (i : Int)) :: (A ++ x :: B) → y ∈ (64 + (j : Int)) :: l' → i = j := fun j l' hj y => node_one h hi hj
  have hr := h.ring i _ hi
  generalize he : (64 + (i : Int)) = e at *
  obtain ⟨A1, p, hA⟩ : ∃ A1 p, e :: A = A1 ++ [p] := ⟨(e :: A).dropLast, (e :: A).getLast (by simp), (List.dropLast_concat_getLast (by simp)).symm⟩
  obtain ⟨q, B1, hB⟩ : ∃ q B1, B ++ [e] = q :: B1 := by
    cases B with
    | nil => exact ⟨e, [], rfl⟩
    | cons q B => exact ⟨q, B ++ [e], rfl⟩
  have hr2 : Chn a b (A1 ++ p :: x :: q :: B1) := by
    have e1 : e :: (A ++ x :: B ++ [e]) = A1 ++ p :: x :: q :: B1 := by
      rw [show e :: (A ++ x :: B ++ [e]) = (e :: A) ++ x :: (B ++ [e]) from by simp, hA, hB]
      simp
    rw [← e1]; exact hr
  obtain ⟨c1, c2⟩ := Chn.split.1 hr2
  obtain ⟨⟨bp, ax⟩, c3⟩ := c2
  obtain ⟨⟨bx, aq⟩, c4⟩ := c3
  rw [ax, bx]
  have hpm : p ∈ e :: A := by rw [hA]; simp
  have hqm : q ∈ B ++ [e] := by rw [hB]; simp
  have hpl : p ∈ e :: (A ++ x :: B) := by
    rcases List.mem_cons.1 hpm with e1 | e1
    · rw [e1]; simp
    · simp [e1]
  have hql : q ∈ e :: (A ++ x :: B) := by
    rcases List.mem_append.1 hqm with e1 | e1
    · simp [e1]
    · rw [List.mem_singleton.1 e1]; simp
  have nd1 : (A1 ++ [p]).Nodup ∧ (x :: B).Nodup ∧ ∀ y ∈ A1 ++ [p], ∀ z ∈ x :: B, y ≠ z := by
    rw [← hA]
    rw [show e :: (A ++ x :: B) = (e :: A) ++ x :: B from rfl, List.nodup_append] at hnd
    exact hnd
  obtain ⟨ndA, ndB, nAB⟩ := nd1
  have hpA1 : p ∉ A1 := by
    rw [List.nodup_append] at ndA
    exact fun hp => ndA.2.2 p hp p (by simp) rfl
  have heA : e ∈ A1 ++ [p] := by rw [← hA]; simp
  have hxB : x ∉ B := (List.nodup_cons.1 ndB).1
  have hBnd : B.Nodup := (List.nodup_cons.1 ndB).2
  have heB : e ∉ B := fun hm => nAB e heA e (List.mem_cons_of_mem _ hm) rfl
  have hqB1 : q ∉ B1 := by
    have : (B ++ [e]).Nodup := by
      rw [List.nodup_append]
      exact ⟨hBnd, by simp, fun y hy z hz => by rw [List.mem_singleton.1 hz]; exact fun e1 => heB (e1 ▸ hy)⟩
    rw [hB] at this
    exact (List.nodup_cons.1 this).1
  have hwo : wo x (A ++ x :: B) = A ++ B := wo_split (h.wf.nd i _ hi)
  refine ⟨hlt p hpl, hlt q hql, ⟨by rw [woS_len]; exact h.sz, h.wf.wo x, fun j l' hj => ?_, fun j l' y hj hy => ?_, fun y h0 h1 hn => ?_⟩⟩
  · obtain ⟨l0, h0, rfl⟩ := woS_at hj
    by_cases hij : i = j
    · subst hij
      rw [hi] at h0
      injection h0 with h0
      subst h0
      rw [hwo, he]
      have e1 : e :: (A ++ B ++ [e]) = A1 ++ p :: q :: B1 := by
        rw [show e :: (A ++ B ++ [e]) = (e :: A) ++ (B ++ [e]) from by simp, hA, hB]
        simp
      rw [e1, Chn.split]
      refine ⟨c1.frame (fun y hy => upd_ne _ _ ?_) (fun y hy => upd_ne _ _ ?_), ⟨upd_same _ _ _, upd_same _ _ _⟩, c4.frame (fun y hy => upd_ne _ _ ?_) (fun y hy => upd_ne _ _ ?_)⟩
      · rw [List.dropLast_concat] at hy
        exact fun e2 => hpA1 (e2 ▸ hy)
      · -- y is in A
        have hyA : y ∈ A := by rw [← hA] at hy; exact hy
        intro e2
        subst e2
        rcases List.mem_append.1 hqm with e3 | e3
        · exact nAB y (by rw [← hA]; exact List.mem_cons_of_mem _ hyA) y (List.mem_cons_of_mem _ e3) rfl
        · have := List.mem_singleton.1 e3
          subst this
          exact (List.nodup_cons.1 (show (y :: A).Nodup from by rw [hA]; exact ndA)).1 hyA
      · rw [← hB, List.dropLast_concat] at hy
        exact fun e2 => nAB p (by simp) y (List.mem_cons_of_mem _ hy) e2.symm
      · exact fun e2 => hqB1 (e2 ▸ hy)
    · have hxl0 : x ∉ l0 := fun hm => hij (h.wf.one i j _ l0 x hi h0 hxl hm)
      rw [wo_out hxl0]
      have hpn : p ∉ (64 + (j : Int)) :: l0 := fun hm => hij (hone j l0 h0 p hpl hm)
      have hqn : q ∉ (64 + (j : Int)) :: l0 := fun hm => hij (hone j l0 h0 q hql hm)
      refine (h.ring j l0 h0).frame (fun y hy => upd_ne _ _ fun e2 => hpn ?_) (fun y hy => upd_ne _ _ fun e2 => hqn ?_)
      · have hy2 : y ∈ ((64 + (j : Int)) :: l0 ++ [64 + (j : Int)]).dropLast := hy
        rw [List.dropLast_concat] at hy2
        exact e2 ▸ hy2
      · have hy2 : y ∈ l0 ++ [64 + (j : Int)] := hy
        rw [← e2]
        rcases List.mem_append.1 hy2 with hy2 | hy2
        · exact List.mem_cons_of_mem _ hy2
        · rw [List.mem_singleton.1 hy2]; simp
  · obtain ⟨l0, h0, rfl⟩ := woS_at hj
    have hy2 := mem_wo.1 hy
    rw [upd_ne _ _ hy2.2]
    exact h.inn j l0 y h0 hy2.1
  · by_cases hyx : y = x
    · subst hyx; exact upd_same _ _ _
    · rw [upd_ne _ _ hyx]
      refine h.out y h0 h1 ?_
      rintro ⟨j, l0, hj, hy⟩
      refine hn ⟨j, wo x l0, ?_, mem_wo.2 ⟨hy, hyx⟩⟩
      unfold woS
      rw [List.getElem?_map, hj]; rfl

/-- a block that is in no ring is put behind the place t of ring i -/
theorem Inv.lnk (h : Inv a b c S) {x : Int} (hx64 : 0 ≤ x ∧ x < 64) (hn : ¬ inS S x) {i : Nat} {l l' A B : List Int} (hi : S[i]? = some l) {t : Int} (h1 : (64 + (i : Int)) :: l = A ++ t :: B) (h2 : (64 + (i : Int)) :: l' = A ++ t :: x :: B) :
    (0 ≤ b t ∧ b t < 104) ∧ Inv (upd (upd a x t) (b t) x) (upd (upd b t x) x (b t)) (upd c x (64 + (i : Int))) (S.set i l') := by
  have hnd := node_nd h hi
  have hlt := fun y => node_lt h hi (x := y)
  have hone : ∀ (j : Nat) m, S[j]? = some m → ∀ y, y ∈ (64 + (i : Int)) :: l → y ∈ (64 + (j : Int)) :: m → i = j := fun j m hj y => node_one h hi hj
  have hr := h.ring i _ hi
  have hl := (List.getElem?_eq_some_iff.1 hi).1
  have hxl : x ∉ l := fun hm => hn ⟨i, l, hi, hm⟩
  have hxe : x ≠ 64 + (i : Int) := by omega
  generalize he : (64 + (i : Int)) = e at *
  obtain ⟨q, B1, hB⟩ : ∃ q B1, B ++ [e] = q :: B1 := by
    cases B with
    | nil => exact ⟨e, [], rfl⟩
    | cons q B => exact ⟨q, B ++ [e], rfl⟩
  have hr2 : Chn a b (A ++ t :: q :: B1) := by
    have e1 : e :: (l ++ [e]) = A ++ t :: q :: B1 := by
      rw [show e :: (l ++ [e]) = (e :: l) ++ [e] from rfl, h1, ← hB]
      simp
    rw [← e1]; exact hr
  obtain ⟨c1, c2⟩ := Chn.split.1 hr2
  obtain ⟨⟨bt, aq⟩, c4⟩ := c2
  rw [bt]
  have htl : t ∈ e :: l := by rw [h1]; simp
  have hqm : q ∈ B ++ [e] := by rw [hB]; simp
  have hBl : ∀ y ∈ B, y ∈ e :: l := fun y hy => by rw [h1]; simp [hy]
  have hql : q ∈ e :: l := by
    rcases List.mem_append.1 hqm with e1 | e1
    · exact hBl q e1
    · rw [List.mem_singleton.1 e1]; simp
  have hxn : x ∉ e :: l := fun hm => by
    rcases List.mem_cons.1 hm with e1 | e1
    · exact hxe e1
    · exact hxl e1
  have htx : t ≠ x := fun e1 => hxn (e1 ▸ htl)
  have hqx : q ≠ x := fun e1 => hxn (e1 ▸ hql)
  have hnd2 : (A ++ t :: B).Nodup := by rw [← h1]; exact hnd
  obtain ⟨ndA, ndB, nAB⟩ := List.nodup_append.1 hnd2
  have htB : t ∉ B := (List.nodup_cons.1 ndB).1
  have hBnd : B.Nodup := (List.nodup_cons.1 ndB).2
  have htA : t ∉ A := fun hm => nAB t hm t (by simp) rfl
  -- where e is: at the front
  have hfront : (A = [] ∧ t = e ∧ B = l) ∨ ∃ A', A = e :: A' ∧ l = A' ++ t :: B := by
    cases A with
    | nil => simp at h1; exact .inl ⟨rfl, h1.1.symm, h1.2.symm⟩
    | cons y A' => simp at h1; exact .inr ⟨A', by rw [h1.1], h1.2⟩
  have heB : e ∉ B := by
    rcases hfront with ⟨_, rfl, _⟩ | ⟨A', rfl, _⟩
    · exact htB
    · exact fun hm => nAB e (by simp) e (List.mem_cons_of_mem _ hm) rfl
  have hqB1 : q ∉ B1 := by
    have : (B ++ [e]).Nodup := by
      rw [List.nodup_append]
      exact ⟨hBnd, by simp, fun y hy z hz => by rw [List.mem_singleton.1 hz]; exact fun e1 => heB (e1 ▸ hy)⟩
    rw [hB] at this
    exact (List.nodup_cons.1 this).1
  have hm' : ∀ y, y ∈ l' ↔ y = x ∨ y ∈ l := by
    intro y
    rcases hfront with ⟨rfl, rfl, rfl⟩ | ⟨A', rfl, rfl⟩
    · simp at h2; rw [h2]; simp
    · simp at h2; rw [h2]; simp; constructor <;> (intro h; rcases h with h | h | h | h <;> simp [h])
  have hd' : l'.Nodup := by
    have e1 : (e :: l').Nodup := by
      rw [h2, List.nodup_append]
      refine ⟨ndA, ?_, fun y hy z hz => ?_⟩
      · rw [List.nodup_cons, List.nodup_cons]
        exact ⟨fun hm => by rcases List.mem_cons.1 hm with e2 | e2; exact htx e2; exact htB e2, fun hm => hxn (hBl x hm), hBnd⟩
      · rcases List.mem_cons.1 hz with rfl | hz
        · exact nAB y hy z (by simp)
        · rcases List.mem_cons.1 hz with rfl | hz
          · intro e2; subst e2; exact hxn (by rw [h1]; simp [hy])
          · exact nAB y hy z (List.mem_cons_of_mem _ hz)
    exact (List.nodup_cons.1 e1).2
  have key : ∀ (j : Nat) m, (S.set i l')[j]? = some m → (j = i ∧ m = l') ∨ (j ≠ i ∧ S[j]? = some m) := fun j m hj => by
    rw [List.getElem?_set] at hj
    by_cases hij : i = j
    · subst hij
      rw [if_pos rfl, if_pos hl] at hj
      injection hj with hj
      exact .inl ⟨rfl, hj.symm⟩
    · rw [if_neg hij] at hj
      exact .inr ⟨fun e => hij e.symm, hj⟩
  have ub : ∀ y, y ≠ t → y ≠ x → upd (upd b t x) x q y = b y := fun y h3 h4 => by rw [upd_ne _ _ h4, upd_ne _ _ h3]
  have ua : ∀ y, y ≠ q → y ≠ x → upd (upd a x t) q x y = a y := fun y h3 h4 => by rw [upd_ne _ _ h3, upd_ne _ _ h4]
  refine ⟨hlt q hql, ⟨by rw [List.length_set]; exact h.sz, h.wf.put hx64 hn hi hm' hd', fun j m hj => ?_, fun j m y hj hy => ?_, fun y h0 h1 hn2 => ?_⟩⟩
  · rcases key j m hj with ⟨rfl, rfl⟩ | ⟨hij, hj⟩
    · rw [he]
      have e1 : e :: (m ++ [e]) = A ++ t :: x :: q :: B1 := by
        rw [show e :: (m ++ [e]) = (e :: m) ++ [e] from rfl, h2, ← hB]
        simp
      rw [e1, Chn.split]
      refine ⟨c1.frame (fun y hy => ?_) (fun y hy => ?_), ⟨?_, ?_⟩, ⟨upd_same _ _ _, upd_same _ _ _⟩, c4.frame (fun y hy => ?_) (fun y hy => ?_)⟩
      · rw [List.dropLast_concat] at hy
        exact ub y (fun e2 => htA (e2 ▸ hy)) (fun e2 => hxn (by rw [← e2, h1]; simp [hy]))
      · refine ua y ?_ ?_
        · rintro rfl
          rcases hfront with ⟨rfl, rfl, rfl⟩ | ⟨A', rfl, rfl⟩
          · simp at hy
          · have hy2 : y ∈ A' ++ [t] := hy
            have hyl : y ∈ A' ++ t :: B := by
              rcases List.mem_append.1 hy2 with e2 | e2
              · simp [e2]
              · rw [List.mem_singleton.1 e2]; simp
            rcases List.mem_append.1 hqm with e3 | e3
            · rcases List.mem_append.1 hy2 with e2 | e2
              · exact nAB y (List.mem_cons_of_mem _ e2) y (List.mem_cons_of_mem _ e3) rfl
              · rw [List.mem_singleton.1 e2] at e3; exact htB e3
            · rw [List.mem_singleton.1 e3] at hyl
              exact (List.nodup_cons.1 hnd).1 hyl
        · intro e2
          subst e2
          have hy2 : y ∈ A ++ [t] := mem_tail_of hy
          rcases List.mem_append.1 hy2 with e2 | e2
          · exact hxn (by rw [h1]; simp [e2])
          · exact htx (List.mem_singleton.1 e2).symm
      · rw [upd_ne _ _ htx]; exact upd_same _ _ _
      · rw [upd_ne _ _ (fun e2 => hqx e2.symm)]; exact upd_same _ _ _
      · rw [← hB, List.dropLast_concat] at hy
        exact ub y (fun e2 => htB (e2 ▸ hy)) (fun e2 => hxn (e2 ▸ hBl y hy))
      · refine ua y (fun e2 => hqB1 (e2 ▸ hy)) (fun e2 => ?_)
        subst e2
        have hy2 : y ∈ B ++ [e] := by rw [hB]; exact List.mem_cons_of_mem _ hy
        rcases List.mem_append.1 hy2 with e2 | e2
        · exact hxn (hBl y e2)
        · exact hxe (List.mem_singleton.1 e2)
    · have htn : t ∉ (64 + (j : Int)) :: m := fun hm => hij (hone j m hj t htl hm).symm
      have hqn : q ∉ (64 + (j : Int)) :: m := fun hm => hij (hone j m hj q hql hm).symm
      have hxm : x ∉ (64 + (j : Int)) :: m := fun hm => by
        rcases List.mem_cons.1 hm with e1 | e1
        · omega
        · exact hn ⟨j, m, hj, e1⟩
      have hin : ∀ y, y ∈ m ++ [64 + (j : Int)] → y ∈ (64 + (j : Int)) :: m := fun y hy => by
        rcases List.mem_append.1 hy with hy | hy
        · exact List.mem_cons_of_mem _ hy
        · rw [List.mem_singleton.1 hy]; simp
      refine (h.ring j m hj).frame (fun y hy => ?_) (fun y hy => ?_)
      · have hy2 : y ∈ ((64 + (j : Int)) :: m ++ [64 + (j : Int)]).dropLast := hy
        rw [List.dropLast_concat] at hy2
        exact ub y (fun e2 => htn (e2 ▸ hy2)) (fun e2 => hxm (e2 ▸ hy2))
      · have hy2 := hin y hy
        exact ua y (fun e2 => hqn (e2 ▸ hy2)) (fun e2 => hxm (e2 ▸ hy2))
  · rcases key j m hj with ⟨rfl, rfl⟩ | ⟨hij, hj⟩
    · by_cases hyx : y = x
      · subst hyx; rw [upd_same]; exact he.symm
      · rw [upd_ne _ _ hyx]
        have := ((hm' y).1 hy).resolve_left hyx
        exact h.inn _ l y hi this
    · have hyx : y ≠ x := fun e1 => hn ⟨j, m, hj, e1 ▸ hy⟩
      rw [upd_ne _ _ hyx]
      exact h.inn j m y hj hy
  · have hyx : y ≠ x := fun e1 => hn2 ⟨i, l', by rw [List.getElem?_set_self hl], (hm' y).2 (.inl e1)⟩
    rw [upd_ne _ _ hyx]
    refine h.out y h0 h1 ?_
    rintro ⟨j, m, hj, hy⟩
    by_cases hij : i = j
    · subst hij
      rw [hi] at hj
      injection hj with hj
      subst hj
      exact hn2 ⟨i, l', by rw [List.getElem?_set_self hl], (hm' y).2 (.inr hy)⟩
    · exact hn2 ⟨j, m, by rw [List.getElem?_set_ne hij]; exact hj, hy⟩
end
/-- where a block stands in a list -/
theorem place_of {l : List Int} {x : Int} (h : x ∈ l) : ∃ j : Nat, l[j]? = some x ∧ ∀ q : Nat, q < j → l[q]? ≠ some x := by
  induction l with
  | nil => cases h
  | cons y t ih =>
    by_cases hy : y = x
    · exact ⟨0, by simp [hy], fun q hq => by omega⟩
    · rcases List.mem_cons.1 h with e | e
      · exact absurd e.symm hy
      · obtain ⟨j, h1, h2⟩ := ih e
        refine ⟨j + 1, by simpa using h1, fun q hq => ?_⟩
        cases q with
        | zero => simp [hy]
        | succ q => simp; exact h2 q (by omega)
theorem nd_inj : ∀ {l : List Int} {i j : Nat} {x : Int}, l.Nodup → l[i]? = some x → l[j]? = some x → i = j
  | [], i, _, _, _, hi, _ => by simp at hi
  | y :: t, 0, 0, _, _, _, _ => rfl
  | y :: t, 0, j + 1, x, h, hi, hj => by
    simp at hi hj
    subst hi
    exact absurd (List.mem_of_getElem? hj) (List.nodup_cons.1 h).1
  | y :: t, i + 1, 0, x, h, hi, hj => by
    simp at hi hj
    subst hj
    exact absurd (List.mem_of_getElem? hi) (List.nodup_cons.1 h).1
  | y :: t, i + 1, j + 1, x, h, hi, hj => by
    exact congrArg (· + 1) (nd_inj (List.nodup_cons.1 h).2 (by simpa using hi) (by simpa using hj))
end Go.Proofs.Ytdpniggabidmbaa
