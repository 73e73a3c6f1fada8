/-
  What is proved: the reference's Add, beside the lists. Condition: its MQ lies in memory as one.
-/
import Derived.Test.YtlafhejnnilpmaaRv12
namespace Go.Proofs.Ytlafhejnnilpmaa
open Go.RowKit

section
variable {w w' : World} {X : Nat → Prop} {h a p e C N L H : Nat} {o' : Int → Int} {m : Ms}
/-- the lists behind, where a block has become a ghost -/
theorem ha_ref (ok : Okm C N L H m) (hH : H ≤ 16) {i : Nat} (hi : i < N) {v : Int} (hm : v ∈ m.S.getD i []) :
    (m.S.take N).set i (wo v (m.S.getD i [])) = (m.ha H v).S.take N ∧ (m.ha H v).S.getD 8 [] = (if H < (v :: m.S.getD 8 []).length then (v :: m.S.getD 8 []).take H else v :: m.S.getD 8 []) ∧ (m.ha H v).x = m.x ∧ (m.ha H v).t = m.t := by
  have hn := ok.n
  have hil : i < m.S.length := by rw [ok.len]; omega
  have hv : v ∈ m.al := mem_alls.2 ⟨i, by omega, hm⟩
  have hng : v ∉ m.S.getD 8 [] := fun hg => by have := ok.wf.same hm hg; omega
  have e : woS v m.S = m.S.set i (wo v (m.S.getD i [])) := woS_set ok.wf (gd_some hil) hm
  have hl : 8 < (woS v m.S).length := by rw [woS_len, ok.len]; omega
  have eg : m.gg v = v :: m.S.getD 8 [] := by unfold Ms.gg; rw [gd_wo, wo_out hng]
  have hgh := ok.gh
  have key : ∀ g : List Int, ((woS v m.S).set 8 g).take N = (m.S.take N).set i (wo v (m.S.getD i [])) := fun g => by
    rw [List.take_set, e, List.take_set, List.set_eq_of_length_le (by rw [List.length_set, List.length_take, ok.len]; omega)]
  unfold Ms.ha
  by_cases hg : (m.gg v).length ≤ H
  · rw [if_pos hg]
    rw [eg] at hg
    refine ⟨(key _).symm, ?_, rfl, rfl⟩
    show ((woS v m.S).set 8 (m.gg v)).getD 8 [] = _
    rw [gd_set _ hl, if_pos rfl, eg, if_neg (by omega)]
  · rw [if_neg hg]
    have ed := drop_ghost ok hH hv
    rw [eg] at hg
    have hlen : (v :: m.S.getD 8 []).length = H + 1 := by rw [List.length_cons] at hg ⊢; omega
    refine ⟨?_, ?_, rfl, rfl⟩
    · show _ = (woS ((m.gg v).getLast (by simp [Ms.gg])) ((woS v m.S).set 8 (m.gg v))).take N
      rw [ed, key]
    · show (woS ((m.gg v).getLast (by simp [Ms.gg])) ((woS v m.S).set 8 (m.gg v))).getD 8 [] = _
      rw [ed, gd_set _ hl, if_pos rfl, eg, if_pos (by omega), List.dropLast_eq_take, hlen]
      rfl
/-- how often, where they are there: behind a victim's going, too -/
theorem ha_oo (m : Ms) (H : Nat) (v c : Int) : (m.ha H v).o c = m.o c ∨ (m.ha H v).o c = 0 := by
  unfold Ms.ha
  split
  · exact .inl rfl
  · show upd m.o ((m.gg v).getLast (by simp [Ms.gg])) 0 c = _ ∨ upd m.o ((m.gg v).getLast (by simp [Ms.gg])) 0 c = 0
    unfold upd
    split
    · exact .inr rfl
    · exact .inl rfl
theorem ha_ag {v : Int} (ok : Okm C N L H m) (ok2 : Okm C N L H (m.ha H v)) (ho : ∀ c, inS m.S c → o' c = m.o c) : ∀ c, inS (m.ha H v).S c → o' c = (m.ha H v).o c := fun c hc => by
  have h1 := (ok2.o1 c hc).1
  rcases ha_oo m H v c with e | e
  · rw [e] at h1 ⊢
    refine ho c (Classical.byContradiction fun hn => ?_)
    rw [ok.o0 c hn] at h1
    omega
  · rw [e] at h1
    omega
theorem ha_notin {v b : Int} (ok : Okm C N L H m) (hH : H ≤ 16) (hv : v ∈ m.al) (hb : b ∉ m.al) : b ∉ (m.ha H v).al := fun hx => by
  obtain ⟨i, hi, hm⟩ := mem_alls.1 hx
  have hn := ok.n
  have hl : 8 < (woS v m.S).length := by rw [woS_len, ok.len]; omega
  have key : ∀ g : List Int, b ∈ ((woS v m.S).set 8 g).getD i [] → b ∈ m.al := fun g hg => by
    rw [gd_set _ hl, if_neg (by omega), gd_wo] at hg
    exact mem_alls.2 ⟨i, hi, (mem_wo.1 hg).1⟩
  unfold Ms.ha at hm
  split at hm
  · exact hb (key _ hm)
  · have hm2 : b ∈ (woS ((m.gg v).getLast (by simp [Ms.gg])) ((woS v m.S).set 8 (m.gg v))).getD i [] := hm
    rw [drop_ghost ok hH hv] at hm2
    exact hb (key _ hm2)
end
section
variable {w w' : World} {X X' : Nat → Prop} {h a p e C N L H cv : Nat} {us : List Value} {ug : Value} {R : List (List Int)} {G : List Int} {o x : Int → Int} {t : Nat} {u : Value} {l : List Int}
theorem Rt.alloc (r : Rt w X u l) (ob : Obj) : Rt (w.alloc ob) (fun j => X j ∨ j = w.heap.size) u l := by
  obtain ⟨A, c, e, hr, h1, h2, h3⟩ := r
  exact ⟨A, c, e, hr.below (below_alloc w ob), h1, h2, fun ad e2 hx => hx.elim (h3 ad e2) fun e3 => by have := hr.lt ad e2; omega⟩
theorem Rt.less (r : Rt w X' u l) (hX : ∀ j, X j → X' j) : Rt w X u l := by
  obtain ⟨A, c, e, hr, h1, h2, h3⟩ := r
  exact ⟨A, c, e, hr, h1, h2, fun ad e2 hx => h3 ad e2 (hX _ hx)⟩
theorem Rt.cut {A : Option Addr} {n c k : Nat} (r : Rt w X (.slice A n c) l) (hk : k ≤ l.length) : Rt w X (.slice A k c) (l.take k) := by
  obtain ⟨A', c', e, hr, h1, h2, h3⟩ := r
  simp only [Value.slice.injEq] at e
  obtain ⟨rfl, -, rfl⟩ := e
  have hl : (l.take k).length = k := by rw [List.length_take]; omega
  refine ⟨A, c, by rw [hl], ⟨fun j v hv => hr.rd j v ?_, hr.lt⟩, by rw [hl]; omega, h2, h3⟩
  rw [show ints (l.take k) = (ints l).take k from by simp [ints, List.map_take], List.getElem?_take] at hv
  split at hv
  · exact hv
  · cases hv
theorem Rm.alloc (m : Rm w X h a p e C N L H cv us ug R G o x t) (ob : Obj) : Rm (w.alloc ob) (fun j => X j ∨ j = w.heap.size) h a p e C N L H cv us ug R G o x t := by
  have k := m.below (below_alloc w ob)
  exact { k with
    way := fun q u hu => (m.way q u hu).alloc ob
    gh := m.gh.alloc ob
    xb := fun j hj => by
      have hs : (w.alloc ob).heap.size = w.heap.size + 1 := Array.size_push _
      rw [hs]
      rcases hj with hj | hj
      · have := m.xb j hj; omega
      · omega
    xh := .inl m.xh
    xa := .inl m.xa
    xp := .inl m.xp
    xe := .inl m.xe }
theorem Rm.less (m : Rm w X' h a p e C N L H cv us ug R G o x t) (hX : ∀ j, X j → X' j) (hF : ∀ j, Fr h a p e j → X j) : Rm w X h a p e C N L H cv us ug R G o x t :=
  { m with
    way := fun q u hu => (m.way q u hu).less hX
    gh := m.gh.less hX
    xb := fun j hj => m.xb j (hX j hj)
    xh := hF _ fr_h
    xa := hF _ fr_a
    xp := hF _ fr_p
    xe := hF _ fr_e }
theorem Rm.xf (m : Rm w X h a p e C N L H cv us ug R G o x t) : ∀ j, Fr h a p e j → X j := fun j hj => by
  rcases hj with rfl | rfl | rfl | rfl
  · exact m.xh
  · exact m.xa
  · exact m.xp
  · exact m.xe
theorem Rs.xf {m : Ms} (r : Rs w X h a p e C N L H m) : (∀ j, Fr h a p e j → X j) ∧ ∀ j, X j → j < w.heap.size := by
  obtain ⟨o', ⟨cv, us, ug, hm⟩, ho⟩ := r
  exact ⟨hm.xf, hm.xb⟩
theorem Rs.alloc {m : Ms} (r : Rs w X h a p e C N L H m) (ob : Obj) : Rs (w.alloc ob) (fun j => X j ∨ j = w.heap.size) h a p e C N L H m := by
  obtain ⟨o', ⟨cv, us, ug, hm⟩, ho⟩ := r
  exact ⟨o', ⟨cv, us, ug, hm.alloc ob⟩, ho⟩
theorem Rs.less {m : Ms} (r : Rs w X' h a p e C N L H m) (hX : ∀ j, X j → X' j) (hF : ∀ j, Fr h a p e j → X j) : Rs w X h a p e C N L H m := by
  obtain ⟨o', ⟨cv, us, ug, hm⟩, ho⟩ := r
  exact ⟨o', ⟨cv, us, ug, hm.less hX hF⟩, ho⟩
end
end Go.Proofs.Ytlafhejnnilpmaa
