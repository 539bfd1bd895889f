/-
  wire: law 23: what WireApart writes into (plain).
-/
import Derived.Test.YtboomeeipnfbmabWSD
import Derived.Test.YtboomeeipnfbmabWSE
namespace Go.Proofs.Ytboomeeipnfbmab
open Go.RowKit

theorem apart_row {s : WrW} {b : List Int} (ho : (putW (putW s b) b).Ok) {a : Int} (k : Int) (h0 : 0 ≤ a) (h1 : a < (b.length : Int)) : flpE (putW (putW s b) b) ((s.gv : Int) + 1) a = 0 ∧ ∃ b', b'.length = b.length ∧ flpS (putW (putW s b) b) ((s.gv : Int) + 1) a k = ⟨s.row ++ [⟨s.gv + 1, b'⟩, ⟨s.gv + 2, b⟩], s.gv + 2⟩ := by
  have hr : (putW (putW s b) b).row = s.row ++ [⟨s.gv + 1, b⟩, ⟨s.gv + 2, b⟩] := by
    unfold putW; simp
  have hm : (putW (putW s b) b).row[s.row.length]? = some ⟨s.gv + 1, b⟩ := by
    rw [hr, List.getElem?_append_right (Nat.le_refl _), Nat.sub_self]; rfl
  have hp := plW_at ho hm
  have hn : ((s.gv + 1 : Nat) : Int) = (s.gv : Int) + 1 := by omega
  simp only [hn] at hp
  have hb := byW_at hp hm
  simp only at hb
  have e1 : flpE (putW (putW s b) b) ((s.gv : Int) + 1) a = 0 := by
    unfold flpE; rw [hp, hb]; simp only; rw [if_neg (by omega)]
  refine ⟨e1, flpL b a k, flpL_len _ _ _, ?_⟩
  unfold flpS
  rw [if_pos e1, hb]
  unfold newB
  rw [hp]
  simp only
  rw [show ((s.gv : Int) + 1).toNat = s.gv + 1 by omega, hr, List.set_append_right _ _ (Nat.le_refl _), Nat.sub_self]
  rfl
theorem apart_one {s : WrW} {b b' : List Int} (ho : (WrW.mk (s.row ++ [⟨s.gv + 1, b'⟩, ⟨s.gv + 2, b⟩]) (s.gv + 2)).Ok) :
    lokE ⟨s.row ++ [⟨s.gv + 1, b'⟩, ⟨s.gv + 2, b⟩], s.gv + 2⟩ ((s.gv : Int) + 1) = 0 ∧ byW ⟨s.row ++ [⟨s.gv + 1, b'⟩, ⟨s.gv + 2, b⟩], s.gv + 2⟩ ((s.gv : Int) + 1) = b' ∧
    lokE ⟨s.row ++ [⟨s.gv + 1, b'⟩, ⟨s.gv + 2, b⟩], s.gv + 2⟩ ((s.gv : Int) + 1 + 1) = 0 ∧ byW ⟨s.row ++ [⟨s.gv + 1, b'⟩, ⟨s.gv + 2, b⟩], s.gv + 2⟩ ((s.gv : Int) + 1 + 1) = b := by
  have hm : (WrW.mk (s.row ++ [⟨s.gv + 1, b'⟩, ⟨s.gv + 2, b⟩]) (s.gv + 2)).row[s.row.length]? = some ⟨s.gv + 1, b'⟩ := by
    simp only
    rw [List.getElem?_append_right (Nat.le_refl _), Nat.sub_self]; rfl
  have hm2 : (WrW.mk (s.row ++ [⟨s.gv + 1, b'⟩, ⟨s.gv + 2, b⟩]) (s.gv + 2)).row[s.row.length + 1]? = some ⟨s.gv + 2, b⟩ := by
    simp only
    rw [List.getElem?_append_right (by omega), show s.row.length + 1 - s.row.length = 1 by omega]; rfl
  have hp := plW_at ho hm
  have hp2 := plW_at ho hm2
  have hn : ((s.gv + 1 : Nat) : Int) = (s.gv : Int) + 1 := by omega
  have hn2 : ((s.gv + 2 : Nat) : Int) = (s.gv : Int) + 1 + 1 := by omega
  simp only [hn] at hp
  simp only [hn2] at hp2
  exact ⟨by unfold lokE; rw [hp], byW_at hp hm, by unfold lokE; rw [hp2], byW_at hp2 hm2⟩
theorem OqW.at_ {base G M : Nat} {w : World} {Q : List (MsW × Value)} (h : OqW base G M w Q) {k : Nat} {q : MsW × Value} (hq : Q[k]? = some q) : G < w.heap.size ∧ w.cell? ⟨G, k * 2 + 1, none⟩ = some q.2 ∧ ∀ i, w.frozen? ⟨G, i, none⟩ = false := by
  obtain ⟨R, hR, -⟩ := h.b
  have hc : (Q.map zcW)[k]? = some (zcW q) := by rw [List.getElem?_map, hq]; rfl
  have h2 := (twoW_get hc).2
  refine ⟨hR.lt, hR.cell ?_, fun i => hR.froz i⟩
  rw [List.getElem?_toArray, List.getElem?_append_left (List.getElem?_eq_some_iff.1 h2).1]
  exact h2
theorem OqW.grown {base G M : Nat} {w w' : World} {Q : List (MsW × Value)} (h : OqW base G M w Q) {k : Nat} {q : MsW × Value} (hq : Q[k]? = some q) (hg : w.grownBy w' q.2.ownBlock) : w'.cell? ⟨G, k * 2 + 1, none⟩ = some q.2 ∧ ∀ i, w'.frozen? ⟨G, i, none⟩ = false := by
  obtain ⟨hl, hc, -⟩ := h.at_ hq
  obtain ⟨R, hR, -⟩ := h.b
  have hn := (h.u q (List.mem_of_getElem? hq)).2
  exact ⟨(Fr.own hg).cell hl hn hc, fun i => (hR.fr (Fr.own hg) hn).froz i⟩
theorem OwW.form {w : World} {base : Nat} {v : Value} {l : List Int} (h : OwW w base v l) (hl : l ≠ []) : ∃ x cap, v = .slice (some ⟨x, 0, none⟩) l.length cap ∧ base ≤ x ∧ x < w.heap.size ∧ (∀ (j : Nat) (y : Int), l[j]? = some y → w.cell? ⟨x, j, none⟩ = some (.int .u8 y)) ∧ ∀ i, w.frozen? ⟨x, i, none⟩ = false := by
  obtain ⟨a, cap, rfl, -⟩ := row7_form h
  rcases h.2 with ⟨-, hn⟩ | ⟨g, cap', cur, e, hb, hg, -⟩
  · exact absurd (List.eq_nil_of_length_eq_zero hn) hl
  · simp only [Value.slice.injEq, true_and] at e
    obtain ⟨rfl, rfl⟩ := e
    refine ⟨g, cap, rfl, hb, (Array.getElem?_eq_some_iff.1 hg).1, fun j y hy => ?_, fun i => by simp [World.frozen?, hg]⟩
    obtain ⟨_, e1, -, -, h4, -⟩ := row7_at (i := j) (u := .int .u8 y) h (by simp [ubW, hy])
    cases e1
    exact h4
/-- A row that was told, while a caller writes into it. -/
structure AyW (lo hi top G M bn : Nat) (w : World) (Q : List (MsW × Value)) : Prop where
  q : OqW lo G M w Q
  l : Q.length = M
  g : G < hi
  s : ∀ q ∈ Q, ∀ x, q.2.ownBlock = some x → x < hi ∨ top ≤ x
  n : ∀ q ∈ Q, q.1.b.length ≤ bn
theorem set_getW {α : Type} {l : List α} {i j : Nat} {y z : α} (h : (l.set i y)[j]? = some z) : (j = i ∧ z = y) ∨ (j ≠ i ∧ l[j]? = some z) := by
  rw [List.getElem?_set] at h
  split at h
  · rename_i e
    split at h
    · cases h; exact Or.inl ⟨e.symm, rfl⟩
    · cases h
  · exact Or.inr ⟨by omega, h⟩
theorem set_zcW {Q : List (MsW × Value)} {i : Nat} {q : MsW × Value} (hq : Q[i]? = some q) (b : List Int) : (Q.set i (⟨q.1.n, b⟩, q.2)).map zcW = Q.map zcW := by
  have hc : (Q.map zcW)[i]? = some (zcW q) := by rw [List.getElem?_map, hq]; rfl
  rw [List.map_set]
  have e : zcW (⟨q.1.n, b⟩, q.2) = zcW q := rfl
  rw [e]
  refine List.ext_getElem? fun j => ?_
  rw [List.getElem?_set]
  split
  · rename_i e; subst e; rw [hc]; split
    · rfl
    · rename_i hn; exact absurd (List.getElem?_eq_some_iff.1 hc).1 hn
  · rfl
/-- A byte is written. -/
theorem AyW.flip {lo hi top G M bn : Nat} {w : World} {Q : List (MsW × Value)} (h : AyW lo hi top G M bn w Q) {i : Nat} {q : MsW × Value} (hq : Q[i]? = some q) {x n cap j : Nat} (hv : q.2 = .slice (some ⟨x, 0, none⟩) n cap) (hn : q.1.b.length = n) (z : Int) :
    AyW lo hi top G M bn (w.setCell ⟨x, j, none⟩ (.int .u8 z)) (Q.set i (⟨q.1.n, q.1.b.set j z⟩, q.2)) := by
  have hqm := List.mem_of_getElem? hq
  have ho : q.2.ownBlock = some x := by rw [hv]; rfl
  have hxG : x ≠ G := fun e => (h.q.u q hqm).2 (by rw [ho, e])
  have hfr : Fr (fun y => y = x) w (w.setCell ⟨x, j, none⟩ (.int .u8 z)) := (Fr.refl _ w).set (Or.inl rfl)
  obtain ⟨R, hR, hRl⟩ := h.q.b
  refine ⟨⟨h.q.g, ⟨R, by rw [set_zcW hq]; exact hR.fr hfr (fun e => hxG e.symm), by rw [List.length_set]; exact hRl⟩, fun r hr => ?_, fun a b y r u ha hb h1 h2 => ?_⟩, by rw [List.length_set]; exact h.l, h.g, fun r hr u hu => ?_, fun r hr => ?_⟩
  · obtain ⟨k, hk⟩ := List.getElem?_of_mem hr
    rcases set_getW hk with ⟨-, rfl⟩ | ⟨hne, hk⟩
    · refine ⟨?_, (h.q.u q hqm).2⟩
      have h3 := (h.q.u q hqm).1
      simp only
      rw [hv] at h3 ⊢
      exact h3.put hn
    · have h3 := h.q.u r (List.mem_of_getElem? hk)
      exact ⟨row7_fr h3.1 hfr fun y hy e => hne (h.q.d k i r q x hk hq (by rw [hy, e]) ho), h3.2⟩
  · rcases set_getW ha with ⟨e1, rfl⟩ | ⟨e1, ha⟩ <;> rcases set_getW hb with ⟨e2, rfl⟩ | ⟨e2, hb⟩
    · omega
    · rw [e1]; exact h.q.d i b q r u hq hb h1 h2
    · rw [e2]; exact h.q.d a i y q u ha hq h1 h2
    · exact h.q.d a b y r u ha hb h1 h2
  · obtain ⟨k, hk⟩ := List.getElem?_of_mem hr
    rcases set_getW hk with ⟨-, rfl⟩ | ⟨-, hk⟩
    · exact h.s q hqm u hu
    · exact h.s r (List.mem_of_getElem? hk) u hu
  · obtain ⟨k, hk⟩ := List.getElem?_of_mem hr
    rcases set_getW hk with ⟨-, rfl⟩ | ⟨-, hk⟩
    · simp only [List.length_set]; exact h.n q hqm
    · exact h.n r (List.mem_of_getElem? hk)
theorem AyW.below {lo hi top G M bn : Nat} {w w' : World} {Q : List (MsW × Value)} (h : AyW lo hi top G M bn w Q) (hb : Below w.heap.size w w') : AyW lo hi top G M bn w' Q := ⟨h.q.below hb, h.l, h.g, h.s, h.n⟩
/-- A message's bytes are appended to, and stored again. -/
theorem AyW.app {lo hi top G M bn bn' : Nat} {w w' : World} {Q : List (MsW × Value)} (h : AyW lo hi top G M bn w Q) {i : Nat} {q : MsW × Value} (hq : Q[i]? = some q) {v' : Value} {b' : List Int} (hg : w.grownBy w' q.2.ownBlock) (ho : OwW w' lo v' b') (hv : v'.ownBlock = q.2.ownBlock ∨ v'.ownBlock = some w.heap.size) (hbn : bn ≤ bn') (hb' : b'.length ≤ bn') (htop : top ≤ w.heap.size) :
    AyW lo hi top G M bn' (w'.setCell ⟨G, i * 2 + 1, none⟩ v') (Q.set i (⟨q.1.n, b'⟩, v')) := by
  have hqm := List.mem_of_getElem? hq
  obtain ⟨R, hR, hRl⟩ := h.q.b
  have hf1 : Fr (fun b => q.2.ownBlock = some b) w w' := Fr.own hg
  have hf2 : Fr (fun y => y = G) w' (w'.setCell ⟨G, i * 2 + 1, none⟩ v') := (Fr.refl _ w').set (Or.inl rfl)
  have hGl := hR.lt
  have hR1 : Bk w' G (twoW (Q.map zcW) ++ R).toArray 37 := hR.fr hf1 (h.q.u q hqm).2
  have hvG : v'.ownBlock ≠ some G := fun e => by
    rcases hv with hv | hv
    · exact (h.q.u q hqm).2 (by rw [← hv]; exact e)
    · rw [hv] at e; cases e; omega
  have hc : (Q.map zcW)[i]? = some (zcW q) := by rw [List.getElem?_map, hq]; rfl
  have hlt : i < Q.length := (List.getElem?_eq_some_iff.1 hq).1
  have hother : ∀ {k : Nat} {r : MsW × Value} {u : Nat}, k ≠ i → Q[k]? = some r → r.2.ownBlock = some u → v'.ownBlock ≠ some u := fun {k r u} hk hr hu e => by
    rcases hv with hv | hv
    · exact hk (h.q.d k i r q u hr hq hu (by rw [← hv]; exact e))
    · rw [hv] at e
      cases e
      have := (World.ownsRow.lt (h.q.u r (List.mem_of_getElem? hr)).1 _ hu).2
      omega
  refine ⟨⟨h.q.g, ⟨R, ?_, by rw [List.length_set]; exact hRl⟩, fun r hr => ?_, fun a b y r u ha hb h1 h2 => ?_⟩, by rw [List.length_set]; exact h.l, h.g, fun r hr u hu => ?_, fun r hr => ?_⟩
  · have h1 := hR1.set (i * 2 + 1) v'
    have e : (Q.set i (⟨q.1.n, b'⟩, v')).map zcW = (Q.map zcW).set i ((zcW q).1, v') := by rw [List.map_set]; rfl
    rw [e, twoW_set2 hc]
    rw [List.setIfInBounds_toArray, List.set_append_left _ _ (by rw [twoW_len, List.length_map]; omega)] at h1
    exact h1
  · obtain ⟨k, hk⟩ := List.getElem?_of_mem hr
    rcases set_getW hk with ⟨-, rfl⟩ | ⟨hne, hk⟩
    · exact ⟨row7_fr ho hf2 fun y hy e => hvG (by rw [hy, e]), hvG⟩
    · have h3 := h.q.u r (List.mem_of_getElem? hk)
      refine ⟨row7_fr (row7_fr h3.1 hf1 fun y hy e => hne (h.q.d k i r q y hk hq hy e)) hf2 fun y hy e => h3.2 (by rw [hy, e]), h3.2⟩
  · rcases set_getW ha with ⟨e1, rfl⟩ | ⟨e1, ha⟩ <;> rcases set_getW hb with ⟨e2, rfl⟩ | ⟨e2, hb⟩
    · omega
    · exact absurd h1 (hother e2 hb h2)
    · exact absurd h2 (hother e1 ha h1)
    · exact h.q.d a b y r u ha hb h1 h2
  · obtain ⟨k, hk⟩ := List.getElem?_of_mem hr
    rcases set_getW hk with ⟨-, rfl⟩ | ⟨-, hk⟩
    · rcases hv with hv | hv
      · simp only [hv] at hu; exact h.s q hqm u hu
      · simp only [hv, Option.some.injEq] at hu; exact Or.inr (by omega)
    · exact h.s r (List.mem_of_getElem? hk) u hu
  · obtain ⟨k, hk⟩ := List.getElem?_of_mem hr
    rcases set_getW hk with ⟨-, rfl⟩ | ⟨-, hk⟩
    · exact hb'
    · exact Nat.le_trans (h.n r (List.mem_of_getElem? hk)) hbn
end Go.Proofs.Ytboomeeipnfbmab
