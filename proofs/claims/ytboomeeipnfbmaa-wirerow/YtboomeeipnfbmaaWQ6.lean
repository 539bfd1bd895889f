/-
  wire: what becomes of the wire in memory when a message goes, gets other bytes, changes its place (plain).
-/
import Derived.Test.YtboomeeipnfbmaaWQ5
namespace Go.Proofs.Ytboomeeipnfbmaa
open Go.RowKit

theorem row_split {w : World} {B g' M cap : Nat} {e : TypeId} {xs : List Value} (h : w.ownsRow B e 2 (.slice (some ⟨g', 0, none⟩) M cap) M xs) : ∃ R, Bk w g' (xs ++ R).toArray e ∧ xs.length = M * 2 ∧ xs.length + R.length = cap * 2 ∧ M ≤ cap ∧ cap ≤ maxLen ∧ B ≤ g' := by
  rcases h.2 with ⟨hv, -⟩ | ⟨g2, cap2, cur, hv, hb, hg, hn, hc, hs, ht⟩
  · cases hv
  · simp only [Value.slice.injEq, Option.some.injEq, Addr.mk.injEq, true_and, and_true] at hv
    obtain ⟨rfl, rfl⟩ := hv
    have hl : xs.length = M * 2 := h.1
    have h1 : cur.toList.length = cap * 2 := by rw [Array.length_toList]; exact hs
    refine ⟨cur.toList.drop (M * 2), ?_, hl, ?_, hn, hc, hb⟩
    · rw [← ht, List.take_append_drop]; exact hg
    · rw [hl, List.length_drop, h1]; omega
theorem row_join {w : World} {B g' m cap : Nat} {e : TypeId} {xs R : List Value} (h : Bk w g' (xs ++ R).toArray e) (h1 : xs.length = m * 2) (h2 : xs.length + R.length = cap * 2) (h3 : m ≤ cap) (h4 : cap ≤ maxLen) (h5 : B ≤ g') : w.ownsRow B e 2 (.slice (some ⟨g', 0, none⟩) m cap) m xs :=
  ⟨h1, Or.inr ⟨g', cap, _, rfl, h5, h, h3, h4, by simp only [List.size_toArray, List.length_append]; exact h2, by rw [List.take_append_of_le_length (by omega), List.take_of_length_le (by omega)]⟩⟩
theorem LbW.exact {F : Nat → Prop} {w : World} {v : Value} {l : List Int} (h : LbW F w v l) (hn : l ≠ []) : LbW (fun b => F b ∧ v.ownBlock = some b) w v l := by
  obtain ⟨a, cap, rfl, h1, h2, h3, h4⟩ := h
  refine ⟨a, cap, rfl, h1, h2, h3, Or.inr ?_⟩
  rcases h4 with ⟨h4, -⟩ | ⟨b, o, rfl, h4, h5, h6⟩
  · exact absurd h4 hn
  · exact ⟨b, o, rfl, h4, ⟨h5, rfl⟩, h6⟩
theorem LbW.none_ {F : Nat → Prop} {w : World} {v : Value} {l : List Int} (h : LbW F w v l) (hn : l = []) (G : Nat → Prop) (w' : World) : LbW G w' v l := by
  subst hn
  obtain ⟨a, cap, rfl, h1, h2, h3, h4⟩ := h
  refine ⟨a, cap, rfl, h1, h2, h3, Or.inl ⟨rfl, ?_⟩⟩
  rcases h4 with ⟨-, h4⟩ | ⟨b, o, rfl, -⟩
  · exact h4
  · intro e; cases e
theorem twoW_take (L : List (Value × Value)) (k : Nat) : (twoW L).take (k * 2) = twoW (L.take k) := by
  induction L generalizing k with
  | nil => simp [twoW]
  | cons p L ih =>
    cases k with
    | zero => simp [twoW]
    | succ k =>
      have e : ∀ p (L : List (Value × Value)), twoW (p :: L) = p.1 :: p.2 :: twoW L := fun _ _ => rfl
      rw [List.take_succ_cons, e, e, ← ih, show (k + 1) * 2 = k * 2 + 1 + 1 by omega]
      rfl
theorem twoW_drop (L : List (Value × Value)) (k : Nat) : (twoW L).drop (k * 2) = twoW (L.drop k) := by
  induction L generalizing k with
  | nil => simp [twoW]
  | cons p L ih =>
    cases k with
    | zero => simp
    | succ k =>
      have e : ∀ p (L : List (Value × Value)), twoW (p :: L) = p.1 :: p.2 :: twoW L := fun _ _ => rfl
      rw [List.drop_succ_cons, e, ← ih, show (k + 1) * 2 = k * 2 + 1 + 1 by omega]
      rfl
theorem erase_map {α β : Type} (f : α → β) (l : List α) (i : Nat) : (l.eraseIdx i).map f = (l.map f).eraseIdx i := by
  rw [List.eraseIdx_eq_take_drop_succ, List.eraseIdx_eq_take_drop_succ, List.map_append, List.map_take, List.map_drop]
theorem twoW_erase (L : List (Value × Value)) (i : Nat) : twoW (L.eraseIdx i) = (twoW L).take (i * 2) ++ (twoW L).drop ((i + 1) * 2) := by
  rw [List.eraseIdx_eq_take_drop_succ, twoW_app, twoW_take, twoW_drop]
theorem erase_get {α : Type} {l : List α} {i j : Nat} {x : α} (h : (l.eraseIdx i)[j]? = some x) : ∃ k, l[k]? = some x ∧ k ≠ i ∧ k = (if j < i then j else j + 1) := by
  rw [List.getElem?_eraseIdx] at h
  split at h
  · exact ⟨j, h, by omega, by rw [if_pos (by assumption)]⟩
  · exact ⟨j + 1, h, by omega, by rw [if_neg (by assumption)]⟩
theorem twoW_one (Z : List (MsW × Value)) (h : ∀ q ∈ Z, q.2.oneCell' = true) : ∀ v ∈ twoW (Z.map zcW), v.oneCell' = true := two_one _ fun q hq => by
  obtain ⟨z, hz, rfl⟩ := List.mem_map.1 hq
  exact ⟨rfl, h z hz⟩
theorem WyX.one {B : Nat} {T : Nat → Prop} {g : Nat} {s : WrW} {Z : List (MsW × Value)} {rv : Value} {Y : World} (h : WyX B T g s Z rv Y) : ∀ v ∈ twoW (Z.map zcW), v.oneCell' = true := twoW_one Z fun q hq => by
  obtain ⟨a, c, e, -⟩ := (h.u q hq).form
  rw [e]
  rfl
/-- A message goes. -/
theorem WyX.erase {B : Nat} {T : Nat → Prop} {g g' m cap : Nat} {s : WrW} {Z : List (MsW × Value)} {Y Y' : World} (h : WyX B T g s Z (.slice (some ⟨g', 0, none⟩) m cap) Y) {i : Nat} {q0 : MsW × Value} (hi : Z[i]? = some q0) (ho : (WrW.mk (s.row.eraseIdx i) s.gv).Ok) {R : List Value} (hr : Z.length * 2 + R.length = cap * 2) (hmx : cap ≤ maxLen) (hf : Fr (fun x => x = g ∨ x = g') Y Y')
    (hb : Bk Y' g #[.slice (some ⟨g', 0, none⟩) (Z.length - 1) cap, .int .i64 (s.gv : Int)] 64) (hc : Bk Y' g' ((twoW (Z.map zcW)).take (i * 2) ++ (twoW (Z.map zcW)).drop ((i + 1) * 2) ++ (zrW ++ R)).toArray 57)
    (U : Nat → Prop) (hUg : ¬ U g) (hUg' : ¬ U g') (hUo : ∀ (j : Nat) (q : MsW × Value) (x : Nat), j ≠ i → Z[j]? = some q → q.1.b ≠ [] → q.2.ownBlock = some x → ¬ U x) :
    WyX B (fun b => T b ∧ ¬ U b) g ⟨s.row.eraseIdx i, s.gv⟩ (Z.eraseIdx i) (.slice (some ⟨g', 0, none⟩) (Z.length - 1) cap) Y' := by
  have hlt := (List.getElem?_eq_some_iff.1 hi).1
  have hel : (Z.eraseIdx i).length = Z.length - 1 := List.length_eraseIdx_of_lt hlt
  have hown : ∀ x, (Value.slice (some ⟨g', 0, none⟩) m cap).ownBlock = some x → x = g' := fun x hx => by
    simp only [Value.ownBlock, Option.some.injEq] at hx
    exact hx.symm
  have hg1 : g' ≠ g := fun e => h.ne (by rw [e]; rfl)
  have hTg' := h.ta g' rfl
  refine ⟨ho, by rw [erase_map, h.z], hb, ?_, fun q hq => ?_, fun q hq hn x hx => ?_, fun a b y z x ha hb' hy hz h1 h2 => ?_, fun b hb' => ?_, ⟨h.tg, hUg⟩, fun b hb' => ⟨(h.t b hb'.1).1, Nat.lt_of_lt_of_le (h.t b hb'.1).2 hf.size⟩⟩
  · rw [hel, erase_map, twoW_erase]
    refine row_join hc ?_ ?_ ?_ hmx (h.t g' hTg').1
    · rw [List.length_append, List.length_take, List.length_drop, twoW_len, List.length_map]; omega
    · rw [List.length_append, List.length_take, List.length_drop, twoW_len, List.length_map, List.length_append]
      simp only [zrW, List.length_cons, List.length_nil]
      omega
    · omega
  · obtain ⟨j, hj⟩ := List.getElem?_of_mem hq
    obtain ⟨k, hk, hki, -⟩ := erase_get hj
    have hu := h.u q (List.mem_of_getElem? hk)
    by_cases hn : q.1.b = []
    · exact hu.none_ hn _ _
    · refine ((hu.exact hn).fr hf fun b _ hF hP => ?_).mono fun b _ hF => ⟨⟨hF.1.1, hUo k q b hki hk hn hF.2⟩, hF.1.2.1, fun e => hF.1.2.2 ?_⟩
      · rcases hP with hP | hP
        · exact hF.1.2.1 hP
        · exact hF.1.2.2 (by rw [hP]; rfl)
      · simp only [Value.ownBlock] at e ⊢; exact e
  · obtain ⟨j, hj⟩ := List.getElem?_of_mem hq
    obtain ⟨k, hk, hki, -⟩ := erase_get hj
    obtain ⟨x', e, hT, hl⟩ := (h.u q (List.mem_of_getElem? hk)).own hn
    rw [hx] at e
    cases e
    obtain ⟨cur, hc'⟩ := h.w q (List.mem_of_getElem? hk) hn x hx
    refine ⟨cur, hc'.fr hf fun hP => ?_⟩
    rcases hP with hP | hP
    · exact hT.2.1 hP
    · exact hT.2.2 (by rw [hP]; rfl)
  · obtain ⟨k1, e1, -, f1⟩ := erase_get ha
    obtain ⟨k2, e2, -, f2⟩ := erase_get hb'
    have := h.d k1 k2 y z x e1 e2 hy hz h1 h2
    rw [f1, f2] at this
    split at this <;> split at this <;> omega
  · have : b = g' := by simp only [Value.ownBlock, Option.some.injEq] at hb'; exact hb'.symm
    subst this
    exact ⟨hTg', hUg'⟩
/-- A message gets bytes that were just made. -/
theorem WyX.newb {B : Nat} {T : Nat → Prop} {g g' m cap : Nat} {s : WrW} {Z : List (MsW × Value)} {Y Y2 : World} (h : WyX B T g s Z (.slice (some ⟨g', 0, none⟩) m cap) Y) {k : Nat} {q : MsW × Value} (hq : Z[k]? = some q) (h2 : Below Y.heap.size Y Y2) {b' : List Int} {u' : Value} (hy : bytW b') (hu : OwW Y2 Y.heap.size u' b') (ho : (WrW.mk (s.row.set k ⟨q.1.n, b'⟩) s.gv).Ok) :
    WkW B T (.pointer (some ⟨g, 0, none⟩)) ⟨s.row.set k ⟨q.1.n, b'⟩, s.gv⟩ Y (Y2.setCell ⟨g', k * 2 + 1, none⟩ u') := by
  have hm : m = Z.length := by
    obtain ⟨a', c', e, -⟩ := row7_form h.a
    simp only [Value.slice.injEq] at e
    exact e.2.1
  subst hm
  have h3 := h.below h2
  have hle : B ≤ Y.heap.size := Nat.le_trans (h.t g h.tg).1 (Nat.le_of_lt h.b.lt)
  have hgl := h.b.lt
  have hg1 : g' ≠ g := fun e => h.ne (by rw [e]; rfl)
  have hgl' := (h.t g' (h.ta g' rfl)).2
  have hfr : Fr (fun x => x = g') Y2 (Y2.setCell ⟨g', k * 2 + 1, none⟩ u') := (Fr.refl _ Y2).set (Or.inl rfl)
  have hsz : (Y2.setCell ⟨g', k * 2 + 1, none⟩ u').heap.size = Y2.heap.size := by simp
  have hc : (Z.map zcW)[k]? = some (zcW q) := by rw [List.getElem?_map, hq]; rfl
  have hlu := hu.lb hy
  have hold : ∀ r ∈ Z, r.1.b ≠ [] → ∀ x, r.2.ownBlock = some x → x < Y.heap.size := fun r hr hn x hx => by
    obtain ⟨x', e, -, hl⟩ := (h.u r hr).own hn
    rw [hx] at e; cases e; exact hl
  have hnew : ∀ x, u'.ownBlock = some x → Y.heap.size ≤ x := fun x hx => (World.ownsRow.lt hu x hx).1
  have hgz : ∀ {j : Nat} {r : MsW × Value}, (Z.set k (⟨q.1.n, b'⟩, u'))[j]? = some r → (j = k ∧ r = (⟨q.1.n, b'⟩, u')) ∨ (j ≠ k ∧ Z[j]? = some r) := fun {j r} hj => by
    rw [List.getElem?_set] at hj
    split at hj
    · rename_i e
      split at hj
      · cases hj; exact Or.inl ⟨e.symm, rfl⟩
      · cases hj
    · exact Or.inr ⟨by omega, hj⟩
  refine ⟨(Fr.of h2).set (Or.inl (h.ta g' rfl)), fun x => T x ∨ (Y.heap.size ≤ x ∧ x < Y2.heap.size), ⟨g, Z.set k (⟨q.1.n, b'⟩, u'), _, rfl, ⟨ho, ?_, h3.b.fr hfr (fun e => hg1 e.symm), ?_, fun r hr => ?_, fun r hr hn x hx => ?_, fun a b y z x ha hb hy' hz h4 h5 => ?_, fun b hb => Or.inl (h.ta b hb), Or.inl h.tg, fun b hb => ?_⟩⟩, fun x hx => hx.imp id And.left⟩
  · rw [List.map_set, h.z]
  · rw [List.length_set, List.map_set]
    have e : zcW (⟨q.1.n, b'⟩, u') = ((zcW q).1, u') := rfl
    rw [e, twoW_set2 hc]
    exact (h3.a.stored _ _).1
  · obtain ⟨j, hj⟩ := List.getElem?_of_mem hr
    rcases hgz hj with ⟨-, rfl⟩ | ⟨-, hj⟩
    · refine (hlu.fr hfr fun x _ hx e => by have := hx.1; omega).mono fun x hx hF => ⟨Or.inr ⟨hF.1, by rw [hsz] at hx; exact hx⟩, by have := hF.1; omega, fun e => ?_⟩
      simp only [Value.ownBlock, Option.some.injEq] at e
      have := hF.1; omega
    · exact ((h3.u r (List.mem_of_getElem? hj)).fr hfr fun x _ hx e => hx.2.2 (by rw [e]; rfl)).mono fun x _ hx => ⟨Or.inl hx.1, hx.2⟩
  · obtain ⟨j, hj⟩ := List.getElem?_of_mem hr
    rcases hgz hj with ⟨-, rfl⟩ | ⟨-, hj⟩
    · obtain ⟨cur, hc'⟩ := row_bkW hu hx
      exact ⟨cur, hc'.off (by have := hnew x hx; omega)⟩
    · obtain ⟨cur, hc'⟩ := h3.w r (List.mem_of_getElem? hj) hn x hx
      obtain ⟨x', e, hT, -⟩ := (h3.u r (List.mem_of_getElem? hj)).own hn
      rw [hx] at e; cases e
      exact ⟨cur, hc'.off fun e => hT.2.2 (by rw [e]; rfl)⟩
  · rcases hgz ha with ⟨e1, rfl⟩ | ⟨e1, ha⟩ <;> rcases hgz hb with ⟨e2, rfl⟩ | ⟨e2, hb⟩
    · omega
    · have := hnew x h4; have := hold z (List.mem_of_getElem? hb) hz x h5; omega
    · have := hnew x h5; have := hold y (List.mem_of_getElem? ha) hy' x h4; omega
    · exact h.d a b y z x ha hb hy' hz h4 h5
  · rw [hsz]
    rcases hb with hb | hb
    · exact ⟨(h.t b hb).1, Nat.lt_of_lt_of_le (h.t b hb).2 h2.size⟩
    · exact ⟨by omega, hb.2⟩
/-- A byte of a message changes in its place. -/
theorem WyX.flip {B : Nat} {T : Nat → Prop} {g g' m cap : Nat} {s : WrW} {Z : List (MsW × Value)} {Y : World} (h : WyX B T g s Z (.slice (some ⟨g', 0, none⟩) m cap) Y) {k : Nat} {q : MsW × Value} (hq : Z[k]? = some q) {x o n uc j : Nat} (hu : q.2 = .slice (some ⟨x, o, none⟩) n uc) (hj : j < q.1.b.length) {z : Int} (hy : bytW (q.1.b.set j z)) (ho : (WrW.mk (s.row.set k ⟨q.1.n, q.1.b.set j z⟩) s.gv).Ok)
    (hcells : ∀ (i : Nat) (y : Int), q.1.b[i]? = some y → Y.cell? ⟨x, o + i, none⟩ = some (.int .u8 y)) (hx1 : x ≠ g) (hx2 : x ≠ g') (hT : T x) :
    WkW B T (.pointer (some ⟨g, 0, none⟩)) ⟨s.row.set k ⟨q.1.n, q.1.b.set j z⟩, s.gv⟩ Y (Y.setCell ⟨x, o + j, none⟩ (.int .u8 z)) := by
  have hne : q.1.b ≠ [] := fun e => by rw [e] at hj; simp at hj
  have hqm := List.mem_of_getElem? hq
  have hfr : Fr (fun y => y = x) Y (Y.setCell ⟨x, o + j, none⟩ (.int .u8 z)) := (Fr.refl _ Y).set (Or.inl rfl)
  have hown : q.2.ownBlock = some x := by rw [hu]; rfl
  have hgz : ∀ {i : Nat} {r : MsW × Value}, (Z.set k (⟨q.1.n, q.1.b.set j z⟩, q.2))[i]? = some r → (i = k ∧ r = (⟨q.1.n, q.1.b.set j z⟩, q.2)) ∨ (i ≠ k ∧ Z[i]? = some r) := fun {i r} hi => by
    rw [List.getElem?_set] at hi
    split at hi
    · rename_i e
      split at hi
      · cases hi; exact Or.inl ⟨e.symm, rfl⟩
      · cases hi
    · exact Or.inr ⟨by omega, hi⟩
  obtain ⟨cur, hcur⟩ := h.w q hqm hne x hown
  refine ⟨(Fr.refl T Y).set (Or.inl hT), T, ⟨g, Z.set k (⟨q.1.n, q.1.b.set j z⟩, q.2), _, rfl, ⟨ho, by rw [List.map_set, h.z], h.b.fr hfr (fun e => hx1 e.symm), ?_, fun r hr => ?_, fun r hr hn y hy' => ?_, fun a b y z' w' ha hb hy' hz h4 h5 => ?_, h.ta, h.tg, fun b hb => by rw [show (Y.setCell ⟨x, o + j, none⟩ (.int .u8 z)).heap.size = Y.heap.size by simp]; exact h.t b hb⟩⟩, fun b hb => Or.inl hb⟩
  · rw [List.length_set, List.map_set]
    have hc : (Z.map zcW)[k]? = some (zcW q) := by rw [List.getElem?_map, hq]; rfl
    have e : zcW (⟨q.1.n, q.1.b.set j z⟩, q.2) = zcW q := rfl
    rw [e, show (Z.map zcW).set k (zcW q) = Z.map zcW from List.ext_getElem? fun i => by
      rw [List.getElem?_set]
      split
      · rename_i e; subst e; rw [hc]; split
        · rfl
        · rename_i hn; exact absurd (List.getElem?_eq_some_iff.1 hc).1 hn
      · rfl]
    exact row7_fr h.a hfr fun b hb e => hx2 (by subst e; simp only [Value.ownBlock, Option.some.injEq] at hb; exact hb.symm)
  · obtain ⟨i, hi⟩ := List.getElem?_of_mem hr
    rcases hgz hi with ⟨-, rfl⟩ | ⟨hik, hi⟩
    · obtain ⟨a, c, e, h1, h2, h3, -⟩ := h.u q hqm
      have e2 := e
      rw [hu] at e2
      simp only [Value.slice.injEq] at e2
      obtain ⟨rfl, -, rfl⟩ := e2
      refine ⟨_, _, by rw [List.length_set]; exact e, by rw [List.length_set]; exact h1, h2, hy, Or.inr ⟨x, o, rfl, by simp; exact hcur.lt, ⟨hT, hx1, fun e => hx2 (by simp only [Value.ownBlock, Option.some.injEq] at e; exact e.symm)⟩, fun i y hy' => ?_⟩⟩
      have hy2 := hy'
      rw [List.getElem?_set] at hy2
      split at hy2
      · rename_i e3
        cases hy2
        subst e3
        obtain ⟨y, hyj⟩ : ∃ y, q.1.b[j]? = some y := ⟨_, List.getElem?_eq_getElem hj⟩
        exact World.cell?_setCell_same _ _ _ (hcells j y hyj)
      · rename_i e3
        rw [World.cell?_setCell_other _ _ _ _ (fun e => by simp only [Addr.mk.injEq] at e; omega)]
        exact hcells i y hy2
    · have hru := h.u r (List.mem_of_getElem? hi)
      by_cases hn : r.1.b = []
      · exact hru.none_ hn _ _
      · exact ((hru.exact hn).fr hfr fun b _ hF e => hik (h.d i k r q x hi hq hn hne (by rw [hF.2, e]) hown)).mono fun b _ hF => hF.1
  · obtain ⟨i, hi⟩ := List.getElem?_of_mem hr
    rcases hgz hi with ⟨-, rfl⟩ | ⟨hik, hi⟩
    · simp only at hy'
      rw [hown] at hy'
      cases hy'
      exact ⟨_, hcur.set _ _⟩
    · obtain ⟨cur2, hc2⟩ := h.w r (List.mem_of_getElem? hi) hn y hy'
      exact ⟨cur2, hc2.off fun e => hik (h.d i k r q x hi hq hn hne (by rw [hy', e]) hown)⟩
  · rcases hgz ha with ⟨e1, rfl⟩ | ⟨e1, ha⟩ <;> rcases hgz hb with ⟨e2, rfl⟩ | ⟨e2, hb⟩
    · omega
    · rw [e1]; exact h.d k b q z' w' hq hb hne hz h4 h5
    · rw [e2]; exact h.d a k y q w' ha hq hy' hne h4 h5
    · exact h.d a b y z' w' ha hb hy' hz h4 h5
end Go.Proofs.Ytboomeeipnfbmaa
