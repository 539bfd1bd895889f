/-
  wire: what becomes of the wire in memory when a message goes, gets other bytes, changes its place (plain).
-/
import Derived.Test.YtboomeeipnfbmaaWQ5
namespace Go.Proofs.Ytboomeeipnfbmaa
open Go.RowKit

theorem row_split {w : World} {B g' M cap : Nat} {e : TypeId} {xs : List Value} (h : w.ownsRow B e 2 (.slice (some ⟨g', 0, none⟩) M cap) M xs) : ∃ R, Bk w g' (xs ++ R).toArray e ∧ xs.length = M * 2 ∧ xs.length + R.length = cap * 2 ∧ M ≤ cap ∧ cap ≤ maxLen ∧ B ≤ g' := by
  rcases h.2 with ⟨hv, -⟩ | ⟨g2, cap2, cur, hv, hb, hg, hn, hc, hs, ht⟩
  · cases hv
  · simp only [Value.slice.injEq, Option.some.injEq, Addr.mk.injEq, true_and, and_true] at hv
    obtain ⟨rfl, rfl⟩ := hv
    have hl : xs.length = M * 2 := h.1
    have h1 : cur.toList.length = cap * 2 := by rw [Array.length_toList]; exact hs
    refine ⟨cur.toList.drop (M * 2), ?_, hl, ?_, hn, hc, hb⟩
    · rw [← ht, List.take_append_drop]; exact hg
    · rw [hl, List.length_drop, h1]; omega
theorem row_join {w : World} {B g' m cap : Nat} {e : TypeId} {xs R : List Value} (h : Bk w g' (xs ++ R).toArray e) (h1 : xs.length = m * 2) (h2 : xs.length + R.length = cap * 2) (h3 : m ≤ cap) (h4 : cap ≤ maxLen) (h5 : B ≤ g') : w.ownsRow B e 2 (.slice (some ⟨g', 0, none⟩) m cap) m xs :=
  ⟨h1, Or.inr ⟨g', cap, _, rfl, h5, h, h3, h4, by simp only [List.size_toArray, List.length_append]; exact h2, by rw [List.take_append_of_le_length (by omega), List.take_of_length_le (by omega)]⟩⟩
theorem LbW.exact {F : Nat → Prop} {w : World} {v : Value} {l : List Int} (h : LbW F w v l) (hn : l ≠ []) : LbW (fun b => F b ∧ v.ownBlock = some b) w v l := by
  obtain ⟨a, cap, rfl, h1, h2, h3, h4⟩ := h
  refine ⟨a, cap, rfl, h1, h2, h3, Or.inr ?_⟩
  rcases h4 with ⟨h4, -⟩ | ⟨b, o, rfl, h4, h5, h6⟩
  · exact absurd h4 hn
  · exact ⟨b, o, rfl, h4, ⟨h5, rfl⟩, h6⟩
theorem LbW.none_ {F : Nat → Prop} {w : World} {v : Value} {l : List Int} (h : LbW F w v l) (hn : l = []) (G : Nat → Prop) (w' : World) : LbW G w' v l := by
  subst hn
  obtain ⟨a, cap, rfl, h1, h2, h3, h4⟩ := h
  refine ⟨a, cap, rfl, h1, h2, h3, Or.inl ⟨rfl, ?_⟩⟩
  rcases h4 with ⟨-, h4⟩ | ⟨b, o, rfl, -⟩
  · exact h4
  · intro e; cases e
theorem twoW_take (L : List (Value × Value)) (k : Nat) : (twoW L).take (k * 2) = twoW (L.take k) := by
  induction L generalizing k with
  | nil => simp [twoW]
  | cons p L ih =>
    cases k with
    | zero => simp [twoW]
    | succ k =>
      have e : ∀ p (L : List (Value × Value)), twoW (p :: L) = p.1 :: p.2 :: twoW L := fun _ _ => rfl
      rw [List.take_succ_cons, e, e, ← ih, show (k + 1) * 2 = k * 2 + 1 + 1 by omega]
      rfl
theorem twoW_drop (L : List (Value × Value)) (k : Nat) : (twoW L).drop (k * 2) = twoW (L.drop k) := by
  induction L generalizing k with
  | nil => simp [twoW]
  | cons p L ih =>
    cases k with
    | zero => simp
    | succ k =>
      have e : ∀ p (L : List (Value × Value)), twoW (p :: L) = p.1 :: p.2 :: twoW L := fun _ _ => rfl
      rw [List.drop_succ_cons, e, ← ih, show (k + 1) * 2 = k * 2 + 1 + 1 by omega]
      rfl
theorem erase_map {α β : Type} (f : α → β) (l : List α) (i : Nat) : (l.eraseIdx i).map f = (l.map f).eraseIdx i := by
  rw [List.eraseIdx_eq_take_drop_succ, List.eraseIdx_eq_take_drop_succ, List.map_append, List.map_take, List.map_drop]
theorem twoW_erase (L : List (Value × Value)) (i : Nat) : twoW (L.eraseIdx i) = (twoW L).take (i * 2) ++ (twoW L).drop ((i + 1) * 2) := by
  rw [List.eraseIdx_eq_take_drop_succ, twoW_app, twoW_take, twoW_drop]
theorem erase_get {α : Type} {l : List α} {i j : Nat} {x : α} (h : (l.eraseIdx i)[j]? = some x) : ∃ k, l[k]? = some x ∧ k ≠ i ∧ k = (if j < i then j else j + 1) := by
  rw [List.getElem?_eraseIdx] at h
  split at h
  · exact ⟨j, h, by omega, by rw [if_pos (by assumption)]⟩
  · exact ⟨j + 1, h, by omega, by rw [if_neg (by assumption)]⟩
theorem twoW_one (Z : List (MsW × Value)) (h : ∀ q ∈ Z, q.2.oneCell' = true) : ∀ v ∈ twoW (Z.map zcW), v.oneCell' = true := two_one _ fun q hq => by
  obtain ⟨z, hz, rfl⟩ := List.mem_map.1 hq
  exact ⟨rfl, h z hz⟩
theorem WyX.one {B : Nat} {T : Nat → Prop} {g : Nat} {s : WrW} {Z : List (MsW × Value)} {rv : Value} {Y : World} (h : WyX B T g s Z rv Y) : ∀ v ∈ twoW (Z.map zcW), v.oneCell' = true := twoW_one Z fun q hq => by
  obtain ⟨a, c, e, -⟩ := (h.u q hq).form
  rw [e]
  rfl
/-- A message goes. -/
theorem WyX.erase {B : Nat} {T : Nat → Prop} {g g' m cap : Nat} {s : WrW} {Z : List (MsW × Value)} {Y Y' : World} (h : WyX B T g s Z (.slice (some ⟨g', 0, none⟩) m cap) Y) {i : Nat} {q0 : MsW × Value} (hi : Z[i]? = some q0) (ho : (WrW.mk (s.row.eraseIdx i) s.gv).Ok) {R : List Value} (hr : Z.length * 2 + R.length = cap * 2) (hmx : cap ≤ maxLen) (hf : Fr (fun x => x = g ∨ x = g') Y Y')
    (hb : Bk Y' g #[.slice (some ⟨g', 0, none⟩) (Z.length - 1) cap, .int .i64 (s.gv : Int)] 64) (hc : Bk Y' g' ((twoW (Z.map zcW)).take (i * 2) ++ (twoW (Z.map zcW)).drop ((i + 1) * 2) ++ (zrW ++ R)).toArray 57)
    (U : Nat → Prop) (hUg : ¬ U g) (hUg' : ¬ U g') (hUo : ∀ (j : Nat) (q : MsW × Value) (x : Nat), j ≠ i → Z[j]? = some q → q.1.b ≠ [] → q.2.ownBlock = some x → ¬ U x) :
    WyX B (fun b => T b ∧ ¬ U b) g ⟨s.row.eraseIdx i, s.gv⟩ (Z.eraseIdx i) (.slice (some ⟨g', 0, none⟩) (Z.length - 1) cap) Y' := by
  have hlt := (List.getElem?_eq_some_iff.1 hi).1
  have hel : (Z.eraseIdx i).length = Z.length - 1 := List.length_eraseIdx_of_lt hlt
  have hown : ∀ x, (Value.slice (some ⟨g', 0, none⟩) m cap).ownBlock = some x → x = g' := fun x hx => by
    simp only [Value.ownBlock, Option.some.injEq] at hx
    exact hx.symm
  have hg1 : g' ≠ g := fun e => h.ne (by rw [e]; rfl)
  have hTg' := h.ta g' rfl
  refine ⟨ho, by rw [erase_map, h.z], hb, ?_, fun q hq => ?_, fun q hq hn x hx => ?_, fun a b y z x ha hb' hy hz h1 h2 => ?_, fun b hb' => ?_, ⟨h.tg, hUg⟩, fun b hb' => ⟨(h.t b hb'.1).1, Nat.lt_of_lt_of_le (h.t b hb'.1).2 hf.size⟩⟩
  · rw [hel, erase_map, twoW_erase]
    refine row_join hc ?_ ?_ ?_ hmx (h.t g' hTg').1
    · rw [List.length_append, List.length_take, List.length_drop, twoW_len, List.length_map]; omega
    · rw [List.length_append, List.length_take, List.length_drop, twoW_len, List.length_map, List.length_append]
      simp only [zrW, List.length_cons, List.length_nil]
      omega
    · omega
  · obtain ⟨j, hj⟩ := List.getElem?_of_mem hq
    obtain ⟨k, hk, hki, -⟩ := erase_get hj
    have hu := h.u q (List.mem_of_getElem? hk)
    by_cases hn : q.1.b = []
    · exact hu.none_ hn _ _
    · refine ((hu.exact hn).fr hf fun b _ hF hP => ?_).mono fun b _ hF => ⟨⟨hF.1.1, hUo k q b hki hk hn hF.2⟩, hF.1.2.1, fun e => hF.1.2.2 ?_⟩
      · rcases hP with hP | hP
        · exact hF.1.2.1 hP
        · exact hF.1.2.2 (by rw [hP]; rfl)
      · simp only [Value.ownBlock] at e ⊢; exact e
  · obtain ⟨j, hj⟩ := List.getElem?_of_mem hq
    obtain ⟨k, hk, hki, -⟩ := erase_get hj
    obtain ⟨x', e, hT, hl⟩ := (h.u q (List.mem_of_getElem? hk)).own hn
    rw [hx] at e
    cases e
    obtain ⟨cur, hc'⟩ := h.w q (List.mem_of_getElem? hk) hn x hx
    refine ⟨cur, hc'.fr hf fun hP => ?_⟩
    rcases hP with hP | hP
    · exact hT.2.1 hP
    · exact hT.2.2 (by rw [hP]; rfl)
  · obtain ⟨k1, e1, -, f1⟩ := erase_get ha
    obtain ⟨k2, e2, -, f2⟩ := erase_get hb'
    have := h.d k1 k2 y z x e1 e2 hy hz h1 h2
    rw [f1, f2] at this
    split at this <;> split at this <;> omega
  · have : b = g' := by simp only [Value.ownBlock, Option.some.injEq] at hb'; exact hb'.symm
    subst this
    exact ⟨hTg', hUg'⟩
end Go.Proofs.Ytboomeeipnfbmaa
