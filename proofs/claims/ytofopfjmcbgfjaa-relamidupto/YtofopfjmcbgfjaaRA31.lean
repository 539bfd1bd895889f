/-
  law 7: what RelOrder's walk asks (plain).
-/
import Derived.Test.YtofopfjmcbgfjaaRA30
namespace Go.Proofs.Ytofopfjmcbgfjaa
open Go.RowKit

theorem ad7_ok {s : St7} {r : List Int} (h : s.Ok) (he : r.length = s.wd) (hw : w64 r) (hl : s.wd ≤ 10000000000) (hc : s.rows.length < 10000000000) : (ad7 s r).Ok := by
  unfold ad7
  split
  · exact h
  · rename_i hn
    refine ⟨?_, fun x hx => ?_, fun x hx => ?_, h.a, Nat.le_trans h.b (by simp [Add7]), by simp [Add7]; omega, fun _ => hl, h.e⟩
    · show (s.rows ++ [r]).Nodup
      rw [List.nodup_append]
      refine ⟨h.nd, by simp, fun a ha b hb => ?_⟩
      simp at hb
      subst hb
      intro e
      subst e
      exact hn ha
    · rcases List.mem_append.1 hx with hx | hx
      · exact h.wid x hx
      · simp at hx; subst hx; exact he
    · rcases List.mem_append.1 hx with hx | hx
      · exact h.w x hx
      · simp at hx; subst hx; exact hw
theorem adL_ok : ∀ (l : List (List Int)) {s : St7}, s.Ok → (∀ r ∈ l, r.length = s.wd ∧ w64 r) → s.wd ≤ 10000000000 → s.rows.length + l.length < 10000000000 → (adL s l).Ok
  | [], s, h, _, _, _ => h
  | r :: l, s, h, hr, hw, hl => by
    have h1 := hr r (by simp)
    have h2 := ad7_wd s r
    have h3 := ad7_len s r
    rw [List.length_cons] at hl
    exact adL_ok l (ad7_ok h h1.1 h1.2 hw (by omega)) (fun x hx => by rw [h2.1]; exact hr x (by simp [hx])) (by rw [h2.1]; exact hw) (by omega)
theorem turn_ok7 {s : St7} (h : s.Ok) : (Turn7 s).Ok := ⟨h.nd, h.wid, h.w, h.b, Nat.le_refl _, h.c, h.d, h.e⟩
theorem tn7_ok {j : Nat} {s : St7} (h : s.Ok) : (tn7 j s).Ok := by unfold tn7; split; exact turn_ok7 h; exact h
theorem new_ok7 {k : Nat} (hk : k ≤ 5) : (New7 k).Ok := ⟨by simp [New7], by simp [New7], by simp [New7], by simp [New7], by simp [New7], by simp [New7], by simp [New7], by simp [New7]; omega⟩
def wf7 (Bs : List (List (List Int × Value) × Value)) : Prop := ∀ q ∈ Bs, ∀ p ∈ q.1, w64 p.1
theorem Bt7.wf {w : World} {v : Value} {Bs : List (List (List Int × Value) × Value)} (h : Bt7 w v Bs) : wf7 Bs := by
  obtain ⟨a, cap, -, -, h2⟩ := h
  intro q hq p hp
  obtain ⟨a', cap', -, -, h3⟩ := h2 q hq
  exact (h3 p hp).w
theorem bt7_ok {k : Nat} {Bs : List (List (List Int × Value) × Value)} {j : Nat} {q : List (List Int × Value) × Value} (hw : wf7 Bs) (hq : Bs[j]? = some q) : ∀ r ∈ bt7 k q, r.length = k ∧ w64 r := by
  intro r hr
  simp only [bt7, List.mem_map] at hr
  obtain ⟨p, hp, rfl⟩ := hr
  exact ⟨wd7_len _ _, wd7_w (hw q (List.mem_of_getElem? hq) p hp)⟩
theorem grw_ok {k : Nat} {Bs : List (List (List Int × Value) × Value)} (hk : k ≤ 5) (hw : wf7 Bs) (hB : tot7 Bs ≤ 1048576) : ∀ j, j ≤ Bs.length → (grw k Bs j).Ok
  | 0, _ => new_ok7 hk
  | j + 1, hj => by
    have h1 := grw_ok hk hw hB j (by omega)
    have h2 := grw_len k Bs j (by omega)
    obtain ⟨q, hq⟩ : ∃ q, Bs[j]? = some q := ⟨_, List.getElem?_eq_getElem (by omega)⟩
    have h3 := tot7_get hq
    have h4 : (bt7 k q).length = q.1.length := by simp [bt7]
    rw [grw, hq]
    refine adL_ok _ (tn7_ok h1) (fun r hr => ?_) (by rw [(tn7_rows _ _).2, grw_wd]; omega) (by rw [(tn7_rows _ _).1]; simp only [Option.getD_some]; omega)
    rw [(tn7_rows _ _).2, grw_wd]
    exact bt7_ok hw hq r hr
theorem Eqv.tn {r s : St7} (h : Eqv r s) (j : Nat) : Eqv (tn7 j r) (tn7 j s) := by unfold tn7; split; exact h.turn; exact h
theorem Eqv.next {k : Nat} {Bs : List (List (List Int × Value) × Value)} {j : Nat} {q : List (List Int × Value) × Value} {s : St7} {l : List (List Int)} (hk : k ≤ 5) (hw : wf7 Bs) (hB : tot7 Bs ≤ 1048576) (hq : Bs[j]? = some q) (h : Eqv (grw k Bs j) s) (hs : (tn7 j s).Ok) (hs' : (adL (tn7 j s) l).Ok) (hl : ∀ x, x ∈ bt7 k q ↔ x ∈ l) : Eqv (grw k Bs (j + 1)) (adL (tn7 j s) l) := by
  have hj := (List.getElem?_eq_some_iff.1 hq).1
  have h1 := grw_ok hk hw hB (j + 1) hj
  have h2 := grw_ok hk hw hB j (by omega)
  rw [grw, hq] at h1 ⊢
  exact (h.tn j).add (tn7_ok h2) hs hl h1 hs'
theorem Eqv.new (s : St7) : Eqv s s := ⟨rfl, List.Perm.refl _, List.Perm.refl _, List.Perm.refl _⟩
/-- Where the second row that is added stands. -/
theorem tmod_lt (x : Int) (n : Nat) (hn : 0 < n) : (x.tmod n).natAbs < n := by
  rw [Int.natAbs_tmod]
  exact Nat.mod_lt _ (by simpa using hn)
/-- A part's bit, by how many rounds are left. -/
def bit7 : Nat → Int
  | 0 => 8
  | 1 => 4
  | 2 => 2
  | _ => 1
theorem Eqv.bit {r s : St7} (h : Eqv r s) (hr : r.Ok) (hs : s.Ok) : ∀ i, 0 < i → srt7 (sel7 r (bit7 i) [] []) = srt7 (sel7 s (bit7 i) [] [])
  | 0, h0 => absurd h0 (by omega)
  | 1, _ => srt7_eq (h.sel hr hs).2.2
  | 2, _ => srt7_eq (h.sel hr hs).2.1
  | _ + 3, _ => srt7_eq (h.sel hr hs).1
end Go.Proofs.Ytofopfjmcbgfjaa
