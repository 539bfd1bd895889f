import Derived.Test.YtelcoihmiglceaaCD11
import Derived.Test.YtelcoihmiglceaaCD3
import Derived.Test.YtelcoihmiglceaaCJ7
import Derived.Test.YtelcoihmiglceaaRC1
/-
  Bytes lent, for a seat without the reader of ref06. (Written by CJ6.py.)
-/
namespace Go.Proofs.Ytelcoihmiglceaa
open Go.RowKit

/-- Bytes that are handed in. -/
def Br (w : World) (v : Value) (B : List Int) : Prop := byt B ∧ ∃ a cap, v = .slice a B.length cap ∧ B.length ≤ cap ∧ B.length < 1000000000000000000 ∧ (a = none → cap = 0) ∧ (B = [] ∨ ∃ b o, a = some ⟨b, o, none⟩ ∧ b < w.heap.size ∧ ∀ (i : Nat) (x : Int), B[i]? = some x → w.cell? ⟨b, o + i, none⟩ = some (.int .u8 x))
theorem Br.later {w w' : World} {v : Value} {B : List Int} (h : Br w v B) (hb : Below w.heap.size w w') : Br w' v B := by
  obtain ⟨hy, a, cap, rfl, h0, h1, hn, h⟩ := h
  refine ⟨hy, a, cap, rfl, h0, h1, hn, h.imp id ?_⟩
  rintro ⟨b, o, rfl, h2, h3⟩
  exact ⟨b, o, rfl, Nat.lt_of_lt_of_le h2 hb.size, fun i x hx => cell_step hb h2 (h3 i x hx)⟩
theorem Br.bn {w : World} {v : Value} {B : List Int} (h : Br w v B) : Bn w v B := by
  obtain ⟨hy, a, cap, rfl, h0, h1, -, h⟩ := h
  exact ⟨a, cap, rfl, h0, by omega, h⟩
/-- append of bytes that were handed in. -/
theorem app8r {ops : Array Oper} {rest : List Oper} {o : Oper} {a : Act} {Q : Exit → Act → World → Prop} {w : World} (hgd : o.guard = none) (s x : Operand)
    (ho : o.op = .call { callee := .builtin .append, args := #[s, x], argTypes := #[43, 43] }) (base : Nat) (v : Value) (l : List Int) (hs : a.eval s = v) (hown : OwnB w base v l)
    (y : Value) (B : List Int) (hx : a.eval x = y) (hy : Br w y B) (hlen : l.length + B.length ≤ 100000000) (hbase : base ≤ w.heap.size)
    (h : ∀ v' w', Wr w base (l ++ B) v' w' → wpList Try.prog ops Q rest (a.put o.dst v') w') : wpList Try.prog ops Q (o :: rest) a w := by
  obtain ⟨i, z, hi, hz0, hz1, hz2, hz3⟩ := infoU8_parts
  obtain ⟨hb, ad, cap, rfl, h0, h1, hn, hc⟩ := hy
  cases ad with
  | none =>
    have hcap := hn rfl
    subst hcap
    have hB : B = [] := List.eq_nil_of_length_eq_zero (by omega)
    subst hB
    refine wpList_append_own_none hgd s x 43 ho base 5 i 1 Try.underlying43 hi v l.length (ibs l) hs hown hx ?_
    exact h v w ⟨by rw [List.append_nil]; exact hown, Below.refl _ _, K8.refl _⟩
  | some ad =>
    refine wpList_append_own _ hgd s x 43 ho base 5 i z 1 1 Try.underlying43 hi hz0 hz1 hz2 hz3 (by omega) v l.length (ibs l) hs hown ad B.length cap (ibs B) hx (by simp [ibs]) ?_ (by simp [ibs, Value.oneCell']) (by unfold maxLen; omega) (by omega) hbase ?_
    · intro j u hj
      rcases hc with rfl | ⟨b, o', e, -, hc⟩
      · simp [ibs] at hj
      · cases e
        simp only [ibs, List.getElem?_map, Option.map_eq_some_iff] at hj
        obtain ⟨x, hx, rfl⟩ := hj
        rw [Addr.add_mid]; exact hc j x hx
    · intro v' w' h1 h2 _
      refine h v' w' ⟨?_, grown_below h2 (fun k hk => (World.ownsRow.lt hown k hk).1) hbase, hown.k8 h2⟩
      unfold OwnB
      rw [List.length_append, show ibs (l ++ B) = ibs l ++ ibs B by simp [ibs]]
      exact h1
/-- Bytes lent, with three more behind them. -/
def LentB (X : World) (base : Nat) (v : Value) (B : List Int) : Prop := ∃ g cap, v = .slice (some ⟨g, 0, none⟩) B.length cap ∧ B.length + 3 ≤ cap ∧ OwnB X base (.slice (some ⟨g, 0, none⟩) (B.length + 3) cap) (B ++ [91, 92, 93])
theorem LentB.later {X X' : World} {base : Nat} {v : Value} {B : List Int} (h : LentB X base v B) (hb : Below X.heap.size X X') : LentB X' base v B := by
  obtain ⟨g, cap, rfl, h1, h2⟩ := h
  exact ⟨g, cap, rfl, h1, h2.later hb⟩
theorem LentB.cells {X : World} {base g cap : Nat} {B : List Int} (h : OwnB X base (.slice (some ⟨g, 0, none⟩) (B.length + 3) cap) (B ++ [91, 92, 93])) : g < X.heap.size ∧ ∀ (i : Nat) (x : Int), (B ++ [91, 92, 93])[i]? = some x → X.cell? ⟨g, i, none⟩ = some (.int .u8 x) := by
  refine ⟨(World.ownsRow.lt h g rfl).2, fun i x hx => ?_⟩
  have := World.ownsRow.cells h (g := g) rfl i (.int .u8 x) (by simp only [ibs, List.getElem?_map, hx, Option.map_some])
  rw [Addr.add_mid, Nat.zero_add] at this
  exact this
theorem LentB.bh {X : World} {base : Nat} {v : Value} {B : List Int} (h : LentB X base v B) (hy : byt B) (hl : B.length < 1000000000000000000) : Bh X v B := by
  obtain ⟨g, cap, rfl, h1, h2⟩ := h
  obtain ⟨h3, h4⟩ := LentB.cells h2
  refine ⟨hy, g, 0, cap, rfl, by omega, hl, h3, fun i x hx => ?_⟩
  rw [Nat.zero_add]
  exact h4 i x (by rw [List.getElem?_append_left (List.getElem?_eq_some_iff.1 hx).1]; exact hx)
theorem Bh.bn {w : World} {v : Value} {l : List Int} (h : Bh w v l) : Bn w v l := by
  obtain ⟨h1, b, o, cap, rfl, h2, h3, h4, h5⟩ := h
  exact ⟨_, cap, rfl, by omega, h3, Or.inr ⟨b, o, rfl, h4, h5⟩⟩
theorem ownB_some {w : World} {base : Nat} {v : Value} {l : List Int} (h : OwnB w base v l) (hl : 0 < l.length) : ∃ g cap, v = .slice (some ⟨g, 0, none⟩) l.length cap ∧ l.length ≤ cap := by
  rcases h.2 with ⟨-, hn⟩ | ⟨g, cap, cur, hv, -, -, hn, -⟩
  · omega
  · exact ⟨g, cap, hv, hn⟩
theorem ownB_form {w : World} {base : Nat} {v : Value} {l : List Int} (h : OwnB w base v l) : ∃ a n cap, v = .slice a n cap := by
  rcases h.2 with ⟨hv, -⟩ | ⟨g, cap, cur, hv, -⟩
  · exact ⟨_, _, _, hv⟩
  · exact ⟨_, _, _, hv⟩
set_option maxRecDepth 20000 in
set_option maxHeartbeats 2000000 in
theorem lendB_any (v : Value) (B : List Int) (w : World) (h : Br w v B) (hl : B.length ≤ 2000000) :
    Calls Try.prog 11 #[v] w fun e w' => ∃ u, e = .returned u ∧ LentB w' w.heap.size u B ∧ Below w.heap.size w w' := by
  have HB : Hid (Br w v B) := h
  obtain ⟨a, cap, rfl⟩ : ∃ a cap, v = .slice a B.length cap := by obtain ⟨-, a, cap, e, -⟩ := h; exact ⟨a, cap, e⟩
  have z0 : (0 : Int) ≤ (B.length : Int) := by omega
  clear h
  go_enter Try.func11, Try.ntmps11
  go_wp2_with (first
    | (at_builtin; refine app8r rfl _ _ rfl w.heap.size (.slice none 0 0) [] (by rfl) (ownB_nil _ _) _ B (by rfl) HB.out (by simp; omega) (Nat.le_refl _) ?_; intro v1 w1 hw1; rw [List.nil_append] at hw1; have HW1 : Hid (Wr w w.heap.size B v1 w1) := hw1; have hz1 := hw1.low.size; obtain ⟨a1, n1, c1, rfl⟩ := ownB_form hw1.own; clear hw1)
    | (at_builtin; refine app8 rfl _ _ rfl w.heap.size _ B rfl (HW1.out.own.later (below1 _ _)) w1.heap.size [91, 92, 93] rfl (heap_alloc_new w1 _) (by simp) (by simp only [List.length_cons, List.length_nil]; omega) (by simp; omega) ?_; intro v2 w2 hw2; have HW2 : Hid (Wr w w.heap.size (B ++ [91, 92, 93]) v2 w2) := HW1.out.step (Wr.ahead (below1 _ _) hz1 hw2); obtain ⟨g2, c2, rfl, hc2⟩ := ownB_some hw2.own (by simp); rw [show (B ++ [(91 : Int), 92, 93]).length = B.length + 3 by simp] at HW2 hc2 ⊢; have hc3 : (B.length : Int) ≤ (c2 : Int) := (by omega); clear hw2))
  go_ret
  exact ⟨_, rfl, ⟨g2, c2, rfl, hc2, HW2.out.own⟩, HW2.out.low⟩
end Go.Proofs.Ytelcoihmiglceaa
/-
  The codec, plain: a clause that Check lets pass is valid, and Made leaves it; bytes that a call answered can be lent.
-/
namespace Go.Proofs.Ytelcoihmiglceaa
open Go.RowKit

theorem var_eq9 {s t : Tm} (hs : s.var = true) (ht : t.var = true) (h : s.n = t.n) : s = t := by
  obtain ⟨a, b, c⟩ := s
  obtain ⟨d, e, f⟩ := t
  simp only [Tm.var, decide_eq_true_eq] at hs ht h
  obtain ⟨rfl, -, rfl⟩ := hs
  obtain ⟨rfl, -, rfl⟩ := ht
  rw [h]
theorem chk_val {c : Cm} (h : c.chk = 0) : Val0 c.key ∧ mis 0 (vrs (Ck.terms c.key)) = false := by
  obtain ⟨h1, h2, h3, h4⟩ := chk_errs h
  have a1 : long c = false := by
    cases e : long c
    · rfl
    · rw [chk_1 e] at h; cases h
  have a2 : aErr c.atoms = 0 := by
    by_cases e : aErr c.atoms = 0
    · exact e
    · rw [chk_2 a1 e] at h; exact absurd h e
  have a3 : badT c = false := by
    cases e : badT c
    · rfl
    · rw [chk_3 a1 a2 e] at h; cases h
  have a4 : c.head.1.by_.var = false := by
    cases e : c.head.1.by_.var
    · rfl
    · rw [chk_4 a1 a2 a3 e] at h; cases h
  have a5 : unb c = false := by
    cases e : unb c
    · rfl
    · rw [chk_5 a1 a2 a3 a4 e] at h; cases h
  have a6 : mis 0 c.vars = false := by
    cases e : mis 0 c.vars
    · rfl
    · rw [chk_6 a1 a2 a3 a4 a5 e] at h; cases h
  refine ⟨⟨h1, h2, h3, h4, a4, fun t ht hv => ?_⟩, ?_⟩
  · rw [unb_key, List.any_eq_false] at a5
    have := a5 t.n (List.mem_map.2 ⟨t, List.mem_filter.2 ⟨ht, hv⟩, rfl⟩)
    simp only [Bool.not_eq_true, Bool.not_eq_false', decide_eq_true_eq] at this
    obtain ⟨s, hs, e⟩ := List.mem_map.1 this
    obtain ⟨hs, hsv⟩ := List.mem_filter.1 hs
    rw [← var_eq9 hsv hv e]
    exact hs
  · have : c.vars = vrs c.terms := rfl
    rw [← key_terms, ← this]; exact a6
theorem made_same {c : Cm} (h : c.chk = 0) : madeK c.key = c.key := made_id (chk_val h).1 (chk_val h).2
theorem Bn.br {w : World} {v : Value} {l : List Int} (h : Bn w v l) (hb : byt l) (hl : l ≠ []) : Br w v l := by
  obtain ⟨a, cap, rfl, h0, h1, h⟩ := h
  rcases h with h | ⟨b, o, rfl, h2, h3⟩
  · exact absurd h hl
  · exact ⟨hb, _, cap, rfl, h0, h1, (fun h => by cases h), Or.inr ⟨b, o, rfl, h2, h3⟩⟩
end Go.Proofs.Ytelcoihmiglceaa
