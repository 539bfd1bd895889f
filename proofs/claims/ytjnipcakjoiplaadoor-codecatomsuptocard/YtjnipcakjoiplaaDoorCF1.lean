/-
  Bytes lent and looked at; the call whose answer the document fixes.
-/
import Derived.Test.YtjnipcakjoiplaaDoorCE5
import Derived.Test.YtjnipcakjoiplaaDoorCD5
namespace Go.Proofs.YtjnipcakjoiplaaDoor
open Go.RowKit

/-- append of bytes that were handed in. -/
theorem app8r {ops : Array Oper} {rest : List Oper} {o : Oper} {a : Act} {Q : Exit → Act → World → Prop} {w : World} (hgd : o.guard = none) (s x : Operand)
    (ho : o.op = .call { callee := .builtin .append, args := #[s, x], argTypes := #[27, 27] }) (base : Nat) (v : Value) (l : List Int) (hs : a.eval s = v) (hown : OwnB w base v l)
    (y : Value) (B : List Int) (hx : a.eval x = y) (hy : Br w y B) (hlen : l.length + B.length ≤ 100000000) (hbase : base ≤ w.heap.size)
    (h : ∀ v' w', Wr w base (l ++ B) v' w' → wpList Tryd.prog ops Q rest (a.put o.dst v') w') : wpList Tryd.prog ops Q (o :: rest) a w := by
  obtain ⟨i, z, hi, hz0, hz1, hz2, hz3⟩ := infoU8_parts
  obtain ⟨hb, ad, cap, rfl, h0, h1, hn, hc⟩ := hy
  cases ad with
  | none =>
    have hcap := hn rfl
    subst hcap
    have hB : B = [] := List.eq_nil_of_length_eq_zero (by omega)
    subst hB
    refine wpList_append_own_none hgd s x 27 ho base 5 i 1 Tryd.underlying27 hi v l.length (ibs l) hs hown hx ?_
    exact h v w ⟨by rw [List.append_nil]; exact hown, Below.refl _ _, K8.refl _⟩
  | some ad =>
    refine wpList_append_own _ hgd s x 27 ho base 5 i z 1 1 Tryd.underlying27 hi hz0 hz1 hz2 hz3 (by omega) v l.length (ibs l) hs hown ad B.length cap (ibs B) hx (by simp [ibs]) ?_ (by simp [ibs, Value.oneCell']) (by unfold maxLen; omega) (by omega) hbase ?_
    · intro j u hj
      rcases hc with rfl | ⟨b, o', e, -, hc⟩
      · simp [ibs] at hj
      · cases e
        simp only [ibs, List.getElem?_map, Option.map_eq_some_iff] at hj
        obtain ⟨x, hx, rfl⟩ := hj
        rw [Addr.add_mid]; exact hc j x hx
    · intro v' w' h1 h2 _
      refine h v' w' ⟨?_, grown_below h2 (fun k hk => (World.ownsRow.lt hown k hk).1) hbase, hown.k8 h2⟩
      unfold OwnB
      rw [List.length_append, show ibs (l ++ B) = ibs l ++ ibs B by simp [ibs]]
      exact h1
/-- Bytes lent, with three more behind them. -/
def LentB (X : World) (base : Nat) (v : Value) (B : List Int) : Prop := ∃ g cap, v = .slice (some ⟨g, 0, none⟩) B.length cap ∧ B.length + 3 ≤ cap ∧ OwnB X base (.slice (some ⟨g, 0, none⟩) (B.length + 3) cap) (B ++ [91, 92, 93])
theorem LentB.later {X X' : World} {base : Nat} {v : Value} {B : List Int} (h : LentB X base v B) (hb : Below X.heap.size X X') : LentB X' base v B := by
  obtain ⟨g, cap, rfl, h1, h2⟩ := h
  exact ⟨g, cap, rfl, h1, h2.later hb⟩
theorem LentB.cells {X : World} {base g cap : Nat} {B : List Int} (h : OwnB X base (.slice (some ⟨g, 0, none⟩) (B.length + 3) cap) (B ++ [91, 92, 93])) : g < X.heap.size ∧ ∀ (i : Nat) (x : Int), (B ++ [91, 92, 93])[i]? = some x → X.cell? ⟨g, i, none⟩ = some (.int .u8 x) := by
  refine ⟨(World.ownsRow.lt h g rfl).2, fun i x hx => ?_⟩
  have := World.ownsRow.cells h (g := g) rfl i (.int .u8 x) (by simp only [ibs, List.getElem?_map, hx, Option.map_some])
  rw [Addr.add_mid, Nat.zero_add] at this
  exact this
theorem LentB.bh {X : World} {base : Nat} {v : Value} {B : List Int} (h : LentB X base v B) (hy : byt B) (hl : B.length < 1000000000000000000) : Bh X v B := by
  obtain ⟨g, cap, rfl, h1, h2⟩ := h
  obtain ⟨h3, h4⟩ := LentB.cells h2
  refine ⟨hy, g, 0, cap, rfl, by omega, hl, h3, fun i x hx => ?_⟩
  rw [Nat.zero_add]
  exact h4 i x (by rw [List.getElem?_append_left (List.getElem?_eq_some_iff.1 hx).1]; exact hx)
theorem Bh.bn {w : World} {v : Value} {l : List Int} (h : Bh w v l) : Bn w v l := by
  obtain ⟨h1, b, o, cap, rfl, h2, h3, h4, h5⟩ := h
  exact ⟨_, cap, rfl, by omega, h3, Or.inr ⟨b, o, rfl, h4, h5⟩⟩
theorem ownB_some {w : World} {base : Nat} {v : Value} {l : List Int} (h : OwnB w base v l) (hl : 0 < l.length) : ∃ g cap, v = .slice (some ⟨g, 0, none⟩) l.length cap ∧ l.length ≤ cap := by
  rcases h.2 with ⟨-, hn⟩ | ⟨g, cap, cur, hv, -, -, hn, -⟩
  · omega
  · exact ⟨g, cap, hv, hn⟩
theorem ownB_form {w : World} {base : Nat} {v : Value} {l : List Int} (h : OwnB w base v l) : ∃ a n cap, v = .slice a n cap := by
  rcases h.2 with ⟨hv, -⟩ | ⟨g, cap, cur, hv, -⟩
  · exact ⟨_, _, _, hv⟩
  · exact ⟨_, _, _, hv⟩
set_option maxRecDepth 20000 in
set_option maxHeartbeats 2000000 in
theorem lendB_any (v : Value) (B : List Int) (w : World) (h : Br w v B) (hl : B.length ≤ 2000000) :
    Calls Tryd.prog 8 #[v] w fun e w' => ∃ u, e = .returned u ∧ LentB w' w.heap.size u B ∧ Below w.heap.size w w' := by
  have HB : Hid (Br w v B) := h
  obtain ⟨a, cap, rfl⟩ : ∃ a cap, v = .slice a B.length cap := by obtain ⟨-, a, cap, e, -⟩ := h; exact ⟨a, cap, e⟩
  have z0 : (0 : Int) ≤ (B.length : Int) := by omega
  clear h
  go_enter Tryd.func8, Tryd.ntmps8
  go_wp2_with (first
    | (at_builtin; refine app8r rfl _ _ rfl w.heap.size (.slice none 0 0) [] (by rfl) (ownB_nil _ _) _ B (by rfl) HB.out (by simp; omega) (Nat.le_refl _) ?_; intro v1 w1 hw1; rw [List.nil_append] at hw1; have HW1 : Hid (Wr w w.heap.size B v1 w1) := hw1; have hz1 := hw1.low.size; obtain ⟨a1, n1, c1, rfl⟩ := ownB_form hw1.own; clear hw1)
    | (at_builtin; refine app8 rfl _ _ rfl w.heap.size _ B rfl (HW1.out.own.later (below1 _ _)) w1.heap.size [91, 92, 93] rfl (heap_alloc_new w1 _) (by simp) (by simp only [List.length_cons, List.length_nil]; omega) (by simp; omega) ?_; intro v2 w2 hw2; have HW2 : Hid (Wr w w.heap.size (B ++ [91, 92, 93]) v2 w2) := HW1.out.step (Wr.ahead (below1 _ _) hz1 hw2); obtain ⟨g2, c2, rfl, hc2⟩ := ownB_some hw2.own (by simp); rw [show (B ++ [(91 : Int), 92, 93]).length = B.length + 3 by simp] at HW2 hc2 ⊢; have hc3 : (B.length : Int) ≤ (c2 : Int) := (by omega); clear hw2))
  go_ret
  exact ⟨_, rfl, ⟨g2, c2, rfl, hc2, HW2.out.own⟩, HW2.out.low⟩
set_option maxRecDepth 20000 in
set_option maxHeartbeats 2000000 in
theorem keptB_any (v y : Value) (B : List Int) (base : Nat) (w : World) (h : LentB w base v B) (hy : Br w y B) (hl : B.length ≤ 2000000) :
    Calls Tryd.prog 12 #[v, y] w fun e w' => e = .returned (.bool true) ∧ Below w.heap.size w w' := by
  have hc1 := conv_bn (w := w) (LentB.bh h hy.1 (by omega)).bn hy.1
  have hc2 := conv_bn (w := w) hy.bn hy.1
  obtain ⟨g, cap, rfl, hcap, ho⟩ := h
  obtain ⟨a, cap', rfl⟩ : ∃ a cap, y = .slice a B.length cap := by obtain ⟨-, a, cap, e, -⟩ := hy; exact ⟨a, cap, e⟩
  obtain ⟨hg, hc⟩ := LentB.cells ho
  have d0 := hc B.length 91 (by simp)
  have d1 := hc (B.length + 1) 92 (by rw [List.getElem?_append_right (by omega)]; simp)
  have d2 := hc (B.length + 2) 93 (by rw [List.getElem?_append_right (by omega)]; simp)
  have i0 : (0 : Int) ≤ (B.length : Int) := by omega
  have i1 : (B.length : Int) + 3 ≤ (cap : Int) := by omega
  have i2 : (B.length : Int) ≤ 2000000 := by omega
  clear ho hc hy
  go_enter Tryd.func12, Tryd.ntmps12
  go_wp2
  go_ret
  exact ⟨rfl, Below.refl _ _⟩
def okN : ByteArray := ⟨#[111, 107]⟩
theorem ok_err : At.err ⟨zt, okN, []⟩ = 0 := by decide +kernel
theorem ok_bytes : ofL (aB ⟨zt, okN, []⟩) = ⟨#[0, 2, 111, 107, 0]⟩ := by decide +kernel
theorem ok_byt : byt (aB ⟨zt, okN, []⟩) := by
  have : aB ⟨zt, okN, []⟩ = [0, 2, 111, 107, 0] := by decide +kernel
  rw [this]
  intro x hx
  simp at hx
  omega
set_option maxRecDepth 20000 in
set_option maxHeartbeats 2000000 in
theorem first6_any (w : World) : Calls Tryd.prog 13 #[] w fun e w' => e = .returned (.bool true) ∧ Below w.heap.size w w' := by
  have hA := atomW_ok ⟨zt, okN, []⟩ (.slice none 0 0) w (ts_nil w) ok_err
  have HA : Hid (Calls Tryd.prog 5 #[.agg #[.int .i64 0, .int .i64 0, .string ⟨#[]⟩, .string ⟨#[111, 107]⟩, .slice none 0 0]] w fun e w' => ∃ v, e = .returned (.tuple #[v, .int .i64 0]) ∧ (convert 27 9 v).run Tryd.prog w' = .ok (.string ⟨#[0, 2, 111, 107, 0]⟩) w' ∧ Below w.heap.size w w') := hA.mono fun e w' ⟨v, h1, h2, h3⟩ => ⟨v, h1, by have := conv_bn (h2.bn (by decide +kernel)) ok_byt; rwa [ok_bytes] at this, h3⟩
  clear hA
  go_enter Tryd.func13, Tryd.ntmps13
  go_wp2_with (go_at_call 5; refine HA.out.mono ?_; rintro e w1 ⟨v1, rfl, hcv, hb⟩)
  go_ret
  exact ⟨rfl, hb⟩
end Go.Proofs.YtjnipcakjoiplaaDoor
