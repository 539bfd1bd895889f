/-
  The codec writes: numbers, texts, terms.
-/
import Derived.Test.YtelcoihmiglceaaCD1
namespace Go.Proofs.Ytelcoihmiglceaa
open Go.RowKit

/-- All that isn't bytes stays. -/
structure K8 (w w' : World) : Prop where
  size : w.heap.size ≤ w'.heap.size
  block : ∀ (k : Nat) (c : Array Value) (t : TypeId) (fr : Nat × Nat), w.heap[k]? = some (.cells c t fr) → t ≠ 5 → w'.heap[k]? = some (.cells c t fr)
theorem K8.refl (w : World) : K8 w w := ⟨Nat.le_refl _, fun _ _ _ _ h _ => h⟩
theorem K8.trans {a b c : World} (h : K8 a b) (k : K8 b c) : K8 a c := ⟨Nat.le_trans h.size k.size, fun i d t fr hi ht => k.block i d t fr (h.block i d t fr hi ht) ht⟩
theorem K8.of {w w' : World} (h : Below w.heap.size w w') : K8 w w' := ⟨h.size, fun k _ _ _ hk _ => (h.block k (Array.getElem?_eq_some_iff.1 hk).1).trans hk⟩
theorem K8.alloc (w : World) (o : Obj) : K8 w (w.alloc o) := K8.of (below1 _ _)
theorem OwnB.k8 {w w' : World} {base : Nat} {v : Value} {l : List Int} (h : OwnB w base v l) (hg : w.grownBy w' v.ownBlock) : K8 w w' := by
  refine ⟨hg.size, fun k c t fr hk ht => ?_⟩
  rw [hg.block k (Array.getElem?_eq_some_iff.1 hk).1 (fun e => ?_)]
  · exact hk
  · rcases h.2 with ⟨rfl, -⟩ | ⟨g, cap, cur, rfl, -, hgg, -⟩
    · cases e
    · cases e
      rw [hgg] at hk
      cases hk
      exact ht rfl
theorem Blk.k8 {w w' : World} {g : Nat} {c : Array Value} {t : TypeId} (h : Blk w g c t) (hk : K8 w w') (ht : t ≠ 5) : Blk w' g c t := hk.block _ _ _ _ h ht
/-- What a call that writes behind a list of bytes leaves. -/
structure Wr (w : World) (base : Nat) (l : List Int) (v' : Value) (w' : World) : Prop where
  own : OwnB w' base v' l
  low : Below base w w'
  k8 : K8 w w'
theorem app8 {ops : Array Oper} {rest : List Oper} {o : Oper} {a : Act} {Q : Exit → Act → World → Prop} {w : World} (hgd : o.guard = none) (s x : Operand)
    (ho : o.op = .call { callee := .builtin .append, args := #[s, x], argTypes := #[43, 43] }) (base : Nat) (v : Value) (l : List Int) (hs : a.eval s = v) (hown : OwnB w base v l)
    (b : Nat) (news : List Int) (hx : a.eval x = .slice (some ⟨b, 0, none⟩) news.length news.length) (hblk : w.heap[b]? = some (.cells (ibs news).toArray 5 (0, 0))) (hm : 0 < news.length) (hlen : l.length + news.length ≤ 1000000000000) (hbase : base ≤ w.heap.size)
    (h : ∀ v' w', Wr w base (l ++ news) v' w' → wpList Try.prog ops Q rest (a.put o.dst v') w') : wpList Try.prog ops Q (o :: rest) a w := by
  obtain ⟨i, z, hi, hz0, hz1, hz2, hz3⟩ := infoU8_parts
  refine wpList_append_lies _ hgd s x 43 ho base 5 i z 1 1 Try.underlying43 hi hz0 hz1 hz2 hz3 (by omega) v l.length (ibs l) hs hown ⟨b, 0, none⟩ news.length news.length (ibs news) hx (by simp [ibs]) ?_ (by simp [ibs, Value.oneCell']) hm (by unfold maxLen; omega) (by omega) hbase _ rfl ?_
  · intro j u hj
    have := World.news_of_block (cs := (ibs news).toArray) (t := 5) (fr := (0, 0)) hblk j u
    exact this (by simpa using hj)
  · intro g cap w' h1 h2 h3 h4
    refine h _ w' ⟨?_, grown_below h2 (fun k hk => (World.ownsRow.lt hown k hk).1) hbase, hown.k8 h2⟩
    unfold OwnB
    rw [List.length_append, show ibs (l ++ news) = ibs l ++ ibs news by simp [ibs]]
    exact h1
theorem app8s {ops : Array Oper} {rest : List Oper} {o : Oper} {a : Act} {Q : Exit → Act → World → Prop} {w : World} (hgd : o.guard = none) (sl x : Operand)
    (ho : o.op = .call { callee := .builtin .append, args := #[sl, x], argTypes := #[43, 9] }) (base : Nat) (v : Value) (l : List Int) (hs : a.eval sl = v) (hown : OwnB w base v l) (s : ByteArray) (hx : a.eval x = .string s)
    (hlen : l.length + s.size ≤ 1000000000000) (hbase : base ≤ w.heap.size)
    (h : ∀ v' w', Wr w base (l ++ bl s) v' w' → wpList Try.prog ops Q rest (a.put o.dst v') w') : wpList Try.prog ops Q (o :: rest) a w := by
  obtain ⟨i, hi, hz0, hz1, hz2⟩ := Try.zeroU8
  refine Lib.wpList_append_own_string _ hgd sl x 43 9 ho base 5 i Try.underlying43 Try.underlying9 hi hz0 hz1 hz2 v l.length (ibs l) hs hown s hx (by unfold maxLen; omega) (by omega) hbase ?_
  intro v' w' h1 h2 h3
  refine h v' w' ⟨?_, grown_below h2 (fun k hk => (World.ownsRow.lt hown k hk).1) hbase, hown.k8 h2⟩
  unfold OwnB
  rw [List.length_append, bl_len, show ibs (l ++ bl s) = ibs l ++ ibs (bl s) by simp [ibs], ibs_bl]
  exact h1
theorem be_take (k j : Nat) (n : Int) (h : j < k) : (be k n).take (j + 1) = (be k n).take j ++ [(n / (256 : Int) ^ (k - 1 - j)) % 256] := by
  induction k generalizing j with
  | zero => omega
  | succ k ih =>
    cases j with
    | zero => simp [be]
    | succ j =>
      simp only [be, List.take_succ_cons, List.cons_append, List.cons.injEq, true_and]
      rw [ih j (by omega)]
      congr 5
      omega
theorem pow8 (i : Nat) : (2 : Int) ^ (8 * i) = (256 : Int) ^ i := by
  rw [Int.pow_mul]; rfl
set_option maxRecDepth 20000 in
set_option maxHeartbeats 1000000 in
theorem putNumber_any (k : Nat) (hk : k ≤ 8) (n : Int) (v : Value) (l : List Int) (base : Nat) (w : World) (h : OwnB w base v l) (hl : l.length ≤ 900000000000) (hB : base ≤ w.heap.size) :
    Calls Try.prog 46 #[v, .int .i64 k, .int .u64 n] w fun e w' => ∃ v', e = .returned v' ∧ Wr w base (l ++ be k n) v' w' := by
  have HO : Hid (OwnB w base v l) := h
  clear h
  go_enter Try.func46, Try.ntmps46
  go_wp2
  go_loopg [0, 7] k (fun g u i wr => ∃ j : Nat, j + g = k ∧ i = .int .i64 ((g : Int) - 1) ∧ Wr w base (l ++ (be k n).take j) u wr)
  case atStart => exact ⟨0, by omega, by simp, by rw [List.take_zero, List.append_nil]; exact ⟨HO.out, Below.refl _ _, K8.refl _⟩⟩
  case round =>
    obtain ⟨j, hj, rfl, hw⟩ := hrel
    have HW : Hid (Wr w base (l ++ (be k n).take j) u0 wr) := hw
    have hsz := hw.low.size
    clear hw
    cases gk with
    | succ g =>
      have e1 : ((g + 1 : Nat) : Int) - 1 = (g : Int) := by omega
      rw [e1]
      have i0 : (0 : Int) ≤ (g : Int) := by omega
      have i8 : (g : Int) ≤ 7 := by omega
      have hlen : (l ++ (be k n).take j).length ≤ 900000080000 := by rw [List.length_append, List.length_take, be_len]; omega
      go_wp2_with (at_builtin; refine app8 rfl _ _ rfl base u0 (l ++ (be k n).take j) rfl (HW.out.own.later (below1 _ _)) wr.heap.size [n / 2 ^ (8 * g) % 256] rfl (heap_alloc_new wr _) (by simp) (by simp only [List.length_cons, List.length_nil]; omega) (by simp; omega) ?_; intro v' w1 ho1)
      go_roundg g
      case measure => omega
      case rel =>
        refine ⟨j + 1, by omega, by go_num, ?_⟩
        have e : l ++ (be k n).take (j + 1) = l ++ (be k n).take j ++ [n / 2 ^ (8 * g) % 256] := by rw [be_take k j n (by omega), pow8, ← List.append_assoc]; congr 5; omega
        rw [e]
        exact ⟨ho1.own, HW.out.low.trans (((below1 _ _).mono (by omega)).trans ho1.low), HW.out.k8.trans ((K8.alloc _ _).trans ho1.k8)⟩
    | zero =>
      obtain rfl : j = k := by omega
      go_wp2
      go_ret
      refine ⟨_, rfl, ?_⟩
      have := HW.out
      rwa [List.take_of_length_le (by rw [be_len]; exact Nat.le_refl _)] at this
theorem Wr.step {w w1 w2 : World} {base : Nat} {l m : List Int} {v v2 : Value} (h : Wr w base l v w1) (k : Wr w1 base m v2 w2) : Wr w base m v2 w2 := ⟨k.own, h.low.trans k.low, h.k8.trans k.k8⟩
theorem Wr.start {w : World} {base : Nat} {v : Value} {l : List Int} (h : OwnB w base v l) : Wr w base l v w := ⟨h, Below.refl _ _, K8.refl _⟩
theorem Wr.ahead {w w1 w2 : World} {base : Nat} {m : List Int} {v2 : Value} (h : Below w.heap.size w w1) (hB : base ≤ w.heap.size) (k : Wr w1 base m v2 w2) : Wr w base m v2 w2 := ⟨k.own, (h.mono hB).trans k.low, (K8.of h).trans k.k8⟩
theorem putInt_any (n : Int) (v : Value) (l : List Int) (base : Nat) (w : World) (h : OwnB w base v l) (hl : l.length ≤ 900000000000) (hB : base ≤ w.heap.size) :
    Calls Try.prog 50 #[v, .int .i64 n] w fun e w' => ∃ v', e = .returned v' ∧ Wr w base (l ++ be 8 (n % 18446744073709551616)) v' w' := by
  have HN : Hid (∀ x, Calls Try.prog 46 #[v, .int .i64 8, .int .u64 x] w fun e w' => ∃ v', e = .returned v' ∧ Wr w base (l ++ be 8 x) v' w') := fun x => putNumber_any 8 (Nat.le_refl _) x v l base w h hl hB
  clear h
  go_enter Try.func50, Try.ntmps50
  go_wp2_with (go_at_call 46; refine (HN.out _).mono ?_; rintro e w1 ⟨v1, rfl, hw⟩)
  go_ret
  exact ⟨_, rfl, hw⟩
theorem be_one (n : Int) (h0 : 0 ≤ n) (h1 : n ≤ 255) : be 1 n = [n] := by
  simp [be]; omega
theorem putText_any (s : ByteArray) (hs : s.size ≤ 255) (v : Value) (l : List Int) (base : Nat) (w : World) (h : OwnB w base v l) (hl : l.length ≤ 800000000000) (hB : base ≤ w.heap.size) :
    Calls Try.prog 73 #[v, .string s] w fun e w' => ∃ v', e = .returned v' ∧ Wr w base (l ++ sB s) v' w' := by
  have e1 : (s.size : Int) % 18446744073709551616 = (s.size : Int) := by omega
  have HN : Hid (Calls Try.prog 46 #[v, .int .i64 1, .int .u64 (s.size : Int)] w fun e w' => ∃ v', e = .returned v' ∧ Wr w base (l ++ [(s.size : Int)]) v' w') := by
    have := putNumber_any 1 (by omega) (s.size : Int) v l base w h (by omega) hB
    rw [be_one _ (by omega) (by omega)] at this
    exact this
  have HS : Hid (l ++ sB s = l ++ [(s.size : Int)] ++ bl s) := by show _ = _; simp [sB]
  clear h
  go_enter Try.func73, Try.ntmps73
  go_wp2_with (first
    | (go_at_call 46; refine HN.out.mono ?_; rintro e w1 ⟨v1, rfl, hw⟩; have HW : Hid (Wr w base (l ++ [(s.size : Int)]) v1 w1) := hw; have hsz := hw.low.size; clear hw)
    | (at_builtin; refine app8s rfl _ _ rfl base v1 (l ++ [(s.size : Int)]) rfl HW.out.own s rfl (by simp; omega) (by omega) ?_; intro v2 w2 hw2))
  go_ret
  exact ⟨_, rfl, by rw [HS.out]; exact HW.out.step hw2⟩
end Go.Proofs.Ytelcoihmiglceaa
