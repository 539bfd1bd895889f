import Derived.Test.YtnenadklmjcakaaGreatDoorCE1
import Derived.Test.YtnenadklmjcakaaGreatDoorMD5
namespace Go.Proofs.YtnenadklmjcakaaGreatDoor
open Go.RowKit

structure K8 (w w' : World) : Prop where
 size : w.heap.size <= w'.heap.size
 block : ∀ (k : Nat) (c : Array Value) (t : TypeId) (fr : Nat × Nat), w.heap[k]? = some (.cells c t fr) -> t ≠ 5 -> w'.heap[k]? = some (.cells c t fr)
theorem K8.refl (w : World) : K8 w w := ⟨Nat.le_refl _, fun _ _ _ _ h _ => h⟩
theorem K8.trans {a b c : World} (h : K8 a b) (k : K8 b c) : K8 a c := ⟨Nat.le_trans h.size k.size, fun i d t fr hi ht => k.block i d t fr (h.block i d t fr hi ht) ht⟩
theorem K8.of {w w' : World} (h : Below w.heap.size w w') : K8 w w' := ⟨h.size, fun k _ _ _ hk _ => (h.block k (Array.getElem?_eq_some_iff.1 hk).1).trans hk⟩
theorem K8.alloc (w : World) (o : Obj) : K8 w (w.alloc o) := K8.of (below1 _ _)
theorem OwnB.k8 {w w' : World} {base : Nat} {v : Value} {l : List Int} (h : OwnB w base v l) (hg : w.grownBy w' v.ownBlock) : K8 w w' := by
 refine ⟨hg.size, fun k c t fr hk ht => ?_⟩
 rw [hg.block k (Array.getElem?_eq_some_iff.1 hk).1 (fun e => ?_)]
 ·exact hk
 ·rcases h.2 with ⟨rfl, -⟩ | ⟨g, cap, cur, rfl, -, hgg, -⟩
  ·cases e
  ·cases e
   rw [hgg] at hk
   cases hk
   exact ht rfl
theorem Blk.k8 {w w' : World} {g : Nat} {c : Array Value} {t : TypeId} (h : Blk w g c t) (hk : K8 w w') (ht : t ≠ 5) : Blk w' g c t := hk.block _ _ _ _ h ht
structure Wr (w : World) (base : Nat) (l : List Int) (v' : Value) (w' : World) : Prop where
 own : OwnB w' base v' l
 low : Below base w w'
 k8 : K8 w w'
theorem app8 {ops : Array Oper} {rest : List Oper} {o : Oper} {a : Act} {Q : Exit -> Act -> World -> Prop} {w : World} (hgd : o.guard = none) (s x : Operand)
  (ho : o.op = .call { callee := .builtin .append, args := #[s, x], argTypes := #[23, 23] }) (base : Nat) (v : Value) (l : List Int) (hs : a.eval s = v) (hown : OwnB w base v l)
  (b : Nat) (news : List Int) (hx : a.eval x = .slice (some ⟨b, 0, none⟩) news.length news.length) (hblk : w.heap[b]? = some (.cells (ibs news).toArray 5 (0, 0))) (hm : 0 < news.length) (hlen : l.length + news.length <= 1000000000000) (hbase : base <= w.heap.size)
  (h : ∀ v' w', Wr w base (l ++ news) v' w' -> wpList Tryz.prog ops Q rest (a.put o.dst v') w') : wpList Tryz.prog ops Q (o :: rest) a w := by
 obtain ⟨i, z, hi, hz0, hz1, hz2, hz3⟩ := infoU8_parts
 refine wpList_append_lies _ hgd s x 23 ho base 5 i z 1 1 Tryz.underlying23 hi hz0 hz1 hz2 hz3 (by omega) v l.length (ibs l) hs hown ⟨b, 0, none⟩ news.length news.length (ibs news) hx (by simp [ibs]) ?_ (by simp [ibs, Value.oneCell']) hm (by unfold maxLen; omega) (by omega) hbase _ rfl ?_
 ·intro j u hj
  have := World.news_of_block (cs := (ibs news).toArray) (t := 5) (fr := (0, 0)) hblk j u
  exact this (by simpa using hj)
 ·intro g cap w' h1 h2 h3 h4
  refine h _ w' ⟨?_, grown_below h2 (fun k hk => (World.ownsRow.lt hown k hk).1) hbase, hown.k8 h2⟩
  unfold OwnB
  rw [List.length_append, show ibs (l ++ news) = ibs l ++ ibs news by simp [ibs]]
  exact h1
theorem app8s {ops : Array Oper} {rest : List Oper} {o : Oper} {a : Act} {Q : Exit -> Act -> World -> Prop} {w : World} (hgd : o.guard = none) (sl x : Operand)
  (ho : o.op = .call { callee := .builtin .append, args := #[sl, x], argTypes := #[23, 9] }) (base : Nat) (v : Value) (l : List Int) (hs : a.eval sl = v) (hown : OwnB w base v l) (s : ByteArray) (hx : a.eval x = .string s)
  (hlen : l.length + s.size <= 1000000000000) (hbase : base <= w.heap.size)
  (h : ∀ v' w', Wr w base (l ++ bl s) v' w' -> wpList Tryz.prog ops Q rest (a.put o.dst v') w') : wpList Tryz.prog ops Q (o :: rest) a w := by
 obtain ⟨i, hi, hz0, hz1, hz2⟩ := Tryz.zeroU8
 refine Lib.wpList_append_own_string _ hgd sl x 23 9 ho base 5 i Tryz.underlying23 Tryz.underlying9 hi hz0 hz1 hz2 v l.length (ibs l) hs hown s hx (by unfold maxLen; omega) (by omega) hbase ?_
 intro v' w' h1 h2 h3
 refine h v' w' ⟨?_, grown_below h2 (fun k hk => (World.ownsRow.lt hown k hk).1) hbase, hown.k8 h2⟩
 unfold OwnB
 rw [List.length_append, bl_len, show ibs (l ++ bl s) = ibs l ++ ibs (bl s) by simp [ibs], ibs_bl]
 exact h1
theorem app8w {ops : Array Oper} {rest : List Oper} {o : Oper} {a : Act} {Q : Exit -> Act -> World -> Prop} {w : World} (hgd : o.guard = none) (s x : Operand)
  (ho : o.op = .call { callee := .builtin .append, args := #[s, x], argTypes := #[23, 23] }) (base : Nat) (v : Value) (l : List Int) (hs : a.eval s = v) (hown : OwnB w base v l)
  (y : Value) (base' : Nat) (news : List Int) (hx : a.eval x = y) (hy : OwnB w base' y news) (hm : 0 < news.length) (hlen : l.length + news.length <= 1000000000000) (hbase : base <= w.heap.size)
  (h : ∀ v' w', Wr w base (l ++ news) v' w' -> wpList Tryz.prog ops Q rest (a.put o.dst v') w') : wpList Tryz.prog ops Q (o :: rest) a w := by
 obtain ⟨i, z, hi, hz0, hz1, hz2, hz3⟩ := infoU8_parts
 obtain ⟨g, cap, rfl, -, -⟩ := World.ownsRow.form hy hm
 refine wpList_append_lies _ hgd s x 23 ho base 5 i z 1 1 Tryz.underlying23 hi hz0 hz1 hz2 hz3 (by omega) v l.length (ibs l) hs hown ⟨g, 0, none⟩ news.length cap (ibs news) hx (by simp [ibs]) ?_ (by simp [ibs, Value.oneCell']) hm (by unfold maxLen; omega) (by omega) hbase _ rfl ?_
 ·intro j u hj
  exact World.ownsRow.cells hy (g := g) rfl j u hj
 ·intro g cap w' h1 h2 h3 h4
  refine h _ w' ⟨?_, grown_below h2 (fun k hk => (World.ownsRow.lt hown k hk).1) hbase, hown.k8 h2⟩
  unfold OwnB
  rw [List.length_append, show ibs (l ++ news) = ibs l ++ ibs news by simp [ibs]]
  exact h1
theorem be_take (k j : Nat) (n : Int) (h : j < k) : (be k n).take (j + 1) = (be k n).take j ++ [(n / (256 : Int) ^ (k - 1 - j)) % 256] := by
 induction k generalizing j with
 | zero => omega
 | succ k ih =>
  cases j with
  | zero => simp [be]
  | succ j =>
   simp only [be, List.take_succ_cons, List.cons_append, List.cons.injEq, true_and]
   rw [ih j (by omega)]
   congr 5
   omega
theorem pow8 (i : Nat) : (2 : Int) ^ (8 * i) = (256 : Int) ^ i := by
 rw [Int.pow_mul]; rfl
set_option maxRecDepth 20000 in
set_option maxHeartbeats 1000000 in
theorem putNumber_any (k : Nat) (hk : k <= 8) (n : Int) (v : Value) (l : List Int) (base : Nat) (w : World) (h : OwnB w base v l) (hl : l.length <= 900000000000) (hB : base <= w.heap.size) :
  Calls Tryz.prog 62 #[v, .int .i64 k, .int .u64 n] w fun e w' => ∃ v', e = .returned v' /\ Wr w base (l ++ be k n) v' w' := by
 have HO : Hid (OwnB w base v l) := h
 clear h
 go_enter Tryz.func62, Tryz.ntmps62
 go_wp2
 go_loopg [0, 7] k (fun g u i wr => ∃ j : Nat, j + g = k /\ i = .int .i64 ((g : Int) - 1) /\ Wr w base (l ++ (be k n).take j) u wr)
 case atStart => exact ⟨0, by omega, by simp, by rw [List.take_zero, List.append_nil]; exact ⟨HO.out, Below.refl _ _, K8.refl _⟩⟩
 case round =>
  obtain ⟨j, hj, rfl, hw⟩ := hrel
  have HW : Hid (Wr w base (l ++ (be k n).take j) u0 wr) := hw
  have hsz := hw.low.size
  clear hw
  cases gk with
  | succ g =>
   have e1 : ((g + 1 : Nat) : Int) - 1 = (g : Int) := by omega
   rw [e1]
   have i0 : (0 : Int) <= (g : Int) := by omega
   have i8 : (g : Int) <= 7 := by omega
   have hlen : (l ++ (be k n).take j).length <= 900000080000 := by rw [List.length_append, List.length_take, be_len]; omega
   go_wp2_with (at_builtin; refine app8 rfl _ _ rfl base u0 (l ++ (be k n).take j) rfl (HW.out.own.later (below1 _ _)) wr.heap.size [n / 2 ^ (8 * g) % 256] rfl (heap_alloc_new wr _) (by simp) (by simp only [List.length_cons, List.length_nil]; omega) (by simp; omega) ?_; intro v' w1 ho1)
   go_roundg g
   case measure => omega
   case rel =>
    refine ⟨j + 1, by omega, by go_num, ?_⟩
    have e : l ++ (be k n).take (j + 1) = l ++ (be k n).take j ++ [n / 2 ^ (8 * g) % 256] := by rw [be_take k j n (by omega), pow8, <- List.append_assoc]; congr 5; omega
    rw [e]
    exact ⟨ho1.own, HW.out.low.trans (((below1 _ _).mono (by omega)).trans ho1.low), HW.out.k8.trans ((K8.alloc _ _).trans ho1.k8)⟩
  | zero =>
   obtain rfl : j = k := by omega
   go_wp2
   go_ret
   refine ⟨_, rfl, ?_⟩
   have := HW.out
   rwa [List.take_of_length_le (by rw [be_len]; exact Nat.le_refl _)] at this
theorem Wr.step {w w1 w2 : World} {base : Nat} {l m : List Int} {v v2 : Value} (h : Wr w base l v w1) (k : Wr w1 base m v2 w2) : Wr w base m v2 w2 := ⟨k.own, h.low.trans k.low, h.k8.trans k.k8⟩
theorem Wr.ahead {w w1 w2 : World} {base : Nat} {m : List Int} {v2 : Value} (h : Below w.heap.size w w1) (hB : base <= w.heap.size) (k : Wr w1 base m v2 w2) : Wr w base m v2 w2 := ⟨k.own, (h.mono hB).trans k.low, (K8.of h).trans k.k8⟩
theorem putInt_any (n : Int) (v : Value) (l : List Int) (base : Nat) (w : World) (h : OwnB w base v l) (hl : l.length <= 900000000000) (hB : base <= w.heap.size) :
  Calls Tryz.prog 95 #[v, .int .i64 n] w fun e w' => ∃ v', e = .returned v' /\ Wr w base (l ++ be 8 (n % 18446744073709551616)) v' w' := by
 have HN : Hid (∀ x, Calls Tryz.prog 62 #[v, .int .i64 8, .int .u64 x] w fun e w' => ∃ v', e = .returned v' /\ Wr w base (l ++ be 8 x) v' w') := fun x => putNumber_any 8 (Nat.le_refl _) x v l base w h hl hB
 clear h
 go_enter Tryz.func95, Tryz.ntmps95
 go_wp2_with (go_at_call 62; refine (HN.out _).mono ?_; rintro e w1 ⟨v1, rfl, hw⟩)
 go_ret
 exact ⟨_, rfl, hw⟩
theorem be_one (n : Int) (h0 : 0 <= n) (h1 : n <= 255) : be 1 n = [n] := by
 simp [be]; omega
theorem putText_any (s : ByteArray) (hs : s.size <= 255) (v : Value) (l : List Int) (base : Nat) (w : World) (h : OwnB w base v l) (hl : l.length <= 800000000000) (hB : base <= w.heap.size) :
  Calls Tryz.prog 116 #[v, .string s] w fun e w' => ∃ v', e = .returned v' /\ Wr w base (l ++ sB s) v' w' := by
 have e1 : (s.size : Int) % 18446744073709551616 = (s.size : Int) := by omega
 have HN : Hid (Calls Tryz.prog 62 #[v, .int .i64 1, .int .u64 (s.size : Int)] w fun e w' => ∃ v', e = .returned v' /\ Wr w base (l ++ [(s.size : Int)]) v' w') := by
  have := putNumber_any 1 (by omega) (s.size : Int) v l base w h (by omega) hB
  rw [be_one _ (by omega) (by omega)] at this
  exact this
 have HS : Hid (l ++ sB s = l ++ [(s.size : Int)] ++ bl s) := by show _ = _; simp [sB]
 clear h
 go_enter Tryz.func116, Tryz.ntmps116
 go_wp2_with (first
  | (go_at_call 62; refine HN.out.mono ?_; rintro e w1 ⟨v1, rfl, hw⟩; have HW : Hid (Wr w base (l ++ [(s.size : Int)]) v1 w1) := hw; have hsz := hw.low.size; clear hw)
  | (at_builtin; refine app8s rfl _ _ rfl base v1 (l ++ [(s.size : Int)]) rfl HW.out.own s rfl (by simp; omega) (by omega) ?_; intro v2 w2 hw2))
 go_ret
 exact ⟨_, rfl, by rw [HS.out]; exact HW.out.step hw2⟩
end Go.Proofs.YtnenadklmjcakaaGreatDoor
namespace Go.Proofs.YtnenadklmjcakaaGreatDoor
open Go.RowKit

set_option maxRecDepth 20000 in
set_option maxHeartbeats 2000000 in
theorem putTerm_any (t : Tm) (ht : knd t) (v : Value) (l : List Int) (base : Nat) (w : World) (h : OwnB w base v l) (hl : l.length <= 700000000000) (hB : base <= w.heap.size) :
  Calls Tryz.prog 97 #[v, t.v] w fun e w' => ∃ v', e = .returned v' /\ Wr w base (l ++ tB t) v' w' := by
 obtain ⟨k, n, s⟩ := t
 obtain ⟨hk, hs⟩ := ht
 simp only at hk hs
 have HO : Hid (OwnB w base v l) := h
 have HB : Hid (base <= w.heap.size) := hB
 clear h
 have HPI : Hid (∀ (v1 : Value) (m : List Int) (X : World), OwnB X base v1 m -> m.length <= 900000000000 -> base <= X.heap.size -> Calls Tryz.prog 95 #[v1, .int .i64 n] X fun e w' => ∃ v', e = .returned v' /\ Wr X base (m ++ be 8 (n % 18446744073709551616)) v' w') := fun v1 m X h1 h2 h3 => putInt_any n v1 m base X h1 h2 h3
 have HPT : Hid (∀ (v1 : Value) (m : List Int) (X : World), OwnB X base v1 m -> m.length <= 800000000000 -> base <= X.heap.size -> Calls Tryz.prog 116 #[v1, .string s] X fun e w' => ∃ v', e = .returned v' /\ Wr X base (m ++ sB s) v' w') := fun v1 m X h1 h2 h3 => putText_any s (by omega) v1 m base X h1 h2 h3
 have hl1 : ∀ x : Int, (l ++ [x]).length <= 700000010000 := fun x => by simp; omega
 rcases hk with rfl | rfl | rfl | rfl
 ·have HE : Hid (l ++ tB ⟨0, n, s⟩ = l ++ [0]) := by show _ = _; simp [tB]
  go_enter Tryz.func97, Tryz.ntmps97
  go_wp2_with (at_builtin; refine app8 rfl _ _ rfl base v l rfl (HO.out.later (below2 _ _ _)) (w.heap.size + 1) [0] rfl (Blk.new2 _ _ _ _) (by simp) (by simp only [List.length_cons, List.length_nil]; omega) (by simp; omega) ?_; intro v1 w1 ho1; have HW1 : Hid (Wr _ base (l ++ [0]) v1 w1) := ho1; obtain ⟨c0, c1, c2, -, -, -⟩ := three ((Blk.old w #[.int .i64 0, .int .i64 n, .string s] 52 _).k8 ho1.k8 (by decide)); clear ho1)
  go_ret
  exact ⟨_, rfl, by rw [HE.out]; exact Wr.ahead (below2 _ _ _) HB.out HW1.out⟩
 ·have HE : Hid (l ++ tB ⟨1, n, s⟩ = l ++ [1] ++ be 8 (n % 18446744073709551616)) := by show _ = _; simp [tB]
  go_enter Tryz.func97, Tryz.ntmps97
  go_wp2_with (first
   | (at_builtin; refine app8 rfl _ _ rfl base v l rfl (HO.out.later (below2 _ _ _)) (w.heap.size + 1) [1] rfl (Blk.new2 _ _ _ _) (by simp) (by simp only [List.length_cons, List.length_nil]; omega) (by simp; omega) ?_; intro v1 w1 ho1; have HW1 : Hid (Wr _ base (l ++ [1]) v1 w1) := ho1; have hz1 : w.heap.size + 2 <= w1.heap.size := (by have := ho1.low.size; simpa using this); obtain ⟨c0, c1, c2, -, -, -⟩ := three ((Blk.old w #[.int .i64 1, .int .i64 n, .string s] 52 _).k8 ho1.k8 (by decide)); clear ho1)
   | (go_at_call 95; refine (HPI.out v1 _ _ HW1.out.own (by have := hl1 1; omega) (by omega)).mono ?_; rintro e w2 ⟨v2, rfl, hw2⟩))
  go_ret
  exact ⟨_, rfl, by rw [HE.out]; exact Wr.ahead (below2 _ _ _) HB.out (HW1.out.step hw2)⟩
 ·have HE : Hid (l ++ tB ⟨2, n, s⟩ = l ++ [2] ++ sB s) := by show _ = _; simp [tB]
  go_enter Tryz.func97, Tryz.ntmps97
  go_wp2_with (first
   | (at_builtin; refine app8 rfl _ _ rfl base v l rfl (HO.out.later (below2 _ _ _)) (w.heap.size + 1) [2] rfl (Blk.new2 _ _ _ _) (by simp) (by simp only [List.length_cons, List.length_nil]; omega) (by simp; omega) ?_; intro v1 w1 ho1; have HW1 : Hid (Wr _ base (l ++ [2]) v1 w1) := ho1; have hz1 : w.heap.size + 2 <= w1.heap.size := (by have := ho1.low.size; simpa using this); obtain ⟨c0, c1, c2, -, -, -⟩ := three ((Blk.old w #[.int .i64 2, .int .i64 n, .string s] 52 _).k8 ho1.k8 (by decide)); clear ho1)
   | (go_at_call 116; refine (HPT.out v1 _ _ HW1.out.own (by have := hl1 2; omega) (by omega)).mono ?_; rintro e w2 ⟨v2, rfl, hw2⟩))
  go_ret
  exact ⟨_, rfl, by rw [HE.out]; exact Wr.ahead (below2 _ _ _) HB.out (HW1.out.step hw2)⟩
 ·have HE : Hid (l ++ tB ⟨3, n, s⟩ = l ++ [3] ++ be 8 (n % 18446744073709551616)) := by show _ = _; simp [tB]
  go_enter Tryz.func97, Tryz.ntmps97
  go_wp2_with (first
   | (at_builtin; refine app8 rfl _ _ rfl base v l rfl (HO.out.later (below2 _ _ _)) (w.heap.size + 1) [3] rfl (Blk.new2 _ _ _ _) (by simp) (by simp only [List.length_cons, List.length_nil]; omega) (by simp; omega) ?_; intro v1 w1 ho1; have HW1 : Hid (Wr _ base (l ++ [3]) v1 w1) := ho1; have hz1 : w.heap.size + 2 <= w1.heap.size := (by have := ho1.low.size; simpa using this); obtain ⟨c0, c1, c2, -, -, -⟩ := three ((Blk.old w #[.int .i64 3, .int .i64 n, .string s] 52 _).k8 ho1.k8 (by decide)); clear ho1)
   | (go_at_call 95; refine (HPI.out v1 _ _ HW1.out.own (by have := hl1 3; omega) (by omega)).mono ?_; rintro e w2 ⟨v2, rfl, hw2⟩))
  go_ret
  exact ⟨_, rfl, by rw [HE.out]; exact Wr.ahead (below2 _ _ _) HB.out (HW1.out.step hw2)⟩
def tBs (l : List Tm) (j : Nat) : List Int := (l.take j).flatMap tB
theorem tBs_succ {l : List Tm} {j : Nat} {t : Tm} (h : l[j]? = some t) : tBs l (j + 1) = tBs l j ++ tB t := by
 unfold tBs; rw [List.take_add_one, h]; simp
theorem tBs_len {l : List Tm} (hl : ∀ t ∈ l, knd t) (j : Nat) : (tBs l j).length <= j * 73 := by
 induction j with
 | zero => simp [tBs]
 | succ j ih =>
  cases h : l[j]? with
  | none => unfold tBs at ih ⊢; rw [List.take_add_one, h]; simp at ih ⊢; omega
  | some t =>
   rw [tBs_succ h, List.length_append]
   have := (tB_len t).2
   have := (hl t (List.mem_of_getElem? h)).2
   omega
set_option maxRecDepth 20000 in
set_option maxHeartbeats 2000000 in
theorem putTerms_any (m : List Tm) (hm : ∀ t ∈ m, knd t) (hn : m.length <= 255) (y : Value) (v : Value) (l : List Int) (base : Nat) (w : World) (h : OwnB w base v l) (hl : l.length <= 600000000000) (hB : base <= w.heap.size) (hy : Ts w y m) (hyB : ∀ X, Below base w X -> Ts X y m) :
  Calls Tryz.prog 96 #[v, .int .i64 1, y, .func (.func 97) #[] #[]] w fun e w' => ∃ v', e = .returned v' /\ Wr w base (l ++ ((m.length : Int) :: m.flatMap tB)) v' w' := by
 have HN : Hid (Calls Tryz.prog 62 #[v, .int .i64 1, .int .u64 (m.length : Int)] w fun e w' => ∃ v', e = .returned v' /\ Wr w base (l ++ [(m.length : Int)]) v' w') := by
  have := putNumber_any 1 (by omega) (m.length : Int) v l base w h (by omega) hB
  rw [be_one _ (by omega) (by omega)] at this
  exact this
 have HY : Hid (∀ X, Below base w X -> Ts X y m) := hyB
 have HM : Hid (∀ t ∈ m, knd t) := hm
 have HB : Hid (base <= w.heap.size) := hB
 obtain ⟨ad, cap, rfl, -, -⟩ := hy
 clear h hyB hm
 go_enter Tryz.func96, Tryz.ntmps96
 go_wp2_with (go_at_call 62; refine HN.out.mono ?_; rintro e w1 ⟨v1, rfl, hw⟩; have HW : Hid (Wr w base (l ++ [(m.length : Int)]) v1 w1) := hw; clear hw)
 go_loopg [0, 19] m.length (fun g u i wr => ∃ j : Nat, j + g = m.length /\ i = .int .i64 j /\ Wr w base (l ++ [(m.length : Int)] ++ tBs m j) u wr)
 case atStart => exact ⟨0, by omega, rfl, by rw [show tBs m 0 = [] from rfl, List.append_nil]; exact HW.out⟩
 case round =>
  obtain ⟨j, hj, rfl, hw⟩ := hrel
  have HWr : Hid (Wr w base (l ++ [(m.length : Int)] ++ tBs m j) u0 wr) := hw
  have hsz := hw.low.size
  clear hw
  cases gk with
  | succ g =>
   have hlt : j < m.length := by omega
   obtain ⟨t, ht⟩ : ∃ t, m[j]? = some t := ⟨_, List.getElem?_eq_getElem hlt⟩
   obtain ⟨ad', cap', hx, -, hxx⟩ := HY.out _ HWr.out.low
   simp only [Value.slice.injEq] at hx
   obtain ⟨rfl, -, rfl⟩ := hx
   rcases hxx with hxx | ⟨b, o, rfl, hbs, hxx⟩
   ·subst hxx; simp at hlt
   ·obtain ⟨c0, c1, c2⟩ := hxx j _ ht
    have hlen : (l ++ [(m.length : Int)] ++ tBs m j).length <= 601000000000 := by
     have := tBs_len HM.out j
     simp only [List.length_append, List.length_cons, List.length_nil]; omega
    have HT : Hid (m[j]? = some t) := ht
    have HPT : Hid (∀ (v1 : Value) (X : World), OwnB X base v1 (l ++ [(m.length : Int)] ++ tBs m j) -> base <= X.heap.size -> Calls Tryz.prog 97 #[v1, t.v] X fun e w' => ∃ v', e = .returned v' /\ Wr X base (l ++ [(m.length : Int)] ++ tBs m j ++ tB t) v' w') := fun v1 X h1 h3 => putTerm_any t (HM.out t (List.mem_of_getElem? ht)) v1 _ base X h1 (by omega) h3
    obtain ⟨tk, tn, ts⟩ := t
    simp only at c0 c1 c2
    clear hxx ht
    have i1 : (0 : Int) <= (j : Int) := by omega
    have i2 : (j : Int) < (m.length : Int) := by omega
    go_wp2_with (go_at_call 97; refine (HPT.out _ _ (HWr.out.own.later (below1 _ _)) (by simp; omega)).mono ?_; rintro e w2 ⟨v2, rfl, hw2⟩)
    go_roundg g
    case measure => omega
    case rel =>
     refine ⟨j + 1, by omega, by go_num, ?_⟩
     rw [tBs_succ HT.out, <- List.append_assoc]
     exact HWr.out.step (Wr.ahead (below1 _ _) (by omega) hw2)
  | zero =>
   obtain rfl : j = m.length := by omega
   have hz : ¬ ((m.length : Int) < (m.length : Int)) := by omega
   go_wp2
   go_ret
   refine ⟨_, rfl, ?_⟩
   have := HWr.out
   unfold tBs at this
   rwa [List.take_length, List.append_assoc] at this
set_option maxRecDepth 20000 in
set_option maxHeartbeats 2000000 in
theorem wAtom_any (a : At) (ha : Fit a) (y : Value) (v : Value) (l : List Int) (base : Nat) (w : World) (h : OwnB w base v l) (hl : l.length <= 500000000000) (hB : base <= w.heap.size) (hy : Ts w y a.args) (hyB : ∀ X, Below base w X -> Ts X y a.args) :
  Calls Tryz.prog 63 #[v, a.v y] w fun e w' => ∃ v', e = .returned v' /\ Wr w base (l ++ aB a) v' w' := by
 obtain ⟨t, nm, m⟩ := a
 obtain ⟨f1, f2, f3, f4⟩ := ha
 simp only at f1 f2 f3 f4 hy hyB
 have HP1 : Hid (∀ (v1 : Value) (X : World), OwnB X base v1 l -> base <= X.heap.size -> Calls Tryz.prog 97 #[v1, t.v] X fun e w' => ∃ v', e = .returned v' /\ Wr X base (l ++ tB t) v' w') := fun v1 X h1 h3 => putTerm_any t f1 v1 _ base X h1 (by omega) h3
 have hl1 : (l ++ tB t).length <= 500001000000 := by have := (tB_len t).2; have := f1.2; rw [List.length_append]; omega
 have hl2 : (l ++ tB t ++ sB nm).length <= 500002000000 := by rw [List.length_append]; simp only [sB, List.length_cons, bl_len]; omega
 have HP2 : Hid (∀ (v1 : Value) (X : World), OwnB X base v1 (l ++ tB t) -> base <= X.heap.size -> Calls Tryz.prog 116 #[v1, .string nm] X fun e w' => ∃ v', e = .returned v' /\ Wr X base (l ++ tB t ++ sB nm) v' w') := fun v1 X h1 h3 => putText_any nm (by omega) v1 _ base X h1 (by omega) h3
 have HP3 : Hid (∀ (v1 : Value) (X : World), OwnB X base v1 (l ++ tB t ++ sB nm) -> base <= X.heap.size -> Below base w X -> Calls Tryz.prog 96 #[v1, .int .i64 1, y, .func (.func 97) #[] #[]] X fun e w' => ∃ v', e = .returned v' /\ Wr X base (l ++ tB t ++ sB nm ++ ((m.length : Int) :: m.flatMap tB)) v' w') := fun v1 X h1 h3 h4 => putTerms_any m f4 (by omega) y v1 _ base X h1 (by omega) h3 (hyB X h4) (fun Y hY => hyB Y (h4.trans hY))
 have HE : Hid (l ++ aB ⟨t, nm, m⟩ = l ++ tB t ++ sB nm ++ ((m.length : Int) :: m.flatMap tB)) := by show _ = _; simp [aB, List.append_assoc]
 have HO : Hid (OwnB w base v l) := h
 have HB : Hid (base <= w.heap.size) := hB
 obtain ⟨ad, cap, rfl, -, -⟩ := hy
 clear h hyB f1 f2 f3 f4
 obtain ⟨k, n, s⟩ := t
 go_enter Tryz.func63, Tryz.ntmps63
 go_wp2_with (first
  | (go_at_call 97; refine (HP1.out _ _ (HO.out.later (below1 _ _)) (by simp; omega)).mono ?_; rintro e w1 ⟨v1, rfl, hw1⟩; have HW1 : Hid (Wr w base _ v1 w1) := Wr.ahead (below1 _ _) HB.out hw1; have B1 := (Blk.new w #[.int .i64 k, .int .i64 n, .string s, .string nm, .slice ad m.length cap] 54).k8 hw1.k8 (by decide); have HB1 : Hid (Blk _ _ _ _) := B1; obtain ⟨p0, p1, p2, p3, p4⟩ := five B1; have hz1 := HW1.out.low.size; clear hw1 B1)
  | (go_at_call 116; refine (HP2.out _ _ HW1.out.own (by omega)).mono ?_; rintro e w2 ⟨v2, rfl, hw2⟩; have HW2 : Hid (Wr w base _ v2 w2) := HW1.out.step hw2; have B2 := HB1.out.k8 hw2.k8 (by decide); clear p0 p1 p2 p3 p4; obtain ⟨p0, p1, p2, p3, p4⟩ := five B2; have hz2 := HW2.out.low.size; clear hw2 B2)
  | (go_at_call 96; refine (HP3.out _ _ HW2.out.own (by omega) HW2.out.low).mono ?_; rintro e w3 ⟨v3, rfl, hw3⟩))
 go_ret
 exact ⟨_, rfl, by rw [HE.out]; exact HW2.out.step hw3⟩
theorem name_size {s : ByteArray} (h : nameOk s = true) : s.size <= 64 := by
 unfold nameOk nameHead at h
 simp only [Bool.and_eq_true, decide_eq_true_eq] at h
 omega
theorem fit_of {a : At} (h : a.err = 0) : Fit a := by
 unfold At.err at h
 split at h
 ·cases h
 ·rename_i h1
  split at h
  ·cases h
  ·rename_i h2
   split at h
   ·cases h
   ·rename_i h3
    split at h
    ·rename_i h4
     exact ⟨knd_qual (by simpa using h3), name_size (by simpa using h1), by omega, fun t ht => knd_cov (List.all_eq_true.1 h4 t ht)⟩
    ·cases h
set_option maxRecDepth 20000 in
set_option maxHeartbeats 2000000 in
theorem atomW_ok (a : At) (y : Value) (w : World) (hy : Ts w y a.args) (he : a.err = 0) :
  Calls Tryz.prog 43 #[a.v y] w fun e w' => ∃ v, e = .returned (.tuple #[v, .int .i64 0]) /\ OwnB w' w.heap.size v (aB a) /\ Below w.heap.size w w' := by
 have HC : Hid (∀ X, Below w.heap.size w X -> Calls Tryz.prog 93 #[a.v y] X fun e w' => e = .returned (.int .i64 0) /\ Below X.heap.size X w') := fun X hX => by rw [<- he]; exact chk_any a y X (hy.later hX)
 have HP : Hid (∀ X : World, Below w.heap.size w X -> Calls Tryz.prog 63 #[.slice none 0 0, a.v y] X fun e w' => ∃ v', e = .returned v' /\ Wr X w.heap.size ([] ++ aB a) v' w') := fun X hX => wAtom_any a (fit_of he) y _ [] w.heap.size X (ownB_nil _ _) (by simp) hX.size (hy.later hX) (fun Y hY => hy.later (hX.trans hY))
 obtain ⟨ad, cap, rfl, -, -⟩ := hy
 obtain ⟨⟨k, n, s⟩, nm, m⟩ := a
 clear he
 go_enter Tryz.func43, Tryz.ntmps43
 go_wp2_with (first
  | (go_at_call 93; refine (HC.out _ (below1 _ _)).mono ?_; rintro e w1 ⟨rfl, hb1⟩; obtain ⟨p0, p1, p2, p3, p4⟩ := five ((Blk.new w #[.int .i64 k, .int .i64 n, .string s, .string nm, .slice ad m.length cap] 54).later hb1); have HB1 : Hid (Below w.heap.size w w1) := below_step (below1 _ _) hb1; clear hb1)
  | (go_at_call 63; refine (HP.out _ HB1.out).mono ?_; rintro e w2 ⟨v2, rfl, hw2⟩))
 refine bodyPost_ret (v := .tuple #[v2, .int .i64 0]) (by simp [results, Tryz.results43, go_sem]) rfl ⟨v2, rfl, ?_, HB1.out.trans hw2.low⟩
 have := hw2.own
 rwa [List.nil_append] at this
end Go.Proofs.YtnenadklmjcakaaGreatDoor
