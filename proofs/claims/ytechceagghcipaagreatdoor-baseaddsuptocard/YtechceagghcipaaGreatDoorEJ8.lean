import Derived.Test.YtechceagghcipaaGreatDoorEJ7
import Derived.Maps.AppendAt
import Derived.Laws.OwnMore
namespace Go.Proofs.YtechceagghcipaaGreatDoor
open Go.RowKit

theorem ic6_take (R : List It8) (k : Nat) : (ic6 R).take (k * 6) = ic6 (R.take k) := by
 induction R generalizing k with
 | nil => simp [ic6]
 | cons x R ih =>
  cases k with
  | zero => simp [ic6]
  | succ k =>
   have e : ∀ m : List It8, ic6 (x :: m) = icell x ++ ic6 m := fun m => by simp [ic6]
   have hc : (icell x).length = 6 := rfl
   rw [List.take_succ_cons, e, e, List.take_append, List.take_of_length_le (by omega), hc, show (k + 1) * 6 - 6 = k * 6 by omega, ih]
theorem ic6_drop (R : List It8) (k : Nat) : (ic6 R).drop (k * 6) = ic6 (R.drop k) := by
 induction R generalizing k with
 | nil => simp [ic6]
 | cons x R ih =>
  cases k with
  | zero => simp
  | succ k =>
   have e : ∀ m : List It8, ic6 (x :: m) = icell x ++ ic6 m := fun m => by simp [ic6]
   have hc : (icell x).length = 6 := rfl
   rw [List.drop_succ_cons, e, List.drop_append, List.drop_eq_nil_of_le (by omega), hc, show (k + 1) * 6 - 6 = k * 6 by omega, ih, List.nil_append]
theorem row6_at {w : World} {n g : Nat} {e : TypeId} {cur : Array Value} {xs : List Value} (hg : w.heap[g]? = some (.cells cur e (0, 0))) (ht : cur.toList.take (n * 6) = xs) {j : Nat} {u : Value} (hj : xs[j]? = some u) : w.cell? ⟨g, j, none⟩ = some u := by
 have hl := (List.getElem?_eq_some_iff.1 hj).1
 rw [<- ht, List.length_take] at hl
 rw [<- ht, List.getElem?_take_of_lt (by omega)] at hj
 rw [cell_of_row _ _ _ _ _ _ hg]
 simpa using hj
theorem src_take6 {w : World} {base n cap k : Nat} {e : TypeId} {a : Option Addr} {xs : List Value} (h : w.ownsRow base e 6 (.slice a n cap) n xs) (hk : k <= n) : (Value.slice a k cap = .slice none 0 0 /\ k = 0 /\ xs.take (k * 6) = []) ∨ ∃ (ad : Addr) (c : Nat), Value.slice a k cap = .slice (some ad) k c /\ (xs.take (k * 6)).length = k * 6 /\ ∀ (j : Nat) u, (xs.take (k * 6))[j]? = some u -> w.cell? (ad.add j) = some u := by
 have hl := h.1
 rcases h.2 with ⟨hv, hn⟩ | ⟨g, cap', cur, hv, hb, hg, hn, hc, hs, ht⟩
 ·simp only [Value.slice.injEq] at hv
  obtain ⟨rfl, -, rfl⟩ := hv
  have hk0 : k = 0 := by omega
  subst hk0
  exact Or.inl ⟨rfl, rfl, by simp⟩
 ·simp only [Value.slice.injEq, true_and] at hv
  obtain ⟨rfl, rfl⟩ := hv
  refine Or.inr ⟨⟨g, 0, none⟩, cap, rfl, by rw [List.length_take]; omega, fun j u hj => ?_⟩
  rw [List.getElem?_take] at hj
  split at hj
  ·rw [Go.WideShapes.add_plain, Nat.zero_add]
   exact row6_at hg ht hj
  ·cases hj
theorem src_drop6 {w : World} {base n cap k : Nat} {e : TypeId} {a : Option Addr} {xs : List Value} (h : w.ownsRow base e 6 (.slice a n cap) n xs) (hk : k <= n) : (Value.slice (if cap = k then a else a.map (·.add (k * 6))) (n - k) (cap - k) = .slice none 0 0 /\ n - k = 0 /\ xs.drop (k * 6) = []) ∨ ∃ (ad : Addr) (c : Nat), Value.slice (if cap = k then a else a.map (·.add (k * 6))) (n - k) (cap - k) = .slice (some ad) (n - k) c /\ (xs.drop (k * 6)).length = (n - k) * 6 /\ ∀ (j : Nat) u, (xs.drop (k * 6))[j]? = some u -> w.cell? (ad.add j) = some u := by
 have hl := h.1
 rcases h.2 with ⟨hv, hn⟩ | ⟨g, cap', cur, hv, hb, hg, hn, hc, hs, ht⟩
 ·simp only [Value.slice.injEq] at hv
  obtain ⟨rfl, -, rfl⟩ := hv
  have hk0 : k = 0 := by omega
  subst hk0 hn
  exact Or.inl ⟨by simp, rfl, List.eq_nil_of_length_eq_zero (by rw [List.length_drop]; omega)⟩
 ·simp only [Value.slice.injEq, true_and] at hv
  obtain ⟨rfl, rfl⟩ := hv
  by_cases hck : cap = k
  ·refine Or.inr ⟨⟨g, 0, none⟩, cap - k, by rw [if_pos hck], by rw [List.length_drop]; omega, fun j u hj => ?_⟩
   have := (List.getElem?_eq_some_iff.1 hj).1
   rw [List.length_drop] at this
   omega
  ·refine Or.inr ⟨⟨g, k * 6, none⟩, cap - k, by rw [if_neg hck]; simp [Go.WideShapes.add_plain], by rw [List.length_drop]; omega, fun j u hj => ?_⟩
   rw [List.getElem?_drop] at hj
   rw [Go.WideShapes.add_plain]
   exact row6_at hg ht hj
theorem cut6 (a : Option Addr) {n cap k : Nat} (hk : k <= n) (W : World) : (Instr.sliceAt 140 (.slice a n cap) (some (.int .i64 (k : Int))) none none).run Tryz.prog W = .ok (.slice (if cap = k then a else a.map (·.add (k * 6))) (n - k) (cap - k)) W := by
 have hT : Tryz.prog.underlying 140 = some (.slice (Tryz.prog.elem 140)) := by kernel_rfl
 rw [run_sliceAt_slice _ _ _ _ _ _ hT, run_slice_l _ _ _ _ _ hT _ _ (by omega) (by omega), show (sizeOf (Tryz.prog.elem 140)).run Tryz.prog W = .ok 6 W by kernel_rfl]
 simp [Result.andThen, sliced]
theorem enappM {ops : Array Oper} {rest : List Oper} {o : Oper} {a : Act} {Q : Exit -> Act -> World -> Prop} {w : World} (hgd : o.guard = none) (s x : Operand)
  (ho : o.op = .call { callee := .builtin .append, args := #[s, x], argTypes := #[140, 140] }) (base : Nat) (v : Value) (l : List It8) (hs : a.eval s = v) (hown : OwnEn w base v l)
  (xv : Value) (news : List It8) (hx : a.eval x = xv) (hsrc : (xv = .slice none 0 0 /\ news.length = 0 /\ ic6 news = []) ∨ ∃ (ad : Addr) (c : Nat), xv = .slice (some ad) news.length c /\ (ic6 news).length = news.length * 6 /\ ∀ (j : Nat) u, (ic6 news)[j]? = some u -> w.cell? (ad.add j) = some u) (h1c : ∀ u ∈ ic6 news, u.oneCell' = true) (hlen : l.length + news.length <= 1000000000000) (hbase : base <= w.heap.size)
  (h : ∀ v' w', OwnEn w' base v' (l ++ news) -> w.grownBy w' v.ownBlock -> (v'.ownBlock = v.ownBlock ∨ v'.ownBlock = some w.heap.size) -> wpList Tryz.prog ops Q rest (a.put o.dst v') w') : wpList Tryz.prog ops Q (o :: rest) a w := by
 obtain ⟨i, hi, h0, h1, h2⟩ := info_parts Tryz.infoEntry8
 have key : ∃ v' w', (Builtin.append_ #[140, 140] o.type #[v, xv]).run Tryz.prog w = .ok v' w' /\ OwnEn w' base v' (l ++ news) /\ w.grownBy w' v.ownBlock /\ (v'.ownBlock = v.ownBlock ∨ v'.ownBlock = some w.heap.size) := by
  rcases hsrc with ⟨rfl, hn0, -⟩ | ⟨ad, c, rfl, hnl, hc⟩
  ·obtain rfl := List.length_eq_zero_iff.1 hn0
   exact ⟨v, w, run_append_owned_none (P := Tryz.prog) w base 140 o.type 171 i 6 Tryz.underlying140 hi v l.length (ic6 l) hown, by rw [List.append_nil]; exact hown, ⟨rfl, rfl, rfl, Nat.le_refl _, fun _ _ _ => rfl⟩, Or.inl rfl⟩
  ·obtain ⟨v', w', k1, k2, k3, -, k5⟩ := run_append_own_at (P := Tryz.prog) w base 140 o.type 171 i _ 6 80 Tryz.underlying140 hi h0 h1 h2 rfl (by omega) v l.length (ic6 l) hown ad news.length c (ic6 news) hnl hc h1c (by unfold maxLen; omega) (Nat.le_trans (Nat.mul_le_mul hlen (Nat.le_refl 80)) (by decide)) hbase
   refine ⟨v', w', k1, ?_, k3, k5⟩
   unfold OwnEn
   rw [List.length_append, ic6_app]
   exact k2
 obtain ⟨v', w', hrun, r1, r2, r3⟩ := key
 refine wpList_plain hgd fun K hK => ?_
 simp [Oper.wp, execOp, ho, resolve, invoke, builtin, hs, hx, hrun, Result.andThen]
 exact hK _ _ (h v' w' r1 r2 r3)
theorem icell_one {x : It8} {a : Option Addr} {n c : Nat} (h : x.1.2 = .slice a n c) : ∀ u ∈ icell x, u.oneCell' = true := by
 obtain ⟨⟨⟨⟨k, m, s⟩, nm, l⟩, v⟩, p⟩ := x
 simp only at h
 subst h
 intro u hu
 simp [icell, acell] at hu
 rcases hu with rfl | rfl | rfl | rfl | rfl | rfl <;> rfl
theorem ic6_one {R : List It8} (h : ∀ x ∈ R, ∃ a n c, x.1.2 = .slice a n c) : ∀ u ∈ ic6 R, u.oneCell' = true := fun u hu => by
 obtain ⟨x, hx, hu⟩ := List.mem_flatMap.1 hu
 obtain ⟨a, n, c, e⟩ := h x hx
 exact icell_one e u hu
structure Bl8 (R : List It8) (f : At) (j : Nat) : Prop where
 le : j <= R.length
 lo : ∀ i x, i < j -> R[i]? = some x -> x.1.1.cmp f < 0
 hi : ∀ x, R[j]? = some x -> f.cmp x.1.1 < 0
theorem Bl8.above {R : List It8} {f : At} {j : Nat} (h : Bl8 R f j) (hs : so9 R) {x : It8} (hx : x ∈ R.drop j) : f.cmp x.1.1 < 0 := by
 obtain ⟨i, hi⟩ := List.getElem?_of_mem hx
 rw [List.getElem?_drop] at hi
 obtain ⟨hil, hie⟩ := List.getElem?_eq_some_iff.1 hi
 have hj : j < R.length := by omega
 have h1 := h.hi _ (List.getElem?_eq_getElem hj)
 rcases Nat.eq_zero_or_pos i with h0 | h0
 ·subst h0
  rw [<- hie]
  simpa using h1
 ·have h2 := List.pairwise_iff_getElem.1 hs j (j + i) hj hil (by omega)
  rw [hie] at h2
  exact (ord_at.tr _ _ _ (by omega) (by omega)).2 (Or.inl h1)
theorem Bl8.under {R : List It8} {f : At} {j : Nat} (h : Bl8 R f j) {x : It8} (hx : x ∈ R.take j) : x.1.1.cmp f < 0 := by
 obtain ⟨i, hi⟩ := List.getElem?_of_mem hx
 have hl := (List.getElem?_eq_some_iff.1 hi).1
 rw [List.length_take] at hl
 rw [List.getElem?_take_of_lt (by omega)] at hi
 exact h.lo i x (by omega) hi
theorem Bl8.so {R : List It8} {f : At} {j : Nat} (h : Bl8 R f j) (hs : so9 R) (y : It8) (hy : y.1.1 = f) : so9 (R.take j ++ y :: R.drop j) := by
 have hs' : so9 (R.take j ++ R.drop j) := by rw [List.take_append_drop]; exact hs
 have h1 := List.pairwise_append.1 hs'
 refine List.pairwise_append.2 ⟨h1.1, List.pairwise_cons.2 ⟨fun b hb => by rw [hy]; exact h.above hs hb, h1.2.1⟩, fun a ha b hb => ?_⟩
 rcases List.mem_cons.1 hb with rfl | hb
 ·rw [hy]; exact h.under ha
 ·exact h1.2.2 a ha b hb
theorem Bl8.new {R : List It8} {f : At} {j : Nat} (h : Bl8 R f j) (hs : so9 R) : f ∉ (Ei R).map Prod.fst := fun hc => by
 obtain ⟨y, hy, e⟩ := List.mem_map.1 hc
 obtain ⟨x, hx, rfl⟩ := List.mem_map.1 hy
 simp only at e
 have hx' : x ∈ R.take j ++ R.drop j := by rw [List.take_append_drop]; exact hx
 rcases List.mem_append.1 hx' with h1 | h1
 ·have := h.under h1; rw [e, ord_at.refl] at this; omega
 ·have := h.above hs h1; rw [e, ord_at.refl] at this; omega
theorem Bl8.perm {R : List It8} {f : At} {j : Nat} (h : Bl8 R f j) (hs : so9 R) (v : Value) : (Ei (R.take j ++ ((f, v), 4) :: R.drop j)).Perm (aE8 (Ei R) f) := by
 unfold aE8
 rw [if_neg (h.new hs)]
 have e1 : Ei (R.take j ++ ((f, v), 4) :: R.drop j) = Ei (R.take j) ++ (f, 4) :: Ei (R.drop j) := by simp [Ei]
 have e2 : Ei R = Ei (R.take j) ++ Ei (R.drop j) := by rw [<- Ei_app, List.take_append_drop]
 rw [e1, e2]
 exact List.perm_middle.trans (List.perm_append_singleton _ _).symm
theorem OwnEn.srcT {w : World} {base n cap k : Nat} {a : Option Addr} {R : List It8} (h : OwnEn w base (.slice a n cap) R) (hn : n = R.length) (hk : k <= n) : (Value.slice a k cap = .slice none 0 0 /\ (R.take k).length = 0 /\ ic6 (R.take k) = []) ∨ ∃ (ad : Addr) (c : Nat), Value.slice a k cap = .slice (some ad) (R.take k).length c /\ (ic6 (R.take k)).length = (R.take k).length * 6 /\ ∀ (j : Nat) u, (ic6 (R.take k))[j]? = some u -> w.cell? (ad.add j) = some u := by
 subst hn
 have e : (R.take k).length = k := by rw [List.length_take]; omega
 rw [e, <- ic6_take]
 exact src_take6 h hk
theorem OwnEn.srcD {w : World} {base n cap k : Nat} {a : Option Addr} {R : List It8} (h : OwnEn w base (.slice a n cap) R) (hn : n = R.length) (hk : k <= n) : (Value.slice (if cap = k then a else a.map (·.add (k * 6))) (n - k) (cap - k) = .slice none 0 0 /\ (R.drop k).length = 0 /\ ic6 (R.drop k) = []) ∨ ∃ (ad : Addr) (c : Nat), Value.slice (if cap = k then a else a.map (·.add (k * 6))) (n - k) (cap - k) = .slice (some ad) (R.drop k).length c /\ (ic6 (R.drop k)).length = (R.drop k).length * 6 /\ ∀ (j : Nat) u, (ic6 (R.drop k))[j]? = some u -> w.cell? (ad.add j) = some u := by
 subst hn
 rw [List.length_drop, <- ic6_drop]
 exact src_drop6 h hk
theorem EnL.one {V : World} {base : Nat} {v : Value} {R : List It8} (h : EnL V base v R) : ∀ x ∈ R, ∃ a n c, x.1.2 = .slice a n c := fun x hx => ownT_form3 (h.t x hx).1
theorem RB8.put {w0 : World} {A : Nat -> Prop} {r : Nat} {lv lv' : Value} {R R' : List It8} {Y W W' : World} (h : RB8 w0 A r lv R Y) (hb : Below Y.heap.size Y W) (hw : W' = W.setCell ⟨r, 0, none⟩ lv') (ho : OwnEn W Y.heap.size lv' R') (ht : ∀ x ∈ R', (OwnT Y w0.heap.size x.1.2 x.1.1.args ∨ OwnT W Y.heap.size x.1.2 x.1.1.args) /\ x.1.1.args.length <= 1000000000) (hr : ∀ x ∈ R', x.1.2.ownBlock ≠ some r) (ha : ∀ x ∈ R', ∀ b, x.1.2.ownBlock = some b -> A b ∨ Y.heap.size <= b) : RW8 w0 A r R' Y W' := by
 have hr0 := h.b.lt
 have hz := h.be.size
 have hf : Fr (fun b => b = r) Y W' := by rw [hw]; exact (Fr.of hb).set (Or.inl rfl)
 have hf2 : Fr (fun b => b = r) W W' := by rw [hw]; exact (Fr.refl _ _).set (Or.inl rfl)
 have h1 : OwnEn W' w0.heap.size lv' R' := row7_mono (row7_fr ho hf2 fun b hb e => by have := (ho.lt b hb).1; omega) hz
 have h2 : ∀ x ∈ R', OwnT W' w0.heap.size x.1.2 x.1.1.args /\ x.1.1.args.length <= 1000000000 := fun x hx => by
  refine ⟨?_, (ht x hx).2⟩
  rcases (ht x hx).1 with k | k
  ·exact row7_fr k hf fun b hb e => hr x hx (by rw [hb, e])
  ·exact row7_mono (row7_fr k hf2 fun b hb e => hr x hx (by rw [hb, e])) hz
 refine ⟨fun b => b = r ∨ Ib lv' R' b, lv', ⟨?_, ⟨h1, h2, fun x hx b hb => row7_ne (h2 x hx).1 h1 (by decide) b hb⟩, fun b => Iff.rfl, h.lo, ?_⟩, hf.mono fun b _ e => by rw [e]; exact (h.a r).2 (Or.inl rfl), fun b hb => ?_⟩
 ·rw [hw]; exact (h.b.below hb).set 0 lv'
 ·exact h.be.trans (Fr.low (hf.mono (Q := fun b => w0.heap.size <= b) fun b _ e => by rw [e]; exact h.lo) hz)
 ·rcases hb with rfl | hb | ⟨x, hx, hb⟩
  ·exact Or.inl ((h.a b).2 (Or.inl rfl))
  ·exact Or.inr (ho.lt b hb).1
  ·exact ha x hx b hb
end Go.Proofs.YtechceagghcipaaGreatDoor
