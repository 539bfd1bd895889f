import Derived.Test.YtechceagghcipabGreatDoorRA7
import Derived.Test.YtechceagghcipabGreatDoorRA2
namespace Go.Proofs.YtechceagghcipabGreatDoor
open Go.RowKit
attribute [local go_sem ↓] Go.wp_at_zero Go.wp_at_succ
theorem mk_ints7 (n : Nat) (hn : n <= 10000000000000) (w : World) : (Instr.makeSlice 67 (.int .i64 (n : Int)) (.int .i64 (n : Int))).run Tryz.prog w = .ok (.slice (some ⟨w.heap.size, 0, none⟩) n n) (w.alloc (.cells (madeCells #[.int .i64 0] n) 3)) := by
 obtain ⟨i, hi, h0, h1, h2⟩ := info7 Tryz.infoInt7
 have h := run_make (P := Tryz.prog) w 67 3 i _ Tryz.underlying67 hi h0 .i64 .i64 n n (by omega) (by omega) (by rw [h2]; omega) (by omega)
 rw [h1, Nat.mul_one] at h
 exact h
def NB (w : World) (g n : Nat) (l : List Int) (j : Nat) : Prop := ∃ cur : Array Value, Bk w g cur 3 /\ cur.size = n /\ ∀ (i : Nat) (x : Int), i < j -> l[i]? = some x -> cur[i]? = some (.int .i64 x)
theorem NB.new (w : World) (n : Nat) (l : List Int) : NB (w.alloc (.cells (madeCells #[.int .i64 0] n) 3)) w.heap.size n l 0 := ⟨_, Bk.new _ _ _, by simp [madeCells], fun i x h => by omega⟩
theorem NB.put {w : World} {g n j : Nat} {l : List Int} {x : Int} (h : NB w g n l j) (hx : l[j]? = some x) (hj : j < n) : NB (w.setCell ⟨g, j, none⟩ (.int .i64 x)) g n l (j + 1) := by
 obtain ⟨cur, h1, h2, h3⟩ := h
 refine ⟨_, h1.set j _, by simp [h2], fun i y hi hy => ?_⟩
 by_cases e : i = j
 ·subst e
  rw [hx] at hy
  cases hy
  simp [h2, hj]
 ·rw [Array.getElem?_setIfInBounds_ne (fun h => e h.symm)]
  exact h3 i y (by omega) hy
theorem NB.cell {w : World} {g n j i : Nat} {l : List Int} (h : NB w g n l j) (hi : i < n) : ∃ v, w.cell? ⟨g, i, none⟩ = some v /\ w.frozen? ⟨g, i, none⟩ = false := by
 obtain ⟨cur, h1, h2, h3⟩ := h
 exact ⟨cur[i], h1.cell (by simp [h2, hi]), h1.froz i⟩
theorem NB.own {w : World} {g n base : Nat} {l : List Int} (h : NB w g n l n) (hn : l.length = n) (hl : n <= 1000000000000) (hb : base <= g) : OwI w base (.slice (some ⟨g, 0, none⟩) n n) l := by
 obtain ⟨cur, h1, h2, h3⟩ := h
 subst hn
 refine ⟨by simp [ibs7], Or.inr ⟨g, l.length, cur, rfl, hb, h1, Nat.le_refl _, by unfold maxLen; omega, by omega, ?_⟩⟩
 apply List.ext_getElem?
 intro i
 by_cases hi : i < l.length
 ·rw [List.getElem?_take_of_lt (by omega)]
  have := h3 i l[i] hi (by simp [hi])
  rw [<- Array.getElem?_toList] at this
  rw [this]
  simp [ibs7, hi]
 ·rw [List.getElem?_eq_none (by simp; omega), List.getElem?_eq_none (by simp [ibs7]; omega)]
theorem nums7_len (cols : List Nat) (r : List Int) : (nums7 cols r).length = cols.length := by simp [nums7]
theorem nums7_w {cols : List Nat} {r : List Int} (h : w64 r) : w64 (nums7 cols r) := by
 intro x hx
 simp only [nums7, List.mem_map] at hx
 obtain ⟨c, -, rfl⟩ := hx
 cases hc : r[c]? with
 | none => simp; decide
 | some y => simp; exact h y (List.mem_of_getElem? hc)
theorem nat7_len (l : List Nat) : (nat7 l).length = l.length := by simp [nat7]
set_option maxRecDepth 20000 in
set_option maxHeartbeats 1000000 in
theorem numbersOf7_any (gx : Nat) (S G : Nat -> Prop) (cv m k : Value) (cols : List Nat) (v : Value) (r : List Int) (w : World) (h : Bk w gx #[cv, m, k] 197) (hc : Li S w cv (nat7 cols)) (hv : Li G w v r) (hl : cols.length <= 10000000000) (hr : ∀ c ∈ cols, c < r.length) :
  Calls Tryz.prog 174 #[.pointer (some ⟨gx, 0, none⟩), v] w fun e w' => ∃ v', e = .returned v' /\ OwI w' w.heap.size v' (nums7 cols r) /\ Below w.heap.size w w' := by
 have c0 := h.cell (i := 0) rfl
 have hgx := h.lt
 have HW := hm7 hv.w
 obtain ⟨a, cap, rfl, -, -, -, h4⟩ := hc
 obtain ⟨a', cap', rfl, -, -, -, h5⟩ := hv
 obtain ⟨n, hn⟩ : ∃ n, cols.length = n := ⟨_, rfl⟩
 rw [nat7_len, hn] at c0
 have HN := hm7 hn
 have hmk := mk_ints7 n (by omega) w
 clear h
 go_enter Tryz.func174, Tryz.ntmps174
 have c0' := ((below1 w (.cells (madeCells #[.int .i64 0] n) 3)).cell (p := ⟨gx, 0, none⟩) hgx).trans c0
 go_wp2
 go_loopg [19] n (fun g i wr => ∃ j : Nat, j + g = n /\ i = .int .i64 j /\ NB wr w.heap.size n (nums7 cols r) j /\ Below w.heap.size w wr)
 case atStart => exact ⟨0, by omega, rfl, NB.new _ _ _, below1 _ _⟩
 case round =>
  obtain ⟨j, hj, rfl, hw, hb⟩ := hrel
  have HB := hm7 hb
  have HNB := hm7 hw
  cases gk with
  | succ g =>
   have hlt : (j : Int) < (n : Int) := by omega
   have j0 : (0 : Int) <= (j : Int) := by omega
   obtain ⟨c, hc⟩ : ∃ c, cols[j]? = some c := ⟨_, List.getElem?_eq_getElem (by omega)⟩
   have hcr := hr c (List.mem_of_getElem? hc)
   obtain ⟨x, hx⟩ : ∃ x, r[c]? = some x := ⟨_, List.getElem?_eq_getElem hcr⟩
   have HX : Hid ((nums7 cols r)[j]? = some x) := by show _ = _; simp [nums7, hc, hx]
   rcases h4 with ⟨h4, -⟩ | ⟨b, o, rfl, hb1, -, h4⟩
   ·have e : cols.length = 0 := by have q := congrArg List.length h4; rw [nat7_len] at q; exact q
    omega
   rcases h5 with ⟨h5, -⟩ | ⟨b', o', rfl, hb2, -, h5⟩
   ·rw [h5] at hcr; simp at hcr
   have p0 := h4 j (c : Int) (by simp [nat7, hc])
   have p1 := h5 c x hx
   rw [<- hb.cell (p := ⟨b, _, none⟩) hb1] at p0
   rw [<- hb.cell (p := ⟨b', _, none⟩) hb2] at p1
   obtain ⟨u, s0, s1⟩ := hw.cell (i := j) (by omega)
   have hcr2 : (c : Int) < (r.length : Int) := by omega
   have c00 : (0 : Int) <= (c : Int) := by omega
   clear h4 h5 hw hb hr hc hx
   go_wp2
   go_roundg g
   case measure => omega
   case rel => exact ⟨j + 1, by omega, by go_num, HNB.out.put HX.out (by omega), HB.out.setCell (p := ⟨w.heap.size, j, none⟩) (Nat.le_refl _) _⟩
  | zero =>
   have hlt : ¬ (j : Int) < (n : Int) := by omega
   obtain rfl : j = n := by omega
   clear h4 h5 hw hb
   go_wp2
   go_ret
   exact ⟨_, rfl, HNB.out.own (by rw [nums7_len]; exact HN.out) (by omega) (Nat.le_refl _), HB.out⟩
end Go.Proofs.YtechceagghcipabGreatDoor
namespace Go.Proofs.YtechceagghcipabGreatDoor
open Go.RowKit
attribute [local go_sem ↓] Go.wp_at_zero Go.wp_at_succ
theorem grp_succ (rows : List (List Int)) (cols : List Nat) (p : Nat) (k : ByteArray) : grp rows cols (p + 1) k = grp rows cols p k ++ if tx (nums7 cols (rows[p]?.getD [])) = k then [p] else [] := by
 unfold grp
 rw [List.range_succ, List.filter_append]
 congr 1
 by_cases h : tx (nums7 cols (rows[p]?.getD [])) = k
 ·rw [if_pos h]; simp [h]
 ·rw [if_neg h]; simp [h]
theorem nat7_w {l : List Nat} (h : ∀ i ∈ l, i < 9223372036854775808) : w64 (nat7 l) := by
 intro x hx
 simp only [nat7, List.mem_map] at hx
 obtain ⟨i, hi, rfl⟩ := hx
 have := h i hi
 simp [Lit.wf, IntKind.min, IntKind.max, IntKind.signed, IntKind.bits]
 omega
theorem grp_lt {rows : List (List Int)} {cols : List Nat} {p : Nat} {k : ByteArray} : ∀ i ∈ grp rows cols p k, i < p := by
 intro i hi
 unfold grp at hi
 exact List.mem_range.1 (List.mem_filter.1 hi).1
theorem grp_len (rows : List (List Int)) (cols : List Nat) (p : Nat) (k : ByteArray) : (grp rows cols p k).length <= p := by
 unfold grp
 have := List.length_filter_le (fun i => decide (tx (nums7 cols (rows[i]?.getD [])) = k)) (List.range p)
 rwa [List.length_range] at this
structure IXe (w : World) (gx : Nat) (f S : Nat -> Prop) (rows : List (List Int)) (cols : List Nat) (tk n : Nat) (cv : Value) (m c : Nat) (t : ByteArray -> Option Value) : Prop where
 b : Bk w gx #[cv, .map (some m), .int .i64 (tk : Int)] 197
 l : Li S w cv (nat7 cols)
 p : Mp Tryz.prog 9 w m c t
 fg : f gx
 fm : f m
 c : c <= n
 no : ∀ k, t k = none -> grp rows cols n k = []
 ok : ∀ k v, t k = some v -> grp rows cols n k ≠ [] /\ OwI w 0 v (nat7 (grp rows cols n k)) /\ ∀ b, v.ownBlock = some b -> f b
 d : ∀ k k' v v', t k = some v -> t k' = some v' -> k ≠ k' -> v.ownBlock ≠ v'.ownBlock
theorem IX.e {w : World} {gx : Nat} {f S : Nat -> Prop} {rows : List (List Int)} {cols : List Nat} {n : Nat} (h : IX w gx f S rows cols n) : ∃ cv m c t, IXe w gx f S rows cols n n cv m c t := by
 obtain ⟨cv, m, c, t, h1, h2, h3, h4, h5, h6, h7, h8, h9⟩ := h.ex
 exact ⟨cv, m, c, t, h1, h2, h3, h4, h5, h6, h7, h8, h9⟩
theorem IXe.ix {w : World} {gx : Nat} {f S : Nat -> Prop} {rows : List (List Int)} {cols : List Nat} {n : Nat} {cv : Value} {m c : Nat} {t : ByteArray -> Option Value} (h : IXe w gx f S rows cols n n cv m c t) : IX w gx f S rows cols n :=
 ⟨cv, m, c, t, h.b, h.l, h.p, h.fg, h.fm, h.c, h.no, h.ok, h.d⟩
theorem IXe.below {w w' : World} {gx : Nat} {f S : Nat -> Prop} {rows : List (List Int)} {cols : List Nat} {tk n : Nat} {cv : Value} {m c : Nat} {t : ByteArray -> Option Value} (h : IXe w gx f S rows cols tk n cv m c t) (hb : Below w.heap.size w w') : IXe w' gx f S rows cols tk n cv m c t :=
 ⟨h.b.below hb, h.l.below hb, h.p.below hb, h.fg, h.fm, h.c, h.no, fun k v hv => ⟨(h.ok k v hv).1, row7_below (h.ok k v hv).2.1 hb, (h.ok k v hv).2.2⟩, h.d⟩
def at7 (t : ByteArray -> Option Value) (k : ByteArray) : Value := (t k).getD (.slice none 0 0)
theorem IXe.at_ {w : World} {gx : Nat} {f S : Nat -> Prop} {rows : List (List Int)} {cols : List Nat} {tk n : Nat} {cv : Value} {m c : Nat} {t : ByteArray -> Option Value} (h : IXe w gx f S rows cols tk n cv m c t) (k : ByteArray) : OwI w 0 (at7 t k) (nat7 (grp rows cols n k)) /\ ∀ b, (at7 t k).ownBlock = some b -> f b /\ t k = some (at7 t k) := by
 unfold at7
 cases hk : t k with
 | none =>
  rw [h.no k hk]
  exact ⟨OwI.nil _ _, fun b hb => by cases hb⟩
 | some v => exact ⟨(h.ok k v hk).2.1, fun b hb => ⟨(h.ok k v hk).2.2 b hb, rfl⟩⟩
theorem IXe.step {w3 w4 w5 : World} {gx : Nat} {f S : Nat -> Prop} {rows : List (List Int)} {cols : List Nat} {tk p : Nat} {cv : Value} {m c c' : Nat} {t : ByteArray -> Option Value} {k : ByteArray} {g2 cap2 n2 : Nat} (h : IXe w3 gx f S rows cols tk p cv m c t)
  (hfS : ∀ b, f b -> ¬ S b) (hS : ∀ b, S b -> b < w3.heap.size) (hf : ∀ b, f b -> b < w3.heap.size) (hk : tx (nums7 cols (rows[p]?.getD [])) = k) (hn : (nat7 (grp rows cols p k)).length = n2)
  (ho : w4.ownsRow 0 3 1 (.slice (some ⟨g2, 0, none⟩) (n2 + 1) cap2) (n2 + 1) (ibs7 (nat7 (grp rows cols p k)) ++ [.int .i64 (p : Int)])) (hg : w3.grownBy w4 (at7 t k).ownBlock) (hv : (at7 t k).ownBlock = some g2 ∨ g2 = w3.heap.size)
  (hm : Mp Tryz.prog 9 w5 m c' (mput t k (.slice (some ⟨g2, 0, none⟩) (n2 + 1) cap2))) (hc : c' <= p + 1) (hg5 : w4.grownBy w5 (some m)) :
  IXe w5 gx (fun b => f b ∨ b = g2) S rows cols tk (p + 1) cv m c' (mput t k (.slice (some ⟨g2, 0, none⟩) (n2 + 1) cap2)) := by
 obtain ⟨ha, hb⟩ := h.at_ k
 have nm : ∀ {b : Nat} {e : TypeId} {cur : Array Value} {w : World}, Bk w b cur e -> w.heap[m]? = w3.heap[m]? -> b ≠ m := fun {b e cur w} hc hw e' => by
  have q := h.p.same (w' := w) hw
  rw [<- e'] at q
  exact q.notcells hc
 have m4 : w4.heap[m]? = w3.heap[m]? := hg.block m h.p.lt fun e => by
  obtain ⟨cur, hc⟩ := row7_blk ha e.symm
  exact h.p.notcells hc
 -- blocks of w3 that neither the list nor the map is
 have kp : ∀ b, b < w3.heap.size -> b ≠ m -> (at7 t k).ownBlock ≠ some b -> w5.heap[b]? = w3.heap[b]? := fun b hl hn hr => (hg5.block b (Nat.lt_of_lt_of_le hl hg.size) fun e => hn (by cases e; rfl)).trans (hg.block b hl fun e => hr e.symm)
 have gxm : gx ≠ m := nm h.b rfl
 have gxr : (at7 t k).ownBlock ≠ some gx := fun e => by
  obtain ⟨cur, hc⟩ := row7_blk ha e
  have := h.b.ty hc
  revert this
  decide
 have sz : w3.heap.size <= w5.heap.size := Nat.le_trans hg.size hg5.size
 have g2m : g2 ≠ m := by
  obtain ⟨cur, hc⟩ := row7_blk ho (b := g2) rfl
  exact nm hc m4
 refine ⟨(kp gx h.b.lt gxm gxr).trans h.b, h.l.same sz fun b hSb _ => kp b (hS b hSb) (fun e => hfS m h.fm (e ▸ hSb)) (fun e => hfS b (hb b e).1 hSb), hm, Or.inl h.fg, Or.inl h.fm, hc, fun k' hk' => ?_, fun k' v hv' => ?_, fun k1 k2 v1 v2 h1 h2 hne => ?_⟩
 ·unfold mput at hk'
  by_cases e : k' = k
  ·rw [if_pos e] at hk'; cases hk'
  ·rw [if_neg e] at hk'
   rw [grp_succ, h.no k' hk', hk, if_neg (fun e' => e e'.symm)]
   rfl
 ·unfold mput at hv'
  by_cases e : k' = k
  ·subst e
   rw [if_pos rfl] at hv'
   cases hv'
   rw [grp_succ, if_pos hk]
   refine ⟨by simp, ?_, fun b hb' => Or.inr (by cases hb'; rfl)⟩
   unfold OwI
   have e2 : nat7 (grp rows cols p k' ++ [p]) = nat7 (grp rows cols p k') ++ [(p : Int)] := by simp [nat7]
   rw [e2, List.length_append, hn, show ibs7 (nat7 (grp rows cols p k') ++ [(p : Int)]) = ibs7 (nat7 (grp rows cols p k')) ++ [.int .i64 (p : Int)] by simp [ibs7]]
   exact row7 ho fun b hb' => by
    cases hb'
    exact hg5.block g2 (World.ownsRow.lt ho g2 rfl).2 fun e => g2m (by cases e; rfl)
  ·rw [if_neg e] at hv'
   obtain ⟨q1, q2, q3⟩ := h.ok k' v hv'
   rw [grp_succ, hk, if_neg (fun e' => e e'.symm), List.append_nil]
   refine ⟨q1, row7 q2 fun b hb' => ?_, fun b hb' => Or.inl (q3 b hb')⟩
   refine kp b (World.ownsRow.lt q2 b hb').2 ?_ ?_
   ·intro e'
    obtain ⟨cur, hc⟩ := row7_blk q2 hb'
    exact nm hc rfl e'
   ·intro e'
    exact h.d k' k v _ hv' (hb b e').2 e (hb'.trans e'.symm)
 ·have old : ∀ k' v', k' ≠ k -> t k' = some v' -> v'.ownBlock ≠ some g2 := fun k' v' hne h' e => by
   rcases hv with hv | hv
   ·exact h.d k' k v' _ h' (hb g2 hv).2 hne (e.trans hv.symm)
   ·have := hf g2 ((h.ok k' v' h').2.2 g2 e)
    omega
  unfold mput at h1 h2
  by_cases e1 : k1 = k
  ·rw [if_pos e1] at h1
   cases h1
   rw [if_neg (fun e => hne (e1.trans e.symm))] at h2
   exact fun e => old k2 v2 (fun e2 => hne (e1.trans e2.symm)) h2 e.symm
  ·rw [if_neg e1] at h1
   by_cases e2 : k2 = k
   ·rw [if_pos e2] at h2
    cases h2
    exact old k1 v1 e1 h1
   ·rw [if_neg e2] at h2
    exact h.d k1 k2 v1 v2 h1 h2 hne
theorem zero7s (X : World) : (zeroValue 67).run Tryz.prog X = .ok (.slice none 0 0) X := by kernel_rfl
theorem tk_blk {U0 U3 : World} {gx : Nat} {cs : Array Value} {o : Obj} {v : Value} {n0 : Nat} {xs : List Value} (ha : U0.ownsRow 0 3 1 v n0 xs) (hH : Bk (U0.alloc o) gx cs 197) (hg : (U0.alloc o).grownBy U3 v.ownBlock) : Bk U3 gx cs 197 := by
 refine (hg.block gx hH.lt fun e => ?_).trans hH
 obtain ⟨cur, hc⟩ := row7_blk (row7_below ha (below1 _ o)) e.symm
 have := hH.ty hc
 revert this
 decide
theorem tk_map {U0 U3 : World} {m c : Nat} {t : ByteArray -> Option Value} {o : Obj} {v : Value} {n0 : Nat} {xs : List Value} (ha : U0.ownsRow 0 3 1 v n0 xs) (hm : Mp Tryz.prog 9 (U0.alloc o) m c t) (hg : (U0.alloc o).grownBy U3 v.ownBlock) : Mp Tryz.prog 9 U3 m c t := by
 refine hm.same (hg.block m hm.lt fun e => ?_)
 obtain ⟨cur, hc⟩ := row7_blk (row7_below ha (below1 _ o)) e.symm
 exact hm.notcells hc
structure TKI (w : World) (gx : Nat) (f S : Nat -> Prop) (rows : List (List Int)) (cols : List Nat) (tk : Nat) (cv : Value) (m : Nat) (wr : World) (p : Nat) (f1 : Nat -> Prop) (c : Nat) (t : ByteArray -> Option Value) : Prop where
 e : IXe wr gx f1 S rows cols tk p cv m c t
 r : Fr f w wr
 a : ∀ b, f b -> f1 b
 d : ∀ b, f1 b -> f b ∨ w.heap.size <= b
 l : ∀ b, f1 b -> b < wr.heap.size
structure TKH (w : World) (f S : Nat -> Prop) : Prop where
 fS : ∀ b, f b -> ¬ S b
 hS : ∀ b, S b -> b < w.heap.size
 hf : ∀ b, f b -> b < w.heap.size
theorem tk_rel {w U0 U3 U4 : World} {gx : Nat} {f f1 S : Nat -> Prop} {rows : List (List Int)} {cols : List Nat} {tk p : Nat} {cv : Value} {m c : Nat} {t : ByteArray -> Option Value} {k : ByteArray} {ua : Option Addr} {un uc g2 cap2 n2 : Nat} (h : IXe U0 gx f1 S rows cols tk p cv m c t) (hF : Fr f w U0)
  (hin : TKH w f S /\ (∀ b, f b -> f1 b) /\ (∀ b, f1 b -> f b ∨ w.heap.size <= b) /\ ∀ b, f1 b -> b < U0.heap.size) (hk : tx (nums7 cols (rows[p]?.getD [])) = k) (hn : (nat7 (grp rows cols p k)).length = n2) (ha : at7 t k = .slice ua un uc)
  (ho : U3.ownsRow 0 3 1 (.slice (some ⟨g2, 0, none⟩) (n2 + 1) cap2) (n2 + 1) (ibs7 (nat7 (grp rows cols p k)) ++ [.int .i64 (p : Int)])) (hg : (U0.alloc (.cells #[.int .i64 (p : Int)] 3)).grownBy U3 (Value.ownBlock (.slice ua un uc))) (hv : Value.ownBlock (.slice ua un uc) = some g2 ∨ g2 = (U0.alloc (.cells #[.int .i64 (p : Int)] 3)).heap.size)
  (hm : Mp Tryz.prog 9 U4 m (if (t k).isSome then c else c + 1) (mput t k (.slice (some ⟨g2, 0, none⟩) (n2 + 1) cap2))) (hg5 : U3.grownBy U4 (some m)) (_hp : p < 10000000000) (hsz : w.heap.size <= U0.heap.size) :
  ∃ p' f1 c t, p' = p + 1 /\ TKI w gx f S rows cols tk cv m U4 p' f1 c t := by
 obtain ⟨hT, hi1, hi2, hi3⟩ := hin
 have h' := h.below (below1 U0 (.cells #[.int .i64 (p : Int)] 3))
 have s1 : (U0.alloc (.cells #[.int .i64 (p : Int)] 3)).heap.size = U0.heap.size + 1 := by simp
 rw [<- ha] at hg hv
 have hS : ∀ b, S b -> b < (U0.alloc (.cells #[.int .i64 (p : Int)] 3)).heap.size := fun b hb => by have := hT.hS b hb; omega
 have hfS : ∀ b, f1 b -> ¬ S b := fun b hb hS => by
  rcases hi2 b hb with h1 | h1
  ·exact hT.fS b h1 hS
  ·have := hT.hS b hS; omega
 have hc : (if (t k).isSome then c else c + 1) <= p + 1 := by have := h.c; split <;> omega
 have st := h'.step hfS hS (fun b hb => by have := hi3 b hb; omega) hk hn ho hg hv hm hc hg5
 have own := (h.at_ k).2
 refine ⟨_, _, _, _, rfl, st, ?_, fun b hb => Or.inl (hi1 b hb), ?_, ?_⟩
 ·refine ((hF.alloc _).trans (Q := fun b => (at7 t k).ownBlock = some b) (Fr.grown hg fun b e => e) fun b hb e => ?_).trans (Q := fun b => b = m) (Fr.grown hg5 fun b e => by cases e; rfl) fun b hb e => ?_
  ·rcases hi2 b (own b e).1 with h1 | h1
   ·exact h1
   ·omega
  ·subst e
   rcases hi2 b h.fm with h1 | h1
   ·exact h1
   ·omega
 ·rintro b (hb | rfl)
  ·exact hi2 b hb
  ·rcases hv with h1 | h1
   ·exact hi2 b (own b h1).1
   ·right; omega
 ·rintro b (hb | rfl)
  ·have := hi3 b hb; have := hg.size; have := hg5.size; omega
  ·exact Nat.lt_of_lt_of_le (World.ownsRow.lt ho b rfl).2 hg5.size
theorem IXe.put {w : World} {gx : Nat} {f S : Nat -> Prop} {rows : List (List Int)} {cols : List Nat} {tk n tk' : Nat} {cv : Value} {m c : Nat} {t : ByteArray -> Option Value} (h : IXe w gx f S rows cols tk n cv m c t) (hS : ¬ S gx) : IXe (w.setCell ⟨gx, 2, none⟩ (.int .i64 (tk' : Int))) gx f S rows cols tk' n cv m c t := by
 have oth : ∀ b, b ≠ gx -> (w.setCell ⟨gx, 2, none⟩ (.int .i64 (tk' : Int))).heap[b]? = w.heap[b]? := fun b hn => heap_setCell_other _ _ _ _ hn
 have hb := h.b.set 2 (.int .i64 (tk' : Int))
 refine ⟨hb, h.l.same (by simp) fun b hSb _ => oth b fun e => hS (e ▸ hSb), h.p.same (oth m fun e => by have q := h.p; rw [e] at q; exact q.notcells h.b), h.fg, h.fm, h.c, h.no, fun k v hv => ⟨(h.ok k v hv).1, row7 (h.ok k v hv).2.1 fun b hb' => oth b fun e => ?_, (h.ok k v hv).2.2⟩, h.d⟩
 obtain ⟨cur, hc⟩ := row7_blk (h.ok k v hv).2.1 hb'
 have := h.b.ty (e ▸ hc)
 revert this
 decide
set_option maxRecDepth 20000 in
set_option maxHeartbeats 2000000 in
theorem takeIn7_any (gx : Nat) (f S : Nat -> Prop) (rows : List (List Int)) (cols : List Nat) (n : Nat) (rv : Value) (rvs : List Value) (w : World) (h : IX w gx f S rows cols n) (hr : Rws w S rv rvs rows) (hT : TKH w f S) (hrv : ∀ b, rv.ownBlock = some b -> ¬ f b)
  (hn : n <= rows.length) (hl : rows.length <= 10000000000) (hcl : cols.length <= 10000000000) (hw : ∀ r ∈ rows, ∀ c ∈ cols, c < r.length) :
  Calls Tryz.prog 155 #[.pointer (some ⟨gx, 0, none⟩), rv] w fun e w' => e = .returned (.tuple #[]) /\ ∃ f1, IX w' gx f1 S rows cols rows.length /\ Fr f w w' /\ (∀ b, f b -> f1 b) /\ (∀ b, f1 b -> f b ∨ w.heap.size <= b) /\ (∀ b, f1 b -> b < w'.heap.size) := by
 obtain ⟨cv, m, c0, t0, he⟩ := h.e
 have HE0 := hm7 he
 have HR := hm7 hr
 have HT := hm7 hT
 have HRV := hm7 hrv
 have HW := hm7 hw
 have c2 := he.b.cell (i := 2) rfl
 obtain ⟨ra, rc, hrf, -⟩ := row7_form hr.1
 have HRF := hm7 hrf
 rw [hrf]
 obtain ⟨tk, htk⟩ : ∃ tk, n = tk := ⟨_, rfl⟩
 have HE1 : Hid (IXe w gx f S rows cols tk n cv m c0 t0) := by rw [<- htk]; exact he
 rw [htk] at c2
 have htk2 : tk <= rows.length := by omega
 clear h he hr hT hrv hw hrf HE0
 go_enter Tryz.func155, Tryz.ntmps155
 go_wp2
 go_loopg [4] (rows.length - tk) (fun g i wr => ∃ p f1 c t, p + g = rows.length /\ i = .int .i64 (p : Int) /\ TKI w gx f S rows cols tk cv m wr p f1 c t)
 case atStart => exact ⟨tk, f, c0, t0, by omega, rfl, by rw [<- htk] at HE1 ⊢; exact HE1.out, Fr.refl _ _, fun b hb => hb, fun b hb => Or.inl hb, HT.out.hf⟩
 case round =>
  obtain ⟨p, f1, c, t, hp, rfl, htki⟩ := hrel
  have HI := hm7 htki
  clear htki
  cases gk with
  | succ g =>
   have hlt : (p : Int) < (rows.length : Int) := by omega
   have p0 : (0 : Int) <= (p : Int) := by omega
   obtain ⟨r, hr⟩ : ∃ r, rows[p]? = some r := ⟨_, List.getElem?_eq_getElem (by omega)⟩
   obtain ⟨v, hv, hvl⟩ := HR.out.2 p r hr
   have hrow : w.ownsRow 0 67 1 (.slice ra rows.length rc) rows.length rvs := by rw [<- HRF.out]; exact HR.out.1
   obtain ⟨rg, e1, -, hgl, q1, -⟩ := row7_at hrow hv
   subst e1
   have hnf : ¬ f rg := HRV.out rg (by rw [HRF.out]; rfl)
   have q0 := HI.out.r.cell hgl hnf q1
   have HLV : Hid (Li S wr v r) := hvl.fr HI.out.r fun b hb hS hf => HT.out.fS b hf hS
   obtain ⟨KK, hK⟩ : ∃ KK, tx (nums7 cols r) = KK := ⟨_, rfl⟩
   have HRP : Hid (tx (nums7 cols (rows[p]?.getD [])) = KK) := by rw [hr]; exact hK
   have HKS : Hid (KK.size <= 100000000000 /\ tx (nums7 cols (rows[p]?.getD [])) = KK) := ⟨by rw [<- hK, tx_size, nums7_len]; omega, HRP.out⟩
   have hcr : ∀ c ∈ cols, c < r.length := HW.out r (List.mem_of_getElem? hr)
   obtain ⟨n2, hn2⟩ : ∃ n2, (nat7 (grp rows cols p KK)).length = n2 := ⟨_, rfl⟩
   have HN2 : Hid ((nat7 (grp rows cols p KK)).length = n2 /\ n2 <= 10000000000) := ⟨hn2, by rw [<- hn2, nat7_len]; have := grp_len rows cols p KK; omega⟩
   obtain ⟨ua, un, uc, hat⟩ := ow_form (HI.out.e.at_ KK).1
   have HAT : Hid (at7 t KK = .slice ua un uc) := hat
   have HOA : Hid (∀ X : World, IXe X gx f1 S rows cols tk p cv m c t -> X.ownsRow 0 3 1 (.slice ua un uc) n2 (ibs7 (nat7 (grp rows cols p KK)))) := fun X hX => by rw [<- hat, <- hn2]; exact (hX.at_ KK).1
   have HIN : Hid (TKH w f S /\ (∀ b, f b -> f1 b) /\ (∀ b, f1 b -> f b ∨ w.heap.size <= b) /\ ∀ b, f1 b -> b < wr.heap.size) := ⟨HT.out, HI.out.a, HI.out.d, HI.out.l⟩
   have HNU : Hid (Calls Tryz.prog 174 #[.pointer (some ⟨gx, 0, none⟩), v] wr fun e w' => ∃ v', e = .returned v' /\ OwI w' wr.heap.size v' (nums7 cols r) /\ Below wr.heap.size wr w') := numbersOf7_any gx S S cv _ _ cols v r wr HI.out.e.b HI.out.e.l HLV.out hcl hcr
   have HTX : Hid (∀ (X : World) (u : Value), OwI X wr.heap.size u (nums7 cols r) -> Calls Tryz.prog 66 #[u] X fun e w' => e = .returned (.string KK) /\ Below X.heap.size X w') := fun X u hu => by
    rw [<- hK]; exact text_any _ _ u X (hu.li (nums7_w HLV.out.w)) (by rw [nums7_len]; exact hcl)
   obtain ⟨va, vn, vc, rfl⟩ : ∃ a n c, v = .slice a n c := by obtain ⟨a, cap, e, -⟩ := hvl; exact ⟨_, _, _, e⟩
   clear hr hv hvl hrow q1 hnf hK hcr hn2 hat
   go_upto_region 4 with (first | (go_at_call 174; refine HNU.out.mono ?_; rintro e w1 ⟨v1, rfl, ho, hb⟩; have HO1 := hm7 ho; have HB1 := hm7 hb; obtain ⟨v1a, v1n, v1c, rfl⟩ := ow_form ho; clear ho hb) | (go_at_call 66; refine (HTX.out _ _ HO1.out).mono ?_; rintro e w2 ⟨rfl, hb⟩; have HB2 := hm7 hb; clear hb))
   have HE2 : Hid (IXe w2 gx f1 S rows cols tk p cv m c t) := (HI.out.e.below HB1.out).below HB2.out
   have HF2 : Hid (Fr f w w2) := (HI.out.r.then HB1.out).then HB2.out
   have HS2 : Hid (w.heap.size <= w2.heap.size /\ wr.heap.size <= w2.heap.size) := ⟨HF2.out.size, Nat.le_trans HB1.out.size HB2.out.size⟩
   clear HNU HTX HO1 HB1 HB2 HI HLV
   refine wp_region_held_drew (S := fun w' => Bk w' gx #[cv, .map (some m), .int .i64 (tk : Int)] 197) (by kernel_rfl) (show Bk w2.drew gx #[cv, .map (some m), .int .i64 (tk : Int)] 197 from HE2.out.b) (fun hH => ?_)
   have HE3 := hm7 (HE2.out.below (Below.refl _ _).drew)
   have HF3 := hm7 (show Fr f w w2.drew from HF2.out.drew)
   have HS3 : Hid (w.heap.size <= w2.drew.heap.size /\ wr.heap.size <= w2.drew.heap.size) := HS2.out
   clear HE2 HF2 HS2
   revert hH HE3 HF3 HS3
   generalize w2.drew = U0
   intro hH HE3 HF3 HS3
   refine wTl 0 (.pointer (some ⟨gx, 0, none⟩)) rfl (by kernel_rfl) (fun _ _ _ h => h) rfl (fun w' h => by clear h; go_simp) hH ?_
   simp only [wA, wB, wC, wD]
   refine wTl 1 (.pointer (some ⟨gx, 0, none⟩)) rfl (by kernel_rfl) (fun _ _ _ h => h) rfl (fun w' h => by clear h; go_simp) hH ?_
   simp only [wA, wB, wC, wD]
   refine wTl 2 (.pointer (some ⟨gx, 1, none⟩)) rfl (by kernel_rfl) (fun _ _ _ h => h) rfl (fun w' h => by clear h; go_simp) hH ?_
   simp only [wA, wB, wC, wD]
   refine wTl 3 (.map (some m)) rfl (by kernel_rfl) (fun _ _ _ h => h) rfl (fun w' h => by have q1 := h.cell (i := 1) rfl; clear h; go_simp) hH ?_
   simp only [wA, wB, wC, wD]
   refine wTl 4 (.string KK) rfl (by kernel_rfl) (fun _ _ _ h => h) rfl (fun w' h => by clear h; go_simp) hH ?_
   simp only [wA, wB, wC, wD]
   refine wTl 5 (.pointer (some ⟨gx, 0, none⟩)) rfl (by kernel_rfl) (fun _ _ _ h => h) rfl (fun w' h => by clear h; go_simp) hH ?_
   simp only [wA, wB, wC, wD]
   refine wTl 6 (.pointer (some ⟨gx, 0, none⟩)) rfl (by kernel_rfl) (fun _ _ _ h => h) rfl (fun w' h => by clear h; go_simp) hH ?_
   simp only [wA, wB, wC, wD]
   refine wTl 7 (.pointer (some ⟨gx, 1, none⟩)) rfl (by kernel_rfl) (fun _ _ _ h => h) rfl (fun w' h => by clear h; go_simp) hH ?_
   simp only [wA, wB, wC, wD]
   refine wTl 8 (.map (some m)) rfl (by kernel_rfl) (fun _ _ _ h => h) rfl (fun w' h => by have q1 := h.cell (i := 1) rfl; clear h; go_simp) hH ?_
   simp only [wA, wB, wC, wD]
   refine wTl 9 (.string KK) rfl (by kernel_rfl) (fun _ _ _ h => h) rfl (fun w' h => by clear h; go_simp) hH ?_
   simp only [wA, wB, wC, wD]
   refine wTl 11 (.int .i64 (p : Int)) rfl (by kernel_rfl) (fun _ _ _ h => h) rfl (fun w' h => by clear h; go_simp) hH ?_
   simp only [wA, wB, wC, wD]
   refine wpAnyH_ready (rs := [10, 12]) (by kernel_rfl) (by simp) ?_
   refine (AllReadyH.cons (o := ⟨_, _, _, _, _, _⟩) rfl (fun K hK => ?_) (AllReadyH.cons (o := ⟨_, _, _, _, _, _⟩) rfl (fun K hK => ?_) AllReadyH.nil))
   ·have hl := (HE3.out.p).at_ Tryz.underlying9 Tryz.underlying195 (zero7s _) (s := KK) (by have := HKS.out; unfold maxLen; omega)
    rw [show (t KK).getD (.slice none 0 0) = .slice ua un uc from HAT.out] at hl
    go_simp
    clear hl
    refine hK.out _ _ hH (fun hH => ?_)
    clear hK K
    try simp only [wA, wB, wC, wD]
    refine wRd 12 (by kernel_rfl) rfl (fun K hK => ?_)
    go_simp
    refine hK.out _ _ (hH.below (below1 _ _)) (fun hH => ?_)
    clear hK K
    try simp only [wA, wB, wC, wD]
    refine wRd 13 (by kernel_rfl) rfl (fun K hK => ?_)
    refine gstep Tryz.underlying67 Tryz.infoInt7 rfl (by omega) rfl _ _ rfl 0 (.slice ua un uc) n2 (ibs7 (nat7 (grp rows cols p KK))) (by rfl) (row7_below (HOA.out _ HE3.out) (below1 _ _)) U0.heap.size (.int .i64 (p : Int)) (by rfl) (Bk.new _ _ _) rfl (by have := HN2.out; omega) (Nat.zero_le _) ?_
    intro g2 cap2 U3 ho3 hg3 hv3 hl3
    have HO3 := hm7 ho3
    have HG3 := hm7 hg3
    have HV3 := hm7 hv3
    clear ho3 hg3 hv3 hl3
    refine hK.out _ _ (tk_blk (HOA.out _ HE3.out) hH HG3.out) (fun hH => ?_)
    clear hK K
    try simp only [wA, wB, wC, wD]
    refine wRd 14 (by kernel_rfl) rfl (fun K hK => ?_)
    obtain ⟨U4, hrun, hmp, hgr⟩ := (tk_map (HOA.out _ HE3.out) (HE3.out.p.below (below1 U0 (.cells #[.int .i64 (p : Int)] 3))) HG3.out).store Tryz.underlying9 Tryz.underlying195 (s := KK) (by have := HE3.out.c; unfold maxLen; omega) (by have := HKS.out; unfold maxLen; omega) (.slice (some ⟨g2, 0, none⟩) (n2 + 1) cap2)
    go_simp
    have HMP := hm7 hmp
    have HGR := hm7 hgr
    refine hK.out _ _ (hH.fr (Fr.grown (P := fun b => b = m) hgr (fun b e => by cases e; rfl)) (fun e => by have q := HE3.out.p; rw [<- e] at q; exact q.notcells HE3.out.b)) (fun hH => ?_)
    clear hK K hmp hgr hrun
    try simp only [wA, wB, wC, wD]
    refine wpAnyH_done (by kernel_rfl) ?_ _
    go_wp2
    go_roundg g
    case measure => omega
    case rel =>
     have HA : Hid (at7 t KK = .slice ua un uc) := HAT.out
     obtain ⟨p2, f2, c2, t2, hp2, ht2⟩ := tk_rel HE3.out HF3.out ⟨HIN.out.1, HIN.out.2.1, HIN.out.2.2.1, fun b hb => Nat.lt_of_lt_of_le (HIN.out.2.2.2 b hb) HS3.out.2⟩ (HKS.out).2 HN2.out.1 HA.out HO3.out HG3.out HV3.out HMP.out HGR.out (by omega) HS3.out.1
     exact ⟨p2, f2, c2, t2, by omega, by rw [hp2]; go_num, ht2⟩
   ·go_simp
    refine hK.out _ _ (hH.below (below1 _ _)) (fun hH => ?_)
    clear hK K
    try simp only [wA, wB, wC, wD]
    refine wRd 10 (by kernel_rfl) rfl (fun K hK => ?_)
    have hl := (HE3.out.p.below (below1 U0 (.cells #[.int .i64 (p : Int)] 3))).at_ Tryz.underlying9 Tryz.underlying195 (zero7s _) (s := KK) (by have := HKS.out; unfold maxLen; omega)
    rw [show (t KK).getD (.slice none 0 0) = .slice ua un uc from HAT.out] at hl
    go_simp
    clear hl
    refine hK.out _ _ hH (fun hH => ?_)
    clear hK K
    try simp only [wA, wB, wC, wD]
    refine wRd 13 (by kernel_rfl) rfl (fun K hK => ?_)
    refine gstep Tryz.underlying67 Tryz.infoInt7 rfl (by omega) rfl _ _ rfl 0 (.slice ua un uc) n2 (ibs7 (nat7 (grp rows cols p KK))) (by rfl) (row7_below (HOA.out _ HE3.out) (below1 _ _)) U0.heap.size (.int .i64 (p : Int)) (by rfl) (Bk.new _ _ _) rfl (by have := HN2.out; omega) (Nat.zero_le _) ?_
    intro g2 cap2 U3 ho3 hg3 hv3 hl3
    have HO3 := hm7 ho3
    have HG3 := hm7 hg3
    have HV3 := hm7 hv3
    clear ho3 hg3 hv3 hl3
    refine hK.out _ _ (tk_blk (HOA.out _ HE3.out) hH HG3.out) (fun hH => ?_)
    clear hK K
    try simp only [wA, wB, wC, wD]
    refine wRd 14 (by kernel_rfl) rfl (fun K hK => ?_)
    obtain ⟨U4, hrun, hmp, hgr⟩ := (tk_map (HOA.out _ HE3.out) (HE3.out.p.below (below1 U0 (.cells #[.int .i64 (p : Int)] 3))) HG3.out).store Tryz.underlying9 Tryz.underlying195 (s := KK) (by have := HE3.out.c; unfold maxLen; omega) (by have := HKS.out; unfold maxLen; omega) (.slice (some ⟨g2, 0, none⟩) (n2 + 1) cap2)
    go_simp
    have HMP := hm7 hmp
    have HGR := hm7 hgr
    refine hK.out _ _ (hH.fr (Fr.grown (P := fun b => b = m) hgr (fun b e => by cases e; rfl)) (fun e => by have q := HE3.out.p; rw [<- e] at q; exact q.notcells HE3.out.b)) (fun hH => ?_)
    clear hK K hmp hgr hrun
    try simp only [wA, wB, wC, wD]
    refine wpAnyH_done (by kernel_rfl) ?_ _
    go_wp2
    go_roundg g
    case measure => omega
    case rel =>
     have HA : Hid (at7 t KK = .slice ua un uc) := HAT.out
     obtain ⟨p2, f2, c2, t2, hp2, ht2⟩ := tk_rel HE3.out HF3.out ⟨HIN.out.1, HIN.out.2.1, HIN.out.2.2.1, fun b hb => Nat.lt_of_lt_of_le (HIN.out.2.2.2 b hb) HS3.out.2⟩ (HKS.out).2 HN2.out.1 HA.out HO3.out HG3.out HV3.out HMP.out HGR.out (by omega) HS3.out.1
     exact ⟨p2, f2, c2, t2, by omega, by rw [hp2]; go_num, ht2⟩
  | zero =>
   have hlt : ¬ (p : Int) < (rows.length : Int) := by omega
   obtain rfl : p = rows.length := by omega
   have q2 := HI.out.e.b.cell (i := 2) rfl
   have z2 := HI.out.e.b.froz 2
   go_wp2
   go_end0
   refine ⟨rfl, f1, ?_, HI.out.r.set (Or.inl HE1.out.fg), HI.out.a, HI.out.d, fun b hb => by simpa using HI.out.l b hb⟩
   exact (HI.out.e.put (tk' := rows.length) (HT.out.fS gx HE1.out.fg)).ix
end Go.Proofs.YtechceagghcipabGreatDoor
