import Derived.Test.YtechceagghcipabGreatDoorRA2
import Derived.Test.YtechceagghcipabGreatDoorRA6
namespace Go.Proofs.YtechceagghcipabGreatDoor
open Go.RowKit
attribute [local go_sem ↓] Go.wp_at_zero Go.wp_at_succ
def Add7 (s : St7) (r : List Int) : St7 := ⟨s.wd, s.rows ++ [r], s.nf, s.xf⟩
theorem plF_add {rows : List (List Int)} {r : List Int} (h : txi rows (tx r) = none) : plF (rows ++ [r]) = mput (plF rows) (tx r) (.int .i64 (rows.length : Int)) := by
 funext k
 unfold plF mput txi
 rw [List.findIdx?_append]
 by_cases e : k = tx r
 ·subst e
  rw [if_pos rfl]
  unfold txi at h
  rw [h]
  simp
 ·rw [if_neg e]
  have e2 : ¬ tx r = k := fun h => e h.symm
  cases hf : rows.findIdx? (fun r => decide (tx r = k)) with
  | some i => simp [hf]
  | none => simp [hf, e2]
theorem grp_app {rows : List (List Int)} {r : List Int} {cols : List Nat} {n : Nat} (h : n <= rows.length) (k : ByteArray) : grp (rows ++ [r]) cols n k = grp rows cols n k := by
 unfold grp
 apply List.filter_congr
 intro i hi
 rw [List.mem_range] at hi
 rw [List.getElem?_append_left (by omega)]
theorem IX.rows {w : World} {gx : Nat} {f S : Nat -> Prop} {rows rows' : List (List Int)} {cols : List Nat} {n : Nat} (h : IX w gx f S rows cols n) (he : ∀ k, grp rows' cols n k = grp rows cols n k) : IX w gx f S rows' cols n := by
 obtain ⟨cv, m, c, t, h1, h2, h3, h4, h5, h6, h7, h8, h9⟩ := h.ex
 exact ⟨cv, m, c, t, h1, h2, h3, h4, h5, h6, fun k hk => by rw [he]; exact h7 k hk, fun k v hv => by rw [he]; exact h8 k v hv, h9⟩
theorem row7_blk {w : World} {base n m : Nat} {e : TypeId} {v : Value} {xs : List Value} (h : w.ownsRow base e n v m xs) {b : Nat} (hb : v.ownBlock = some b) : ∃ cur, Bk w b cur e := by
 rcases h.2 with ⟨rfl, -⟩ | ⟨g, cap, cur, rfl, -, hg, -⟩
 ·cases hb
 ·cases hb; exact ⟨cur, hg⟩
theorem Bk.ty {w : World} {b : Nat} {c c' : Array Value} {t t' : TypeId} (h : Bk w b c t) (h' : Bk w b c' t') : t = t' := by
 unfold Bk at h h'
 rw [h] at h'
 simp at h'
 exact h'.2
theorem Mp.notcells {P : Program} {k : TypeId} {w : World} {b n : Nat} {f : ByteArray -> Option Value} (h : Mp P k w b n f) {c : Array Value} {t : TypeId} (h' : Bk w b c t) : False := by
 obtain ⟨D, ⟨es, clock, h1, -⟩, -⟩ := h.ex
 unfold Bk at h'
 rw [h'] at h1
 cases h1
theorem RX.add {w V : World} {g : Nat} {F S : Nat -> Prop} {s : St7} {rv v' cv : Value} {rvs : List Value} {mp mx nx : Nat} {t : ByteArray -> Option Value} {f : ByteArray -> Nat -> Prop} {r : List Int} {m : Nat} (hnx : nx <= m) (h : RX w g F S s 0 rv rvs mp mx nx t f)
  (hr : r.length = s.wd) (hw : w64 r) (hl : r.length <= 10000000000) (hn : txi s.rows (tx r) = none) (hc : s.rows.length < 10000000000) (sz : w.heap.size <= V.heap.size)
  (ag : ∀ b, b < w.heap.size -> b ≠ g -> b ≠ mp -> rv.ownBlock ≠ some b -> V.heap[b]? = w.heap[b]?)
  (hp : Mp Tryz.prog 9 V mp (s.rows.length + 1) (mput (plF s.rows) (tx r) (.int .i64 (s.rows.length : Int))))
  (hg : Bk V g #[.int .i64 (s.wd : Int), v', .int .i64 (s.nf : Int), .int .i64 (s.xf : Int), .map (some mp), .int .i32 0, .int .u32 0, .map (some mx)] 118)
  (ho : V.ownsRow 0 67 1 v' (s.rows.length + 1) (rvs ++ [cv])) (hv : ∀ b, v'.ownBlock = some b -> rv.ownBlock = some b ∨ w.heap.size <= b)
  (ho2 : OwI V 0 cv r) (hcv : ∀ b, cv.ownBlock = some b -> w.heap.size <= b) :
  ∃ F' S', RM V g F' S' m (Add7 s r) /\ (∀ b, F' b -> F b ∨ w.heap.size <= b) /\ (∀ b, S' b -> S b ∨ w.heap.size <= b) /\ (∀ b, F b -> F' b) /\ (∀ b, S b -> S' b) := by
 have hrl : rvs.length = s.rows.length := by rw [h.r.1.1, Nat.mul_one]
 have agS : ∀ b, S b -> V.heap[b]? = w.heap[b]? := fun b hS => ag b (h.q2 b hS) (fun e => (h.q g h.Fg).1 (e ▸ hS)) (fun e => (h.q mp h.Fp).1 (e ▸ hS)) (fun e => (h.q b (h.Fr b e)).1 hS)
 have nmx : V.heap[mx]? = w.heap[mx]? := ag mx h.x.lt (fun e => by have q := h.x; rw [e] at q; exact q.notcells h.b) (fun e => h.pm e.symm) (fun e => by
  obtain ⟨cur, hc⟩ := row7_blk h.r.1 e
  exact h.x.notcells hc)
 have cvv : ∀ b, cv.ownBlock = some b -> v'.ownBlock ≠ some b := fun b h1 h2 => by
  obtain ⟨c1, k1⟩ := row7_blk ho2 h1
  obtain ⟨c2, k2⟩ := row7_blk ho h2
  have := k1.ty k2
  revert this
  decide
 refine ⟨fun b => F b ∨ v'.ownBlock = some b, fun b => S b ∨ cv.ownBlock = some b, ⟨v', rvs ++ [cv], mp, mx, nx, t, f, hnx, ?_⟩, ?_, ?_, fun b hb => Or.inl hb, fun b hb => Or.inl hb⟩
 ·refine ⟨⟨?_, ?_, ?_, h.ok.a, ?_, ?_, ?_, h.ok.e⟩, hg, ⟨?_, ?_⟩, ?_, h.x.same nmx, ?_, Or.inl h.Fg, fun b hb => Or.inr hb, Or.inl h.Fp, Or.inl h.Fx, ?_, h.d, ?_, h.pm, ?_⟩
  ·show (s.rows ++ [r]).Nodup
   rw [List.nodup_append]
   refine ⟨h.ok.nd, by simp, fun a ha b hb e => ?_⟩
   rw [List.mem_singleton] at hb
   subst hb
   subst e
   exact txi_none hn a ha rfl
  ·intro x hx
   rcases List.mem_append.1 hx with hx | hx
   ·exact h.ok.wid x hx
   ·rw [List.mem_singleton] at hx; rw [hx]; exact hr
  ·intro x hx
   rcases List.mem_append.1 hx with hx | hx
   ·exact h.ok.w x hx
   ·rw [List.mem_singleton] at hx; rw [hx]; exact hw
  ·show s.xf <= (s.rows ++ [r]).length
   rw [List.length_append]; have := h.ok.b; omega
  ·show (s.rows ++ [r]).length <= _
   rw [List.length_append]; simp; omega
  ·intro _; show s.wd <= _; omega
  ·show V.ownsRow 0 67 1 v' (s.rows ++ [r]).length (rvs ++ [cv])
   rw [List.length_append]; exact ho
  ·intro i x hx
   by_cases hi : i < s.rows.length
   ·rw [show (Add7 s r).rows = s.rows ++ [r] from rfl, List.getElem?_append_left hi] at hx
    obtain ⟨u, h1, h2⟩ := h.r.2 i x hx
    exact ⟨u, by rw [List.getElem?_append_left (by omega)]; exact h1, (h2.same sz fun b hS _ => agS b hS).mono fun b _ hS => Or.inl hS⟩
   ·rw [show (Add7 s r).rows = s.rows ++ [r] from rfl, List.getElem?_append_right (by omega)] at hx
    have hi2 : i - s.rows.length = 0 := by
     have := (List.getElem?_eq_some_iff.1 hx).1
     simp at this; omega
    rw [hi2] at hx
    simp at hx
    subst hx
    exact ⟨cv, by rw [List.getElem?_append_right (by omega), hrl, hi2]; rfl, (ho2.li hw).mono fun b _ hb => Or.inr hb.2⟩
  ·show Mp _ _ V mp (s.rows ++ [r]).length (plF (s.rows ++ [r]))
   rw [List.length_append, plF_add hn]; exact hp
  ·intro k u hu
   obtain ⟨gx, cols, n, h1, h2, h3, h4, h5, h6⟩ := h.i k u hu
   refine ⟨gx, cols, n, h1, h2, h3, h4, by show n <= (s.rows ++ [r]).length; rw [List.length_append]; omega, ?_⟩
   refine ((h6.same sz fun b hb _ => ?_).mono (fun b hb => hb) (fun b hb => Or.inl hb)).rows fun k => grp_app h5 k
   rcases hb with hb | hb
   ·obtain ⟨q1, q2, q3, q4, q5⟩ := h.Fi k b (by rw [hu]; rfl) hb
    exact ag b (h.q b q1).2 q2 q3 q5
   ·exact agS b hb
  ·intro k b hk hb
   obtain ⟨q1, q2, q3, q4, q5⟩ := h.Fi k b hk hb
   exact ⟨Or.inl q1, q2, q3, q4, fun e => (hv b e).elim q5 fun hge => absurd (h.q b q1).2 (by omega)⟩
  ·intro b hb
   refine ⟨fun hS => ?_, ?_⟩
   ·rcases hb with hb | hb <;> rcases hS with hS | hS
    ·exact (h.q b hb).1 hS
    ·have := (h.q b hb).2; have := hcv b hS; omega
    ·rcases hv b hb with e | e
     ·exact (h.q b (h.Fr b e)).1 hS
     ·have := h.q2 b hS; omega
    ·exact cvv b hS hb
   ·rcases hb with hb | hb
    ·exact Nat.lt_of_lt_of_le (h.q b hb).2 sz
    ·exact (World.ownsRow.lt ho b hb).2
  ·intro b hb
   rcases hb with hb | hb
   ·exact Nat.lt_of_lt_of_le (h.q2 b hb) sz
   ·exact (World.ownsRow.lt ho2 b hb).2
 ·rintro b (hb | hb)
  ·exact Or.inl hb
  ·rcases hv b hb with e | e
   ·exact Or.inl (h.Fr b e)
   ·exact Or.inr e
 ·rintro b (hb | hb)
  ·exact Or.inl hb
  ·exact Or.inr (hcv b hb)
theorem ow_form {w : World} {base : Nat} {v : Value} {l : List Int} (h : OwI w base v l) : ∃ a n c, v = .slice a n c := by
 obtain ⟨a, cap, rfl, -⟩ := row7_form h
 exact ⟨_, _, _, rfl⟩
theorem add_blk {U0 U1 U3 : World} {g : Nat} {cs : Array Value} {ra : Option Addr} {rl rc : Nat} {rvs : List Value} {o : Obj} (h : Bk U0 g cs 118) (hb : Below U0.heap.size U0 U1) (hg : (U1.alloc o).grownBy U3 (Value.ownBlock (.slice ra rl rc))) (hr : U0.ownsRow 0 67 1 (.slice ra rl rc) rl rvs) : Bk U3 g cs 118 := by
 have h1 : Bk (U1.alloc o) g cs 118 := (h.below hb).below (below1 _ _)
 refine (hg.block g h1.lt fun e => ?_).trans h1
 obtain ⟨cur, hc⟩ := row7_blk hr e.symm
 have := h.ty hc
 revert this
 decide
theorem add_end {w U0 U1 U3 : World} {g : Nat} {F S : Nat -> Prop} {s : St7} {rv cva' : Value} {rvs : List Value} {mp mx nx : Nat} {t : ByteArray -> Option Value} {f : ByteArray -> Nat -> Prop} {r : List Int} {ra : Option Addr} {rc g2 cap2 : Nat} {m : Nat} (hnx : nx <= m) (h : RX w g F S s 0 rv rvs mp mx nx t f) (hrv : rv = .slice ra s.rows.length rc)
  (he : r.length = s.wd /\ w64 r /\ txi s.rows (tx r) = none) (hl : r.length <= 10000000000) (hc : s.rows.length < 10000000000)
  (hf : Fr (fun b => b = mp) w U0) (hm : Mp Tryz.prog 9 U0 mp (s.rows.length + 1) (mput (plF s.rows) (tx r) (.int .i64 (s.rows.length : Int))))
  (hb : Bk U0 g #[.int .i64 (s.wd : Int), .slice ra s.rows.length rc, .int .i64 (s.nf : Int), .int .i64 (s.xf : Int), .map (some mp), .int .i32 0, .int .u32 0, .map (some mx)] 118)
  (hr : U0.ownsRow 0 67 1 (.slice ra s.rows.length rc) s.rows.length rvs) (ho1 : OwI U1 U0.heap.size cva' r) (hb1 : Below U0.heap.size U0 U1)
  (ho3 : U3.ownsRow 0 67 1 (.slice (some ⟨g2, 0, none⟩) (s.rows.length + 1) cap2) (s.rows.length + 1) (rvs ++ [cva'])) (hg3 : (U1.alloc (.cells #[cva'] 67)).grownBy U3 (Value.ownBlock (.slice ra s.rows.length rc)))
  (hv3 : Value.ownBlock (.slice ra s.rows.length rc) = some g2 ∨ g2 = (U1.alloc (.cells #[cva'] 67)).heap.size) :
  (∃ F' S', RM (U3.setCell ⟨g, 1, none⟩ (.slice (some ⟨g2, 0, none⟩) (s.rows.length + 1) cap2)) g F' S' m (Add7 s r) /\ (∀ b, F' b -> F b ∨ w.heap.size <= b) /\ (∀ b, S' b -> S b ∨ w.heap.size <= b) /\ (∀ b, F b -> F' b) /\ (∀ b, S b -> S' b)) /\ Fr F w (U3.setCell ⟨g, 1, none⟩ (.slice (some ⟨g2, 0, none⟩) (s.rows.length + 1) cap2)) := by
 subst hrv
 have hb3 := add_blk hb hb1 hg3 hr
 have hS := hb3.set 1 (.slice (some ⟨g2, 0, none⟩) (s.rows.length + 1) cap2)
 have hfA : Fr (fun b => b = mp) w (U1.alloc (.cells #[cva'] 67)) := (hf.then hb1).alloc _
 have ngS : ∀ b, b ≠ g -> (U3.setCell ⟨g, 1, none⟩ (.slice (some ⟨g2, 0, none⟩) (s.rows.length + 1) cap2)).heap[b]? = U3.heap[b]? := fun b hn => heap_setCell_other _ _ _ _ hn
 have g2g : g2 ≠ g := fun e => by
  obtain ⟨cur, hc⟩ := row7_blk ho3 (b := g2) rfl
  rw [e] at hc
  have := hb3.ty hc
  revert this
  decide
 have hF3 : Fr F w U3 := ((hfA.mono fun b _ e => by rw [e]; exact h.Fp).tr (Fr.grown hg3 fun b hb => h.Fr b hb))
 have cvb : ∀ b, cva'.ownBlock = some b -> U0.heap.size <= b := fun b hb => (World.ownsRow.lt ho1 b hb).1
 have mpg : mp ≠ g := fun e => by have q := hm; rw [e] at q; exact q.notcells hb
 have keep : ∀ b, b < (U1.alloc (.cells #[cva'] 67)).heap.size -> b ≠ g -> Value.ownBlock (.slice ra s.rows.length rc) ≠ some b -> (U3.setCell ⟨g, 1, none⟩ (.slice (some ⟨g2, 0, none⟩) (s.rows.length + 1) cap2)).heap[b]? = (U1.alloc (.cells #[cva'] 67)).heap[b]? := fun b hl hn hr' => (ngS b hn).trans (hg3.block b hl fun e => hr' e.symm)
 refine ⟨?_, hF3.set (Or.inl h.Fg)⟩
 refine RX.add hnx h (V := U3.setCell ⟨g, 1, none⟩ (.slice (some ⟨g2, 0, none⟩) (s.rows.length + 1) cap2)) (v' := .slice (some ⟨g2, 0, none⟩) (s.rows.length + 1) cap2) (cv := cva') he.1 he.2.1 hl he.2.2 hc (by simpa using hF3.size) ?_ ?_ ?_ ?_ ?_ ?_ ?_
 ·intro b hb' h1 h2 h3
  rw [keep b (Nat.lt_of_lt_of_le hb' hfA.size) h1 h3]
  exact hfA.block b hb' h2
 ·refine (hm.below (hb1.trans ((below1 _ _).mono hb1.size))).same (keep mp ?_ mpg ?_)
  ·exact Nat.lt_of_lt_of_le hm.lt (Nat.le_trans hb1.size (by simp))
  ·intro e
   obtain ⟨cur, hc⟩ := row7_blk hr e
   exact hm.notcells hc
 ·exact hS
 ·exact row7 ho3 fun b hb' => ngS b (by cases hb'; exact g2g)
 ·intro b hb'
  cases hb'
  rcases hv3 with h1 | h1
  ·exact Or.inl h1
  ·right; rw [h1]; exact hfA.size
 ·refine (row7_mono (row7 ho1 fun b hb' => ?_) (Nat.zero_le _))
  obtain ⟨cur, hc⟩ := row7_blk ho1 hb'
  have hl1 := (World.ownsRow.lt ho1 b hb').2
  refine (keep b (Nat.lt_of_lt_of_le hl1 (by simp)) ?_ ?_).trans ((below1 U1 _).block b hl1)
  ·intro e
   have := (hb.below hb1).ty (e ▸ hc)
   revert this
   decide
  ·intro e
   have h1 := (World.ownsRow.lt hr b e).2
   have h2 := cvb b hb'
   omega
 ·intro b hb'
  exact Nat.le_trans hf.size (cvb b hb')
set_option maxRecDepth 20000 in
set_option maxHeartbeats 1000000 in
theorem add7_old (g : Nat) (F S G : Nat -> Prop) (m : Nat) (s : St7) (v : Value) (r : List Int) (w : World) (h : RM w g F S m s) (hv : Li G w v r) (hl : r.length <= 10000000000) (he : r.length = s.wd) (ho : (txi s.rows (tx r)).isSome = true) :
  Calls Tryz.prog 36 #[.pointer (some ⟨g, 0, none⟩), v] w fun e w' => e = .returned (.tuple #[.bool false, .int .i64 0]) /\ Below w.heap.size w w' := by
 obtain ⟨rv, rvs, mp, mx, nx, t, f, hnx, h⟩ := h
 have HNX := hm7 hnx
 clear hnx
 obtain ⟨⟨c0, c1, c2, c3⟩, c4, c5, c6, c7⟩ := eight7 h.b
 have hg := h.b.lt
 have HT : Hid (Calls Tryz.prog 66 #[v] w fun e w' => e = .returned (.string (tx r)) /\ Below w.heap.size w w') := text_any G r v w hv hl
 obtain ⟨pi, hpi⟩ : ∃ pi : Int, pi = (((txi s.rows (tx r)).getD 0 : Nat) : Int) := ⟨_, rfl⟩
 have HL : Hid (∀ X : World, Below w.heap.size w X -> (Instr.lookup 108 (.map (some mp)) (.string (tx r)) true).run Tryz.prog X = .ok (.tuple #[.int .i64 pi, .bool true]) X) := fun X hX => by
  have := (h.p.below hX).int (s := tx r) (by rw [tx_size]; omega)
  rw [ho, <- hpi] at this
  exact this
 obtain ⟨a, cap, rfl, -⟩ := hv
 rw [<- he] at c0
 clear h he ho hpi
 generalize r.length = rl at *
 go_enter Tryz.func36, Tryz.ntmps36
 go_upto_region 4 with (go_at_call 66; refine HT.out.mono ?_; rintro e w1 ⟨rfl, hb⟩; have HB := hm7 hb; have q4 := (hb.cell (p := ⟨g, 4, none⟩) hg).trans c4; have hl1 := HL.out w1 hb; clear hb)
 go_wp2
 go_ret2
 exact ⟨rfl, HB.out⟩
set_option maxRecDepth 20000 in
set_option maxHeartbeats 2000000 in
theorem add7_new (g : Nat) (F S G : Nat -> Prop) (m : Nat) (s : St7) (v : Value) (r : List Int) (w : World) (h : RM w g F S m s) (hv : Li G w v r) (hl : r.length <= 10000000000) (he : r.length = s.wd) (hn : txi s.rows (tx r) = none) (hc : s.rows.length < 10000000000) :
  Calls Tryz.prog 36 #[.pointer (some ⟨g, 0, none⟩), v] w fun e w' => e = .returned (.tuple #[.bool true, .int .i64 0]) /\ (∃ F' S', RM w' g F' S' m (Add7 s r) /\ (∀ b, F' b -> F b ∨ w.heap.size <= b) /\ (∀ b, S' b -> S b ∨ w.heap.size <= b) /\ (∀ b, F b -> F' b) /\ (∀ b, S b -> S' b)) /\ Fr F w w' := by
 obtain ⟨rv, rvs, mp, mx, nx, t, f, hnx, h⟩ := h
 have HNX := hm7 hnx
 clear hnx
 obtain ⟨⟨c0, c1, c2, c3⟩, c4, c5, c6, c7⟩ := eight7 h.b
 have hg := h.b.lt
 obtain ⟨ra, rc, hrv, -⟩ := row7_form h.r.1
 have HX : Hid (RX w g F S s 0 rv rvs mp mx nx t f) := h
 have HT : Hid (Calls Tryz.prog 66 #[v] w fun e w' => e = .returned (.string (tx r)) /\ Below w.heap.size w w') := text_any G r v w hv hl
 have HL : Hid (∀ X : World, Below w.heap.size w X -> (Instr.lookup 108 (.map (some mp)) (.string (tx r)) true).run Tryz.prog X = .ok (.tuple #[.int .i64 0, .bool false]) X) := fun X hX => by
  have := (h.p.below hX).int (s := tx r) (by rw [tx_size]; omega)
  rw [hn] at this
  exact this
 have HST : Hid (∀ X : World, Below w.heap.size w X -> ∃ X', (Instr.mapUpdate 108 (.map (some mp)) (.string (tx r)) (.int .i64 (s.rows.length : Int))).run Tryz.prog X = .ok () X' /\ Mp Tryz.prog 9 X' mp (s.rows.length + 1) (mput (plF s.rows) (tx r) (.int .i64 (s.rows.length : Int))) /\ X.grownBy X' (some mp)) := fun X hX => by
  have := (h.p.below hX).store Tryz.underlying9 Tryz.underlying108 (s := tx r) (by unfold maxLen; omega) (by rw [tx_size]; unfold maxLen; omega) (.int .i64 (s.rows.length : Int))
  have e : (plF s.rows (tx r)).isSome = false := by unfold plF; rw [hn]; rfl
  rw [e] at this
  exact this
 have HCL : Hid (∀ X : World, Li G X v r -> Calls Tryz.prog 67 #[v] X fun e w' => ∃ v', e = .returned v' /\ OwI w' X.heap.size v' r /\ Below X.heap.size X w') := fun X hX => clone7_any G v r X hX (by omega)
 have HLI := hm7 hv
 have HNE : Hid (g ≠ mp) := fun e => by have q := h.p; rw [<- e] at q; exact q.notcells h.b
 have HHE : Hid (r.length = s.wd /\ w64 r /\ txi s.rows (tx r) = none) := ⟨he, hv.w, hn⟩
 have HBK := hm7 h.b
 rw [hrv] at c1 HBK
 have HRV := hm7 hrv
 obtain ⟨a, cap, rfl, -⟩ := hv
 have c0' : w.cell? ⟨g, 0, none⟩ = some (.int .i64 (r.length : Int)) := by rw [he]; exact c0
 have HLR : Hid (r.length <= 10000000000) := hl
 obtain ⟨rl, hrl⟩ : ∃ rl, r.length = rl := ⟨_, rfl⟩
 rw [hrl] at c0' HT HCL HLI ⊢
 clear h he hn hrv hrl c0 hl
 go_enter Tryz.func36, Tryz.ntmps36
 go_upto_region 4 with (go_at_call 66; refine HT.out.mono ?_; rintro e w1 ⟨rfl, hb⟩; have HW1 := hm7 hb; have q4 := (hb.cell (p := ⟨g, 4, none⟩) hg).trans c4; have hl1 := HL.out w1 hb; clear hb)
 go_upto_region 7 with fail
 have HB1 : Hid (Bk w1 g #[.int .i64 (s.wd : Int), .slice ra s.rows.length rc, .int .i64 (s.nf : Int), .int .i64 (s.xf : Int), .map (some mp), .int .i32 0, .int .u32 0, .map (some mx)] 118) := HBK.out.below HW1.out
 have HV0 : Hid (Below w.heap.size w w1.drew) := ⟨HW1.out.os, HW1.out.tape, HW1.out.output, HW1.out.size, HW1.out.block⟩
 refine wp_region_held_drew (S := fun w' => Bk w' g #[.int .i64 (s.wd : Int), .slice ra s.rows.length rc, .int .i64 (s.nf : Int), .int .i64 (s.xf : Int), .map (some mp), .int .i32 0, .int .u32 0, .map (some mx)] 118) (by kernel_rfl) (show Bk w1.drew g #[.int .i64 (s.wd : Int), .slice ra s.rows.length rc, .int .i64 (s.nf : Int), .int .i64 (s.xf : Int), .map (some mp), .int .i32 0, .int .u32 0, .map (some mx)] 118 from HB1.out) (fun hH => ?_)
 revert hH
 revert HV0
 generalize w1.drew = V0
 intro HV0 hH
 refine wTl 0 (.pointer (some ⟨g, 0, none⟩)) rfl (by kernel_rfl) (fun _ _ _ h => h) rfl (fun w' h => by clear h; go_simp) hH ?_
 simp only [wA, wB, wC, wD]
 refine wTl 1 (.pointer (some ⟨g, 0, none⟩)) rfl (by kernel_rfl) (fun _ _ _ h => h) rfl (fun w' h => by clear h; go_simp) hH ?_
 simp only [wA, wB, wC, wD]
 refine wTl 2 (.pointer (some ⟨g, 4, none⟩)) rfl (by kernel_rfl) (fun _ _ _ h => h) rfl (fun w' h => by clear h; go_simp) hH ?_
 simp only [wA, wB, wC, wD]
 refine wTl 3 (.map (some mp)) rfl (by kernel_rfl) (fun _ _ _ h => h) rfl (fun w' h => by have q4 := h.cell (i := 4) rfl; clear h; go_simp) hH ?_
 simp only [wA, wB, wC, wD]
 refine wTl 4 (.string (tx r)) rfl (by kernel_rfl) (fun _ _ _ h => h) rfl (fun w' h => by clear h; go_simp) hH ?_
 simp only [wA, wB, wC, wD]
 refine wTl 5 (.pointer (some ⟨g, 0, none⟩)) rfl (by kernel_rfl) (fun _ _ _ h => h) rfl (fun w' h => by clear h; go_simp) hH ?_
 simp only [wA, wB, wC, wD]
 refine wTl 6 (.pointer (some ⟨g, 0, none⟩)) rfl (by kernel_rfl) (fun _ _ _ h => h) rfl (fun w' h => by clear h; go_simp) hH ?_
 simp only [wA, wB, wC, wD]
 refine wTl 7 (.pointer (some ⟨g, 1, none⟩)) rfl (by kernel_rfl) (fun _ _ _ h => h) rfl (fun w' h => by clear h; go_simp) hH ?_
 simp only [wA, wB, wC, wD]
 refine wTl 8 (.slice ra s.rows.length rc) rfl (by kernel_rfl) (fun _ _ _ h => h) rfl (fun w' h => by have q1 := h.cell (i := 1) rfl; clear h; go_simp) hH ?_
 simp only [wA, wB, wC, wD]
 refine wTl 9 (.int .i64 (s.rows.length : Int)) rfl (by kernel_rfl) (fun _ _ _ h => h) rfl (fun w' h => by clear h; go_simp) hH ?_
 simp only [wA, wB, wC, wD]
 refine wRd 10 (by kernel_rfl) rfl (fun K hK => ?_)
 obtain ⟨V1, hrun, hmp, hgr⟩ := HST.out V0 HV0.out
 go_simp
 have HMP := hm7 hmp
 have HGR := hm7 hgr
 refine hK.out _ _ (hH.fr (Fr.grown (P := fun b => b = mp) hgr (fun b e => by cases e; rfl)) (fun e => HNE.out e)) (fun hH => ?_)
 clear hK K hmp hgr hrun
 try simp only [wA, wB, wC, wD]
 refine wpAnyH_done (by kernel_rfl) ?_ _
 go_upto_region 8 with fail
 have HBV := hm7 hH
 have HFV : Hid (Fr (fun b => b = mp) w V1) := (Fr.of HV0.out).tr (Fr.grown HGR.out fun b e => by cases e; rfl)
 have HLV : Hid (Li G V1 (.slice a rl cap) r) := (HLI.out.below HV0.out).grownM (HX.out.p.below HV0.out) HGR.out
 have HRV1 : Hid (V1.ownsRow 0 67 1 (.slice ra s.rows.length rc) s.rows.length rvs) := by
  have q := HX.out.r.1
  rw [HRV.out] at q
  exact row7_fr q HFV.out fun b hb e => by
   obtain ⟨cur, hc⟩ := row7_blk q hb
   exact HX.out.p.notcells (e ▸ hc)
 clear hH HGR
 refine wp_region_held_drew (S := fun _ => True) (by kernel_rfl) trivial (fun _ => ?_)
 have HBU := hm7 (show Bk V1.drew g #[.int .i64 (s.wd : Int), .slice ra s.rows.length rc, .int .i64 (s.nf : Int), .int .i64 (s.xf : Int), .map (some mp), .int .i32 0, .int .u32 0, .map (some mx)] 118 from HBV.out)
 have HMU := hm7 (HMP.out.same (w' := V1.drew) rfl)
 have HLU := hm7 (HLV.out.same (w' := V1.drew) (Nat.le_refl _) (fun _ _ _ => rfl))
 have HFU := hm7 HFV.out.drew
 have HRW := hm7 (row7 HRV1.out (w' := V1.drew) fun _ _ => rfl)
 clear HBV HMP HLV HFV HRV1
 revert HBU HMU HLU HFU HRW
 generalize V1.drew = U0
 intro HBU HMU HLU HFU HRW
 refine wTl 0 (.pointer (some ⟨g, 0, none⟩)) rfl (by kernel_rfl) (fun _ _ _ h => h) rfl (fun w' h => by clear h; go_simp) trivial ?_
 simp only [wA, wB, wC, wD]
 refine wTl 1 (.pointer (some ⟨g, 0, none⟩)) rfl (by kernel_rfl) (fun _ _ _ h => h) rfl (fun w' h => by clear h; go_simp) trivial ?_
 simp only [wA, wB, wC, wD]
 refine wTl 2 (.pointer (some ⟨g, 0, none⟩)) rfl (by kernel_rfl) (fun _ _ _ h => h) rfl (fun w' h => by clear h; go_simp) trivial ?_
 simp only [wA, wB, wC, wD]
 refine wTl 3 (.pointer (some ⟨g, 1, none⟩)) rfl (by kernel_rfl) (fun _ _ _ h => h) rfl (fun w' h => by clear h; go_simp) trivial ?_
 simp only [wA, wB, wC, wD]
 refine wTl 5 (.slice a rl cap) rfl (by kernel_rfl) (fun _ _ _ h => h) rfl (fun w' h => by clear h; go_simp) trivial ?_
 simp only [wA, wB, wC, wD]
 refine wpAnyH_ready (rs := [4, 6]) (by kernel_rfl) (by simp) ?_
 refine (AllReadyH.cons (o := ⟨_, _, _, _, _, _⟩) rfl (fun K hK => ?_) (AllReadyH.cons (o := ⟨_, _, _, _, _, _⟩) rfl (fun K hK => ?_) AllReadyH.nil))
 ·have q1 := HBU.out.cell (i := 1) rfl
  go_simp
  clear q1
  refine hK.out _ _ trivial (fun _ => ?_)
  clear hK K
  try simp only [wA, wB, wC, wD]
  refine wRd 6 (by kernel_rfl) rfl (fun K hK => ?_)
  go_simp
  refine (HCL.out _ HLU.out).mono ?_
  rintro e U1 ⟨cv, rfl, ho, hb⟩
  have HO1 := hm7 ho
  have HB1 := hm7 hb
  obtain ⟨cva, cvn, cvc, rfl⟩ := ow_form ho
  refine hK.out _ _ trivial (fun _ => ?_)
  clear hK K ho hb
  try simp only [wA, wB, wC, wD]
  refine wRd 7 (by kernel_rfl) rfl (fun K hK => ?_)
  go_simp
  refine hK.out _ _ trivial (fun _ => ?_)
  clear hK K
  try simp only [wA, wB, wC, wD]
  refine wRd 8 (by kernel_rfl) rfl (fun K hK => ?_)
  refine gstep Tryz.underlying107 Tryz.infoInts7 rfl (by omega) rfl _ _ rfl 0 (.slice ra s.rows.length rc) s.rows.length rvs (by rfl) (row7_below (row7_below HRW.out HB1.out) (below1 _ _)) U1.heap.size (.slice cva cvn cvc) (by rfl) (Bk.new _ _ _) rfl (by omega) (Nat.zero_le _) ?_
  intro g2 cap2 U3 ho3 hg3 hv3 hl3
  have HO3 := hm7 ho3
  have HG3 := hm7 hg3
  have HV3 := hm7 hv3
  have HK3 := hm7 hl3
  clear ho3 hg3 hv3 hl3
  refine hK.out _ _ trivial (fun _ => ?_)
  clear hK K
  try simp only [wA, wB, wC, wD]
  refine wTl 9 (.pointer (some ⟨g, 0, none⟩)) rfl (by kernel_rfl) (fun _ _ _ h => h) rfl (fun w' h => by clear h; go_simp) trivial ?_
  simp only [wA, wB, wC, wD]
  refine wTl 10 (.pointer (some ⟨g, 1, none⟩)) rfl (by kernel_rfl) (fun _ _ _ h => h) rfl (fun w' h => by clear h; go_simp) trivial ?_
  simp only [wA, wB, wC, wD]
  refine wRd 11 (by kernel_rfl) rfl (fun K hK => ?_)
  have HB3 := hm7 (add_blk HBU.out HB1.out HG3.out HRW.out)
  have q1 := HB3.out.cell (i := 1) rfl
  have f1 := HB3.out.froz 1
  go_simp
  clear q1 f1
  refine hK.out _ _ trivial (fun _ => ?_)
  clear hK K
  try simp only [wA, wB, wC, wD]
  refine wpAnyH_done (by kernel_rfl) ?_ _
  go_wp2
  go_ret2
  exact ⟨rfl, add_end HNX.out HX.out HRV.out HHE.out HLR.out hc HFU.out HMU.out HBU.out HRW.out HO1.out HB1.out HO3.out HG3.out HV3.out⟩
 ·go_simp
  refine (HCL.out _ HLU.out).mono ?_
  rintro e U1 ⟨cv, rfl, ho, hb⟩
  have HO1 := hm7 ho
  have HB1 := hm7 hb
  obtain ⟨cva, cvn, cvc, rfl⟩ := ow_form ho
  refine hK.out _ _ trivial (fun _ => ?_)
  clear hK K ho hb
  try simp only [wA, wB, wC, wD]
  refine wpAnyH_ready (rs := [4, 7]) (by kernel_rfl) (by simp) ?_
  refine (AllReadyH.cons (o := ⟨_, _, _, _, _, _⟩) rfl (fun K hK => ?_) (AllReadyH.cons (o := ⟨_, _, _, _, _, _⟩) rfl (fun K hK => ?_) AllReadyH.nil))
  ·have q1 := (HBU.out.below HB1.out).cell (i := 1) rfl
   go_simp
   clear q1
   refine hK.out _ _ trivial (fun _ => ?_)
   clear hK K
   try simp only [wA, wB, wC, wD]
   refine wRd 7 (by kernel_rfl) rfl (fun K hK => ?_)
   go_simp
   refine hK.out _ _ trivial (fun _ => ?_)
   clear hK K
   try simp only [wA, wB, wC, wD]
   refine wRd 8 (by kernel_rfl) rfl (fun K hK => ?_)
   refine gstep Tryz.underlying107 Tryz.infoInts7 rfl (by omega) rfl _ _ rfl 0 (.slice ra s.rows.length rc) s.rows.length rvs (by rfl) (row7_below (row7_below HRW.out HB1.out) (below1 _ _)) U1.heap.size (.slice cva cvn cvc) (by rfl) (Bk.new _ _ _) rfl (by omega) (Nat.zero_le _) ?_
   intro g2 cap2 U3 ho3 hg3 hv3 hl3
   have HO3 := hm7 ho3
   have HG3 := hm7 hg3
   have HV3 := hm7 hv3
   have HK3 := hm7 hl3
   clear ho3 hg3 hv3 hl3
   refine hK.out _ _ trivial (fun _ => ?_)
   clear hK K
   try simp only [wA, wB, wC, wD]
   refine wTl 9 (.pointer (some ⟨g, 0, none⟩)) rfl (by kernel_rfl) (fun _ _ _ h => h) rfl (fun w' h => by clear h; go_simp) trivial ?_
   simp only [wA, wB, wC, wD]
   refine wTl 10 (.pointer (some ⟨g, 1, none⟩)) rfl (by kernel_rfl) (fun _ _ _ h => h) rfl (fun w' h => by clear h; go_simp) trivial ?_
   simp only [wA, wB, wC, wD]
   refine wRd 11 (by kernel_rfl) rfl (fun K hK => ?_)
   have HB3 := hm7 (add_blk HBU.out HB1.out HG3.out HRW.out)
   have q1 := HB3.out.cell (i := 1) rfl
   have f1 := HB3.out.froz 1
   go_simp
   clear q1 f1
   refine hK.out _ _ trivial (fun _ => ?_)
   clear hK K
   try simp only [wA, wB, wC, wD]
   refine wpAnyH_done (by kernel_rfl) ?_ _
   go_wp2
   go_ret2
   exact ⟨rfl, add_end HNX.out HX.out HRV.out HHE.out HLR.out hc HFU.out HMU.out HBU.out HRW.out HO1.out HB1.out HO3.out HG3.out HV3.out⟩
  ·go_simp
   refine hK.out _ _ trivial (fun _ => ?_)
   clear hK K
   try simp only [wA, wB, wC, wD]
   refine wRd 4 (by kernel_rfl) rfl (fun K hK => ?_)
   have q1 := ((HBU.out.below HB1.out).below (below1 U1 (.cells #[.slice cva cvn cvc] 67))).cell (i := 1) rfl
   go_simp
   clear q1
   refine hK.out _ _ trivial (fun _ => ?_)
   clear hK K
   try simp only [wA, wB, wC, wD]
   refine wRd 8 (by kernel_rfl) rfl (fun K hK => ?_)
   refine gstep Tryz.underlying107 Tryz.infoInts7 rfl (by omega) rfl _ _ rfl 0 (.slice ra s.rows.length rc) s.rows.length rvs (by rfl) (row7_below (row7_below HRW.out HB1.out) (below1 _ _)) U1.heap.size (.slice cva cvn cvc) (by rfl) (Bk.new _ _ _) rfl (by omega) (Nat.zero_le _) ?_
   intro g2 cap2 U3 ho3 hg3 hv3 hl3
   have HO3 := hm7 ho3
   have HG3 := hm7 hg3
   have HV3 := hm7 hv3
   have HK3 := hm7 hl3
   clear ho3 hg3 hv3 hl3
   refine hK.out _ _ trivial (fun _ => ?_)
   clear hK K
   try simp only [wA, wB, wC, wD]
   refine wTl 9 (.pointer (some ⟨g, 0, none⟩)) rfl (by kernel_rfl) (fun _ _ _ h => h) rfl (fun w' h => by clear h; go_simp) trivial ?_
   simp only [wA, wB, wC, wD]
   refine wTl 10 (.pointer (some ⟨g, 1, none⟩)) rfl (by kernel_rfl) (fun _ _ _ h => h) rfl (fun w' h => by clear h; go_simp) trivial ?_
   simp only [wA, wB, wC, wD]
   refine wRd 11 (by kernel_rfl) rfl (fun K hK => ?_)
   have HB3 := hm7 (add_blk HBU.out HB1.out HG3.out HRW.out)
   have q1 := HB3.out.cell (i := 1) rfl
   have f1 := HB3.out.froz 1
   go_simp
   clear q1 f1
   refine hK.out _ _ trivial (fun _ => ?_)
   clear hK K
   try simp only [wA, wB, wC, wD]
   refine wpAnyH_done (by kernel_rfl) ?_ _
   go_wp2
   go_ret2
   exact ⟨rfl, add_end HNX.out HX.out HRV.out HHE.out HLR.out hc HFU.out HMU.out HBU.out HRW.out HO1.out HB1.out HO3.out HG3.out HV3.out⟩
end Go.Proofs.YtechceagghcipabGreatDoor
