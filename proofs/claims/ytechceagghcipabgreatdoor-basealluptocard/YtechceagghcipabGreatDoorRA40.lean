import Derived.Test.YtechceagghcipabGreatDoorRA38
import Derived.Test.YtechceagghcipabGreatDoorShelf
import Derived.Sort.OwnSorted
import Derived.Laws.AppendOwn
import Derived.Lib.SlicesCompact
import Derived.Laws.CopyRow
import Derived.Laws.StructEq
import Derived.Laws.Cover1
import Derived.Deep.QuietTactic
import Derived.BigQuiet
namespace Go.Proofs.YtechceagghcipabGreatDoor
open Go.RowKit Go.Shelf Go.Lib Go.Sort
def cel7 (c : Int × Int) : List Value := [.int .i64 c.1, .int .i64 c.2]
def ces7 (l : List (Int × Int)) : List Value := l.flatMap cel7
theorem ces7_len (l : List (Int × Int)) : (ces7 l).length = l.length * 2 := by
 induction l with
 | nil => rfl
 | cons d l ih => simp only [ces7, List.flatMap_cons, List.length_append, List.length_cons] at *; rw [ih]; simp [cel7]; omega
theorem ces7_get (l : List (Int × Int)) (j : Nat) (d : Int × Int) (h : l[j]? = some d) (i : Nat) (hi : i < 2) : (ces7 l)[j * 2 + i]? = (cel7 d)[i]? := by
 induction l generalizing j with
 | nil => simp at h
 | cons e l ih =>
  have hl : (cel7 e).length = 2 := rfl
  have ec : ces7 (e :: l) = cel7 e ++ ces7 l := by simp [ces7]
  cases j with
  | zero =>
   simp at h
   subst h
   rw [ec, Nat.zero_mul, Nat.zero_add, List.getElem?_append_left (by omega)]
  | succ j =>
   rw [List.getElem?_cons_succ] at h
   rw [ec, List.getElem?_append_right (by omega), hl, show (j + 1) * 2 + i - 2 = j * 2 + i by omega]
   exact ih j h
def OwC7 (w : World) (base : Nat) (v : Value) (l : List (Int × Int)) : Prop := w.ownsRow base 174 2 v l.length (ces7 l)
theorem OwC7.lt {w : World} {base : Nat} {v : Value} {l : List (Int × Int)} (h : OwC7 w base v l) : ∀ k, v.ownBlock = some k -> base <= k /\ k < w.heap.size := World.ownsRow.lt h
theorem cc7_v (a b : Int × Int) : (cc7 a b < 0 ↔ a.1 < b.1 ∨ (a.1 = b.1 /\ a.2 < b.2)) /\ (cc7 a b = 0 ↔ a = b) := by
 obtain ⟨a1, a2⟩ := a
 obtain ⟨b1, b2⟩ := b
 simp only [cc7, or7]
 rcases sg7_v a1 b1 with ⟨e, h⟩ | ⟨e, h⟩ | ⟨e, h⟩ <;> rcases sg7_v a2 b2 with ⟨e2, h2⟩ | ⟨e2, h2⟩ | ⟨e2, h2⟩ <;> simp [e, e2] <;> omega
def cfZ7 (x y : Int × Int) : Int := cc7 x y
theorem ltZ7 (x y : Int × Int) : ltOf cfZ7 x y = decide (x.1 < y.1 ∨ (x.1 = y.1 /\ x.2 < y.2)) := by
 unfold ltOf cfZ7
 exact decide_eq_decide.2 (cc7_v x y).1
theorem swoZ7 : SWO (ltOf cfZ7) where
 irrefl x := by rw [ltZ7]; simp
 trans x y z h1 h2 := by
  rw [ltZ7] at *
  simp only [decide_eq_true_eq] at *
  omega
 ntrans x y z h1 h2 := by
  rw [ltZ7] at *
  simp only [decide_eq_false_iff_not] at *
  omega
theorem db7_grow {w w' : World} (h : DB7 w.heap.size w w') : ∃ q os', w' = grow (w.drewN q) os' := by
 refine ⟨w'.drawn - w.drawn, w'.heap.extract w.heap.size w'.heap.size, ?_⟩
 obtain ⟨hp, tp, dr, os, out⟩ := w
 obtain ⟨hp', tp', dr', os', out'⟩ := w'
 obtain ⟨⟨h1, h2, h3, h4, h5⟩, h6⟩ := h
 simp only at h1 h2 h3 h4 h5 h6
 subst h1 h2 h3
 have e1 : hp' = hp ++ hp'.extract hp.size hp'.size := by
  apply Array.ext_getElem?
  intro i
  by_cases hi : i < hp.size
  ·rw [Array.getElem?_append_left hi]; exact h5 i hi
  ·rw [Array.getElem?_append_right (by omega), Array.getElem?_extract]
   by_cases hi2 : i < hp'.size
   ·rw [if_pos (by omega), show hp.size + (i - hp.size) = i by omega]
   ·rw [if_neg (by omega), Array.getElem?_eq_none (by omega)]
 show World.mk hp' tp' dr' os' out' = World.mk (hp ++ hp'.extract hp.size hp'.size) tp' (dr + (dr' - dr)) os' out'
 rw [<- e1, show dr + (dr' - dr) = dr' by omega]
theorem flatZ7 (d : Array (Int × Int)) : flatK cel7 2 d = (ces7 d.toList).toArray := by
 apply Array.ext
 ·simp [ces7_len]
 ·intro t h1 h2
  have ht : t < d.size * 2 := by simpa using h1
  have hq : t / 2 < d.size := by omega
  have hd : d.toList[t / 2]? = some d[t / 2]! := by
   rw [getElem!_pos d (t / 2) hq]; simp [hq]
  have hg := ces7_get d.toList (t / 2) _ hd (t % 2) (by omega)
  rw [show t / 2 * 2 + t % 2 = t by omega] at hg
  have e1 : (flatK cel7 2 d)[t] = (cel7 d[t / 2]!)[t % 2]! := by
   have := get_flatK cel7 2 d t ht
   rwa [getElem!_pos _ t h1] at this
  rw [e1]
  have hc : t % 2 < (cel7 d[t / 2]!).length := by simp [cel7]; omega
  rw [getElem!_pos (cel7 d[t / 2]!) (t % 2) hc]
  have h3 : t < (ces7 d.toList).length := by simpa using h2
  have hg2 : (ces7 d.toList)[t]? = (cel7 d[t / 2]!)[t % 2]? := hg
  rw [List.getElem?_eq_getElem hc, List.getElem?_eq_getElem h3] at hg2
  simpa using (Option.some.inj hg2).symm
theorem holdsZ7 {w : World} {base g cap : Nat} {d : Array (Int × Int)} (h : OwC7 w base (.slice (some ⟨g, 0, none⟩) d.size cap) d.toList) : HoldsK cel7 2 w g 0 d := by
 rcases h.2 with ⟨h, _⟩ | ⟨g', cap', cur, hv, hb, hg, hn, hc, hs, ht⟩
 ·cases h
 ·simp only [Value.slice.injEq, Option.some.injEq, Addr.mk.injEq] at hv
  obtain ⟨⟨rfl, -⟩, -, rfl⟩ := hv
  intro j hj
  rw [flatZ7] at hj ⊢
  have hj' : j < (ces7 d.toList).length := by simpa using hj
  refine ⟨?_, by simp [World.frozen?, hg]⟩
  rw [Nat.zero_add, cell_of_row _ _ _ _ _ _ hg, getElem!_pos _ j hj]
  have h1 : (cur.toList.take (d.toList.length * 2))[j]? = (ces7 d.toList)[j]? := by rw [ht]
  rw [List.getElem?_take_of_lt (by rw [ces7_len] at hj'; exact hj'), List.getElem?_eq_getElem hj'] at h1
  simpa using h1
theorem grownZ7 {w : World} {g n : Nat} {os : Array Obj} {d' : Array (Int × Int)} : w.grownBy (sortWorldK cel7 2 w g 0 n d' os) (some g) := by
 refine ⟨rfl, rfl, rfl, by simp [sortWorldK, putRowK], fun k hk hne => ?_⟩
 unfold sortWorldK putRowK
 rw [heap_grow_old _ _ (by simpa using hk)]
 have : g ≠ k := fun e => hne (by rw [e])
 simp [putRow, mapBlock, Sort.ahead, Array.getElem?_modify, this]
theorem belowZ7 {w : World} {g n : Nat} {os : Array Obj} {d' : Array (Int × Int)} (hgs : g < w.heap.size) : RowKit.Below g w (sortWorldK cel7 2 w g 0 n d' os) :=
 (RowKit.Below.refl _ _).grown grownZ7 (Nat.le_of_lt hgs) (fun q e => by cases e; exact Nat.le_refl _)
theorem cmpLaysZ7 (blk size : Nat) (w : World) : CmpLays Tryz.prog 128 #[] cel7 2 cfZ7 blk 0 size w :=
 fun _ _ _ _ x y => (cells7_any x.1 x.2 y.1 y.2 _).mono fun _ _ ⟨he, hb⟩ => ⟨he, db7_grow hb⟩
theorem ownZ7 {w : World} {base g cap n : Nat} {os : Array Obj} {d d' : Array (Int × Int)} (h : OwC7 w base (.slice (some ⟨g, 0, none⟩) d.size cap) d.toList) (hs : d'.size = d.size) :
  OwC7 (sortWorldK cel7 2 w g 0 n d' os) base (.slice (some ⟨g, 0, none⟩) d.size cap) d'.toList := by
 rcases h.2 with ⟨h, _⟩ | ⟨g', cap', cur, hv, hb, hg, hn, hc, hsz, ht⟩
 ·cases h
 ·simp only [Value.slice.injEq, Option.some.injEq, Addr.mk.injEq] at hv
  obtain ⟨⟨rfl, -⟩, -, rfl⟩ := hv
  have hgs : g < w.heap.size := (Array.getElem?_eq_some_iff.1 hg).1
  have hH : (sortWorldK cel7 2 w g 0 n d' os).heap[g]? = some (.cells (putCells id 0 (ces7 d'.toList).toArray cur) 174 (0, 0)) := by
   unfold sortWorldK putRowK
   rw [flatZ7, heap_grow_old _ _ (by simpa using hgs)]
   simp [putRow, mapBlock, Sort.ahead, Array.getElem?_modify, hg, onCells]
  have hl : d'.toList.length = d.toList.length := by simp [hs]
  refine ⟨ces7_len _, Or.inr ⟨g, cap, _, by simp [hs], hb, hH, by rw [hl]; exact hn, hc, by simp [putCells, hsz], ?_⟩⟩
  apply List.ext_getElem?
  intro j
  by_cases hj : j < d'.toList.length * 2
  ·have hjc : j < cur.size := by rw [hsz]; rw [hl] at hj; exact Nat.lt_of_lt_of_le hj (Nat.mul_le_mul_right 2 hn)
   have hjb : j < (ces7 d'.toList).length := by rw [ces7_len]; exact hj
   rw [List.getElem?_take_of_lt hj, Array.getElem?_toList]
   simp [putCells, hjb, hjc]
  ·rw [List.getElem?_take_eq_none (by omega), List.getElem?_eq_none (by rw [ces7_len]; omega)]
def srtZ7 (l : List (Int × Int)) : Prop := l.Pairwise fun a b => a.1 < b.1 ∨ (a.1 = b.1 /\ a.2 <= b.2)
theorem perm_ofZ7 {d d' : Array (Int × Int)} (h : PermIn 0 d.size d d') : d'.toList.Perm d.toList := by
 obtain ⟨hs, -, hp⟩ := h
 have e1 : d'.extract 0 d.size = d' := by rw [<- hs]; simp
 have e2 : d.extract 0 d.size = d := by simp
 rw [e1, e2] at hp
 exact hp
theorem srt_ofZ7 {d d' : Array (Int × Int)} (hs : d'.size = d.size) (h : SortedIn (ltOf cfZ7) 0 d.size d') : srtZ7 d'.toList := by
 unfold srtZ7
 rw [List.pairwise_iff_getElem]
 intro i j hi hj hij
 have hj' : j < d'.size := by simpa using hj
 have hi' : i < d'.size := by simpa using hi
 have := h i j (Nat.zero_le _) hij (by omega)
 rw [ltZ7, getElem!_pos d' j hj', getElem!_pos d' i hi'] at this
 simp only [decide_eq_false_iff_not] at this
 simp only [Array.getElem_toList]
 omega
set_option maxHeartbeats 2000000 in
theorem sortFuncZ7_all (g cap base : Nat) (w : World) (d : Array (Int × Int)) (h : OwC7 w base (.slice (some ⟨g, 0, none⟩) d.size cap) d.toList) (hsz : d.size < 4611686018427387904) :
  Calls Tryz.prog 127 #[.slice (some ⟨g, 0, none⟩) d.size cap, .func (.func 128) #[] #[]] w fun e w' => e = .returned (.tuple #[]) /\ ∃ l', OwC7 w' base (.slice (some ⟨g, 0, none⟩) d.size cap) l' /\ l'.Perm d.toList /\ srtZ7 l' /\ RowKit.Below g w w' := by
 have hlt := h.lt g rfl
 have eg : ∀ args w, (callFunc 128 args).run Tryz.prog w = .ok (.enter 128 args) w := enters_of Tryz.func128 (by kernel_rfl) rfl
 have hlim : Lib.bitLen d.size < 4611686018427387904 := Nat.lt_of_le_of_lt (Lib.bitLen_le d.size 62 (by omega) (by omega)) (by omega)
 have hp := AnyQ.pdqsortCmpFunc_all (P := Tryz.prog) Tryz.pdqCell 2 Tryz.isAgg174 Tryz.sizeOf174 cel7 cfZ7 128 #[] swoZ7 g 0 cap d w eg (cmpLaysZ7 g d.size w)
  ⟨fun _ => rfl, fun x v hv => by simp [cel7] at hv; rcases hv with rfl | rfl <;> rfl, holdsZ7 h, hlt.2⟩ (d.size + 1) 0 d.size (Lib.bitLen d.size) d w (by omega) rfl (SWK.start (holdsZ7 h)) (Nat.zero_le _) (Nat.le_refl _) hsz hlim (Or.inl rfl)
 change Calls Tryz.prog 152 _ _ _ at hp
 have hl := Any.bits_Len Tryz.bitsLen (d.size : Int) w (by omega) (by omega)
 change Calls Tryz.prog 80 _ _ _ at hl
 rw [Int.toNat_natCast] at hl
 have hs := pdq_sorts (ltOf cfZ7) swoZ7 d 0 d.size (Lib.bitLen d.size) true true (Nat.zero_le _) (Nat.le_refl _) (Or.inl rfl)
 obtain ⟨d', hd'⟩ : ∃ d', pdq (ltOf cfZ7) d 0 d.size (Lib.bitLen d.size) true true = d' := ⟨_, rfl⟩
 rw [hd'] at hp hs
 have HP : Hid (Calls Tryz.prog 152 #[.slice (some ⟨g, 0, none⟩) d.size cap, .int .i64 ((0 : Nat) : Int), .int .i64 d.size, .int .i64 (Lib.bitLen d.size), .func (.func 128) #[] #[]] w fun e w' => e = .returned (.tuple #[]) /\ SWK cel7 2 w g 0 d' w') := hp
 have HS : Hid (PermIn 0 d.size d d' /\ SortedIn (ltOf cfZ7) 0 d.size d') := hs
 have HO : Hid (OwC7 w base (.slice (some ⟨g, 0, none⟩) d.size cap) d.toList) := h
 have HL : Hid (Calls Tryz.prog 80 #[.int .u64 (d.size : Int)] w fun e w' => e = .returned (.int .i64 (Lib.bitLen d.size)) /\ w' = w) := hl
 have wr : IntKind.u64.wrap (d.size : Int) = d.size := by rw [IntKind.wrap_u64]; omega
 clear hp hs h hl hd' eg
 go_enter Tryz.func127, Tryz.ntmps127
 go_wp2_with (first
  | (go_at_call 80; refine HL.out.mono ?_; rintro e w1 ⟨rfl, rfl⟩)
  | (go_at_call 152; refine HP.out.mono ?_; rintro e w2 ⟨rfl, hw2⟩))
 go_end0
 obtain ⟨n, os, rfl⟩ := hw2
 exact ⟨rfl, d'.toList, ownZ7 HO.out HS.out.1.1, perm_ofZ7 HS.out.1, srt_ofZ7 HS.out.1.1 HS.out.2, belowZ7 hlt.2⟩
end Go.Proofs.YtechceagghcipabGreatDoor
namespace Go.Proofs.YtechceagghcipabGreatDoor
open Go.RowKit Go.Lib
attribute [local go_sem ↓] Go.wp_at_zero Go.wp_at_succ
theorem eqc7_any (a1 a2 b1 b2 : Int) (w : World) : (binOp .eql 174 (.agg #[.int .i64 a1, .int .i64 a2]) (.agg #[.int .i64 b1, .int .i64 b2])).run Tryz.prog w = .ok (.bool (decide ((a1, a2) = (b1, b2)))) w := by
 by_cases h1 : a1 = b1
 ·by_cases h2 : a2 = b2
  ·subst h1 h2; go_simp
  ·subst h1; rw [decide_eq_false (by simpa using h2)]; go_simp
 ·rw [decide_eq_false (by simp [h1])]; go_simp
theorem nec7_any (a1 a2 b1 b2 : Int) (w : World) : (binOp .neq 174 (.agg #[.int .i64 a1, .int .i64 a2]) (.agg #[.int .i64 b1, .int .i64 b2])).run Tryz.prog w = .ok (.bool (!decide ((a1, a2) = (b1, b2)))) w := by
 by_cases h1 : a1 = b1
 ·by_cases h2 : a2 = b2
  ·subst h1 h2; go_simp
  ·subst h1; rw [decide_eq_false (by simpa using h2)]; go_simp
 ·rw [decide_eq_false (by simp [h1])]; go_simp
def zrs7 (m : Nat) : List Value := (Builtin.zeroCells #[.int .i64 0, .int .i64 0] m).toList
theorem zrs7_len (m : Nat) : (zrs7 m).length = m * 2 := by simp [zrs7, Builtin.zeroCells]
theorem zrs7_one (m : Nat) : ∀ v ∈ zrs7 m, v.oneCell' = true := by
 intro v hv
 simp only [zrs7, Builtin.zeroCells, Array.toList_map, List.mem_map] at hv
 obtain ⟨i, -, rfl⟩ := hv
 have : i % 2 = 0 ∨ i % 2 = 1 := by omega
 rcases this with h | h <;> simp [h] <;> rfl
theorem clear7_any (g i m c : Nat) (w : World) (cur : Array Value) (hg : w.heap[g]? = some (.cells cur 174 (0, 0))) (hm : 0 < m) (hfit : i * 2 + m * 2 <= cur.size) (ty : TypeId) :
  (Builtin.clear_ #[172] ty #[.slice (some ⟨g, i * 2, none⟩) m c]).run Tryz.prog w = .ok (.tuple #[]) (w.setRow g (cur.toList.take (i * 2) ++ zrs7 m ++ cur.toList.drop (i * 2 + (zrs7 m).length)).toArray) := by
 have hst := run_storeCells_at (P := Tryz.prog) g (i * 2) 174 (zrs7 m) 0 cur w hg (by rw [zrs7_len]; omega) (zrs7_one m)
 simp only [Nat.add_zero] at hst
 obtain ⟨q, rfl⟩ : ∃ q, m = q + 1 := ⟨m - 1, by omega⟩
 have hz : (Builtin.zeroCells (Value.agg #[Value.int .i64 0, Value.int .i64 0]).cells (q + 1)).toList = zrs7 (q + 1) := rfl
 simp [Builtin.clear_, run_underlying Tryz.underlying172, hz, hst]
def CK7 (w : World) (g : Nat) (M : List (Int × Int)) (R : List Value) : Prop := Bk w g (ces7 M ++ R).toArray 174
theorem CK7.at_ {w : World} {g : Nat} {M : List (Int × Int)} {R : List Value} (h : CK7 w g M R) {j : Nat} {p : Int × Int} (hp : M[j]? = some p) : w.cell? ⟨g, j * 2, none⟩ = some (.int .i64 p.1) /\ w.cell? ⟨g, j * 2 + 1, none⟩ = some (.int .i64 p.2) := by
 have hj := (List.getElem?_eq_some_iff.1 hp).1
 refine ⟨h.cell ?_, h.cell ?_⟩
 ·have := ces7_get M j p hp 0 (by omega)
  rw [List.getElem?_toArray, List.getElem?_append_left (by rw [ces7_len]; omega)]
  exact this
 ·have := ces7_get M j p hp 1 (by omega)
  rw [List.getElem?_toArray, List.getElem?_append_left (by rw [ces7_len]; omega)]
  exact this
theorem ces7_take : ∀ (M : List (Int × Int)) (k : Nat), (ces7 M).take (k * 2) = ces7 (M.take k)
 | [], k => by simp [ces7]
 | p :: M, 0 => by simp [ces7]
 | p :: M, k + 1 => by
  have ih := ces7_take M k
  have e : ces7 (p :: M) = .int .i64 p.1 :: .int .i64 p.2 :: ces7 M := by simp [ces7, cel7]
  have e2 : ces7 ((p :: M).take (k + 1)) = .int .i64 p.1 :: .int .i64 p.2 :: ces7 (M.take k) := by simp [ces7, cel7]
  rw [e, e2, <- ih, show (k + 1) * 2 = k * 2 + 1 + 1 by omega]
  simp
theorem ces7_set : ∀ (M : List (Int × Int)) (i : Nat) (x : Int × Int), i < M.length -> ((ces7 M).set (i * 2) (.int .i64 x.1)).set (i * 2 + 1) (.int .i64 x.2) = ces7 (M.set i x)
 | [], i, x, h => by simp at h
 | p :: M, 0, x, _ => by simp [ces7, cel7]
 | p :: M, i + 1, x, h => by
  have ih := ces7_set M i x (by simpa using h)
  have e : ces7 (p :: M) = .int .i64 p.1 :: .int .i64 p.2 :: ces7 M := by simp [ces7, cel7]
  have e2 : ces7 ((p :: M).set (i + 1) x) = .int .i64 p.1 :: .int .i64 p.2 :: ces7 (M.set i x) := by simp [ces7, cel7]
  rw [e, e2, <- ih, show (i + 1) * 2 = i * 2 + 1 + 1 by omega]
  simp
theorem CK7.put {w : World} {g : Nat} {M : List (Int × Int)} {R : List Value} (h : CK7 w g M R) {i : Nat} (x : Int × Int) (hi : i < M.length) : CK7 ((w.setCell ⟨g, i * 2, none⟩ (.int .i64 x.1)).setCell ⟨g, i * 2 + 1, none⟩ (.int .i64 x.2)) g (M.set i x) R := by
 have h1 := (Bk.set h (i * 2) (.int .i64 x.1)).set (i * 2 + 1) (.int .i64 x.2)
 unfold CK7
 rw [<- ces7_set M i x hi]
 have e : ((ces7 M ++ R).toArray.setIfInBounds (i * 2) (.int .i64 x.1)).setIfInBounds (i * 2 + 1) (.int .i64 x.2) = (((ces7 M).set (i * 2) (.int .i64 x.1)).set (i * 2 + 1) (.int .i64 x.2) ++ R).toArray := by
  rw [List.setIfInBounds_toArray, List.setIfInBounds_toArray, List.set_append_left _ _ (by rw [ces7_len]; omega), List.set_append_left _ _ (by simp [ces7_len]; omega)]
 rw [<- e]
 exact h1
theorem below_drewN7' (X : World) (n : Nat) : Below X.heap.size X (X.drewN n) := ⟨rfl, rfl, rfl, Nat.le_refl _, fun _ _ => rfl⟩
theorem arr7 {l : List (Int × Int)} {j : Nat} {p : Int × Int} (h : l[j]? = some p) : l.toArray[j]! = p := by
 obtain ⟨hj, rfl⟩ := List.getElem?_eq_some_iff.1 h
 simp [hj]
theorem get7 {d : Array (Int × Int)} {j : Nat} {p : Int × Int} (hj : j < d.size) (h : d[j]! = p) : d.toList[j]? = some p := by
 rw [<- h, getElem!_pos d j hj]
 simp [hj]
theorem compact_is {l : List (Int × Int)} {m kk : Nat} {dk : Array (Int × Int)} (h : CompInv l.toArray m kk dk) (hm : m = l.length) : compact l = dk.toList.take kk := by
 unfold compact
 rw [<- hm]
 have hs := h.size
 have hl := h.lt
 have : l.toArray.size = l.length := by simp
 apply List.ext_getElem?
 intro j
 by_cases hj : j < kk
 ·rw [h.low j hj, List.getElem?_take_of_lt hj]
  exact (get7 (by omega) rfl).symm
 ·rw [List.getElem?_eq_none (by rw [h.len]; omega), List.getElem?_take_eq_none (by omega)]
set_option maxRecDepth 20000 in
set_option maxHeartbeats 2000000 in
theorem compact7_any (g cap n base : Nat) (l : List (Int × Int)) (w : World) (h : OwC7 w base (.slice (some ⟨g, 0, none⟩) n cap) l) (hn : l.length = n) :
  Calls Tryz.prog 129 #[.slice (some ⟨g, 0, none⟩) n cap] w fun e w' => e = .returned (.slice (some ⟨g, 0, none⟩) (compact l).length cap) /\ OwC7 w' base (.slice (some ⟨g, 0, none⟩) (compact l).length cap) (compact l) /\ Fr (fun b => b = g) w w' := by
 have H := hm7 h
 obtain ⟨R, hck, hnc, hcm, hcs⟩ : ∃ R, CK7 w g l R /\ n <= cap /\ cap <= 9223372036854775807 /\ n * 2 + R.length = cap * 2 := by
  rcases h.2 with ⟨h, _⟩ | ⟨g', cap', cur, hv, hb, hg, hnn, hc, hs, ht⟩
  ·cases h
  ·simp only [Value.slice.injEq, Option.some.injEq, Addr.mk.injEq] at hv
   obtain ⟨⟨rfl, -⟩, -, rfl⟩ := hv
   refine ⟨cur.toList.drop (l.length * 2), ?_, by omega, by unfold maxLen at hc; omega, ?_⟩
   ·unfold CK7
    rw [<- ht, List.take_append_drop]
    exact hg
   ·rw [List.length_drop, Array.length_toList, hs, hn]; omega
 have HCK := hm7 hck
 have HN := hm7 hn
 clear h hck hn
 have qe := eqc7_any
 have qn := nec7_any
 by_cases h2 : n < 2
 ·have i1 : (n : Int) < 2 := by omega
  have HC : Hid (compact l = l) := compact_all l fun j hj => keeps_lt_one _ j (by have := HN.out; omega)
  go_enter Tryz.func129, Tryz.ntmps129
  go_wp2
  go_ret
  rw [HC.out, HN.out]
  exact ⟨rfl, H.out, Fr.refl _ _⟩
 ·have i1 : ¬ (n : Int) < 2 := by omega
  go_enter Tryz.func129, Tryz.ntmps129
  go_wp2
  go_loopg [3] (n - 1) (fun gg s3 wr => ∃ k q : Nat, 1 <= k /\ k + gg = n /\ s3 = .int .i64 k /\ wr = w.drewN q /\ ∀ j, j < k -> keeps l.toArray j = true)
  case atStart => exact ⟨1, 0, by omega, by omega, rfl, rfl, keeps_lt_one _⟩
  case round =>
   obtain ⟨k, q, hk1, hk, rfl, rfl, hall⟩ := hrel
   have HA := hm7 hall
   clear hall
   cases gk with
   | succ gg =>
    have hlt : (k : Int) < (n : Int) := by omega
    have k0 : (0 : Int) <= (k : Int) := by omega
    obtain ⟨⟨x1, x2⟩, hx⟩ : ∃ p, l[k]? = some p := ⟨_, List.getElem?_eq_getElem (by have := HN.out; omega)⟩
    obtain ⟨⟨y1, y2⟩, hy⟩ : ∃ p, l[k - 1]? = some p := ⟨_, List.getElem?_eq_getElem (by have := HN.out; omega)⟩
    obtain ⟨c0, c1⟩ := HCK.out.at_ hx
    obtain ⟨c2, c3⟩ := HCK.out.at_ hy
    have e1 : ((k : Int) - 1) = ((k - 1 : Nat) : Int) := by omega
    have HXY := hm7 (And.intro hx hy)
    simp only at c0 c1 c2 c3
    clear hx hy
    by_cases hd : (x1, x2) = (y1, y2)
    ·simp only [Prod.mk.injEq] at hd
     obtain ⟨rfl, rfl⟩ := hd
     go_wp2
     go_quiet (fail)
     go_wp2
     clear c0 c1 c2 c3
     go_loopg [3, 5] (n - k - 1) (fun gg2 s3 s5 wr => ∃ (kk k2 : Nat) (dk : Array (Int × Int)), s3 = .int .i64 kk /\ s5 = .int .i64 k2 /\ 1 <= k2 /\ k + k2 + gg2 = n /\ CK7 wr g dk.toList R /\ Fr (fun b => b = g) w wr /\ CompInv l.toArray (k + k2) kk dk)
     case atStart => exact ⟨k, 1, l.toArray, rfl, rfl, Nat.le_refl _, by omega, HCK.out, Fr.of (below_drewN7' w _), CompInv.start HA.out (keeps_neg (by omega) (by rw [arr7 HXY.out.1, arr7 HXY.out.2]))⟩
     case round =>
      obtain ⟨kk, k2, dk, rfl, rfl, h21, h2n, hck, hfr, hci⟩ := hrel
      have hkk := hci.lt
      have hds : dk.size = n := by rw [hci.size]; simpa using HN.out
      have HCK2 := hm7 hck
      have HFR := hm7 hfr
      have HCI := hm7 hci
      clear hck hfr hci
      cases gk with
      | succ gg2 =>
       have hlt2 : (k2 : Int) < ((n - k : Nat) : Int) := by omega
       have m0 : (0 : Int) <= (k2 : Int) := by omega
       obtain ⟨⟨u1, u2⟩, hu⟩ : ∃ u, dk[k + k2]! = u := ⟨_, rfl⟩
       obtain ⟨⟨v1, v2⟩, hv⟩ : ∃ u, dk[k + k2 - 1]! = u := ⟨_, rfl⟩
       obtain ⟨c0, c1⟩ := HCK2.out.at_ (get7 (by omega) hu)
       obtain ⟨c2, c3⟩ := HCK2.out.at_ (get7 (by omega) hv)
       rw [show (k + k2) * 2 = k * 2 + k2 * 2 by omega] at c0 c1
       rw [show (k + k2 - 1) * 2 = k * 2 + (k2 - 1) * 2 by omega] at c2 c3
       have e2 : ((k2 : Int) - 1) = ((k2 - 1 : Nat) : Int) := by omega
       rw [HCI.out.high _ (by omega)] at hu hv
       have HUV := hm7 (And.intro hu hv)
       simp only at c0 c1 c2 c3
       clear hu hv
       by_cases huv : (u1, u2) = (v1, v2)
       ·simp only [Prod.mk.injEq] at huv
        obtain ⟨rfl, rfl⟩ := huv
        go_wp2
        go_quiet (fail)
        go_wp2
        go_roundg gg2
        case measure => omega
        case rel => exact ⟨kk, k2 + 1, dk, rfl, by go_num, by omega, by omega, HCK2.out, HFR.out.then (below_drewN7' _ _), HCI.out.skip (keeps_neg (by omega) (by rw [HUV.out.1, HUV.out.2]))⟩
       ·have hdd : decide ((u1, u2) = (v1, v2)) = false := decide_eq_false huv
        have HQ := hm7 huv
        have f0 := HCK2.out.froz (kk * 2)
        have f1 := HCK2.out.froz (kk * 2 + 1)
        obtain ⟨⟨o1, o2⟩, ho⟩ : ∃ u, dk[kk]! = u := ⟨_, rfl⟩
        obtain ⟨c4, c5⟩ := HCK2.out.at_ (get7 (by omega) ho)
        have hkn : (kk : Int) < (n : Int) := by omega
        clear ho
        go_wp2
        go_quiet (fail)
        go_wp2
        go_roundg gg2
        case measure => omega
        case rel =>
         refine ⟨kk + 1, k2 + 1, dk.setIfInBounds kk (u1, u2), by go_num, by go_num, by omega, by omega, ?_, Fr.set (Fr.set (HFR.out.then (below_drewN7' _ _)) (Or.inl rfl)) (Or.inl rfl), ?_⟩
         ·rw [Array.toList_setIfInBounds]
          exact CK7.put (w := wr.drewN _) HCK2.out (u1, u2) (by rw [Array.length_toList]; omega)
         ·have := HCI.out.keep (by simp; have := HN.out; omega) (keeps_pos (by rw [HUV.out.1, HUV.out.2]; exact HQ.out))
          rwa [HUV.out.1] at this
      | zero =>
       have hlt2 : ¬ (k2 : Int) < ((n - k : Nat) : Int) := by omega
       have hsz : (ces7 dk.toList ++ R).toArray.size = cap * 2 := by
        simp only [List.size_toArray, List.length_append, ces7_len, Array.length_toList, hds]; exact hcs
       have hcl := clear7_any g kk (n - kk) (cap - kk) wr _ HCK2.out (by omega) (by rw [hsz]; omega)
       have hcp : compact l = dk.toList.take kk := compact_is HCI.out (by have := HN.out; omega)
       have HCP := hm7 hcp
       clear hcp
       have HKL : Hid ((dk.toList.take kk).length = kk) := by show _ = _; rw [List.length_take, Array.length_toList]; omega
       have hkn : (kk : Int) <= (n : Int) := by omega
       have hkc : (kk : Int) <= (cap : Int) := by omega
       go_wp2
       go_ret
       rw [HCP.out, HKL.out]
       have hbg := (H.out.lt g rfl).1
       refine ⟨rfl, ?_, HFR.out.tr ⟨rfl, rfl, rfl, by simp [World.setRow], fun b _ hb => setRow_other wr g b _ (fun e => hb (by omega))⟩⟩
       unfold OwC7
       rw [HKL.out]
       refine ⟨by rw [ces7_len, HKL.out], Or.inr ⟨g, cap, _, rfl, hbg, setRow_heap wr g _ _ 174 (0, 0) HCK2.out, by omega, by unfold maxLen; omega, ?_, ?_⟩⟩
       ·simp only [List.size_toArray, List.length_append, List.length_take, List.length_drop, zrs7_len, ces7_len, Array.length_toList, hds]
        omega
       ·try rw [List.append_assoc]
        rw [List.take_append_of_le_length (by simp only [List.length_take, List.length_append, ces7_len, Array.length_toList, hds]; omega), List.take_take, Nat.min_self, List.take_append_of_le_length (by rw [ces7_len, Array.length_toList]; omega)]
        exact ces7_take _ _
    ·have hdd : decide ((x1, x2) = (y1, y2)) = false := decide_eq_false hd
     have HD := hm7 hd
     go_wp2
     go_quiet (fail)
     go_wp2
     go_roundg gg
     case measure => omega
     case rel =>
      refine ⟨k + 1, _, by omega, by omega, by go_num, rfl, fun j hj => ?_⟩
      by_cases e : j = k
      ·subst e
       exact keeps_pos (by rw [arr7 HXY.out.1, arr7 HXY.out.2]; exact HD.out)
      ·exact HA.out j (by omega)
   | zero =>
    obtain rfl : k = n := by omega
    have hlt : ¬ (k : Int) < (k : Int) := by omega
    have HC : Hid (compact l = l) := compact_all l fun j hj => HA.out j (by have := HN.out; omega)
    go_wp2
    go_ret
    rw [HC.out, HN.out]
    exact ⟨rfl, row7_below H.out (below_drewN7' w _), Fr.of (below_drewN7' w _)⟩
end Go.Proofs.YtechceagghcipabGreatDoor
