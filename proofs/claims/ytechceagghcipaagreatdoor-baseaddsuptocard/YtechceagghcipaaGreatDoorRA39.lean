import Derived.Test.YtechceagghcipaaGreatDoorRA38
import Derived.Test.YtechceagghcipaaGreatDoorShelf
import Derived.Sort.OwnSorted
import Derived.Laws.AppendOwn
namespace Go.Proofs.YtechceagghcipaaGreatDoor
open Go.RowKit Go.Shelf Go.Lib Go.Sort

def cel7 (c : Int × Int) : List Value := [.int .i64 c.1, .int .i64 c.2]
def ces7 (l : List (Int × Int)) : List Value := l.flatMap cel7
theorem ces7_len (l : List (Int × Int)) : (ces7 l).length = l.length * 2 := by
 induction l with
 | nil => rfl
 | cons d l ih => simp only [ces7, List.flatMap_cons, List.length_append, List.length_cons] at *; rw [ih]; simp [cel7]; omega
theorem ces7_get (l : List (Int × Int)) (j : Nat) (d : Int × Int) (h : l[j]? = some d) (i : Nat) (hi : i < 2) : (ces7 l)[j * 2 + i]? = (cel7 d)[i]? := by
 induction l generalizing j with
 | nil => simp at h
 | cons e l ih =>
  have hl : (cel7 e).length = 2 := rfl
  have ec : ces7 (e :: l) = cel7 e ++ ces7 l := by simp [ces7]
  cases j with
  | zero =>
   simp at h
   subst h
   rw [ec, Nat.zero_mul, Nat.zero_add, List.getElem?_append_left (by omega)]
  | succ j =>
   rw [List.getElem?_cons_succ] at h
   rw [ec, List.getElem?_append_right (by omega), hl, show (j + 1) * 2 + i - 2 = j * 2 + i by omega]
   exact ih j h
def OwC7 (w : World) (base : Nat) (v : Value) (l : List (Int × Int)) : Prop := w.ownsRow base 182 2 v l.length (ces7 l)
theorem OwC7.lt {w : World} {base : Nat} {v : Value} {l : List (Int × Int)} (h : OwC7 w base v l) : ∀ k, v.ownBlock = some k -> base <= k /\ k < w.heap.size := World.ownsRow.lt h
theorem cc7_v (a b : Int × Int) : (cc7 a b < 0 ↔ a.1 < b.1 ∨ (a.1 = b.1 /\ a.2 < b.2)) /\ (cc7 a b = 0 ↔ a = b) := by
 obtain ⟨a1, a2⟩ := a
 obtain ⟨b1, b2⟩ := b
 simp only [cc7, or7]
 rcases sg7_v a1 b1 with ⟨e, h⟩ | ⟨e, h⟩ | ⟨e, h⟩ <;> rcases sg7_v a2 b2 with ⟨e2, h2⟩ | ⟨e2, h2⟩ | ⟨e2, h2⟩ <;> simp [e, e2] <;> omega
def cfZ7 (x y : Int × Int) : Int := cc7 x y
theorem ltZ7 (x y : Int × Int) : ltOf cfZ7 x y = decide (x.1 < y.1 ∨ (x.1 = y.1 /\ x.2 < y.2)) := by
 unfold ltOf cfZ7
 exact decide_eq_decide.2 (cc7_v x y).1
theorem swoZ7 : SWO (ltOf cfZ7) where
 irrefl x := by rw [ltZ7]; simp
 trans x y z h1 h2 := by
  rw [ltZ7] at *
  simp only [decide_eq_true_eq] at *
  omega
 ntrans x y z h1 h2 := by
  rw [ltZ7] at *
  simp only [decide_eq_false_iff_not] at *
  omega
theorem db7_grow {w w' : World} (h : DB7 w.heap.size w w') : ∃ q os', w' = grow (w.drewN q) os' := by
 refine ⟨w'.drawn - w.drawn, w'.heap.extract w.heap.size w'.heap.size, ?_⟩
 obtain ⟨hp, tp, dr, os, out⟩ := w
 obtain ⟨hp', tp', dr', os', out'⟩ := w'
 obtain ⟨⟨h1, h2, h3, h4, h5⟩, h6⟩ := h
 simp only at h1 h2 h3 h4 h5 h6
 subst h1 h2 h3
 have e1 : hp' = hp ++ hp'.extract hp.size hp'.size := by
  apply Array.ext_getElem?
  intro i
  by_cases hi : i < hp.size
  ·rw [Array.getElem?_append_left hi]; exact h5 i hi
  ·rw [Array.getElem?_append_right (by omega), Array.getElem?_extract]
   by_cases hi2 : i < hp'.size
   ·rw [if_pos (by omega), show hp.size + (i - hp.size) = i by omega]
   ·rw [if_neg (by omega), Array.getElem?_eq_none (by omega)]
 show World.mk hp' tp' dr' os' out' = World.mk (hp ++ hp'.extract hp.size hp'.size) tp' (dr + (dr' - dr)) os' out'
 rw [<- e1, show dr + (dr' - dr) = dr' by omega]
theorem flatZ7 (d : Array (Int × Int)) : flatK cel7 2 d = (ces7 d.toList).toArray := by
 apply Array.ext
 ·simp [ces7_len]
 ·intro t h1 h2
  have ht : t < d.size * 2 := by simpa using h1
  have hq : t / 2 < d.size := by omega
  have hd : d.toList[t / 2]? = some d[t / 2]! := by
   rw [getElem!_pos d (t / 2) hq]; simp [hq]
  have hg := ces7_get d.toList (t / 2) _ hd (t % 2) (by omega)
  rw [show t / 2 * 2 + t % 2 = t by omega] at hg
  have e1 : (flatK cel7 2 d)[t] = (cel7 d[t / 2]!)[t % 2]! := by
   have := get_flatK cel7 2 d t ht
   rwa [getElem!_pos _ t h1] at this
  rw [e1]
  have hc : t % 2 < (cel7 d[t / 2]!).length := by simp [cel7]; omega
  rw [getElem!_pos (cel7 d[t / 2]!) (t % 2) hc]
  have h3 : t < (ces7 d.toList).length := by simpa using h2
  have hg2 : (ces7 d.toList)[t]? = (cel7 d[t / 2]!)[t % 2]? := hg
  rw [List.getElem?_eq_getElem hc, List.getElem?_eq_getElem h3] at hg2
  simpa using (Option.some.inj hg2).symm
theorem holdsZ7 {w : World} {base g cap : Nat} {d : Array (Int × Int)} (h : OwC7 w base (.slice (some ⟨g, 0, none⟩) d.size cap) d.toList) : HoldsK cel7 2 w g 0 d := by
 rcases h.2 with ⟨h, _⟩ | ⟨g', cap', cur, hv, hb, hg, hn, hc, hs, ht⟩
 ·cases h
 ·simp only [Value.slice.injEq, Option.some.injEq, Addr.mk.injEq] at hv
  obtain ⟨⟨rfl, -⟩, -, rfl⟩ := hv
  intro j hj
  rw [flatZ7] at hj ⊢
  have hj' : j < (ces7 d.toList).length := by simpa using hj
  refine ⟨?_, by simp [World.frozen?, hg]⟩
  rw [Nat.zero_add, cell_of_row _ _ _ _ _ _ hg, getElem!_pos _ j hj]
  have h1 : (cur.toList.take (d.toList.length * 2))[j]? = (ces7 d.toList)[j]? := by rw [ht]
  rw [List.getElem?_take_of_lt (by rw [ces7_len] at hj'; exact hj'), List.getElem?_eq_getElem hj'] at h1
  simpa using h1
theorem grownZ7 {w : World} {g n : Nat} {os : Array Obj} {d' : Array (Int × Int)} : w.grownBy (sortWorldK cel7 2 w g 0 n d' os) (some g) := by
 refine ⟨rfl, rfl, rfl, by simp [sortWorldK, putRowK], fun k hk hne => ?_⟩
 unfold sortWorldK putRowK
 rw [heap_grow_old _ _ (by simpa using hk)]
 have : g ≠ k := fun e => hne (by rw [e])
 simp [putRow, mapBlock, Sort.ahead, Array.getElem?_modify, this]
theorem belowZ7 {w : World} {g n : Nat} {os : Array Obj} {d' : Array (Int × Int)} (hgs : g < w.heap.size) : RowKit.Below g w (sortWorldK cel7 2 w g 0 n d' os) :=
 (RowKit.Below.refl _ _).grown grownZ7 (Nat.le_of_lt hgs) (fun q e => by cases e; exact Nat.le_refl _)
theorem cmpLaysZ7 (blk size : Nat) (w : World) : CmpLays Tryz.prog 123 #[] cel7 2 cfZ7 blk 0 size w :=
 fun _ _ _ _ x y => (cells7_any x.1 x.2 y.1 y.2 _).mono fun _ _ ⟨he, hb⟩ => ⟨he, db7_grow hb⟩
theorem ownZ7 {w : World} {base g cap n : Nat} {os : Array Obj} {d d' : Array (Int × Int)} (h : OwC7 w base (.slice (some ⟨g, 0, none⟩) d.size cap) d.toList) (hs : d'.size = d.size) :
  OwC7 (sortWorldK cel7 2 w g 0 n d' os) base (.slice (some ⟨g, 0, none⟩) d.size cap) d'.toList := by
 rcases h.2 with ⟨h, _⟩ | ⟨g', cap', cur, hv, hb, hg, hn, hc, hsz, ht⟩
 ·cases h
 ·simp only [Value.slice.injEq, Option.some.injEq, Addr.mk.injEq] at hv
  obtain ⟨⟨rfl, -⟩, -, rfl⟩ := hv
  have hgs : g < w.heap.size := (Array.getElem?_eq_some_iff.1 hg).1
  have hH : (sortWorldK cel7 2 w g 0 n d' os).heap[g]? = some (.cells (putCells id 0 (ces7 d'.toList).toArray cur) 182 (0, 0)) := by
   unfold sortWorldK putRowK
   rw [flatZ7, heap_grow_old _ _ (by simpa using hgs)]
   simp [putRow, mapBlock, Sort.ahead, Array.getElem?_modify, hg, onCells]
  have hl : d'.toList.length = d.toList.length := by simp [hs]
  refine ⟨ces7_len _, Or.inr ⟨g, cap, _, by simp [hs], hb, hH, by rw [hl]; exact hn, hc, by simp [putCells, hsz], ?_⟩⟩
  apply List.ext_getElem?
  intro j
  by_cases hj : j < d'.toList.length * 2
  ·have hjc : j < cur.size := by rw [hsz]; rw [hl] at hj; exact Nat.lt_of_lt_of_le hj (Nat.mul_le_mul_right 2 hn)
   have hjb : j < (ces7 d'.toList).length := by rw [ces7_len]; exact hj
   rw [List.getElem?_take_of_lt hj, Array.getElem?_toList]
   simp [putCells, hjb, hjc]
  ·rw [List.getElem?_take_eq_none (by omega), List.getElem?_eq_none (by rw [ces7_len]; omega)]
def srtZ7 (l : List (Int × Int)) : Prop := l.Pairwise fun a b => a.1 < b.1 ∨ (a.1 = b.1 /\ a.2 <= b.2)
theorem perm_ofZ7 {d d' : Array (Int × Int)} (h : PermIn 0 d.size d d') : d'.toList.Perm d.toList := by
 obtain ⟨hs, -, hp⟩ := h
 have e1 : d'.extract 0 d.size = d' := by rw [<- hs]; simp
 have e2 : d.extract 0 d.size = d := by simp
 rw [e1, e2] at hp
 exact hp
theorem srt_ofZ7 {d d' : Array (Int × Int)} (hs : d'.size = d.size) (h : SortedIn (ltOf cfZ7) 0 d.size d') : srtZ7 d'.toList := by
 unfold srtZ7
 rw [List.pairwise_iff_getElem]
 intro i j hi hj hij
 have hj' : j < d'.size := by simpa using hj
 have hi' : i < d'.size := by simpa using hi
 have := h i j (Nat.zero_le _) hij (by omega)
 rw [ltZ7, getElem!_pos d' j hj', getElem!_pos d' i hi'] at this
 simp only [decide_eq_false_iff_not] at this
 simp only [Array.getElem_toList]
 omega
set_option maxHeartbeats 2000000 in
theorem sortFuncZ7_all (g cap base : Nat) (w : World) (d : Array (Int × Int)) (h : OwC7 w base (.slice (some ⟨g, 0, none⟩) d.size cap) d.toList) (hsz : d.size < 4611686018427387904) :
  Calls Tryz.prog 122 #[.slice (some ⟨g, 0, none⟩) d.size cap, .func (.func 123) #[] #[]] w fun e w' => e = .returned (.tuple #[]) /\ ∃ l', OwC7 w' base (.slice (some ⟨g, 0, none⟩) d.size cap) l' /\ l'.Perm d.toList /\ srtZ7 l' /\ RowKit.Below g w w' := by
 have hlt := h.lt g rfl
 have eg : ∀ args w, (callFunc 123 args).run Tryz.prog w = .ok (.enter 123 args) w := enters_of Tryz.func123 (by kernel_rfl) rfl
 have hlim : Lib.bitLen d.size < 4611686018427387904 := Nat.lt_of_le_of_lt (Lib.bitLen_le d.size 62 (by omega) (by omega)) (by omega)
 have hp := AnyQ.pdqsortCmpFunc_all (P := Tryz.prog) Tryz.pdqCell 2 Tryz.isAgg182 Tryz.sizeOf182 cel7 cfZ7 123 #[] swoZ7 g 0 cap d w eg (cmpLaysZ7 g d.size w)
  ⟨fun _ => rfl, fun x v hv => by simp [cel7] at hv; rcases hv with rfl | rfl <;> rfl, holdsZ7 h, hlt.2⟩ (d.size + 1) 0 d.size (Lib.bitLen d.size) d w (by omega) rfl (SWK.start (holdsZ7 h)) (Nat.zero_le _) (Nat.le_refl _) hsz hlim (Or.inl rfl)
 change Calls Tryz.prog 154 _ _ _ at hp
 have hl := Any.bits_Len Tryz.bitsLen (d.size : Int) w (by omega) (by omega)
 change Calls Tryz.prog 64 _ _ _ at hl
 rw [Int.toNat_natCast] at hl
 have hs := pdq_sorts (ltOf cfZ7) swoZ7 d 0 d.size (Lib.bitLen d.size) true true (Nat.zero_le _) (Nat.le_refl _) (Or.inl rfl)
 obtain ⟨d', hd'⟩ : ∃ d', pdq (ltOf cfZ7) d 0 d.size (Lib.bitLen d.size) true true = d' := ⟨_, rfl⟩
 rw [hd'] at hp hs
 have HP : Hid (Calls Tryz.prog 154 #[.slice (some ⟨g, 0, none⟩) d.size cap, .int .i64 ((0 : Nat) : Int), .int .i64 d.size, .int .i64 (Lib.bitLen d.size), .func (.func 123) #[] #[]] w fun e w' => e = .returned (.tuple #[]) /\ SWK cel7 2 w g 0 d' w') := hp
 have HS : Hid (PermIn 0 d.size d d' /\ SortedIn (ltOf cfZ7) 0 d.size d') := hs
 have HO : Hid (OwC7 w base (.slice (some ⟨g, 0, none⟩) d.size cap) d.toList) := h
 have HL : Hid (Calls Tryz.prog 64 #[.int .u64 (d.size : Int)] w fun e w' => e = .returned (.int .i64 (Lib.bitLen d.size)) /\ w' = w) := hl
 have wr : IntKind.u64.wrap (d.size : Int) = d.size := by rw [IntKind.wrap_u64]; omega
 clear hp hs h hl hd' eg
 go_enter Tryz.func122, Tryz.ntmps122
 go_wp2_with (first
  | (go_at_call 64; refine HL.out.mono ?_; rintro e w1 ⟨rfl, rfl⟩)
  | (go_at_call 154; refine HP.out.mono ?_; rintro e w2 ⟨rfl, hw2⟩))
 go_end0
 obtain ⟨n, os, rfl⟩ := hw2
 exact ⟨rfl, d'.toList, ownZ7 HO.out HS.out.1.1, perm_ofZ7 HS.out.1, srt_ofZ7 HS.out.1.1 HS.out.2, belowZ7 hlt.2⟩
end Go.Proofs.YtechceagghcipaaGreatDoor
