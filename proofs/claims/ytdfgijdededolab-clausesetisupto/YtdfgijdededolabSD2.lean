/-
  Lists of clauses of the call's own, and their sort. (Written by SD2.py.)
-/
import Derived.Test.YtdfgijdededolabSD1
import Derived.Test.YtdfgijdededolabCL22
import Derived.Test.YtdfgijdededolabShelf
import Derived.Sort.OwnSorted
import Derived.Laws.AppendOwn
namespace Go.Proofs.Ytdfgijdededolab
open Go.RowKit Go.Shelf Go.Lib Go.Sort

def Cm.csl (c : Cm) : List Value := c.cs.toList
def ccs (l : List Cm) : List Value := l.flatMap Cm.csl
theorem ccs_len (l : List Cm) : (ccs l).length = l.length * 7 := by
  induction l with
  | nil => rfl
  | cons d l ih => simp only [ccs, List.flatMap_cons, List.length_append, List.length_cons] at *; rw [ih]; simp [Cm.csl]; omega
theorem ccs_app (l m : List Cm) : ccs (l ++ m) = ccs l ++ ccs m := by simp [ccs]
theorem ccs_get (l : List Cm) (j : Nat) (d : Cm) (h : l[j]? = some d) (i : Nat) (hi : i < 7) : (ccs l)[j * 7 + i]? = d.csl[i]? := by
  induction l generalizing j with
  | nil => simp at h
  | cons e l ih =>
    have hl : e.csl.length = 7 := rfl
    have ec : ccs (e :: l) = e.csl ++ ccs l := by simp [ccs]
    cases j with
    | zero =>
      simp at h
      subst h
      rw [ec, Nat.zero_mul, Nat.zero_add, List.getElem?_append_left (by omega)]
    | succ j =>
      rw [List.getElem?_cons_succ] at h
      rw [ec, List.getElem?_append_right (by omega), hl, show (j + 1) * 7 + i - 7 = j * 7 + i by omega]
      exact ih j h
def OwnC (w : World) (base : Nat) (v : Value) (l : List Cm) : Prop := w.ownsRow base 30 7 v l.length (ccs l)
theorem OwnC.lt {w : World} {base : Nat} {v : Value} {l : List Cm} (h : OwnC w base v l) : ∀ k, v.ownBlock = some k → base ≤ k ∧ k < w.heap.size := World.ownsRow.lt h
theorem dbelow_grow {w w' : World} (h : DBelow w.heap.size w w') : ∃ q os', w' = grow (w.drewN q) os' := by
  refine ⟨w'.drawn - w.drawn, w'.heap.extract w.heap.size w'.heap.size, ?_⟩
  obtain ⟨hp, tp, dr, os, out⟩ := w
  obtain ⟨hp', tp', dr', os', out'⟩ := w'
  obtain ⟨⟨h1, h2, h3, h4, h5⟩, h6⟩ := h
  simp only at h1 h2 h3 h4 h5 h6
  subst h1 h2 h3
  have e1 : hp' = hp ++ hp'.extract hp.size hp'.size := by
    apply Array.ext_getElem?
    intro i
    by_cases hi : i < hp.size
    · rw [Array.getElem?_append_left hi]; exact h5 i hi
    · rw [Array.getElem?_append_right (by omega), Array.getElem?_extract]
      by_cases hi2 : i < hp'.size
      · rw [if_pos (by omega), show hp.size + (i - hp.size) = i by omega]
      · rw [if_neg (by omega), Array.getElem?_eq_none (by omega)]
  show World.mk hp' tp' dr' os' out' = World.mk (hp ++ hp'.extract hp.size hp'.size) tp' (dr + (dr' - dr)) os' out'
  rw [← e1, show dr + (dr' - dr) = dr' by omega]
/-- A clause that stays wherever the blocks below g stay. -/
def Cf (w : World) (g : Nat) : Type := { c : Cm // ∀ X : World, RowKit.Below g w X → c.ok X }
def zC : Cm := ⟨(⟨zt, ⟨#[]⟩, []⟩, .slice none 0 0), [], .slice none 0 0, [], .slice none 0 0⟩
theorem zC_ok (w : World) : zC.ok w := ⟨⟨none, 0, rfl, by simp [zC], Or.inl rfl⟩, ⟨none, 0, rfl, by simp [zC], Or.inl rfl, fun x hx => by simp [zC] at hx⟩, ⟨none, 0, rfl, by simp [zC], Or.inl rfl⟩⟩
instance (w : World) (g : Nat) : Inhabited (Cf w g) := ⟨⟨zC, fun X _ => zC_ok X⟩⟩
def Cf.cs {w : World} {g : Nat} (x : Cf w g) : List Value := x.1.csl
def cfC {w : World} {g : Nat} (x y : Cf w g) : Int := x.1.cmp y.1
theorem ltC {w : World} {g : Nat} (x y : Cf w g) : ltOf cfC x y = decide (cmpC x.1.key y.1.key < 0) := by unfold ltOf cfC; rw [cmp_key]
theorem swoC (w : World) (g : Nat) : SWO (ltOf (cfC (w := w) (g := g))) where
  irrefl x := by rw [ltC, ord_c.refl]; rfl
  trans x y z h1 h2 := by
    rw [ltC] at *
    simp only [decide_eq_true_eq] at *
    exact (ord_c.tr _ _ _ (by omega) (by omega)).2 (Or.inl h1)
  ntrans x y z h1 h2 := by
    rw [ltC] at *
    simp only [decide_eq_false_iff_not] at *
    have n1 := ord_c.neg x.1.key y.1.key
    have n2 := ord_c.neg y.1.key z.1.key
    have n3 := ord_c.neg x.1.key z.1.key
    have := (ord_c.tr z.1.key y.1.key x.1.key (by omega) (by omega)).1
    omega
theorem flatC {w : World} {g : Nat} (d : Array (Cf w g)) : flatK Cf.cs 7 d = (ccs (d.toList.map (·.1))).toArray := by
  apply Array.ext
  · simp [ccs_len]
  · intro t h1 h2
    have ht : t < d.size * 7 := by simpa using h1
    have hq : t / 7 < d.size := by omega
    have hd : (d.toList.map (·.1))[t / 7]? = some (d[t / 7]!).1 := by
      rw [getElem!_pos d (t / 7) hq]; simp [hq]
    have hg := ccs_get (d.toList.map (·.1)) (t / 7) _ hd (t % 7) (by omega)
    rw [show t / 7 * 7 + t % 7 = t by omega] at hg
    have e1 : (flatK Cf.cs 7 d)[t] = (Cf.cs d[t / 7]!)[t % 7]! := by
      have := get_flatK Cf.cs 7 d t ht
      rwa [getElem!_pos _ t h1] at this
    rw [e1]
    have hc : t % 7 < (Cf.cs d[t / 7]!).length := by simp [Cf.cs, Cm.csl]; omega
    rw [getElem!_pos (Cf.cs d[t / 7]!) (t % 7) hc]
    have h3 : t < (ccs (d.toList.map (·.1))).length := by simpa using h2
    have hg2 : (ccs (d.toList.map (·.1)))[t]? = (Cf.cs d[t / 7]!)[t % 7]? := hg
    rw [List.getElem?_eq_getElem hc, List.getElem?_eq_getElem h3] at hg2
    simpa using (Option.some.inj hg2).symm
theorem holdsC {w : World} {base g cap : Nat} {d : Array (Cf w g)} (h : OwnC w base (.slice (some ⟨g, 0, none⟩) d.size cap) (d.toList.map (·.1))) : HoldsK Cf.cs 7 w g 0 d := by
  rcases h.2 with ⟨h, _⟩ | ⟨g', cap', cur, hv, hb, hg, hn, hc, hs, ht⟩
  · cases h
  · simp only [Value.slice.injEq, Option.some.injEq, Addr.mk.injEq] at hv
    obtain ⟨⟨rfl, -⟩, -, rfl⟩ := hv
    intro j hj
    rw [flatC] at hj ⊢
    have hj' : j < (ccs (d.toList.map (·.1))).length := by simpa using hj
    refine ⟨?_, by simp [World.frozen?, hg]⟩
    rw [Nat.zero_add, cell_of_row _ _ _ _ _ _ hg, getElem!_pos _ j hj]
    have h1 : (cur.toList.take ((d.toList.map (·.1)).length * 7))[j]? = (ccs (d.toList.map (·.1)))[j]? := by rw [ht]
    rw [List.getElem?_take_of_lt (by rw [ccs_len] at hj'; exact hj'), List.getElem?_eq_getElem hj'] at h1
    simpa using h1
theorem grownC {w : World} {g n : Nat} {os : Array Obj} {d' : Array (Cf w g)} : w.grownBy (sortWorldK Cf.cs 7 w g 0 n d' os) (some g) := by
  refine ⟨rfl, rfl, rfl, by simp [sortWorldK, putRowK], fun k hk hne => ?_⟩
  unfold sortWorldK putRowK
  rw [heap_grow_old _ _ (by simpa using hk)]
  have : g ≠ k := fun e => hne (by rw [e])
  simp [putRow, mapBlock, Sort.ahead, Array.getElem?_modify, this]
theorem belowC {w : World} {g n : Nat} {os : Array Obj} {d' : Array (Cf w g)} (hgs : g < w.heap.size) : RowKit.Below g w (sortWorldK Cf.cs 7 w g 0 n d' os) :=
  (RowKit.Below.refl _ _).grown grownC (Nat.le_of_lt hgs) (fun q e => by cases e; exact Nat.le_refl _)
theorem cmpLaysC (blk size : Nat) (w : World) (hgs : blk < w.heap.size) : CmpLays Try.prog 8 #[] (Cf.cs (w := w) (g := blk)) 7 cfC blk 0 size w :=
  fun _ _ _ _ x y => (compareCD_any x.1 y.1 _ (x.2 _ (belowC hgs)) (y.2 _ (belowC hgs))).mono fun _ _ ⟨he, hb⟩ => ⟨he, dbelow_grow hb⟩
theorem ownC {w : World} {base g cap n : Nat} {os : Array Obj} {d d' : Array (Cf w g)} (h : OwnC w base (.slice (some ⟨g, 0, none⟩) d.size cap) (d.toList.map (·.1))) (hs : d'.size = d.size) :
    OwnC (sortWorldK Cf.cs 7 w g 0 n d' os) base (.slice (some ⟨g, 0, none⟩) d.size cap) (d'.toList.map (·.1)) := by
  rcases h.2 with ⟨h, _⟩ | ⟨g', cap', cur, hv, hb, hg, hn, hc, hsz, ht⟩
  · cases h
  · simp only [Value.slice.injEq, Option.some.injEq, Addr.mk.injEq] at hv
    obtain ⟨⟨rfl, -⟩, -, rfl⟩ := hv
    have hgs : g < w.heap.size := (Array.getElem?_eq_some_iff.1 hg).1
    have hH : (sortWorldK Cf.cs 7 w g 0 n d' os).heap[g]? = some (.cells (putCells id 0 (ccs (d'.toList.map (·.1))).toArray cur) 30 (0, 0)) := by
      unfold sortWorldK putRowK
      rw [flatC, heap_grow_old _ _ (by simpa using hgs)]
      simp [putRow, mapBlock, Sort.ahead, Array.getElem?_modify, hg, onCells]
    have hl : (d'.toList.map (·.1)).length = (d.toList.map (·.1)).length := by simp [hs]
    refine ⟨ccs_len _, Or.inr ⟨g, cap, _, by simp [hs], hb, hH, by rw [hl]; exact hn, hc, by simp [putCells, hsz], ?_⟩⟩
    apply List.ext_getElem?
    intro j
    by_cases hj : j < (d'.toList.map (·.1)).length * 7
    · have hjc : j < cur.size := by rw [hsz]; rw [hl] at hj; exact Nat.lt_of_lt_of_le hj (Nat.mul_le_mul_right 7 hn)
      have hjb : j < (ccs (d'.toList.map (·.1))).length := by rw [ccs_len]; exact hj
      rw [List.getElem?_take_of_lt hj, Array.getElem?_toList]
      simp [putCells, hjb, hjc]
    · rw [List.getElem?_take_eq_none (by omega), List.getElem?_eq_none (by rw [ccs_len]; omega)]
/-- Rising, by Compare. -/
def srtC (l : List Cm) : Prop := l.Pairwise fun a b => cmpC a.key b.key ≤ 0
theorem perm_ofC {w : World} {g : Nat} {d d' : Array (Cf w g)} (h : PermIn 0 d.size d d') : (d'.toList.map (·.1)).Perm (d.toList.map (·.1)) := by
  obtain ⟨hs, -, hp⟩ := h
  have e1 : d'.extract 0 d.size = d' := by rw [← hs]; simp
  have e2 : d.extract 0 d.size = d := by simp
  rw [e1, e2] at hp
  exact List.Perm.map _ hp
theorem srt_ofC {w : World} {g : Nat} {d d' : Array (Cf w g)} (hs : d'.size = d.size) (h : SortedIn (ltOf cfC) 0 d.size d') : srtC (d'.toList.map (·.1)) := by
  unfold srtC
  rw [List.pairwise_iff_getElem]
  intro i j hi hj hij
  have hj' : j < d'.size := by simpa using hj
  have hi' : i < d'.size := by simpa using hi
  have := h i j (Nat.zero_le _) hij (by omega)
  rw [ltC, getElem!_pos d' j hj', getElem!_pos d' i hi'] at this
  simp only [decide_eq_false_iff_not] at this
  simp only [List.getElem_map, Array.getElem_toList]
  have := ord_c.neg (d'[i]).1.key (d'[j]).1.key
  omega
set_option maxHeartbeats 2000000 in
theorem sortFuncC_all (g cap base : Nat) (w : World) (d : Array (Cf w g)) (h : OwnC w base (.slice (some ⟨g, 0, none⟩) d.size cap) (d.toList.map (·.1))) (hsz : d.size < 4611686018427387904) :
    Calls Try.prog 32 #[.slice (some ⟨g, 0, none⟩) d.size cap, .func (.func 8) #[] #[]] w fun e w' => e = .returned (.tuple #[]) ∧ ∃ l', OwnC w' base (.slice (some ⟨g, 0, none⟩) d.size cap) l' ∧ l'.Perm (d.toList.map (·.1)) ∧ srtC l' ∧ RowKit.Below g w w' := by
  have hlt := h.lt g rfl
  have eg : ∀ args w, (callFunc 8 args).run Try.prog w = .ok (.enter 8 args) w := enters_of Try.func8 (by kernel_rfl) rfl
  have hlim : Lib.bitLen d.size < 4611686018427387904 := Nat.lt_of_le_of_lt (Lib.bitLen_le d.size 62 (by omega) (by omega)) (by omega)
  have hp := AnyQ.pdqsortCmpFunc_all (P := Try.prog) Try.pdqCm 7 Try.isAgg30 Try.sizeOf30 Cf.cs cfC 8 #[] (swoC w g) g 0 cap d w eg (cmpLaysC g d.size w hlt.2)
    ⟨fun _ => rfl, fun x v hv => by
      obtain ⟨⟨a, n, cp, e1⟩, ⟨a', cp', e2⟩, ⟨a'', cp'', e3⟩, -, -⟩ := (x.2 w (RowKit.Below.refl _ _)).shape
      simp only [Cf.cs, Cm.csl, e1, e2, e3] at hv
      simp at hv
      rcases hv with rfl | rfl | rfl | rfl | rfl | rfl | rfl <;> rfl, holdsC h, hlt.2⟩ (d.size + 1) 0 d.size (Lib.bitLen d.size) d w (by omega) rfl (SWK.start (holdsC h)) (Nat.zero_le _) (Nat.le_refl _) hsz hlim (Or.inl rfl)
  change Calls Try.prog 56 _ _ _ at hp
  have hl := Any.bits_Len Try.bitsLen (d.size : Int) w (by omega) (by omega)
  change Calls Try.prog 57 _ _ _ at hl
  rw [Int.toNat_natCast] at hl
  have hs := pdq_sorts (ltOf cfC) (swoC w g) d 0 d.size (Lib.bitLen d.size) true true (Nat.zero_le _) (Nat.le_refl _) (Or.inl rfl)
  obtain ⟨d', hd'⟩ : ∃ d', pdq (ltOf cfC) d 0 d.size (Lib.bitLen d.size) true true = d' := ⟨_, rfl⟩
  rw [hd'] at hp hs
  have HP : Hid (Calls Try.prog 56 #[.slice (some ⟨g, 0, none⟩) d.size cap, .int .i64 ((0 : Nat) : Int), .int .i64 d.size, .int .i64 (Lib.bitLen d.size), .func (.func 8) #[] #[]] w fun e w' => e = .returned (.tuple #[]) ∧ SWK Cf.cs 7 w g 0 d' w') := hp
  have HS : Hid (PermIn 0 d.size d d' ∧ SortedIn (ltOf cfC) 0 d.size d') := hs
  have HO : Hid (OwnC w base (.slice (some ⟨g, 0, none⟩) d.size cap) (d.toList.map (·.1))) := h
  have HL : Hid (Calls Try.prog 57 #[.int .u64 (d.size : Int)] w fun e w' => e = .returned (.int .i64 (Lib.bitLen d.size)) ∧ w' = w) := hl
  have wr : IntKind.u64.wrap (d.size : Int) = d.size := by rw [IntKind.wrap_u64]; omega
  clear hp hs h hl hd' eg
  go_enter Try.func32, Try.ntmps32
  go_wp2_with (first
    | (go_at_call 57; refine HL.out.mono ?_; rintro e w1 ⟨rfl, rfl⟩)
    | (go_at_call 56; refine HP.out.mono ?_; rintro e w2 ⟨rfl, hw2⟩))
  go_end0
  obtain ⟨n, os, rfl⟩ := hw2
  exact ⟨rfl, d'.toList.map (·.1), ownC HO.out HS.out.1.1, perm_ofC HS.out.1, srt_ofC HS.out.1.1 HS.out.2, belowC hlt.2⟩
end Go.Proofs.Ytdfgijdededolab
