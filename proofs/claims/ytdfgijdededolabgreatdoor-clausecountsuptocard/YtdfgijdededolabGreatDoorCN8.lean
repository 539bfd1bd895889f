import Derived.Test.YtdfgijdededolabGreatDoorShelf2
import Derived.Test.YtdfgijdededolabGreatDoorMD2
import Derived.Test.YtdfgijdededolabGreatDoorCL22
import Derived.Sort.OwnSorted
import Derived.Laws.AppendOwn
import Derived.Maps.RangeWalk
/-
  The sort of terms. (Written by CN5.py, out of SD2.)
-/
namespace Go.Proofs.YtdfgijdededolabGreatDoor
open Go.RowKit Go.Shelf Go.Lib Go.Sort

instance : Inhabited Tm := ⟨⟨0, 0, ⟨#[]⟩⟩⟩
theorem lt5T (x y : Tm) : ltOf Tm.cmp x y = decide (Tm.cmp x y < 0) := rfl
theorem swo5T : SWO (ltOf Tm.cmp) where
  irrefl x := by rw [lt5T, ord_tm.refl]; rfl
  trans x y z h1 h2 := by
    rw [lt5T] at *
    simp only [decide_eq_true_eq] at *
    exact (ord_tm.tr _ _ _ (by omega) (by omega)).2 (Or.inl h1)
  ntrans x y z h1 h2 := by
    rw [lt5T] at *
    simp only [decide_eq_false_iff_not] at *
    have n1 := ord_tm.neg x y
    have n2 := ord_tm.neg y z
    have n3 := ord_tm.neg x z
    have := (ord_tm.tr z y x (by omega) (by omega)).1
    omega
theorem flat5T (d : Array Tm) : flatK Tm.cs 3 d = (tcs (d.toList)).toArray := by
  apply Array.ext
  · simp [tcs_len]
  · intro t h1 h2
    have ht : t < d.size * 3 := by simpa using h1
    have hq : t / 3 < d.size := by omega
    have hd : (d.toList)[t / 3]? = some (d[t / 3]!) := by
      rw [getElem!_pos d (t / 3) hq]; simp [hq]
    have hg := tcs_get (d.toList) (t / 3) _ hd (t % 3) (by omega)
    rw [show t / 3 * 3 + t % 3 = t by omega] at hg
    have e1 : (flatK Tm.cs 3 d)[t] = (Tm.cs d[t / 3]!)[t % 3]! := by
      have := get_flatK Tm.cs 3 d t ht
      rwa [getElem!_pos _ t h1] at this
    rw [e1]
    have hc : t % 3 < (Tm.cs d[t / 3]!).length := by simp [Tm.cs]; omega
    rw [getElem!_pos (Tm.cs d[t / 3]!) (t % 3) hc]
    have h3 : t < (tcs (d.toList)).length := by simpa using h2
    have hg2 : (tcs (d.toList))[t]? = (Tm.cs d[t / 3]!)[t % 3]? := hg
    rw [List.getElem?_eq_getElem hc, List.getElem?_eq_getElem h3] at hg2
    simpa using (Option.some.inj hg2).symm
theorem holds5T {w : World} {base g cap : Nat} {d : Array Tm} (h : OwnT w base (.slice (some ⟨g, 0, none⟩) d.size cap) (d.toList)) : HoldsK Tm.cs 3 w g 0 d := by
  rcases h.2 with ⟨h, _⟩ | ⟨g', cap', cur, hv, hb, hg, hn, hc, hs, ht⟩
  · cases h
  · simp only [Value.slice.injEq, Option.some.injEq, Addr.mk.injEq] at hv
    obtain ⟨⟨rfl, -⟩, -, rfl⟩ := hv
    intro j hj
    rw [flat5T] at hj ⊢
    have hj' : j < (tcs (d.toList)).length := by simpa using hj
    refine ⟨?_, by simp [World.frozen?, hg]⟩
    rw [Nat.zero_add, cell_of_row _ _ _ _ _ _ hg, getElem!_pos _ j hj]
    have h1 : (cur.toList.take ((d.toList).length * 3))[j]? = (tcs (d.toList))[j]? := by rw [ht]
    rw [List.getElem?_take_of_lt (by rw [tcs_len] at hj'; exact hj'), List.getElem?_eq_getElem hj'] at h1
    simpa using h1
theorem grown5T {w : World} {g n : Nat} {os : Array Obj} {d' : Array Tm} : w.grownBy (sortWorldK Tm.cs 3 w g 0 n d' os) (some g) := by
  refine ⟨rfl, rfl, rfl, by simp [sortWorldK, putRowK], fun k hk hne => ?_⟩
  unfold sortWorldK putRowK
  rw [heap_grow_old _ _ (by simpa using hk)]
  have : g ≠ k := fun e => hne (by rw [e])
  simp [putRow, mapBlock, Sort.ahead, Array.getElem?_modify, this]
theorem below5T {w : World} {g n : Nat} {os : Array Obj} {d' : Array Tm} (hgs : g < w.heap.size) : RowKit.Below g w (sortWorldK Tm.cs 3 w g 0 n d' os) :=
  (RowKit.Below.refl _ _).grown grown5T (Nat.le_of_lt hgs) (fun q e => by cases e; exact Nat.le_refl _)
theorem cmpLays5T (blk size : Nat) (w : World) : CmpLays Tryz.prog 33 #[] Tm.cs 3 Tm.cmp blk 0 size w :=
  fun _ _ _ _ x y => (compareD_any x y _).mono fun _ _ ⟨he, hb⟩ => ⟨he, dbelow_grow hb⟩
theorem own5T {w : World} {base g cap n : Nat} {os : Array Obj} {d d' : Array Tm} (h : OwnT w base (.slice (some ⟨g, 0, none⟩) d.size cap) (d.toList)) (hs : d'.size = d.size) :
    OwnT (sortWorldK Tm.cs 3 w g 0 n d' os) base (.slice (some ⟨g, 0, none⟩) d.size cap) (d'.toList) := by
  rcases h.2 with ⟨h, _⟩ | ⟨g', cap', cur, hv, hb, hg, hn, hc, hsz, ht⟩
  · cases h
  · simp only [Value.slice.injEq, Option.some.injEq, Addr.mk.injEq] at hv
    obtain ⟨⟨rfl, -⟩, -, rfl⟩ := hv
    have hgs : g < w.heap.size := (Array.getElem?_eq_some_iff.1 hg).1
    have hH : (sortWorldK Tm.cs 3 w g 0 n d' os).heap[g]? = some (.cells (putCells id 0 (tcs (d'.toList)).toArray cur) 35 (0, 0)) := by
      unfold sortWorldK putRowK
      rw [flat5T, heap_grow_old _ _ (by simpa using hgs)]
      simp [putRow, mapBlock, Sort.ahead, Array.getElem?_modify, hg, onCells]
    have hl : (d'.toList).length = (d.toList).length := by simp [hs]
    refine ⟨tcs_len _, Or.inr ⟨g, cap, _, by simp [hs], hb, hH, by rw [hl]; exact hn, hc, by simp [putCells, hsz], ?_⟩⟩
    apply List.ext_getElem?
    intro j
    by_cases hj : j < (d'.toList).length * 3
    · have hjc : j < cur.size := by rw [hsz]; rw [hl] at hj; exact Nat.lt_of_lt_of_le hj (Nat.mul_le_mul_right 3 hn)
      have hjb : j < (tcs (d'.toList)).length := by rw [tcs_len]; exact hj
      rw [List.getElem?_take_of_lt hj, Array.getElem?_toList]
      simp [putCells, hjb, hjc]
    · rw [List.getElem?_take_eq_none (by omega), List.getElem?_eq_none (by rw [tcs_len]; omega)]
/-- Rising, by Compare. -/
def srt5T (l : List Tm) : Prop := l.Pairwise fun a b => Tm.cmp a b ≤ 0
theorem perm_of5T {d d' : Array Tm} (h : PermIn 0 d.size d d') : (d'.toList).Perm (d.toList) := by
  obtain ⟨hs, -, hp⟩ := h
  have e1 : d'.extract 0 d.size = d' := by rw [← hs]; simp
  have e2 : d.extract 0 d.size = d := by simp
  rw [e1, e2] at hp
  exact hp
theorem srt_of5T {d d' : Array Tm} (hs : d'.size = d.size) (h : SortedIn (ltOf Tm.cmp) 0 d.size d') : srt5T (d'.toList) := by
  unfold srt5T
  rw [List.pairwise_iff_getElem]
  intro i j hi hj hij
  have hj' : j < d'.size := by simpa using hj
  have hi' : i < d'.size := by simpa using hi
  have := h i j (Nat.zero_le _) hij (by omega)
  rw [lt5T, getElem!_pos d' j hj', getElem!_pos d' i hi'] at this
  simp only [decide_eq_false_iff_not] at this
  simp only [Array.getElem_toList]
  have := ord_tm.neg d'[i] d'[j]
  omega
set_option maxHeartbeats 2000000 in
theorem sortFunc5T_all (g cap base : Nat) (w : World) (d : Array Tm) (h : OwnT w base (.slice (some ⟨g, 0, none⟩) d.size cap) (d.toList)) (hsz : d.size < 4611686018427387904) :
    Calls Tryz.prog 77 #[.slice (some ⟨g, 0, none⟩) d.size cap, .func (.func 33) #[] #[]] w fun e w' => e = .returned (.tuple #[]) ∧ ∃ l', OwnT w' base (.slice (some ⟨g, 0, none⟩) d.size cap) l' ∧ l'.Perm (d.toList) ∧ srt5T l' ∧ RowKit.Below g w w' := by
  have hlt := h.lt g rfl
  have eg : ∀ args w, (callFunc 33 args).run Tryz.prog w = .ok (.enter 33 args) w := enters_of Tryz.func33 (by kernel_rfl) rfl
  have hlim : Lib.bitLen d.size < 4611686018427387904 := Nat.lt_of_le_of_lt (Lib.bitLen_le d.size 62 (by omega) (by omega)) (by omega)
  have hp := AnyQ.pdqsortCmpFunc_all (P := Tryz.prog) Tryz.pdqTm 3 Tryz.isAgg35 Tryz.sizeOf35 Tm.cs Tm.cmp 33 #[] (swo5T) g 0 cap d w eg (cmpLays5T g d.size w)
    ⟨fun _ => rfl, fun x v hv => by
      simp only [Tm.cs] at hv
      simp at hv
      rcases hv with rfl | rfl | rfl <;> rfl, holds5T h, hlt.2⟩ (d.size + 1) 0 d.size (Lib.bitLen d.size) d w (by omega) rfl (SWK.start (holds5T h)) (Nat.zero_le _) (Nat.le_refl _) hsz hlim (Or.inl rfl)
  change Calls Tryz.prog 114 _ _ _ at hp
  have hl := Any.bits_Len Tryz.bitsLen (d.size : Int) w (by omega) (by omega)
  change Calls Tryz.prog 99 _ _ _ at hl
  rw [Int.toNat_natCast] at hl
  have hs := pdq_sorts (ltOf Tm.cmp) (swo5T) d 0 d.size (Lib.bitLen d.size) true true (Nat.zero_le _) (Nat.le_refl _) (Or.inl rfl)
  obtain ⟨d', hd'⟩ : ∃ d', pdq (ltOf Tm.cmp) d 0 d.size (Lib.bitLen d.size) true true = d' := ⟨_, rfl⟩
  rw [hd'] at hp hs
  have HP : Hid (Calls Tryz.prog 114 #[.slice (some ⟨g, 0, none⟩) d.size cap, .int .i64 ((0 : Nat) : Int), .int .i64 d.size, .int .i64 (Lib.bitLen d.size), .func (.func 33) #[] #[]] w fun e w' => e = .returned (.tuple #[]) ∧ SWK Tm.cs 3 w g 0 d' w') := hp
  have HS : Hid (PermIn 0 d.size d d' ∧ SortedIn (ltOf Tm.cmp) 0 d.size d') := hs
  have HO : Hid (OwnT w base (.slice (some ⟨g, 0, none⟩) d.size cap) (d.toList)) := h
  have HL : Hid (Calls Tryz.prog 99 #[.int .u64 (d.size : Int)] w fun e w' => e = .returned (.int .i64 (Lib.bitLen d.size)) ∧ w' = w) := hl
  have wr : IntKind.u64.wrap (d.size : Int) = d.size := by rw [IntKind.wrap_u64]; omega
  clear hp hs h hl hd' eg
  go_enter Tryz.func77, Tryz.ntmps77
  go_wp2_with (first
    | (go_at_call 99; refine HL.out.mono ?_; rintro e w1 ⟨rfl, rfl⟩)
    | (go_at_call 114; refine HP.out.mono ?_; rintro e w2 ⟨rfl, hw2⟩))
  go_end0
  obtain ⟨n, os, rfl⟩ := hw2
  exact ⟨rfl, d'.toList, own5T HO.out HS.out.1.1, perm_of5T HS.out.1, srt_of5T HS.out.1.1 HS.out.2, below5T hlt.2⟩
theorem ins_tiny5T (v f : Value) (n : Nat) (h : n ≤ 1) (w : World) : Calls Tryz.prog 135 #[v, .int .i64 0, .int .i64 n, f] w fun e w' => e = .returned (.tuple #[]) ∧ w' = w := by
  have hn : ¬ (1 : Int) < (n : Int) := by omega
  go_enter Tryz.func135, Tryz.ntmps135
  go_wp2
  go_loop [8] (fun i => i = .int .i64 1) (fun _ => 0)
  case atStart => rfl
  case round =>
    subst hrel
    go_wp2
    go_end0
    exact ⟨rfl, rfl⟩
theorem pdq_tiny5T (v f : Value) (n : Nat) (h : n ≤ 1) (m : Int) (w : World) : Calls Tryz.prog 114 #[v, .int .i64 0, .int .i64 n, .int .i64 m, f] w fun e w' => e = .returned (.tuple #[]) ∧ w' = w := by
  have hn : (n : Int) ≤ 12 := by omega
  have hn0 : (0 : Int) ≤ n := by omega
  go_enter Tryz.func114, Tryz.ntmps114
  go_wp2
  go_loop [1, 2] (fun a b => a = .int .i64 0 ∧ b = .int .i64 n) (fun _ _ => 0)
  case atStart => exact ⟨rfl, rfl⟩
  case round =>
    obtain ⟨rfl, rfl⟩ := hrel
    go_wp2_with (go_at_call 135; refine (ins_tiny5T _ _ _ h _).mono ?_; rintro e w1 ⟨rfl, rfl⟩)
    (try simp only [Exit.inBlock, Exit.then])
    refine bodyPost_ret (results_none rfl _ _ _) rfl ?_
    exact ⟨rfl, rfl⟩
theorem sortFunc_tiny5T (a : Option Addr) (f : Value) (n cap : Nat) (h : n ≤ 1) (w : World) : Calls Tryz.prog 77 #[.slice a n cap, f] w fun e w' => e = .returned (.tuple #[]) ∧ w' = w := by
  have hw : IntKind.u64.wrap (n : Int) = n := by rw [IntKind.wrap_u64]; omega
  go_enter Tryz.func77, Tryz.ntmps77
  go_wp2_with (first
    | (go_at_call 99; refine (len_tinyC n h _).mono ?_; rintro e w1 ⟨⟨m, rfl⟩, rfl⟩)
    | (go_at_call 114; refine (pdq_tiny5T _ _ n h _ _).mono ?_; rintro e w1 ⟨rfl, rfl⟩))
  go_end0
  exact ⟨rfl, rfl⟩
/-- The sort of a list of the call's own. -/
theorem sort5T_any (l : List Tm) (v : Value) (base : Nat) (w : World) (h : OwnT w base v l) (hl : l.length < 4611686018427387904) :
    Calls Tryz.prog 77 #[v, .func (.func 33) #[] #[]] w fun e w' => e = .returned (.tuple #[]) ∧ ∃ l', OwnT w' base v l' ∧ l'.Perm l ∧ srt5T l' ∧ Below base w w' := by
  rcases h.2 with ⟨rfl, hn⟩ | ⟨g, cap, cur, rfl, hb, -⟩
  · have : l = [] := List.length_eq_zero_iff.1 hn
    subst this
    exact (sortFunc_tiny5T none _ 0 0 (by omega) w).mono fun e w' ⟨he, hw⟩ => ⟨he, [], by rw [hw]; exact h, List.Perm.refl _, List.Pairwise.nil, by rw [hw]; exact Below.refl _ _⟩
  · have e1 : l.toArray.toList = l := rfl
    have e2 : l.toArray.size = l.length := by simp
    have := sortFunc5T_all g cap base w l.toArray (by rw [e1, e2]; exact h) (by rw [e2]; exact hl)
    rw [e2, e1] at this
    exact this.mono fun e w' ⟨he, l', h1, h2, h3, h4⟩ => ⟨he, l', h1, h2, h3, h4.mono hb⟩
end Go.Proofs.YtdfgijdededolabGreatDoor
/-
  sortedKeys: the keys of a set of terms, in order. (Written by CN8.py.)
-/
namespace Go.Proofs.YtdfgijdededolabGreatDoor
open Go.RowKit Go.Maps

def svTk (l : List Tm) : DataW Unit := Maps.setOf (.agg []) (l.map kT)
theorem svTk_snoc (l : List Tm) (x : Tm) : svTk (l ++ [x]) = (svTk l).put (kT x) (.agg []) := by
  unfold svTk; rw [List.map_append, List.map_cons, List.map_nil, Maps.setOf_snoc]
/-- A map that is the set of l. -/
def SetTk (X : World) (b : Nat) (l : List Tm) : Prop := X.ownsMap Tryz.prog 35 (unitElem (H := Unit)) b l.length (svTk l)
theorem SetTk.grown {X Y : World} {b : Nat} {l : List Tm} {row : Option Nat} (h : SetTk X b l) (hg : X.grownBy Y row) (hr : some b ≠ row) : SetTk Y b l := h.kept hg hr
theorem SetTk.later {X Y : World} {b : Nat} {l : List Tm} (h : SetTk X b l) (hb : Below X.heap.size X Y) : SetTk Y b l := h.grown (below_grown hb) (by simp)
theorem SetTk.lt {X : World} {b : Nat} {l : List Tm} (h : SetTk X b l) : b < X.heap.size := World.ownsMap.lt h
theorem sameTk {t u : Tm} (ht : KeyT t) (hu : KeyT u) : (kT t).sameKey (kT u) = true ↔ t = u := by
  constructor
  · intro h
    refine kT_inj ht hu ?_
    simp only [kT, Lit.sameKey, beq_iff_eq] at h ⊢
    rw [h]
  · rintro rfl; simp [kT, Lit.sameKey]
theorem hasTk {l : List Tm} (hk : ∀ t ∈ l, KeyT t) {t : Tm} (ht : KeyT t) : has (svTk l) (kT t) = true ↔ t ∈ l := by
  unfold svTk
  rw [has_setOf _ _ _ (fun x hx => by obtain ⟨u, -, rfl⟩ := List.mem_map.1 hx; trivial), List.any_eq_true]
  constructor
  · rintro ⟨x, hx, h⟩
    obtain ⟨u, hu, rfl⟩ := List.mem_map.1 hx
    rw [← (sameTk (hk u hu) ht).1 h]; exact hu
  · intro h
    exact ⟨_, List.mem_map.2 ⟨t, h, rfl⟩, (sameTk ht ht).2 rfl⟩
/-- What has come of the keys so far. -/
structure CollTk (l : List Tm) (left : Lit → Bool) (ss : List Tm) : Prop where
  nd : ss.Nodup
  ok : ∀ t ∈ ss, KeyT t
  mem : ∀ t, KeyT t → (t ∈ ss ↔ t ∈ l ∧ left (kT t) = false)
theorem CollTk.start {l : List Tm} (hk : ∀ t ∈ l, KeyT t) : CollTk l (has (svTk l)) [] :=
  ⟨List.nodup_nil, (fun t h => by cases h), fun t ht => ⟨(fun h => by cases h), fun ⟨h1, h2⟩ => by rw [(hasTk hk ht).2 h1] at h2; cases h2⟩⟩
theorem CollTk.step {l ss : List Tm} {left : Lit → Bool} (h : CollTk l left ss) {x : Tm} (hx : KeyT x) (hm : x ∈ l) (hl : left (kT x) = true) : CollTk l (fun z => left z && !z.sameKey (kT x)) (ss ++ [x]) := by
  have hnew : x ∉ ss := fun hx' => by have := ((h.mem x hx).1 hx').2; rw [hl] at this; cases this
  refine ⟨List.nodup_append.2 ⟨h.nd, by simp, fun a ha b hb => by simp at hb; subst hb; exact fun e => hnew (e ▸ ha)⟩, fun t ht => ?_, fun t ht => ?_⟩
  · rcases List.mem_append.1 ht with ht | ht
    · exact h.ok t ht
    · rw [List.mem_singleton] at ht; subst ht; exact hx
  · by_cases e : t = x
    · subst e
      simp [(sameTk ht ht).2 rfl, hm]
    · have : (kT t).sameKey (kT x) = false := by
        cases hs : (kT t).sameKey (kT x) with
        | false => rfl
        | true => exact absurd ((sameTk ht hx).1 hs) e
      simp [h.mem t ht, this, e]
theorem CollTk.done {l ss K : List Tm} {left : Lit → Bool} (h : CollTk l left ss) (hk : ∀ t ∈ l, KeyT t) (hl : ∀ kl, left kl = false) (hp : K.Perm ss) (hs : srt5T K) : RiseOf Tm.cmp K l := by
  refine ⟨riseG_of ord_tm hs (hp.nodup_iff.2 h.nd), fun t => ?_⟩
  rw [hp.mem_iff]
  constructor
  · intro ht; exact ((h.mem t (h.ok t ht)).1 ht).1
  · intro ht; exact (h.mem t (hk t ht)).2 ⟨ht, hl _⟩
set_option maxRecDepth 20000 in
set_option maxHeartbeats 4000000 in
theorem sortedTk_any (b : Nat) (l : List Tm) (w : World) (h : SetTk w b l) (hk : ∀ t ∈ l, KeyT t) (hl : l.length ≤ 3000000000000) :
    Calls Tryz.prog 32 #[.map (some b), .func (.func 33) #[] #[]] w fun e w' => ∃ v' K, e = .returned v' ∧ OwnT w' w.heap.size v' K ∧ RiseOf Tm.cmp K l ∧ K.length ≤ l.length ∧ Below w.heap.size w w' := by
  have HK : Hid (∀ t ∈ l, KeyT t) := hk
  have HM : Hid (SetTk w b l) := h
  have hbl := h.lt
  have hsz : Maps.size (svTk l) ≤ l.length := World.ownsMap.size_le h
  clear h hk
  go_enter Tryz.func32, Tryz.ntmps32
  go_wp2_with (at_range; refine wpList_range_own _ rfl _ 63 rfl 35 68 Tryz.lawTerm Tryz.underlying63 _ b l.length _ rfl HM.out ?_; intro w0 hrg0 hg0 hs0)
  go_frame
  go_loopw [5] (fun v wr => ∃ (left : Lit → Bool) (cnt : Nat) (ss : List Tm), wr.ranges Tryz.prog 35 (unitElem (H := Unit)) b w.heap.size l.length (svTk l) left cnt ∧ ss.length + cnt ≤ Maps.size (svTk l) ∧ OwnT wr (w.heap.size + 1) v ss ∧ CollTk l left ss ∧ Below w.heap.size w wr)
    (fun _ wr => wr.rangeLeft b w.heap.size)
  case atStart => exact ⟨_, _, [], hrg0, by simp, ownT_nil _ _, CollTk.start HK.out, (Below.refl _ _).grown hg0 (Nat.le_refl _) (fun j hj => by cases hj)⟩
  case round =>
    obtain ⟨left, cnt, ss, hrg, hcs, hrow, hC, hnx⟩ := hrel
    have HRG : Hid (wr.ranges Tryz.prog 35 (unitElem (H := Unit)) b w.heap.size l.length (svTk l) left cnt) := hrg
    have HO : Hid (OwnT wr (w.heap.size + 1) u5 ss) := hrow
    have HC : Hid (CollTk l left ss) := hC
    have HB : Hid (Below w.heap.size w wr) := hnx
    clear hrg hrow hC hnx
    go_wp2_with (at_next; refine wpList_next_ranges _ rfl _ rfl 35 Tryz.lawTerm (unitElem (H := Unit)) (fun t : Tm => t.v) (fun _ : Unit => Value.agg #[]) (fun key kl hk => by obtain ⟨x, hx, _⟩ := keyOf_tm_inv hk; exact ⟨x, hx⟩) (fun v y hv => by obtain ⟨rfl, _⟩ := unitElem_inv hv; exact ⟨(), rfl⟩) b w.heap.size l.length _ _ _ rfl HRG.out ?_ ?_)
    · intro hc0 hl0
      have HL0 : Hid (∀ kl, left kl = false) := hl0
      clear hc0 hl0
      go_wp2_with (go_at_call 77; refine (sort5T_any ss u5 (w.heap.size + 1) wr HO.out (by omega)).mono ?_; rintro e w2 ⟨rfl, K, ho2, hp2, hs2, hb2⟩; have HO2 : Hid (OwnT w2 (w.heap.size + 1) u5 K) := ho2; have HP2 : Hid (K.Perm ss) := hp2; have HS2 : Hid (srt5T K) := hs2; have HB2 : Hid (Below (w.heap.size + 1) wr w2) := hb2; clear ho2 hp2 hs2 hb2)
      go_ret
      exact ⟨_, K, rfl, HO2.out.mono (by omega), HC.out.done HK.out HL0.out HP2.out HS2.out, by rw [HP2.out.length_eq]; omega, HB.out.trans (HB2.out.mono (by omega))⟩
    · intro x c kl y w1 cnt1 hkey hlk hv hat hrg1 hlt hg1 hs1 hen
      obtain ⟨x', ex, rfl, hkx⟩ := keyOf_tm_inv hkey
      obtain rfl : x = x' := by cases x; cases x'; simpa using ex
      have hm : x ∈ l := (hasTk HK.out hkx).1 (has_true_of_atKey hat)
      have HC1 : Hid (CollTk l (fun z => left z && !z.sameKey (kT x)) (ss ++ [x])) := HC.out.step hkx hm hlk
      have HR1 : Hid (w1.ranges Tryz.prog 35 (unitElem (H := Unit)) b w.heap.size l.length (svTk l) (fun z => left z && !z.sameKey (kT x)) cnt1) := hrg1
      have HO1 : Hid (OwnT w1 (w.heap.size + 1) u5 ss) := World.ownsRow.kept HO.out hg1 (Or.inr (fun e => by have := HO.out.lt w.heap.size e; omega))
      have HB1 : Hid (Below w.heap.size w w1) := HB.out.grown hg1 HB.out.size (fun j hj => by cases hj; exact Nat.le_refl _)
      have hz1 := hrg1.lt
      have HLT : Hid (cnt1 < cnt) := hlt
      clear hm hkx hat hlk hkey hrg1 hg1 hs1 hv ex HC hlt
      have HG : Hid (TsP ((w1.alloc (.cells #[.int .i64 x.k, .int .i64 x.n, .string x.s] 35)).alloc (.cells #[.int .i64 x.k, .int .i64 x.n, .string x.s] 35)) (.slice (some ⟨(w1.alloc (.cells #[.int .i64 x.k, .int .i64 x.n, .string x.s] 35)).heap.size, 0, none⟩) 1 1) [x]) := TsP.one (CBlk.new _ _ _)
      rw [show (w1.alloc (.cells #[.int .i64 x.k, .int .i64 x.n, .string x.s] 35)).heap.size = w1.heap.size + 1 by simp] at HG
      have HO3 : Hid (OwnT ((w1.alloc (.cells #[.int .i64 x.k, .int .i64 x.n, .string x.s] 35)).alloc (.cells #[.int .i64 x.k, .int .i64 x.n, .string x.s] 35)) (w.heap.size + 1) u5 ss) := HO1.out.later (below2 _ _ _)
      have HB3 : Hid (Below w.heap.size w ((w1.alloc (.cells #[.int .i64 x.k, .int .i64 x.n, .string x.s] 35)).alloc (.cells #[.int .i64 x.k, .int .i64 x.n, .string x.s] 35))) := below_step HB1.out (below2 _ _ _)
      have HR3 : Hid (((w1.alloc (.cells #[.int .i64 x.k, .int .i64 x.n, .string x.s] 35)).alloc (.cells #[.int .i64 x.k, .int .i64 x.n, .string x.s] 35)).ranges Tryz.prog 35 (unitElem (H := Unit)) b w.heap.size l.length (svTk l) (fun z => left z && !z.sameKey (kT x)) cnt1) := (HR1.out.alloc _).alloc _
      have hz3 : w.heap.size + 1 ≤ ((w1.alloc (.cells #[.int .i64 x.k, .int .i64 x.n, .string x.s] 35)).alloc (.cells #[.int .i64 x.k, .int .i64 x.n, .string x.s] 35)).heap.size := by simp; omega
      clear HO1 HB1 HR1
      obtain ⟨xk, xn, xs⟩ := x
      simp only at HG HO3 HB3 HR3 hz3 hen
      go_wp2_with (at_builtin; refine app_terms rfl _ _ rfl (w.heap.size + 1) u5 ss (by rfl) HO3.out _ [⟨xk, xn, xs⟩] (by rfl) HG.out (by simp only [List.length_singleton]; omega) hz3 ?_; intro v4 w4 hown hb4 hg4; have HO4 : Hid (OwnT w4 (w.heap.size + 1) v4 (ss ++ [⟨xk, xn, xs⟩])) := hown; have HB4 : Hid (Below w.heap.size w w4) := HB3.out.trans (hb4.mono (by omega)); have HR4 : Hid (w4.ranges Tryz.prog 35 (unitElem (H := Unit)) b w.heap.size l.length (svTk l) (fun z => left z && !z.sameKey (kT ⟨xk, xn, xs⟩)) cnt1) := HR3.out.kept hg4 (fun e => by have := HO.out.lt b e.symm; omega) (fun e => by have := HO.out.lt w.heap.size e.symm; omega); clear hown hb4 hg4 HO3 HB3 HR3 HG)
      go_roundw
      case rel => exact ⟨_, cnt1, _, HR4.out, by have := HLT.out; simp only [List.length_append, List.length_singleton]; omega, HO4.out, HC1.out, HB4.out⟩
      case measure => rw [HR4.out.left_eq, HRG.out.left_eq]; exact HLT.out
end Go.Proofs.YtdfgijdededolabGreatDoor
