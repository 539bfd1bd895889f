import Derived.Test.YtdfgijdededolabGreatDoorShelf2
import Derived.Test.YtdfgijdededolabGreatDoorCN13
import Derived.Sort.OwnSorted
import Derived.Laws.AppendOwn
import Derived.Maps.RangeWalk
import Derived.Test.YtdfgijdededolabGreatDoorCL7
/-
  The sort of predicates. (Written by CN5.py, out of SD2.)
-/
namespace Go.Proofs.YtdfgijdededolabGreatDoor
open Go.RowKit Go.Shelf Go.Lib Go.Sort

instance : Inhabited Pd := ⟨⟨⟨#[]⟩, 0⟩⟩
theorem lt5P (x y : Pd) : ltOf cmpP x y = decide (cmpP x y < 0) := rfl
theorem swo5P : SWO (ltOf cmpP) where
  irrefl x := by rw [lt5P, ord_pd.refl]; rfl
  trans x y z h1 h2 := by
    rw [lt5P] at *
    simp only [decide_eq_true_eq] at *
    exact (ord_pd.tr _ _ _ (by omega) (by omega)).2 (Or.inl h1)
  ntrans x y z h1 h2 := by
    rw [lt5P] at *
    simp only [decide_eq_false_iff_not] at *
    have n1 := ord_pd.neg x y
    have n2 := ord_pd.neg y z
    have n3 := ord_pd.neg x z
    have := (ord_pd.tr z y x (by omega) (by omega)).1
    omega
theorem flat5P (d : Array Pd) : flatK Pd.cs 2 d = (pcs (d.toList)).toArray := by
  apply Array.ext
  · simp [pcs_len]
  · intro t h1 h2
    have ht : t < d.size * 2 := by simpa using h1
    have hq : t / 2 < d.size := by omega
    have hd : (d.toList)[t / 2]? = some (d[t / 2]!) := by
      rw [getElem!_pos d (t / 2) hq]; simp [hq]
    have hg := pcs_get (d.toList) (t / 2) _ hd (t % 2) (by omega)
    rw [show t / 2 * 2 + t % 2 = t by omega] at hg
    have e1 : (flatK Pd.cs 2 d)[t] = (Pd.cs d[t / 2]!)[t % 2]! := by
      have := get_flatK Pd.cs 2 d t ht
      rwa [getElem!_pos _ t h1] at this
    rw [e1]
    have hc : t % 2 < (Pd.cs d[t / 2]!).length := by simp [Pd.cs]; omega
    rw [getElem!_pos (Pd.cs d[t / 2]!) (t % 2) hc]
    have h3 : t < (pcs (d.toList)).length := by simpa using h2
    have hg2 : (pcs (d.toList))[t]? = (Pd.cs d[t / 2]!)[t % 2]? := hg
    rw [List.getElem?_eq_getElem hc, List.getElem?_eq_getElem h3] at hg2
    simpa using (Option.some.inj hg2).symm
theorem holds5P {w : World} {base g cap : Nat} {d : Array Pd} (h : OwnP w base (.slice (some ⟨g, 0, none⟩) d.size cap) (d.toList)) : HoldsK Pd.cs 2 w g 0 d := by
  rcases h.2 with ⟨h, _⟩ | ⟨g', cap', cur, hv, hb, hg, hn, hc, hs, ht⟩
  · cases h
  · simp only [Value.slice.injEq, Option.some.injEq, Addr.mk.injEq] at hv
    obtain ⟨⟨rfl, -⟩, -, rfl⟩ := hv
    intro j hj
    rw [flat5P] at hj ⊢
    have hj' : j < (pcs (d.toList)).length := by simpa using hj
    refine ⟨?_, by simp [World.frozen?, hg]⟩
    rw [Nat.zero_add, cell_of_row _ _ _ _ _ _ hg, getElem!_pos _ j hj]
    have h1 : (cur.toList.take ((d.toList).length * 2))[j]? = (pcs (d.toList))[j]? := by rw [ht]
    rw [List.getElem?_take_of_lt (by rw [pcs_len] at hj'; exact hj'), List.getElem?_eq_getElem hj'] at h1
    simpa using h1
theorem grown5P {w : World} {g n : Nat} {os : Array Obj} {d' : Array Pd} : w.grownBy (sortWorldK Pd.cs 2 w g 0 n d' os) (some g) := by
  refine ⟨rfl, rfl, rfl, by simp [sortWorldK, putRowK], fun k hk hne => ?_⟩
  unfold sortWorldK putRowK
  rw [heap_grow_old _ _ (by simpa using hk)]
  have : g ≠ k := fun e => hne (by rw [e])
  simp [putRow, mapBlock, Sort.ahead, Array.getElem?_modify, this]
theorem below5P {w : World} {g n : Nat} {os : Array Obj} {d' : Array Pd} (hgs : g < w.heap.size) : RowKit.Below g w (sortWorldK Pd.cs 2 w g 0 n d' os) :=
  (RowKit.Below.refl _ _).grown grown5P (Nat.le_of_lt hgs) (fun q e => by cases e; exact Nat.le_refl _)
theorem cmpLays5P (blk size : Nat) (w : World) : CmpLays Tryz.prog 36 #[] Pd.cs 2 cmpP blk 0 size w :=
  fun _ _ _ _ x y => (comparePD_any x y _).mono fun _ _ ⟨he, hb⟩ => ⟨he, dbelow_grow hb⟩
theorem own5P {w : World} {base g cap n : Nat} {os : Array Obj} {d d' : Array Pd} (h : OwnP w base (.slice (some ⟨g, 0, none⟩) d.size cap) (d.toList)) (hs : d'.size = d.size) :
    OwnP (sortWorldK Pd.cs 2 w g 0 n d' os) base (.slice (some ⟨g, 0, none⟩) d.size cap) (d'.toList) := by
  rcases h.2 with ⟨h, _⟩ | ⟨g', cap', cur, hv, hb, hg, hn, hc, hsz, ht⟩
  · cases h
  · simp only [Value.slice.injEq, Option.some.injEq, Addr.mk.injEq] at hv
    obtain ⟨⟨rfl, -⟩, -, rfl⟩ := hv
    have hgs : g < w.heap.size := (Array.getElem?_eq_some_iff.1 hg).1
    have hH : (sortWorldK Pd.cs 2 w g 0 n d' os).heap[g]? = some (.cells (putCells id 0 (pcs (d'.toList)).toArray cur) 61 (0, 0)) := by
      unfold sortWorldK putRowK
      rw [flat5P, heap_grow_old _ _ (by simpa using hgs)]
      simp [putRow, mapBlock, Sort.ahead, Array.getElem?_modify, hg, onCells]
    have hl : (d'.toList).length = (d.toList).length := by simp [hs]
    refine ⟨pcs_len _, Or.inr ⟨g, cap, _, by simp [hs], hb, hH, by rw [hl]; exact hn, hc, by simp [putCells, hsz], ?_⟩⟩
    apply List.ext_getElem?
    intro j
    by_cases hj : j < (d'.toList).length * 2
    · have hjc : j < cur.size := by rw [hsz]; rw [hl] at hj; exact Nat.lt_of_lt_of_le hj (Nat.mul_le_mul_right 2 hn)
      have hjb : j < (pcs (d'.toList)).length := by rw [pcs_len]; exact hj
      rw [List.getElem?_take_of_lt hj, Array.getElem?_toList]
      simp [putCells, hjb, hjc]
    · rw [List.getElem?_take_eq_none (by omega), List.getElem?_eq_none (by rw [pcs_len]; omega)]
/-- Rising, by Compare. -/
def srt5P (l : List Pd) : Prop := l.Pairwise fun a b => cmpP a b ≤ 0
theorem perm_of5P {d d' : Array Pd} (h : PermIn 0 d.size d d') : (d'.toList).Perm (d.toList) := by
  obtain ⟨hs, -, hp⟩ := h
  have e1 : d'.extract 0 d.size = d' := by rw [← hs]; simp
  have e2 : d.extract 0 d.size = d := by simp
  rw [e1, e2] at hp
  exact hp
theorem srt_of5P {d d' : Array Pd} (hs : d'.size = d.size) (h : SortedIn (ltOf cmpP) 0 d.size d') : srt5P (d'.toList) := by
  unfold srt5P
  rw [List.pairwise_iff_getElem]
  intro i j hi hj hij
  have hj' : j < d'.size := by simpa using hj
  have hi' : i < d'.size := by simpa using hi
  have := h i j (Nat.zero_le _) hij (by omega)
  rw [lt5P, getElem!_pos d' j hj', getElem!_pos d' i hi'] at this
  simp only [decide_eq_false_iff_not] at this
  simp only [Array.getElem_toList]
  have := ord_pd.neg d'[i] d'[j]
  omega
set_option maxHeartbeats 2000000 in
theorem sortFunc5P_all (g cap base : Nat) (w : World) (d : Array Pd) (h : OwnP w base (.slice (some ⟨g, 0, none⟩) d.size cap) (d.toList)) (hsz : d.size < 4611686018427387904) :
    Calls Tryz.prog 81 #[.slice (some ⟨g, 0, none⟩) d.size cap, .func (.func 36) #[] #[]] w fun e w' => e = .returned (.tuple #[]) ∧ ∃ l', OwnP w' base (.slice (some ⟨g, 0, none⟩) d.size cap) l' ∧ l'.Perm (d.toList) ∧ srt5P l' ∧ RowKit.Below g w w' := by
  have hlt := h.lt g rfl
  have eg : ∀ args w, (callFunc 36 args).run Tryz.prog w = .ok (.enter 36 args) w := enters_of Tryz.func36 (by kernel_rfl) rfl
  have hlim : Lib.bitLen d.size < 4611686018427387904 := Nat.lt_of_le_of_lt (Lib.bitLen_le d.size 62 (by omega) (by omega)) (by omega)
  have hp := AnyQ.pdqsortCmpFunc_all (P := Tryz.prog) Tryz.pdqPm 2 Tryz.isAgg61 Tryz.sizeOf61 Pd.cs cmpP 36 #[] (swo5P) g 0 cap d w eg (cmpLays5P g d.size w)
    ⟨fun _ => rfl, fun x v hv => by
      simp only [Pd.cs] at hv
      simp at hv
      rcases hv with rfl | rfl <;> rfl, holds5P h, hlt.2⟩ (d.size + 1) 0 d.size (Lib.bitLen d.size) d w (by omega) rfl (SWK.start (holds5P h)) (Nat.zero_le _) (Nat.le_refl _) hsz hlim (Or.inl rfl)
  change Calls Tryz.prog 117 _ _ _ at hp
  have hl := Any.bits_Len Tryz.bitsLen (d.size : Int) w (by omega) (by omega)
  change Calls Tryz.prog 99 _ _ _ at hl
  rw [Int.toNat_natCast] at hl
  have hs := pdq_sorts (ltOf cmpP) (swo5P) d 0 d.size (Lib.bitLen d.size) true true (Nat.zero_le _) (Nat.le_refl _) (Or.inl rfl)
  obtain ⟨d', hd'⟩ : ∃ d', pdq (ltOf cmpP) d 0 d.size (Lib.bitLen d.size) true true = d' := ⟨_, rfl⟩
  rw [hd'] at hp hs
  have HP : Hid (Calls Tryz.prog 117 #[.slice (some ⟨g, 0, none⟩) d.size cap, .int .i64 ((0 : Nat) : Int), .int .i64 d.size, .int .i64 (Lib.bitLen d.size), .func (.func 36) #[] #[]] w fun e w' => e = .returned (.tuple #[]) ∧ SWK Pd.cs 2 w g 0 d' w') := hp
  have HS : Hid (PermIn 0 d.size d d' ∧ SortedIn (ltOf cmpP) 0 d.size d') := hs
  have HO : Hid (OwnP w base (.slice (some ⟨g, 0, none⟩) d.size cap) (d.toList)) := h
  have HL : Hid (Calls Tryz.prog 99 #[.int .u64 (d.size : Int)] w fun e w' => e = .returned (.int .i64 (Lib.bitLen d.size)) ∧ w' = w) := hl
  have wr : IntKind.u64.wrap (d.size : Int) = d.size := by rw [IntKind.wrap_u64]; omega
  clear hp hs h hl hd' eg
  go_enter Tryz.func81, Tryz.ntmps81
  go_wp2_with (first
    | (go_at_call 99; refine HL.out.mono ?_; rintro e w1 ⟨rfl, rfl⟩)
    | (go_at_call 117; refine HP.out.mono ?_; rintro e w2 ⟨rfl, hw2⟩))
  go_end0
  obtain ⟨n, os, rfl⟩ := hw2
  exact ⟨rfl, d'.toList, own5P HO.out HS.out.1.1, perm_of5P HS.out.1, srt_of5P HS.out.1.1 HS.out.2, below5P hlt.2⟩
theorem ins_tiny5P (v f : Value) (n : Nat) (h : n ≤ 1) (w : World) : Calls Tryz.prog 143 #[v, .int .i64 0, .int .i64 n, f] w fun e w' => e = .returned (.tuple #[]) ∧ w' = w := by
  have hn : ¬ (1 : Int) < (n : Int) := by omega
  go_enter Tryz.func143, Tryz.ntmps143
  go_wp2
  go_loop [8] (fun i => i = .int .i64 1) (fun _ => 0)
  case atStart => rfl
  case round =>
    subst hrel
    go_wp2
    go_end0
    exact ⟨rfl, rfl⟩
theorem pdq_tiny5P (v f : Value) (n : Nat) (h : n ≤ 1) (m : Int) (w : World) : Calls Tryz.prog 117 #[v, .int .i64 0, .int .i64 n, .int .i64 m, f] w fun e w' => e = .returned (.tuple #[]) ∧ w' = w := by
  have hn : (n : Int) ≤ 12 := by omega
  have hn0 : (0 : Int) ≤ n := by omega
  go_enter Tryz.func117, Tryz.ntmps117
  go_wp2
  go_loop [1, 2] (fun a b => a = .int .i64 0 ∧ b = .int .i64 n) (fun _ _ => 0)
  case atStart => exact ⟨rfl, rfl⟩
  case round =>
    obtain ⟨rfl, rfl⟩ := hrel
    go_wp2_with (go_at_call 143; refine (ins_tiny5P _ _ _ h _).mono ?_; rintro e w1 ⟨rfl, rfl⟩)
    (try simp only [Exit.inBlock, Exit.then])
    refine bodyPost_ret (results_none rfl _ _ _) rfl ?_
    exact ⟨rfl, rfl⟩
theorem sortFunc_tiny5P (a : Option Addr) (f : Value) (n cap : Nat) (h : n ≤ 1) (w : World) : Calls Tryz.prog 81 #[.slice a n cap, f] w fun e w' => e = .returned (.tuple #[]) ∧ w' = w := by
  have hw : IntKind.u64.wrap (n : Int) = n := by rw [IntKind.wrap_u64]; omega
  go_enter Tryz.func81, Tryz.ntmps81
  go_wp2_with (first
    | (go_at_call 99; refine (len_tinyC n h _).mono ?_; rintro e w1 ⟨⟨m, rfl⟩, rfl⟩)
    | (go_at_call 117; refine (pdq_tiny5P _ _ n h _ _).mono ?_; rintro e w1 ⟨rfl, rfl⟩))
  go_end0
  exact ⟨rfl, rfl⟩
/-- The sort of a list of the call's own. -/
theorem sort5P_any (l : List Pd) (v : Value) (base : Nat) (w : World) (h : OwnP w base v l) (hl : l.length < 4611686018427387904) :
    Calls Tryz.prog 81 #[v, .func (.func 36) #[] #[]] w fun e w' => e = .returned (.tuple #[]) ∧ ∃ l', OwnP w' base v l' ∧ l'.Perm l ∧ srt5P l' ∧ Below base w w' := by
  rcases h.2 with ⟨rfl, hn⟩ | ⟨g, cap, cur, rfl, hb, -⟩
  · have : l = [] := List.length_eq_zero_iff.1 hn
    subst this
    exact (sortFunc_tiny5P none _ 0 0 (by omega) w).mono fun e w' ⟨he, hw⟩ => ⟨he, [], by rw [hw]; exact h, List.Perm.refl _, List.Pairwise.nil, by rw [hw]; exact Below.refl _ _⟩
  · have e1 : l.toArray.toList = l := rfl
    have e2 : l.toArray.size = l.length := by simp
    have := sortFunc5P_all g cap base w l.toArray (by rw [e1, e2]; exact h) (by rw [e2]; exact hl)
    rw [e2, e1] at this
    exact this.mono fun e w' ⟨he, l', h1, h2, h3, h4⟩ => ⟨he, l', h1, h2, h3, h4.mono hb⟩
end Go.Proofs.YtdfgijdededolabGreatDoor
/-
  sortedKeys: the keys of a set of predicates, in order. (Written by CN8.py.)
-/
namespace Go.Proofs.YtdfgijdededolabGreatDoor
open Go.RowKit Go.Maps

def svPk (l : List Pd) : DataW Unit := Maps.setOf (.agg []) (l.map kP)
theorem svPk_snoc (l : List Pd) (x : Pd) : svPk (l ++ [x]) = (svPk l).put (kP x) (.agg []) := by
  unfold svPk; rw [List.map_append, List.map_cons, List.map_nil, Maps.setOf_snoc]
/-- A map that is the set of l. -/
def SetPk (X : World) (b : Nat) (l : List Pd) : Prop := X.ownsMap Tryz.prog 61 (unitElem (H := Unit)) b l.length (svPk l)
theorem SetPk.grown {X Y : World} {b : Nat} {l : List Pd} {row : Option Nat} (h : SetPk X b l) (hg : X.grownBy Y row) (hr : some b ≠ row) : SetPk Y b l := h.kept hg hr
theorem SetPk.later {X Y : World} {b : Nat} {l : List Pd} (h : SetPk X b l) (hb : Below X.heap.size X Y) : SetPk Y b l := h.grown (below_grown hb) (by simp)
theorem SetPk.lt {X : World} {b : Nat} {l : List Pd} (h : SetPk X b l) : b < X.heap.size := World.ownsMap.lt h
theorem samePk {t u : Pd} (ht : KeyP t) (hu : KeyP u) : (kP t).sameKey (kP u) = true ↔ t = u := by
  constructor
  · intro h
    refine kP_inj ht hu ?_
    simp only [kP, Lit.sameKey, beq_iff_eq] at h ⊢
    rw [h]
  · rintro rfl; simp [kP, Lit.sameKey]
theorem hasPk {l : List Pd} (hk : ∀ t ∈ l, KeyP t) {t : Pd} (ht : KeyP t) : has (svPk l) (kP t) = true ↔ t ∈ l := by
  unfold svPk
  rw [has_setOf _ _ _ (fun x hx => by obtain ⟨u, -, rfl⟩ := List.mem_map.1 hx; trivial), List.any_eq_true]
  constructor
  · rintro ⟨x, hx, h⟩
    obtain ⟨u, hu, rfl⟩ := List.mem_map.1 hx
    rw [← (samePk (hk u hu) ht).1 h]; exact hu
  · intro h
    exact ⟨_, List.mem_map.2 ⟨t, h, rfl⟩, (samePk ht ht).2 rfl⟩
/-- What has come of the keys so far. -/
structure CollPk (l : List Pd) (left : Lit → Bool) (ss : List Pd) : Prop where
  nd : ss.Nodup
  ok : ∀ t ∈ ss, KeyP t
  mem : ∀ t, KeyP t → (t ∈ ss ↔ t ∈ l ∧ left (kP t) = false)
theorem CollPk.start {l : List Pd} (hk : ∀ t ∈ l, KeyP t) : CollPk l (has (svPk l)) [] :=
  ⟨List.nodup_nil, (fun t h => by cases h), fun t ht => ⟨(fun h => by cases h), fun ⟨h1, h2⟩ => by rw [(hasPk hk ht).2 h1] at h2; cases h2⟩⟩
theorem CollPk.step {l ss : List Pd} {left : Lit → Bool} (h : CollPk l left ss) {x : Pd} (hx : KeyP x) (hm : x ∈ l) (hl : left (kP x) = true) : CollPk l (fun z => left z && !z.sameKey (kP x)) (ss ++ [x]) := by
  have hnew : x ∉ ss := fun hx' => by have := ((h.mem x hx).1 hx').2; rw [hl] at this; cases this
  refine ⟨List.nodup_append.2 ⟨h.nd, by simp, fun a ha b hb => by simp at hb; subst hb; exact fun e => hnew (e ▸ ha)⟩, fun t ht => ?_, fun t ht => ?_⟩
  · rcases List.mem_append.1 ht with ht | ht
    · exact h.ok t ht
    · rw [List.mem_singleton] at ht; subst ht; exact hx
  · by_cases e : t = x
    · subst e
      simp [(samePk ht ht).2 rfl, hm]
    · have : (kP t).sameKey (kP x) = false := by
        cases hs : (kP t).sameKey (kP x) with
        | false => rfl
        | true => exact absurd ((samePk ht hx).1 hs) e
      simp [h.mem t ht, this, e]
theorem CollPk.done {l ss K : List Pd} {left : Lit → Bool} (h : CollPk l left ss) (hk : ∀ t ∈ l, KeyP t) (hl : ∀ kl, left kl = false) (hp : K.Perm ss) (hs : srt5P K) : RiseOf cmpP K l := by
  refine ⟨riseG_of ord_pd hs (hp.nodup_iff.2 h.nd), fun t => ?_⟩
  rw [hp.mem_iff]
  constructor
  · intro ht; exact ((h.mem t (h.ok t ht)).1 ht).1
  · intro ht; exact (h.mem t (hk t ht)).2 ⟨ht, hl _⟩
set_option maxRecDepth 20000 in
set_option maxHeartbeats 4000000 in
theorem sortedPk_any (b : Nat) (l : List Pd) (w : World) (h : SetPk w b l) (hk : ∀ t ∈ l, KeyP t) (hl : l.length ≤ 3000000000000) :
    Calls Tryz.prog 35 #[.map (some b), .func (.func 36) #[] #[]] w fun e w' => ∃ v' K, e = .returned v' ∧ OwnP w' w.heap.size v' K ∧ RiseOf cmpP K l ∧ K.length ≤ l.length ∧ Below w.heap.size w w' := by
  have HK : Hid (∀ t ∈ l, KeyP t) := hk
  have HM : Hid (SetPk w b l) := h
  have hbl := h.lt
  have hsz : Maps.size (svPk l) ≤ l.length := World.ownsMap.size_le h
  clear h hk
  go_enter Tryz.func35, Tryz.ntmps35
  go_wp2_with (at_range; refine wpList_range_own _ rfl _ 71 rfl 61 68 Tryz.lawPred Tryz.underlying71 _ b l.length _ rfl HM.out ?_; intro w0 hrg0 hg0 hs0)
  go_frame
  go_loopw [5] (fun v wr => ∃ (left : Lit → Bool) (cnt : Nat) (ss : List Pd), wr.ranges Tryz.prog 61 (unitElem (H := Unit)) b w.heap.size l.length (svPk l) left cnt ∧ ss.length + cnt ≤ Maps.size (svPk l) ∧ OwnP wr (w.heap.size + 1) v ss ∧ CollPk l left ss ∧ Below w.heap.size w wr)
    (fun _ wr => wr.rangeLeft b w.heap.size)
  case atStart => exact ⟨_, _, [], hrg0, by simp, ownP_nil _ _, CollPk.start HK.out, (Below.refl _ _).grown hg0 (Nat.le_refl _) (fun j hj => by cases hj)⟩
  case round =>
    obtain ⟨left, cnt, ss, hrg, hcs, hrow, hC, hnx⟩ := hrel
    have HRG : Hid (wr.ranges Tryz.prog 61 (unitElem (H := Unit)) b w.heap.size l.length (svPk l) left cnt) := hrg
    have HO : Hid (OwnP wr (w.heap.size + 1) u5 ss) := hrow
    have HC : Hid (CollPk l left ss) := hC
    have HB : Hid (Below w.heap.size w wr) := hnx
    clear hrg hrow hC hnx
    go_wp2_with (at_next; refine wpList_next_ranges _ rfl _ rfl 61 Tryz.lawPred (unitElem (H := Unit)) (fun t : Pd => t.v) (fun _ : Unit => Value.agg #[]) (fun key kl hk => by obtain ⟨x, hx, _⟩ := keyOf_pd_inv hk; exact ⟨x, hx⟩) (fun v y hv => by obtain ⟨rfl, _⟩ := unitElem_inv hv; exact ⟨(), rfl⟩) b w.heap.size l.length _ _ _ rfl HRG.out ?_ ?_)
    · intro hc0 hl0
      have HL0 : Hid (∀ kl, left kl = false) := hl0
      clear hc0 hl0
      go_wp2_with (go_at_call 81; refine (sort5P_any ss u5 (w.heap.size + 1) wr HO.out (by omega)).mono ?_; rintro e w2 ⟨rfl, K, ho2, hp2, hs2, hb2⟩; have HO2 : Hid (OwnP w2 (w.heap.size + 1) u5 K) := ho2; have HP2 : Hid (K.Perm ss) := hp2; have HS2 : Hid (srt5P K) := hs2; have HB2 : Hid (Below (w.heap.size + 1) wr w2) := hb2; clear ho2 hp2 hs2 hb2)
      go_ret
      exact ⟨_, K, rfl, HO2.out.mono (by omega), HC.out.done HK.out HL0.out HP2.out HS2.out, by rw [HP2.out.length_eq]; omega, HB.out.trans (HB2.out.mono (by omega))⟩
    · intro x c kl y w1 cnt1 hkey hlk hv hat hrg1 hlt hg1 hs1 hen
      obtain ⟨x', ex, rfl, hkx⟩ := keyOf_pd_inv hkey
      obtain rfl : x = x' := by cases x; cases x'; simpa using ex
      have hm : x ∈ l := (hasPk HK.out hkx).1 (has_true_of_atKey hat)
      have HC1 : Hid (CollPk l (fun z => left z && !z.sameKey (kP x)) (ss ++ [x])) := HC.out.step hkx hm hlk
      have HR1 : Hid (w1.ranges Tryz.prog 61 (unitElem (H := Unit)) b w.heap.size l.length (svPk l) (fun z => left z && !z.sameKey (kP x)) cnt1) := hrg1
      have HO1 : Hid (OwnP w1 (w.heap.size + 1) u5 ss) := World.ownsRow.kept HO.out hg1 (Or.inr (fun e => by have := HO.out.lt w.heap.size e; omega))
      have HB1 : Hid (Below w.heap.size w w1) := HB.out.grown hg1 HB.out.size (fun j hj => by cases hj; exact Nat.le_refl _)
      have hz1 := hrg1.lt
      have HLT : Hid (cnt1 < cnt) := hlt
      clear hm hkx hat hlk hkey hrg1 hg1 hs1 hv ex HC hlt
      have HG : Hid (PsP ((w1.alloc (.cells #[.string x.nm, .int .i64 x.ar] 61)).alloc (.cells #[.string x.nm, .int .i64 x.ar] 61)) (.slice (some ⟨(w1.alloc (.cells #[.string x.nm, .int .i64 x.ar] 61)).heap.size, 0, none⟩) 1 1) [x]) := PsP.one (CBlk.new _ _ _)
      rw [show (w1.alloc (.cells #[.string x.nm, .int .i64 x.ar] 61)).heap.size = w1.heap.size + 1 by simp] at HG
      have HO3 : Hid (OwnP ((w1.alloc (.cells #[.string x.nm, .int .i64 x.ar] 61)).alloc (.cells #[.string x.nm, .int .i64 x.ar] 61)) (w.heap.size + 1) u5 ss) := HO1.out.later (below2 _ _ _)
      have HB3 : Hid (Below w.heap.size w ((w1.alloc (.cells #[.string x.nm, .int .i64 x.ar] 61)).alloc (.cells #[.string x.nm, .int .i64 x.ar] 61))) := below_step HB1.out (below2 _ _ _)
      have HR3 : Hid (((w1.alloc (.cells #[.string x.nm, .int .i64 x.ar] 61)).alloc (.cells #[.string x.nm, .int .i64 x.ar] 61)).ranges Tryz.prog 61 (unitElem (H := Unit)) b w.heap.size l.length (svPk l) (fun z => left z && !z.sameKey (kP x)) cnt1) := (HR1.out.alloc _).alloc _
      have hz3 : w.heap.size + 1 ≤ ((w1.alloc (.cells #[.string x.nm, .int .i64 x.ar] 61)).alloc (.cells #[.string x.nm, .int .i64 x.ar] 61)).heap.size := by simp; omega
      clear HO1 HB1 HR1
      obtain ⟨xn, xa⟩ := x
      simp only at HG HO3 HB3 HR3 hz3 hen
      go_wp2_with (at_builtin; refine app_preds rfl _ _ rfl (w.heap.size + 1) u5 ss (by rfl) HO3.out _ [⟨xn, xa⟩] (by rfl) HG.out (by simp only [List.length_singleton]; omega) hz3 ?_; intro v4 w4 hown hb4 hg4; have HO4 : Hid (OwnP w4 (w.heap.size + 1) v4 (ss ++ [⟨xn, xa⟩])) := hown; have HB4 : Hid (Below w.heap.size w w4) := HB3.out.trans (hb4.mono (by omega)); have HR4 : Hid (w4.ranges Tryz.prog 61 (unitElem (H := Unit)) b w.heap.size l.length (svPk l) (fun z => left z && !z.sameKey (kP ⟨xn, xa⟩)) cnt1) := HR3.out.kept hg4 (fun e => by have := HO.out.lt b e.symm; omega) (fun e => by have := HO.out.lt w.heap.size e.symm; omega); clear hown hb4 hg4 HO3 HB3 HR3 HG)
      go_roundw
      case rel => exact ⟨_, cnt1, _, HR4.out, by have := HLT.out; simp only [List.length_append, List.length_singleton]; omega, HO4.out, HC1.out, HB4.out⟩
      case measure => rw [HR4.out.left_eq, HRG.out.left_eq]; exact HLT.out
end Go.Proofs.YtdfgijdededolabGreatDoor
/-
  Marks: ranges over functions that are behind a loop's round.
-/
namespace Go.Proofs.YtdfgijdededolabGreatDoor
open Go.RowKit Go.Shelf

def mks (Es : List Nat) : List Deferred := Es.map fun E => { target := .collected E, args := #[] }
/-- The marks that a function has laid: each in a block of its own, with no call in it. -/
structure Marks (B : Nat) (X : World) (Es : List Nat) : Prop where
  lo : ∀ E ∈ Es, B ≤ E
  nd : Es.Nodup
  bl : ∀ E ∈ Es, X.heap[E]? = some (.deferred (some []))
theorem Marks.nil (B : Nat) (X : World) : Marks B X [] := ⟨(fun _ h => by cases h), List.nodup_nil, (fun _ h => by cases h)⟩
theorem Marks.lt {B : Nat} {X : World} {Es : List Nat} (h : Marks B X Es) : ∀ E ∈ Es, E < X.heap.size := fun E hE => (Array.getElem?_eq_some_iff.1 (h.bl E hE)).1
theorem Marks.grown {B : Nat} {X Y : World} {Es : List Nat} {row : Option Nat} (h : Marks B X Es) (hg : X.grownBy Y row) (hr : ∀ E ∈ Es, some E ≠ row) : Marks B Y Es :=
  ⟨h.lo, h.nd, fun E hE => (hg.block _ (h.lt E hE) (fun e => hr E hE e)).trans (h.bl E hE)⟩
theorem Marks.later {B : Nat} {X Y : World} {Es : List Nat} (h : Marks B X Es) (hb : Below X.heap.size X Y) : Marks B Y Es := h.grown (below_grown hb) (fun _ _ => by simp)
theorem Marks.cons {B E : Nat} {X : World} {Es : List Nat} (h : Marks B X Es) (hlo : B ≤ E) (hn : E ∉ Es) (hE : X.heap[E]? = some (.deferred (some []))) : Marks B X (E :: Es) :=
  ⟨fun e he => by rcases List.mem_cons.1 he with rfl | he; exact hlo; exact h.lo e he, List.nodup_cons.2 ⟨hn, h.nd⟩, fun e he => by rcases List.mem_cons.1 he with rfl | he; exact hE; exact h.bl e he⟩
theorem marks_own (K B : Nat) (Es : List Nat) (hK : ∀ E ∈ Es, E < K) {α : Type} : OwnFrom K (fun (_ : α) X => Marks B X Es) := fun _ _ _ _ hs hg hr => hs.grown hg (fun E hE e => by have := (hr E e.symm).1; have := hK E hE; omega)
theorem leaves_marks {F : Fence} {n : Nat} {P : Program} {fn : Func} {tmps : Array Value} {R : Ending → World → Prop} {B : Nat} (G : World → Prop)
    (hG : ∀ X E, G X → B ≤ E → X.heap[E]? = some (.deferred (some [])) → G (X.putObj E (.deferred none)))
    (hR : ∀ X, G X → LeavesIn F n P fn tmps R [] .returning X) : ∀ (Es : List Nat) (X : World), Marks B X Es → G X → LeavesInM F n P fn tmps R (mks Es) .returning X
  | [], X, _, h => hR X h
  | E :: Es, X, hm, h => by
    have hE := hm.bl E (List.mem_cons_self ..)
    refine ⟨by simp, .inl ⟨E, _, rfl, run_takeDeferred hE, ?_⟩⟩
    refine leaves_marks G hG hR Es _ ?_ (hG X E h (hm.lo E (List.mem_cons_self ..)) hE)
    have hnd := List.nodup_cons.1 hm.nd
    have hm' : Marks B X Es := ⟨fun e he => hm.lo e (List.mem_cons_of_mem _ he), hnd.2, fun e he => hm.bl e (List.mem_cons_of_mem _ he)⟩
    exact hm'.grown (grownBy_putObj' _ E _) (fun e he h => by cases h; exact hnd.1 he)
end Go.Proofs.YtdfgijdededolabGreatDoor
