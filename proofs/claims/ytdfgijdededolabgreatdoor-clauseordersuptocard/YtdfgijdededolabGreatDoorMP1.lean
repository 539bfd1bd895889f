import Derived.Test.YtdfgijdededolabGreatDoorSD1
import Derived.Test.YtdfgijdededolabGreatDoorCL22
import Derived.Test.YtdfgijdededolabGreatDoorShelf
import Derived.Sort.OwnSorted
import Derived.Laws.AppendOwn
import Derived.Test.YtdfgijdededolabGreatDoorCL12
/-
  Lists of clauses of the call's own, and their sort. (Written by SD2.py.)
-/
namespace Go.Proofs.YtdfgijdededolabGreatDoor
open Go.RowKit Go.Shelf Go.Lib Go.Sort

def Cm.csl (c : Cm) : List Value := c.cs.toList
def ccs (l : List Cm) : List Value := l.flatMap Cm.csl
theorem ccs_len (l : List Cm) : (ccs l).length = l.length * 7 := by
  induction l with
  | nil => rfl
  | cons d l ih => simp only [ccs, List.flatMap_cons, List.length_append, List.length_cons] at *; rw [ih]; simp [Cm.csl]; omega
theorem ccs_app (l m : List Cm) : ccs (l ++ m) = ccs l ++ ccs m := by simp [ccs]
theorem ccs_get (l : List Cm) (j : Nat) (d : Cm) (h : l[j]? = some d) (i : Nat) (hi : i < 7) : (ccs l)[j * 7 + i]? = d.csl[i]? := by
  induction l generalizing j with
  | nil => simp at h
  | cons e l ih =>
    have hl : e.csl.length = 7 := rfl
    have ec : ccs (e :: l) = e.csl ++ ccs l := by simp [ccs]
    cases j with
    | zero =>
      simp at h
      subst h
      rw [ec, Nat.zero_mul, Nat.zero_add, List.getElem?_append_left (by omega)]
    | succ j =>
      rw [List.getElem?_cons_succ] at h
      rw [ec, List.getElem?_append_right (by omega), hl, show (j + 1) * 7 + i - 7 = j * 7 + i by omega]
      exact ih j h
def OwnC (w : World) (base : Nat) (v : Value) (l : List Cm) : Prop := w.ownsRow base 41 7 v l.length (ccs l)
theorem OwnC.lt {w : World} {base : Nat} {v : Value} {l : List Cm} (h : OwnC w base v l) : ∀ k, v.ownBlock = some k → base ≤ k ∧ k < w.heap.size := World.ownsRow.lt h
theorem dbelow_grow {w w' : World} (h : DBelow w.heap.size w w') : ∃ q os', w' = grow (w.drewN q) os' := by
  refine ⟨w'.drawn - w.drawn, w'.heap.extract w.heap.size w'.heap.size, ?_⟩
  obtain ⟨hp, tp, dr, os, out⟩ := w
  obtain ⟨hp', tp', dr', os', out'⟩ := w'
  obtain ⟨⟨h1, h2, h3, h4, h5⟩, h6⟩ := h
  simp only at h1 h2 h3 h4 h5 h6
  subst h1 h2 h3
  have e1 : hp' = hp ++ hp'.extract hp.size hp'.size := by
    apply Array.ext_getElem?
    intro i
    by_cases hi : i < hp.size
    · rw [Array.getElem?_append_left hi]; exact h5 i hi
    · rw [Array.getElem?_append_right (by omega), Array.getElem?_extract]
      by_cases hi2 : i < hp'.size
      · rw [if_pos (by omega), show hp.size + (i - hp.size) = i by omega]
      · rw [if_neg (by omega), Array.getElem?_eq_none (by omega)]
  show World.mk hp' tp' dr' os' out' = World.mk (hp ++ hp'.extract hp.size hp'.size) tp' (dr + (dr' - dr)) os' out'
  rw [← e1, show dr + (dr' - dr) = dr' by omega]
/-- A clause that stays wherever the blocks below g stay. -/
def Cf (w : World) (g : Nat) : Type := { c : Cm // ∀ X : World, RowKit.Below g w X → c.ok X }
def zC : Cm := ⟨(⟨zt, ⟨#[]⟩, []⟩, .slice none 0 0), [], .slice none 0 0, [], .slice none 0 0⟩
theorem zC_ok (w : World) : zC.ok w := ⟨⟨none, 0, rfl, by simp [zC], Or.inl rfl⟩, ⟨none, 0, rfl, by simp [zC], Or.inl rfl, fun x hx => by simp [zC] at hx⟩, ⟨none, 0, rfl, by simp [zC], Or.inl rfl⟩⟩
instance (w : World) (g : Nat) : Inhabited (Cf w g) := ⟨⟨zC, fun X _ => zC_ok X⟩⟩
def Cf.cs {w : World} {g : Nat} (x : Cf w g) : List Value := x.1.csl
def cfC {w : World} {g : Nat} (x y : Cf w g) : Int := x.1.cmp y.1
theorem ltC {w : World} {g : Nat} (x y : Cf w g) : ltOf cfC x y = decide (cmpC x.1.key y.1.key < 0) := by unfold ltOf cfC; rw [cmp_key]
theorem swoC (w : World) (g : Nat) : SWO (ltOf (cfC (w := w) (g := g))) where
  irrefl x := by rw [ltC, ord_c.refl]; rfl
  trans x y z h1 h2 := by
    rw [ltC] at *
    simp only [decide_eq_true_eq] at *
    exact (ord_c.tr _ _ _ (by omega) (by omega)).2 (Or.inl h1)
  ntrans x y z h1 h2 := by
    rw [ltC] at *
    simp only [decide_eq_false_iff_not] at *
    have n1 := ord_c.neg x.1.key y.1.key
    have n2 := ord_c.neg y.1.key z.1.key
    have n3 := ord_c.neg x.1.key z.1.key
    have := (ord_c.tr z.1.key y.1.key x.1.key (by omega) (by omega)).1
    omega
theorem flatC {w : World} {g : Nat} (d : Array (Cf w g)) : flatK Cf.cs 7 d = (ccs (d.toList.map (·.1))).toArray := by
  apply Array.ext
  · simp [ccs_len]
  · intro t h1 h2
    have ht : t < d.size * 7 := by simpa using h1
    have hq : t / 7 < d.size := by omega
    have hd : (d.toList.map (·.1))[t / 7]? = some (d[t / 7]!).1 := by
      rw [getElem!_pos d (t / 7) hq]; simp [hq]
    have hg := ccs_get (d.toList.map (·.1)) (t / 7) _ hd (t % 7) (by omega)
    rw [show t / 7 * 7 + t % 7 = t by omega] at hg
    have e1 : (flatK Cf.cs 7 d)[t] = (Cf.cs d[t / 7]!)[t % 7]! := by
      have := get_flatK Cf.cs 7 d t ht
      rwa [getElem!_pos _ t h1] at this
    rw [e1]
    have hc : t % 7 < (Cf.cs d[t / 7]!).length := by simp [Cf.cs, Cm.csl]; omega
    rw [getElem!_pos (Cf.cs d[t / 7]!) (t % 7) hc]
    have h3 : t < (ccs (d.toList.map (·.1))).length := by simpa using h2
    have hg2 : (ccs (d.toList.map (·.1)))[t]? = (Cf.cs d[t / 7]!)[t % 7]? := hg
    rw [List.getElem?_eq_getElem hc, List.getElem?_eq_getElem h3] at hg2
    simpa using (Option.some.inj hg2).symm
theorem holdsC {w : World} {base g cap : Nat} {d : Array (Cf w g)} (h : OwnC w base (.slice (some ⟨g, 0, none⟩) d.size cap) (d.toList.map (·.1))) : HoldsK Cf.cs 7 w g 0 d := by
  rcases h.2 with ⟨h, _⟩ | ⟨g', cap', cur, hv, hb, hg, hn, hc, hs, ht⟩
  · cases h
  · simp only [Value.slice.injEq, Option.some.injEq, Addr.mk.injEq] at hv
    obtain ⟨⟨rfl, -⟩, -, rfl⟩ := hv
    intro j hj
    rw [flatC] at hj ⊢
    have hj' : j < (ccs (d.toList.map (·.1))).length := by simpa using hj
    refine ⟨?_, by simp [World.frozen?, hg]⟩
    rw [Nat.zero_add, cell_of_row _ _ _ _ _ _ hg, getElem!_pos _ j hj]
    have h1 : (cur.toList.take ((d.toList.map (·.1)).length * 7))[j]? = (ccs (d.toList.map (·.1)))[j]? := by rw [ht]
    rw [List.getElem?_take_of_lt (by rw [ccs_len] at hj'; exact hj'), List.getElem?_eq_getElem hj'] at h1
    simpa using h1
theorem grownC {w : World} {g n : Nat} {os : Array Obj} {d' : Array (Cf w g)} : w.grownBy (sortWorldK Cf.cs 7 w g 0 n d' os) (some g) := by
  refine ⟨rfl, rfl, rfl, by simp [sortWorldK, putRowK], fun k hk hne => ?_⟩
  unfold sortWorldK putRowK
  rw [heap_grow_old _ _ (by simpa using hk)]
  have : g ≠ k := fun e => hne (by rw [e])
  simp [putRow, mapBlock, Sort.ahead, Array.getElem?_modify, this]
theorem belowC {w : World} {g n : Nat} {os : Array Obj} {d' : Array (Cf w g)} (hgs : g < w.heap.size) : RowKit.Below g w (sortWorldK Cf.cs 7 w g 0 n d' os) :=
  (RowKit.Below.refl _ _).grown grownC (Nat.le_of_lt hgs) (fun q e => by cases e; exact Nat.le_refl _)
theorem cmpLaysC (blk size : Nat) (w : World) (hgs : blk < w.heap.size) : CmpLays Tryz.prog 19 #[] (Cf.cs (w := w) (g := blk)) 7 cfC blk 0 size w :=
  fun _ _ _ _ x y => (compareCD_any x.1 y.1 _ (x.2 _ (belowC hgs)) (y.2 _ (belowC hgs))).mono fun _ _ ⟨he, hb⟩ => ⟨he, dbelow_grow hb⟩
theorem ownC {w : World} {base g cap n : Nat} {os : Array Obj} {d d' : Array (Cf w g)} (h : OwnC w base (.slice (some ⟨g, 0, none⟩) d.size cap) (d.toList.map (·.1))) (hs : d'.size = d.size) :
    OwnC (sortWorldK Cf.cs 7 w g 0 n d' os) base (.slice (some ⟨g, 0, none⟩) d.size cap) (d'.toList.map (·.1)) := by
  rcases h.2 with ⟨h, _⟩ | ⟨g', cap', cur, hv, hb, hg, hn, hc, hsz, ht⟩
  · cases h
  · simp only [Value.slice.injEq, Option.some.injEq, Addr.mk.injEq] at hv
    obtain ⟨⟨rfl, -⟩, -, rfl⟩ := hv
    have hgs : g < w.heap.size := (Array.getElem?_eq_some_iff.1 hg).1
    have hH : (sortWorldK Cf.cs 7 w g 0 n d' os).heap[g]? = some (.cells (putCells id 0 (ccs (d'.toList.map (·.1))).toArray cur) 41 (0, 0)) := by
      unfold sortWorldK putRowK
      rw [flatC, heap_grow_old _ _ (by simpa using hgs)]
      simp [putRow, mapBlock, Sort.ahead, Array.getElem?_modify, hg, onCells]
    have hl : (d'.toList.map (·.1)).length = (d.toList.map (·.1)).length := by simp [hs]
    refine ⟨ccs_len _, Or.inr ⟨g, cap, _, by simp [hs], hb, hH, by rw [hl]; exact hn, hc, by simp [putCells, hsz], ?_⟩⟩
    apply List.ext_getElem?
    intro j
    by_cases hj : j < (d'.toList.map (·.1)).length * 7
    · have hjc : j < cur.size := by rw [hsz]; rw [hl] at hj; exact Nat.lt_of_lt_of_le hj (Nat.mul_le_mul_right 7 hn)
      have hjb : j < (ccs (d'.toList.map (·.1))).length := by rw [ccs_len]; exact hj
      rw [List.getElem?_take_of_lt hj, Array.getElem?_toList]
      simp [putCells, hjb, hjc]
    · rw [List.getElem?_take_eq_none (by omega), List.getElem?_eq_none (by rw [ccs_len]; omega)]
/-- Rising, by Compare. -/
def srtC (l : List Cm) : Prop := l.Pairwise fun a b => cmpC a.key b.key ≤ 0
theorem perm_ofC {w : World} {g : Nat} {d d' : Array (Cf w g)} (h : PermIn 0 d.size d d') : (d'.toList.map (·.1)).Perm (d.toList.map (·.1)) := by
  obtain ⟨hs, -, hp⟩ := h
  have e1 : d'.extract 0 d.size = d' := by rw [← hs]; simp
  have e2 : d.extract 0 d.size = d := by simp
  rw [e1, e2] at hp
  exact List.Perm.map _ hp
theorem srt_ofC {w : World} {g : Nat} {d d' : Array (Cf w g)} (hs : d'.size = d.size) (h : SortedIn (ltOf cfC) 0 d.size d') : srtC (d'.toList.map (·.1)) := by
  unfold srtC
  rw [List.pairwise_iff_getElem]
  intro i j hi hj hij
  have hj' : j < d'.size := by simpa using hj
  have hi' : i < d'.size := by simpa using hi
  have := h i j (Nat.zero_le _) hij (by omega)
  rw [ltC, getElem!_pos d' j hj', getElem!_pos d' i hi'] at this
  simp only [decide_eq_false_iff_not] at this
  simp only [List.getElem_map, Array.getElem_toList]
  have := ord_c.neg (d'[i]).1.key (d'[j]).1.key
  omega
set_option maxHeartbeats 2000000 in
theorem sortFuncC_all (g cap base : Nat) (w : World) (d : Array (Cf w g)) (h : OwnC w base (.slice (some ⟨g, 0, none⟩) d.size cap) (d.toList.map (·.1))) (hsz : d.size < 4611686018427387904) :
    Calls Tryz.prog 55 #[.slice (some ⟨g, 0, none⟩) d.size cap, .func (.func 19) #[] #[]] w fun e w' => e = .returned (.tuple #[]) ∧ ∃ l', OwnC w' base (.slice (some ⟨g, 0, none⟩) d.size cap) l' ∧ l'.Perm (d.toList.map (·.1)) ∧ srtC l' ∧ RowKit.Below g w w' := by
  have hlt := h.lt g rfl
  have eg : ∀ args w, (callFunc 19 args).run Tryz.prog w = .ok (.enter 19 args) w := enters_of Tryz.func19 (by kernel_rfl) rfl
  have hlim : Lib.bitLen d.size < 4611686018427387904 := Nat.lt_of_le_of_lt (Lib.bitLen_le d.size 62 (by omega) (by omega)) (by omega)
  have hp := AnyQ.pdqsortCmpFunc_all (P := Tryz.prog) Tryz.pdqCm 7 Tryz.isAgg41 Tryz.sizeOf41 Cf.cs cfC 19 #[] (swoC w g) g 0 cap d w eg (cmpLaysC g d.size w hlt.2)
    ⟨fun _ => rfl, fun x v hv => by
      obtain ⟨⟨a, n, cp, e1⟩, ⟨a', cp', e2⟩, ⟨a'', cp'', e3⟩, -, -⟩ := (x.2 w (RowKit.Below.refl _ _)).shape
      simp only [Cf.cs, Cm.csl, e1, e2, e3] at hv
      simp at hv
      rcases hv with rfl | rfl | rfl | rfl | rfl | rfl | rfl <;> rfl, holdsC h, hlt.2⟩ (d.size + 1) 0 d.size (Lib.bitLen d.size) d w (by omega) rfl (SWK.start (holdsC h)) (Nat.zero_le _) (Nat.le_refl _) hsz hlim (Or.inl rfl)
  change Calls Tryz.prog 98 _ _ _ at hp
  have hl := Any.bits_Len Tryz.bitsLen (d.size : Int) w (by omega) (by omega)
  change Calls Tryz.prog 99 _ _ _ at hl
  rw [Int.toNat_natCast] at hl
  have hs := pdq_sorts (ltOf cfC) (swoC w g) d 0 d.size (Lib.bitLen d.size) true true (Nat.zero_le _) (Nat.le_refl _) (Or.inl rfl)
  obtain ⟨d', hd'⟩ : ∃ d', pdq (ltOf cfC) d 0 d.size (Lib.bitLen d.size) true true = d' := ⟨_, rfl⟩
  rw [hd'] at hp hs
  have HP : Hid (Calls Tryz.prog 98 #[.slice (some ⟨g, 0, none⟩) d.size cap, .int .i64 ((0 : Nat) : Int), .int .i64 d.size, .int .i64 (Lib.bitLen d.size), .func (.func 19) #[] #[]] w fun e w' => e = .returned (.tuple #[]) ∧ SWK Cf.cs 7 w g 0 d' w') := hp
  have HS : Hid (PermIn 0 d.size d d' ∧ SortedIn (ltOf cfC) 0 d.size d') := hs
  have HO : Hid (OwnC w base (.slice (some ⟨g, 0, none⟩) d.size cap) (d.toList.map (·.1))) := h
  have HL : Hid (Calls Tryz.prog 99 #[.int .u64 (d.size : Int)] w fun e w' => e = .returned (.int .i64 (Lib.bitLen d.size)) ∧ w' = w) := hl
  have wr : IntKind.u64.wrap (d.size : Int) = d.size := by rw [IntKind.wrap_u64]; omega
  clear hp hs h hl hd' eg
  go_enter Tryz.func55, Tryz.ntmps55
  go_wp2_with (first
    | (go_at_call 99; refine HL.out.mono ?_; rintro e w1 ⟨rfl, rfl⟩)
    | (go_at_call 98; refine HP.out.mono ?_; rintro e w2 ⟨rfl, hw2⟩))
  go_end0
  obtain ⟨n, os, rfl⟩ := hw2
  exact ⟨rfl, d'.toList.map (·.1), ownC HO.out HS.out.1.1, perm_ofC HS.out.1, srt_ofC HS.out.1.1 HS.out.2, belowC hlt.2⟩
end Go.Proofs.YtdfgijdededolabGreatDoor
/-
  Clauses as plain data: what Made makes; numbering. (Plain.)
-/
namespace Go.Proofs.YtdfgijdededolabGreatDoor
open Go.RowKit

/-- A clause as plain data. -/
abbrev Ck := At × List At × List Te
def Ck.terms (x : Ck) : List Tm := x.1.pl ++ (x.2.1.flatMap At.pl ++ tls x.2.2)
theorem key_terms (c : Cm) : c.terms = Ck.terms c.key := by
  rw [Cm.terms_eq, Ck.terms, Cm.key, flt, fsts, List.flatMap_map]; simp
def mapA (f : Tm → Tm) (a : At) : At := ⟨f a.by_, a.name, a.args.map f⟩
def mapE (f : Tm → Tm) (t : Te) : Te := ⟨t.op, f t.l, f t.r⟩
def mapC (f : Tm → Tm) (x : Ck) : Ck := (mapA f x.1, x.2.1.map (mapA f), x.2.2.map (mapE f))
theorem mapA_pl (f : Tm → Tm) (a : At) : (mapA f a).pl = a.pl.map f := rfl
theorem flat_mapA (f : Tm → Tm) (l : List At) : (l.map (mapA f)).flatMap At.pl = (l.flatMap At.pl).map f := by
  rw [List.flatMap_map, List.map_flatMap]; rfl
theorem tls_mapE (f : Tm → Tm) (l : List Te) : tls (l.map (mapE f)) = (tls l).map f := by
  unfold tls; rw [List.flatMap_map, List.map_flatMap]; rfl
theorem mapC_terms (f : Tm → Tm) (x : Ck) : Ck.terms (mapC f x) = (Ck.terms x).map f := by
  unfold Ck.terms mapC; simp only [mapA_pl, flat_mapA, tls_mapE, List.map_append]
theorem mapA_congr {f g : Tm → Tm} {a : At} (h : ∀ t ∈ a.pl, f t = g t) : mapA f a = mapA g a := by
  unfold mapA
  rw [h a.by_ (by simp [At.pl]), List.map_congr_left fun t ht => h t (by simp [At.pl, ht])]
theorem mapC_congr {f g : Tm → Tm} {x : Ck} (h : ∀ t ∈ Ck.terms x, f t = g t) : mapC f x = mapC g x := by
  unfold mapC
  have e1 : mapA f x.1 = mapA g x.1 := mapA_congr fun t ht => h t (by simp [Ck.terms, ht])
  have e2 : x.2.1.map (mapA f) = x.2.1.map (mapA g) := List.map_congr_left fun a ha => mapA_congr fun t ht => h t (List.mem_append_right _ (List.mem_append_left _ (List.mem_flatMap.2 ⟨a, ha, ht⟩)))
  have e3 : x.2.2.map (mapE f) = x.2.2.map (mapE g) := List.map_congr_left fun e he => by
    unfold mapE
    rw [h e.l, h e.r]
    · exact List.mem_append_right _ (List.mem_append_right _ (List.mem_flatMap.2 ⟨e, he, by simp⟩))
    · exact List.mem_append_right _ (List.mem_append_right _ (List.mem_flatMap.2 ⟨e, he, by simp⟩))
  rw [e1, e2, e3]
theorem mapA_id (a : At) : mapA (fun t => t) a = a := by cases a; simp [mapA]
theorem mapC_id (x : Ck) : mapC (fun t => t) x = x := by
  obtain ⟨h, b, t⟩ := x
  have e1 : (mapA fun t => t) = fun a => a := funext mapA_id
  have e2 : (mapE fun t => t) = fun a => a := funext fun a => by cases a; rfl
  simp [mapC, mapA_id, e1, e2]
theorem mapA_comp (f g : Tm → Tm) (a : At) : mapA f (mapA g a) = mapA (fun t => f (g t)) a := by simp [mapA, Function.comp_def]
theorem mapC_comp (f g : Tm → Tm) (x : Ck) : mapC f (mapC g x) = mapC (fun t => f (g t)) x := by
  simp [mapC, mapA_comp, mapE, Function.comp_def]
/-- A constant, an atom, a test out of any. -/
def cut64 (s : ByteArray) : ByteArray := s.extract 0 (min s.size 64)
def mkC (t : Tm) : Tm := if t.con = true then t else if t.k = 2 then ⟨2, 0, cut64 t.s⟩ else ⟨1, t.n, ⟨#[]⟩⟩
def fixT (t : Tm) : Tm := if t.var = true then t else mkC t
def nmP : ByteArray := ⟨#[112]⟩
def mkA (a : At) : At := ⟨if qualOk a.by_ = true then a.by_ else zt, if nameOk a.name = true then a.name else nmP, (a.args.take 8).map fixT⟩
def grd (t : Tm) : Tm := if t.k = 3 then ⟨1, t.n, ⟨#[]⟩⟩ else t
def sf (l : List Tm) (t : Tm) : Tm := if t ∈ l then t else grd t
def opF (o : Int) : Int := if o < 1 ∨ 4 < o then 1 + ((o.tmod 4) + 4).tmod 4 else o
def mkE (b : List Tm) (t : Te) : Te := ⟨opF t.op, sf b (fixT t.l), sf b (fixT t.r)⟩
theorem cut64_size (s : ByteArray) : (cut64 s).size ≤ 64 := by
  unfold cut64; rw [ByteArray.size_extract]; omega
theorem mkC_con (t : Tm) : (mkC t).con = true := by
  unfold mkC
  by_cases h : t.con = true
  · rw [if_pos h]; exact h
  · rw [if_neg h]
    by_cases h2 : t.k = 2
    · rw [if_pos h2]; simp [Tm.con, cut64_size]
    · rw [if_neg h2]; simp [Tm.con]
theorem fixT_cov (t : Tm) : (fixT t).cov = true := by
  unfold fixT
  by_cases h : t.var = true
  · rw [if_pos h]; simp [Tm.cov, h]
  · rw [if_neg h]; simp [Tm.cov, mkC_con]
theorem con_novar {t : Tm} (h : t.con = true) : t.var = false := by
  simp only [Tm.con, decide_eq_true_eq] at h
  simp only [Tm.var, decide_eq_false_iff_not]
  rintro ⟨h1, -⟩
  rcases h with ⟨h2, -⟩ | ⟨h2, -⟩ <;> omega
theorem sf_cov {b : List Tm} {t : Tm} (h : t.cov = true) : (sf b t).cov = true := by
  unfold sf
  by_cases hm : t ∈ b
  · rw [if_pos hm]; exact h
  · rw [if_neg hm]
    unfold grd
    by_cases h3 : t.k = 3
    · rw [if_pos h3]; simp [Tm.cov, Tm.con]
    · rw [if_neg h3]; exact h
theorem sf_var {b : List Tm} {t : Tm} (h : (sf b t).var = true) : sf b t ∈ b := by
  unfold sf at *
  by_cases hm : t ∈ b
  · rw [if_pos hm]; exact hm
  · rw [if_neg hm] at h
    unfold grd at h
    by_cases h3 : t.k = 3
    · rw [if_pos h3] at h; simp [Tm.var] at h
    · rw [if_neg h3] at h; simp only [Tm.var, decide_eq_true_eq] at h; exact absurd h.1 h3
theorem opF_ok (o : Int) : 1 ≤ opF o ∧ opF o ≤ 4 := by
  unfold opF
  by_cases h : o < 1 ∨ 4 < o
  · rw [if_pos h]
    have h1 := Int.tmod_lt_of_pos o (show (0 : Int) < 4 by omega)
    have h2 : -4 < o.tmod 4 := Int.lt_tmod_of_pos o (by omega)
    have h3 : ((o.tmod 4) + 4).tmod 4 = ((o.tmod 4) + 4) % 4 := Int.tmod_eq_emod_of_nonneg (by omega)
    rw [h3]; omega
  · rw [if_neg h]; omega
theorem mkE_ok (b : List Tm) (t : Te) : (mkE b t).ok = true := by
  have := opF_ok t.op
  simp [mkE, Te.ok, this, sf_cov, fixT_cov]
theorem err_zero {a : At} (h1 : nameOk a.name = true) (h2 : a.args.length ≤ 8) (h3 : qualOk a.by_ = true) (h4 : ∀ t ∈ a.args, t.cov = true) : a.err = 0 := by
  unfold At.err
  rw [if_neg (by rw [h1]; simp), if_neg (by omega), if_neg (by rw [h3]; simp), if_pos (by rw [List.all_eq_true]; exact h4)]
theorem err_zero' {a : At} (h : a.err = 0) : nameOk a.name = true ∧ a.args.length ≤ 8 ∧ qualOk a.by_ = true ∧ ∀ t ∈ a.args, t.cov = true := by
  unfold At.err at h
  split at h
  · cases h
  split at h
  · cases h
  split at h
  · cases h
  split at h
  · rename_i a1 a2 a3 a4
    exact ⟨by simpa using a1, by omega, by simpa using a3, by rwa [List.all_eq_true] at a4⟩
  · cases h
theorem qual_zt : qualOk zt = true := by simp [qualOk]
theorem mkA_err (hp : nameOk nmP = true) (a : At) : (mkA a).err = 0 := by
  refine err_zero ?_ ?_ ?_ ?_
  · unfold mkA; simp only
    split
    · assumption
    · exact hp
  · simp [mkA]; omega
  · unfold mkA; simp only
    split
    · assumption
    · exact qual_zt
  · intro t ht
    simp only [mkA, List.mem_map] at ht
    obtain ⟨u, -, rfl⟩ := ht
    exact fixT_cov u
/-- Terms, none twice. -/
def dstepT (acc : List Tm) (x : Tm) : List Tm := if x ∈ acc then acc else acc ++ [x]
def disT (l : List Tm) : List Tm := (l.filter Tm.var).foldl dstepT []
theorem dstepT_mem {acc : List Tm} {x y : Tm} : y ∈ dstepT acc x ↔ y ∈ acc ∨ y = x := by
  unfold dstepT
  by_cases h : x ∈ acc
  · rw [if_pos h]
    exact ⟨Or.inl, fun e => e.elim id fun e => e ▸ h⟩
  · rw [if_neg h]; simp
theorem foldT_mem : ∀ {l acc : List Tm} {y : Tm}, y ∈ l.foldl dstepT acc ↔ y ∈ acc ∨ y ∈ l
  | [], acc, y => by simp
  | x :: l, acc, y => by rw [List.foldl_cons, foldT_mem, dstepT_mem, List.mem_cons, or_assoc]
theorem disT_mem {l : List Tm} {y : Tm} : y ∈ disT l ↔ y ∈ l ∧ y.var = true := by
  unfold disT; rw [foldT_mem, List.mem_filter]; simp
theorem foldT_pre : ∀ (l acc : List Tm), acc <+: l.foldl dstepT acc
  | [], acc => List.prefix_rfl
  | x :: l, acc => by
    rw [List.foldl_cons]
    refine List.IsPrefix.trans ?_ (foldT_pre l _)
    unfold dstepT
    split
    · exact List.prefix_rfl
    · exact List.prefix_append _ _
/-- Where a term first stands. -/
def ix : List Tm → Tm → Nat
  | [], _ => 0
  | x :: l, t => if x = t then 0 else ix l t + 1
theorem ix_lt : ∀ {l : List Tm} {t : Tm}, t ∈ l → ix l t < l.length
  | x :: l, t, h => by
    rw [ix]
    by_cases e : x = t
    · rw [if_pos e]; simp
    · rw [if_neg e]
      have := ix_lt (l := l) (t := t) (by rcases List.mem_cons.1 h with h | h; exact absurd h.symm e; exact h)
      simp only [List.length_cons]; omega
theorem ix_app : ∀ {p q : List Tm} {t : Tm}, t ∈ p → ix (p ++ q) t = ix p t
  | x :: l, q, t, h => by
    rw [List.cons_append, ix, ix]
    by_cases e : x = t
    · rw [if_pos e, if_pos e]
    · rw [if_neg e, if_neg e, ix_app (by rcases List.mem_cons.1 h with h | h; exact absurd h.symm e; exact h)]
theorem ix_new : ∀ {p : List Tm} {t : Tm}, ¬ t ∈ p → ix (p ++ [t]) t = p.length
  | [], t, _ => by simp [ix]
  | x :: l, t, h => by
    rw [List.cons_append, ix, if_neg (fun e => h (by simp [e])), ix_new (fun e => h (by simp [e]))]; rfl
theorem ix_get : ∀ {l : List Tm} {t : Tm}, t ∈ l → l[ix l t]? = some t
  | x :: l, t, h => by
    rw [ix]
    by_cases e : x = t
    · rw [if_pos e]; simp [e]
    · rw [if_neg e, List.getElem?_cons_succ]; exact ix_get (by rcases List.mem_cons.1 h with h | h; exact absurd h.symm e; exact h)
theorem ix_at : ∀ {l : List Tm} {t : Tm} {j : Nat}, l[j]? = some t → (¬ t ∈ l.take j) → ix l t = j
  | x :: l, t, 0, h, _ => by simp at h; rw [ix, if_pos h]
  | x :: l, t, j + 1, h, hn => by
    rw [List.take_succ_cons, List.mem_cons, not_or] at hn
    rw [List.getElem?_cons_succ] at h
    rw [ix, if_neg (fun e => hn.1 e.symm), ix_at h hn.2]
def nmT (vs : List Tm) (t : Tm) : Tm := if t ∈ vs then ⟨3, (ix vs t : Nat), ⟨#[]⟩⟩ else t
def normC (x : Ck) : Ck := mapC (nmT (disT (Ck.terms x))) x
theorem idxOf_pre {p q : List Tm} {t : Tm} (h : p <+: q) (ht : t ∈ p) : ix q t = ix p t := by
  obtain ⟨r, rfl⟩ := h
  exact ix_app ht
theorem mis_idx : ∀ (l acc : List Tm), mis acc.length (l.map fun t => ((ix (l.foldl dstepT acc) t : Nat) : Int)) = false
  | [], _ => rfl
  | t :: r, acc => by
    rw [List.map_cons, List.foldl_cons]
    have hpre := foldT_pre r (dstepT acc t)
    have ih := mis_idx r (dstepT acc t)
    by_cases h : t ∈ acc
    · have e : dstepT acc t = acc := if_pos h
      rw [e] at hpre ih ⊢
      have e2 := idxOf_pre hpre h
      have e3 := ix_lt h
      rw [mis, if_neg (by rw [e2]; omega), if_neg (by rw [e2]; omega)]
      exact ih
    · have e : dstepT acc t = acc ++ [t] := if_neg h
      rw [e] at hpre ih ⊢
      have e2 := idxOf_pre hpre (t := t) (by simp)
      have e3 : ix (acc ++ [t]) t = acc.length := ix_new h
      rw [mis, if_neg (by rw [e2, e3]; omega), if_pos (by rw [e2, e3])]
      rw [List.length_append, List.length_singleton] at ih
      exact_mod_cast ih
theorem nmT_var (vs : List Tm) (t : Tm) (h : ∀ u ∈ vs, u.var = true) : (nmT vs t).var = t.var := by
  unfold nmT
  by_cases hm : t ∈ vs
  · rw [if_pos hm, h t hm]; simp [Tm.var]
  · rw [if_neg hm]
theorem norm_vars (x : Ck) : vrs (Ck.terms (normC x)) = ((Ck.terms x).filter Tm.var).map fun t => (ix (((Ck.terms x).filter Tm.var).foldl dstepT []) t : Int) := by
  unfold normC
  rw [mapC_terms, vrs, List.filter_map, List.map_map]
  have e : List.filter (Tm.var ∘ nmT (disT (Ck.terms x))) (Ck.terms x) = List.filter Tm.var (Ck.terms x) := List.filter_congr fun t ht => nmT_var _ _ (fun u hu => (disT_mem.1 hu).2)
  rw [e]
  refine List.map_congr_left fun t ht => ?_
  have hm : t ∈ disT (Ck.terms x) := disT_mem.2 (List.mem_filter.1 ht)
  simp only [Function.comp, nmT, if_pos hm]
  rfl
theorem norm_mis (x : Ck) : mis 0 (vrs (Ck.terms (normC x))) = false := by
  rw [norm_vars]; exact mis_idx _ []
/-- Valid but for the numbers. -/
structure Val0 (x : Ck) : Prop where
  e : ∀ a ∈ x.1 :: x.2.1, a.err = 0
  t : ∀ a ∈ x.2.2, a.ok = true
  bl : x.2.1.length ≤ 8
  tl : x.2.2.length ≤ 8
  h : x.1.by_.var = false
  s : ∀ t ∈ x.1.pl ++ tls x.2.2, t.var = true → t ∈ x.2.1.flatMap At.pl
theorem chk_zero {c : Cm} (h1 : ∀ a ∈ c.key.1 :: c.key.2.1, a.err = 0) (h2 : ∀ a ∈ c.key.2.2, a.ok = true) (h3 : c.key.2.1.length ≤ 8) (h4 : c.key.2.2.length ≤ 8) (h5 : c.key.1.by_.var = false)
    (h6 : ∀ t ∈ c.key.1.pl ++ tls c.key.2.2, t.var = true → t ∈ c.key.2.1.flatMap At.pl) (h7 : mis 0 (vrs (Ck.terms c.key)) = false) : c.chk = 0 := by
  have a1 : long c = false := by
    simp only [Cm.key, fsts, List.length_map] at h3 h4
    simp [long]; omega
  have a2 : aErr c.atoms = 0 := aErr_zero fun y hy => by
    rcases List.mem_cons.1 hy with rfl | hy
    · exact h1 _ (by simp [Cm.key])
    · exact h1 _ (by simp only [Cm.key, fsts, List.mem_cons, List.mem_map]; exact Or.inr ⟨y, hy, rfl⟩)
  have a3 : badT c = false := by
    unfold badT; rw [List.any_eq_false]; intro t ht; rw [h2 t ht]; simp
  have a5 : unb c = false := unb_no fun v hv => by
    have e1 : c.restC.vars = vrs c.restC.terms := rfl
    have e2 : c.bodyC.vars = vrs c.bodyC.terms := rfl
    rw [e1, restC_terms, vrs] at hv
    rw [e2, bodyC_terms, vrs]
    obtain ⟨t, ht, rfl⟩ := List.mem_map.1 hv
    obtain ⟨ht, hvt⟩ := List.mem_filter.1 ht
    have := h6 t ht hvt
    refine List.mem_map.2 ⟨t, List.mem_filter.2 ⟨List.mem_cons_of_mem _ ?_, hvt⟩, rfl⟩
    rw [flt]
    simpa [Cm.key, fsts, List.flatMap_map] using this
  have a6 : mis 0 c.vars = false := by
    have : c.vars = vrs c.terms := rfl
    rw [this, key_terms]; exact h7
  have a4 : c.head.1.by_.var = false := h5
  simp [Cm.chk, Cm.rs, chkL, a1, a2, a3, a4, a5, a6]
theorem nmT_cov {vs : List Tm} {t : Tm} (h : t.cov = true) : (nmT vs t).cov = true := by
  unfold nmT
  by_cases hm : t ∈ vs
  · rw [if_pos hm]; simp [Tm.cov, Tm.var]
  · rw [if_neg hm]; exact h
theorem nmT_qual {vs : List Tm} {t : Tm} (h : qualOk t = true) : qualOk (nmT vs t) = true := by
  unfold nmT
  by_cases hm : t ∈ vs
  · rw [if_pos hm]
    have : Tm.var ⟨3, (ix vs t : Nat), ⟨#[]⟩⟩ = true := by simp [Tm.var]
    simp [qualOk, this]
  · rw [if_neg hm]; exact h
theorem norm_val {x : Ck} (h : Val0 x) : Val0 (normC x) := by
  have hv : ∀ t ∈ Ck.terms x, (nmT (disT (Ck.terms x)) t).var = t.var := fun t ht => nmT_var _ _ (fun u hu => (disT_mem.1 hu).2)
  have he : ∀ a : At, a.err = 0 → (mapA (nmT (disT (Ck.terms x))) a).err = 0 := fun a ha => by
    obtain ⟨h1, h2, h3, h4⟩ := err_zero' ha
    refine err_zero h1 (by simpa [mapA] using h2) (nmT_qual h3) fun t ht => ?_
    obtain ⟨u, hu, rfl⟩ := List.mem_map.1 ht
    exact nmT_cov (h4 u hu)
  refine ⟨fun a ha => ?_, fun a ha => ?_, by simpa [normC, mapC] using h.bl, by simpa [normC, mapC] using h.tl, ?_, fun t ht hvt => ?_⟩
  · rcases List.mem_cons.1 ha with rfl | ha
    · exact he _ (h.e _ (by simp))
    · obtain ⟨b, hb, rfl⟩ := List.mem_map.1 ha
      exact he _ (h.e _ (by simp [hb]))
  · obtain ⟨b, hb, rfl⟩ := List.mem_map.1 ha
    have := h.t b hb
    simp only [Te.ok, Bool.and_eq_true, mapE] at this ⊢
    exact ⟨this.1, nmT_cov this.2.1, nmT_cov this.2.2⟩
  · exact (hv x.1.by_ (by simp [Ck.terms, At.pl])).trans h.h
  · have e : (normC x).1.pl ++ tls (normC x).2.2 = (x.1.pl ++ tls x.2.2).map (nmT (disT (Ck.terms x))) := by
      rw [List.map_append, normC, mapC]; simp only [mapA_pl, tls_mapE]
    rw [e] at ht
    obtain ⟨u, hu, rfl⟩ := List.mem_map.1 ht
    have hut : u ∈ Ck.terms x := by
      unfold Ck.terms; rcases List.mem_append.1 hu with hu | hu <;> simp [hu]
    rw [hv u hut] at hvt
    have := h.s u hu hvt
    have e2 : (normC x).2.1.flatMap At.pl = (x.2.1.flatMap At.pl).map (nmT (disT (Ck.terms x))) := by rw [normC, mapC]; exact flat_mapA _ _
    rw [e2]
    exact List.mem_map.2 ⟨u, this, rfl⟩
/-- What Made makes of a clause, ahead of its numbering and behind it. -/
def made0 (x : Ck) : Ck :=
  let b := (x.2.1.take 8).map mkA
  let h := mkA x.1
  (⟨if h.by_.k = 3 then zt else h.by_, h.name, h.args.map (sf (b.flatMap At.pl))⟩, b, (x.2.2.take 8).map (mkE (b.flatMap At.pl)))
def madeK (x : Ck) : Ck := normC (made0 x)
theorem made0_val (hp : nameOk nmP = true) (x : Ck) : Val0 (made0 x) := by
  refine ⟨fun a ha => ?_, fun a ha => ?_, by simp [made0]; omega, by simp [made0]; omega, ?_, fun t ht hv => ?_⟩
  · rcases List.mem_cons.1 ha with rfl | ha
    · obtain ⟨h1, h2, h3, h4⟩ := err_zero' (mkA_err hp x.1)
      refine err_zero h1 (by simpa [made0] using h2) ?_ fun t ht => ?_
      · simp only [made0]
        split
        · exact qual_zt
        · exact h3
      · obtain ⟨u, hu, rfl⟩ := List.mem_map.1 ht
        exact sf_cov (h4 u hu)
    · obtain ⟨b, hb, rfl⟩ := List.mem_map.1 ha
      exact mkA_err hp b
  · obtain ⟨b, hb, rfl⟩ := List.mem_map.1 ha
    exact mkE_ok _ _
  · simp only [made0]
    split
    · simp [Tm.var, zt]
    · rename_i h; simp [Tm.var, h]
  · rcases List.mem_append.1 ht with ht | ht
    · rcases List.mem_cons.1 ht with rfl | ht
      · exfalso
        simp only [made0] at hv
        split at hv
        · simp [Tm.var, zt] at hv
        · rename_i h; simp [Tm.var, h] at hv
      · obtain ⟨u, hu, rfl⟩ := List.mem_map.1 ht
        exact sf_var hv
    · obtain ⟨e, he, ht⟩ := List.mem_flatMap.1 ht
      obtain ⟨b, hb, rfl⟩ := List.mem_map.1 he
      simp only [mkE, List.mem_cons, List.not_mem_nil, or_false] at ht
      rcases ht with rfl | rfl <;> exact sf_var hv
theorem made_val (hp : nameOk nmP = true) (x : Ck) : Val0 (madeK x) := norm_val (made0_val hp x)
theorem made_chk (hp : nameOk nmP = true) {c : Cm} {x : Ck} (h : c.key = madeK x) : c.chk = 0 := by
  have hv := made_val hp x
  rw [← h] at hv
  exact chk_zero hv.e hv.t hv.bl hv.tl hv.h hv.s (by rw [h]; exact norm_mis _)
end Go.Proofs.YtdfgijdededolabGreatDoor
