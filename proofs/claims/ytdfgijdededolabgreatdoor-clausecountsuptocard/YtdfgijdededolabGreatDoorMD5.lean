import Derived.Test.YtdfgijdededolabGreatDoorSD1
import Derived.Test.YtdfgijdededolabGreatDoorCL22
import Derived.Test.YtdfgijdededolabGreatDoorShelf
import Derived.Sort.OwnSorted
import Derived.Laws.AppendOwn
import Derived.Test.YtdfgijdededolabGreatDoorCL5
import Derived.Deep.CutRange
import Derived.Test.YtdfgijdededolabGreatDoorCN4
import Derived.Deep.RegionHeld3
/-
  Lists of clauses of the call's own, and their sort. (Written by SD2.py.)
-/
namespace Go.Proofs.YtdfgijdededolabGreatDoor
open Go.RowKit Go.Shelf Go.Lib Go.Sort

def Cm.csl (c : Cm) : List Value := c.cs.toList
def ccs (l : List Cm) : List Value := l.flatMap Cm.csl
theorem ccs_len (l : List Cm) : (ccs l).length = l.length * 7 := by
  induction l with
  | nil => rfl
  | cons d l ih => simp only [ccs, List.flatMap_cons, List.length_append, List.length_cons] at *; rw [ih]; simp [Cm.csl]; omega
theorem ccs_app (l m : List Cm) : ccs (l ++ m) = ccs l ++ ccs m := by simp [ccs]
theorem ccs_get (l : List Cm) (j : Nat) (d : Cm) (h : l[j]? = some d) (i : Nat) (hi : i < 7) : (ccs l)[j * 7 + i]? = d.csl[i]? := by
  induction l generalizing j with
  | nil => simp at h
  | cons e l ih =>
    have hl : e.csl.length = 7 := rfl
    have ec : ccs (e :: l) = e.csl ++ ccs l := by simp [ccs]
    cases j with
    | zero =>
      simp at h
      subst h
      rw [ec, Nat.zero_mul, Nat.zero_add, List.getElem?_append_left (by omega)]
    | succ j =>
      rw [List.getElem?_cons_succ] at h
      rw [ec, List.getElem?_append_right (by omega), hl, show (j + 1) * 7 + i - 7 = j * 7 + i by omega]
      exact ih j h
def OwnC (w : World) (base : Nat) (v : Value) (l : List Cm) : Prop := w.ownsRow base 41 7 v l.length (ccs l)
theorem OwnC.lt {w : World} {base : Nat} {v : Value} {l : List Cm} (h : OwnC w base v l) : ∀ k, v.ownBlock = some k → base ≤ k ∧ k < w.heap.size := World.ownsRow.lt h
theorem dbelow_grow {w w' : World} (h : DBelow w.heap.size w w') : ∃ q os', w' = grow (w.drewN q) os' := by
  refine ⟨w'.drawn - w.drawn, w'.heap.extract w.heap.size w'.heap.size, ?_⟩
  obtain ⟨hp, tp, dr, os, out⟩ := w
  obtain ⟨hp', tp', dr', os', out'⟩ := w'
  obtain ⟨⟨h1, h2, h3, h4, h5⟩, h6⟩ := h
  simp only at h1 h2 h3 h4 h5 h6
  subst h1 h2 h3
  have e1 : hp' = hp ++ hp'.extract hp.size hp'.size := by
    apply Array.ext_getElem?
    intro i
    by_cases hi : i < hp.size
    · rw [Array.getElem?_append_left hi]; exact h5 i hi
    · rw [Array.getElem?_append_right (by omega), Array.getElem?_extract]
      by_cases hi2 : i < hp'.size
      · rw [if_pos (by omega), show hp.size + (i - hp.size) = i by omega]
      · rw [if_neg (by omega), Array.getElem?_eq_none (by omega)]
  show World.mk hp' tp' dr' os' out' = World.mk (hp ++ hp'.extract hp.size hp'.size) tp' (dr + (dr' - dr)) os' out'
  rw [← e1, show dr + (dr' - dr) = dr' by omega]
/-- A clause that stays wherever the blocks below g stay. -/
def Cf (w : World) (g : Nat) : Type := { c : Cm // ∀ X : World, RowKit.Below g w X → c.ok X }
def zC : Cm := ⟨(⟨zt, ⟨#[]⟩, []⟩, .slice none 0 0), [], .slice none 0 0, [], .slice none 0 0⟩
theorem zC_ok (w : World) : zC.ok w := ⟨⟨none, 0, rfl, by simp [zC], Or.inl rfl⟩, ⟨none, 0, rfl, by simp [zC], Or.inl rfl, fun x hx => by simp [zC] at hx⟩, ⟨none, 0, rfl, by simp [zC], Or.inl rfl⟩⟩
instance (w : World) (g : Nat) : Inhabited (Cf w g) := ⟨⟨zC, fun X _ => zC_ok X⟩⟩
def Cf.cs {w : World} {g : Nat} (x : Cf w g) : List Value := x.1.csl
def cfC {w : World} {g : Nat} (x y : Cf w g) : Int := x.1.cmp y.1
theorem ltC {w : World} {g : Nat} (x y : Cf w g) : ltOf cfC x y = decide (cmpC x.1.key y.1.key < 0) := by unfold ltOf cfC; rw [cmp_key]
theorem swoC (w : World) (g : Nat) : SWO (ltOf (cfC (w := w) (g := g))) where
  irrefl x := by rw [ltC, ord_c.refl]; rfl
  trans x y z h1 h2 := by
    rw [ltC] at *
    simp only [decide_eq_true_eq] at *
    exact (ord_c.tr _ _ _ (by omega) (by omega)).2 (Or.inl h1)
  ntrans x y z h1 h2 := by
    rw [ltC] at *
    simp only [decide_eq_false_iff_not] at *
    have n1 := ord_c.neg x.1.key y.1.key
    have n2 := ord_c.neg y.1.key z.1.key
    have n3 := ord_c.neg x.1.key z.1.key
    have := (ord_c.tr z.1.key y.1.key x.1.key (by omega) (by omega)).1
    omega
theorem flatC {w : World} {g : Nat} (d : Array (Cf w g)) : flatK Cf.cs 7 d = (ccs (d.toList.map (·.1))).toArray := by
  apply Array.ext
  · simp [ccs_len]
  · intro t h1 h2
    have ht : t < d.size * 7 := by simpa using h1
    have hq : t / 7 < d.size := by omega
    have hd : (d.toList.map (·.1))[t / 7]? = some (d[t / 7]!).1 := by
      rw [getElem!_pos d (t / 7) hq]; simp [hq]
    have hg := ccs_get (d.toList.map (·.1)) (t / 7) _ hd (t % 7) (by omega)
    rw [show t / 7 * 7 + t % 7 = t by omega] at hg
    have e1 : (flatK Cf.cs 7 d)[t] = (Cf.cs d[t / 7]!)[t % 7]! := by
      have := get_flatK Cf.cs 7 d t ht
      rwa [getElem!_pos _ t h1] at this
    rw [e1]
    have hc : t % 7 < (Cf.cs d[t / 7]!).length := by simp [Cf.cs, Cm.csl]; omega
    rw [getElem!_pos (Cf.cs d[t / 7]!) (t % 7) hc]
    have h3 : t < (ccs (d.toList.map (·.1))).length := by simpa using h2
    have hg2 : (ccs (d.toList.map (·.1)))[t]? = (Cf.cs d[t / 7]!)[t % 7]? := hg
    rw [List.getElem?_eq_getElem hc, List.getElem?_eq_getElem h3] at hg2
    simpa using (Option.some.inj hg2).symm
theorem holdsC {w : World} {base g cap : Nat} {d : Array (Cf w g)} (h : OwnC w base (.slice (some ⟨g, 0, none⟩) d.size cap) (d.toList.map (·.1))) : HoldsK Cf.cs 7 w g 0 d := by
  rcases h.2 with ⟨h, _⟩ | ⟨g', cap', cur, hv, hb, hg, hn, hc, hs, ht⟩
  · cases h
  · simp only [Value.slice.injEq, Option.some.injEq, Addr.mk.injEq] at hv
    obtain ⟨⟨rfl, -⟩, -, rfl⟩ := hv
    intro j hj
    rw [flatC] at hj ⊢
    have hj' : j < (ccs (d.toList.map (·.1))).length := by simpa using hj
    refine ⟨?_, by simp [World.frozen?, hg]⟩
    rw [Nat.zero_add, cell_of_row _ _ _ _ _ _ hg, getElem!_pos _ j hj]
    have h1 : (cur.toList.take ((d.toList.map (·.1)).length * 7))[j]? = (ccs (d.toList.map (·.1)))[j]? := by rw [ht]
    rw [List.getElem?_take_of_lt (by rw [ccs_len] at hj'; exact hj'), List.getElem?_eq_getElem hj'] at h1
    simpa using h1
theorem grownC {w : World} {g n : Nat} {os : Array Obj} {d' : Array (Cf w g)} : w.grownBy (sortWorldK Cf.cs 7 w g 0 n d' os) (some g) := by
  refine ⟨rfl, rfl, rfl, by simp [sortWorldK, putRowK], fun k hk hne => ?_⟩
  unfold sortWorldK putRowK
  rw [heap_grow_old _ _ (by simpa using hk)]
  have : g ≠ k := fun e => hne (by rw [e])
  simp [putRow, mapBlock, Sort.ahead, Array.getElem?_modify, this]
theorem belowC {w : World} {g n : Nat} {os : Array Obj} {d' : Array (Cf w g)} (hgs : g < w.heap.size) : RowKit.Below g w (sortWorldK Cf.cs 7 w g 0 n d' os) :=
  (RowKit.Below.refl _ _).grown grownC (Nat.le_of_lt hgs) (fun q e => by cases e; exact Nat.le_refl _)
theorem cmpLaysC (blk size : Nat) (w : World) (hgs : blk < w.heap.size) : CmpLays Tryz.prog 19 #[] (Cf.cs (w := w) (g := blk)) 7 cfC blk 0 size w :=
  fun _ _ _ _ x y => (compareCD_any x.1 y.1 _ (x.2 _ (belowC hgs)) (y.2 _ (belowC hgs))).mono fun _ _ ⟨he, hb⟩ => ⟨he, dbelow_grow hb⟩
theorem ownC {w : World} {base g cap n : Nat} {os : Array Obj} {d d' : Array (Cf w g)} (h : OwnC w base (.slice (some ⟨g, 0, none⟩) d.size cap) (d.toList.map (·.1))) (hs : d'.size = d.size) :
    OwnC (sortWorldK Cf.cs 7 w g 0 n d' os) base (.slice (some ⟨g, 0, none⟩) d.size cap) (d'.toList.map (·.1)) := by
  rcases h.2 with ⟨h, _⟩ | ⟨g', cap', cur, hv, hb, hg, hn, hc, hsz, ht⟩
  · cases h
  · simp only [Value.slice.injEq, Option.some.injEq, Addr.mk.injEq] at hv
    obtain ⟨⟨rfl, -⟩, -, rfl⟩ := hv
    have hgs : g < w.heap.size := (Array.getElem?_eq_some_iff.1 hg).1
    have hH : (sortWorldK Cf.cs 7 w g 0 n d' os).heap[g]? = some (.cells (putCells id 0 (ccs (d'.toList.map (·.1))).toArray cur) 41 (0, 0)) := by
      unfold sortWorldK putRowK
      rw [flatC, heap_grow_old _ _ (by simpa using hgs)]
      simp [putRow, mapBlock, Sort.ahead, Array.getElem?_modify, hg, onCells]
    have hl : (d'.toList.map (·.1)).length = (d.toList.map (·.1)).length := by simp [hs]
    refine ⟨ccs_len _, Or.inr ⟨g, cap, _, by simp [hs], hb, hH, by rw [hl]; exact hn, hc, by simp [putCells, hsz], ?_⟩⟩
    apply List.ext_getElem?
    intro j
    by_cases hj : j < (d'.toList.map (·.1)).length * 7
    · have hjc : j < cur.size := by rw [hsz]; rw [hl] at hj; exact Nat.lt_of_lt_of_le hj (Nat.mul_le_mul_right 7 hn)
      have hjb : j < (ccs (d'.toList.map (·.1))).length := by rw [ccs_len]; exact hj
      rw [List.getElem?_take_of_lt hj, Array.getElem?_toList]
      simp [putCells, hjb, hjc]
    · rw [List.getElem?_take_eq_none (by omega), List.getElem?_eq_none (by rw [ccs_len]; omega)]
/-- Rising, by Compare. -/
def srtC (l : List Cm) : Prop := l.Pairwise fun a b => cmpC a.key b.key ≤ 0
theorem perm_ofC {w : World} {g : Nat} {d d' : Array (Cf w g)} (h : PermIn 0 d.size d d') : (d'.toList.map (·.1)).Perm (d.toList.map (·.1)) := by
  obtain ⟨hs, -, hp⟩ := h
  have e1 : d'.extract 0 d.size = d' := by rw [← hs]; simp
  have e2 : d.extract 0 d.size = d := by simp
  rw [e1, e2] at hp
  exact List.Perm.map _ hp
theorem srt_ofC {w : World} {g : Nat} {d d' : Array (Cf w g)} (hs : d'.size = d.size) (h : SortedIn (ltOf cfC) 0 d.size d') : srtC (d'.toList.map (·.1)) := by
  unfold srtC
  rw [List.pairwise_iff_getElem]
  intro i j hi hj hij
  have hj' : j < d'.size := by simpa using hj
  have hi' : i < d'.size := by simpa using hi
  have := h i j (Nat.zero_le _) hij (by omega)
  rw [ltC, getElem!_pos d' j hj', getElem!_pos d' i hi'] at this
  simp only [decide_eq_false_iff_not] at this
  simp only [List.getElem_map, Array.getElem_toList]
  have := ord_c.neg (d'[i]).1.key (d'[j]).1.key
  omega
set_option maxHeartbeats 2000000 in
theorem sortFuncC_all (g cap base : Nat) (w : World) (d : Array (Cf w g)) (h : OwnC w base (.slice (some ⟨g, 0, none⟩) d.size cap) (d.toList.map (·.1))) (hsz : d.size < 4611686018427387904) :
    Calls Tryz.prog 55 #[.slice (some ⟨g, 0, none⟩) d.size cap, .func (.func 19) #[] #[]] w fun e w' => e = .returned (.tuple #[]) ∧ ∃ l', OwnC w' base (.slice (some ⟨g, 0, none⟩) d.size cap) l' ∧ l'.Perm (d.toList.map (·.1)) ∧ srtC l' ∧ RowKit.Below g w w' := by
  have hlt := h.lt g rfl
  have eg : ∀ args w, (callFunc 19 args).run Tryz.prog w = .ok (.enter 19 args) w := enters_of Tryz.func19 (by kernel_rfl) rfl
  have hlim : Lib.bitLen d.size < 4611686018427387904 := Nat.lt_of_le_of_lt (Lib.bitLen_le d.size 62 (by omega) (by omega)) (by omega)
  have hp := AnyQ.pdqsortCmpFunc_all (P := Tryz.prog) Tryz.pdqCm 7 Tryz.isAgg41 Tryz.sizeOf41 Cf.cs cfC 19 #[] (swoC w g) g 0 cap d w eg (cmpLaysC g d.size w hlt.2)
    ⟨fun _ => rfl, fun x v hv => by
      obtain ⟨⟨a, n, cp, e1⟩, ⟨a', cp', e2⟩, ⟨a'', cp'', e3⟩, -, -⟩ := (x.2 w (RowKit.Below.refl _ _)).shape
      simp only [Cf.cs, Cm.csl, e1, e2, e3] at hv
      simp at hv
      rcases hv with rfl | rfl | rfl | rfl | rfl | rfl | rfl <;> rfl, holdsC h, hlt.2⟩ (d.size + 1) 0 d.size (Lib.bitLen d.size) d w (by omega) rfl (SWK.start (holdsC h)) (Nat.zero_le _) (Nat.le_refl _) hsz hlim (Or.inl rfl)
  change Calls Tryz.prog 98 _ _ _ at hp
  have hl := Any.bits_Len Tryz.bitsLen (d.size : Int) w (by omega) (by omega)
  change Calls Tryz.prog 99 _ _ _ at hl
  rw [Int.toNat_natCast] at hl
  have hs := pdq_sorts (ltOf cfC) (swoC w g) d 0 d.size (Lib.bitLen d.size) true true (Nat.zero_le _) (Nat.le_refl _) (Or.inl rfl)
  obtain ⟨d', hd'⟩ : ∃ d', pdq (ltOf cfC) d 0 d.size (Lib.bitLen d.size) true true = d' := ⟨_, rfl⟩
  rw [hd'] at hp hs
  have HP : Hid (Calls Tryz.prog 98 #[.slice (some ⟨g, 0, none⟩) d.size cap, .int .i64 ((0 : Nat) : Int), .int .i64 d.size, .int .i64 (Lib.bitLen d.size), .func (.func 19) #[] #[]] w fun e w' => e = .returned (.tuple #[]) ∧ SWK Cf.cs 7 w g 0 d' w') := hp
  have HS : Hid (PermIn 0 d.size d d' ∧ SortedIn (ltOf cfC) 0 d.size d') := hs
  have HO : Hid (OwnC w base (.slice (some ⟨g, 0, none⟩) d.size cap) (d.toList.map (·.1))) := h
  have HL : Hid (Calls Tryz.prog 99 #[.int .u64 (d.size : Int)] w fun e w' => e = .returned (.int .i64 (Lib.bitLen d.size)) ∧ w' = w) := hl
  have wr : IntKind.u64.wrap (d.size : Int) = d.size := by rw [IntKind.wrap_u64]; omega
  clear hp hs h hl hd' eg
  go_enter Tryz.func55, Tryz.ntmps55
  go_wp2_with (first
    | (go_at_call 99; refine HL.out.mono ?_; rintro e w1 ⟨rfl, rfl⟩)
    | (go_at_call 98; refine HP.out.mono ?_; rintro e w2 ⟨rfl, hw2⟩))
  go_end0
  obtain ⟨n, os, rfl⟩ := hw2
  exact ⟨rfl, d'.toList.map (·.1), ownC HO.out HS.out.1.1, perm_ofC HS.out.1, srt_ofC HS.out.1.1 HS.out.2, belowC hlt.2⟩
end Go.Proofs.YtdfgijdededolabGreatDoor
/-
  Fact; ref's CheckAtom.
-/
namespace Go.Proofs.YtdfgijdededolabGreatDoor
open Go.RowKit

def At.fact (a : At) : Bool := decide (a.err = 0) && !(a.pl.any Tm.var)
theorem any_yes {l : List Tm} {i : Nat} {t : Tm} (h : l[i]? = some t) (hc : t.var = true) : l.any Tm.var = true := by
  obtain ⟨hi, rfl⟩ := List.getElem?_eq_some_iff.1 h
  exact List.any_eq_true.2 ⟨_, List.getElem_mem hi, hc⟩
theorem any_no {l : List Tm} (h : ∀ (i : Nat) (t : Tm), l[i]? = some t → t.var = false) : l.any Tm.var = false := by
  cases e : l.any Tm.var
  · rfl
  · obtain ⟨t, ht, hv⟩ := List.any_eq_true.1 e
    obtain ⟨i, hi, rfl⟩ := List.getElem_of_mem ht
    rw [h i _ (List.getElem?_eq_getElem hi)] at hv; cases hv
set_option maxHeartbeats 2000000 in
theorem rchk_any (a : At) (x : Value) (w : World) (h : Ts w x a.args) :
    Calls Tryz.prog 132 #[a.v x] w fun e w' => e = .returned (.int .i64 a.err) ∧ Below w.heap.size w w' := by
  obtain ⟨⟨k, n, ss⟩, nm, l⟩ := a
  simp only at h
  obtain ⟨r, hr⟩ : ∃ r, At.err ⟨⟨k, n, ss⟩, nm, l⟩ = r := ⟨_, rfl⟩
  rw [hr]
  simp only [At.err] at hr
  have HX : Hid (Ts w x l) := h
  obtain ⟨ad, cap, rfl, hl, -⟩ := h
  cases hn : nameOk nm
  · have HR : Hid (21 = r) := by show _ = _; rw [← hr, if_pos hn]
    clear hr
    go_enter Tryz.func132, Tryz.ntmps132
    go_wp2_with (go_at_call 163; refine (rname_any nm _).mono ?_; rw [hn]; rintro e w1 ⟨rfl, hb1⟩)
    go_ret
    exact ⟨ret_i HR.out, below_step (below1 _ _) hb1⟩
  · rw [hn, if_neg (by simp)] at hr
    have HN : Hid (nameOk nm = true) := hn
    clear hn
    by_cases h8 : 8 < l.length
    · have HR : Hid (22 = r) := by show _ = _; rw [← hr, if_pos h8]
      have q8 : (8 : Int) < (l.length : Int) := by omega
      clear hr h8
      go_enter Tryz.func132, Tryz.ntmps132
      go_wp2_with (go_at_call 163; refine (rname_any nm _).mono ?_; rw [HN.out]; rintro e w1 ⟨rfl, hb1⟩; obtain ⟨p0, p1, p2, p3, p4⟩ := five ((Blk.new w #[.int .i64 k, .int .i64 n, .string ss, .string nm, .slice ad l.length cap] 37).later hb1))
      go_ret
      exact ⟨ret_i HR.out, below_step (below1 _ _) hb1⟩
    · rw [if_neg h8] at hr
      have q8 : ¬ (8 : Int) < (l.length : Int) := by omega
      have HR : Hid ((if qualOk ⟨k, n, ss⟩ = false then 23 else if l.all Tm.cov then 0 else 24) = r) := hr
      clear hr h8
      go_enter Tryz.func132, Tryz.ntmps132
      go_upto_region 5 with (go_at_call 163; refine (rname_any nm _).mono ?_; rw [HN.out]; rintro e W ⟨rfl, hb1⟩; have B1 := (Blk.new w #[.int .i64 k, .int .i64 n, .string ss, .string nm, .slice ad l.length cap] 37).later hb1; obtain ⟨p0, p1, p2, p3, p4⟩ := five B1; have HB : Hid (Blk _ _ _ _) := B1; clear B1)
      have hW : Hid (Below w.heap.size w W) := below_step (below1 _ _) hb1
      clear p0 p1 p2 p3 p4 hb1
      go_cut [27] from 12 to 27 (fun s27 wx => s27 = .bool (!qualOk ⟨k, n, ss⟩) ∧ Below W.heap.size W wx)
      case first =>
        obtain ⟨p0, p1, p2, p3, p4⟩ := five (Hid.out HB)
        have he := run_neq_tm ⟨k, n, ss⟩ zt
        obtain ⟨b1, h1⟩ : ∃ b, decide (Tm.mk k n ss = zt) = b := ⟨_, rfl⟩
        obtain ⟨b2, h2⟩ : ∃ b, Tm.prin ⟨k, n, ss⟩ = b := ⟨_, rfl⟩
        obtain ⟨b3, h3⟩ : ∃ b, Tm.var ⟨k, n, ss⟩ = b := ⟨_, rfl⟩
        have HQ : Hid (qualOk ⟨k, n, ss⟩ = (b1 || (b2 || b3))) := by show _ = _; unfold qualOk; rw [h1, h2, h3]
        have H2 : Hid (Tm.prin ⟨k, n, ss⟩ = b2) := h2
        have H3 : Hid (Tm.var ⟨k, n, ss⟩ = b3) := h3
        rw [h1] at he
        unfold zt at he
        clear h1 h2 h3 HR
        cases b1
        · cases b2
          · go_wp2_with (first
              | (go_at_call 108; refine (rprin_any ⟨k, n, ss⟩ _).mono ?_; rw [H2.out]; rintro e w2 ⟨rfl, hb2⟩; clear p0 p1 p2 p3 p4; obtain ⟨p0, p1, p2, p3, p4⟩ := five (Blk.later (Hid.out HB) hb2))
              | (go_at_call 112; refine (rvar_any ⟨k, n, ss⟩ _).mono ?_; rw [H3.out]; rintro e w3 ⟨rfl, hb3⟩))
            go_meet
            case rel => exact ⟨by rw [HQ.out]; rfl, below_step hb2 hb3⟩
          · go_wp2_with (go_at_call 108; refine (rprin_any ⟨k, n, ss⟩ _).mono ?_; rw [H2.out]; rintro e w2 ⟨rfl, hb2⟩)
            go_meet
            case rel => exact ⟨by rw [HQ.out]; rfl, hb2⟩
        · go_wp2_with fail
          go_meet
          case rel => exact ⟨by rw [HQ.out]; rfl, Below.refl _ _⟩
      case rest =>
        obtain ⟨rfl, hbc⟩ := hcut
        have hbw := below_step (Hid.out hW) hbc
        have B2 := Blk.later (Hid.out HB) hbc
        clear HB hW hbc
        cases hq : qualOk ⟨k, n, ss⟩
        · have HR2 : Hid (23 = r) := by show _ = _; rw [← HR.out, if_pos hq]
          clear HR
          go_wp2
          go_ret
          exact ⟨ret_i HR2.out, hbw⟩
        · have HR2 : Hid ((if l.all Tm.cov then 0 else 24) = r) := by show _ = _; rw [← HR.out, hq]; rfl
          clear HR hq
          go_wp2
          go_loopg [3] l.length (fun g i wr => ∃ j : Nat, j + g = l.length ∧ i = .int .i64 j ∧ (∀ i t, i < j → l[i]? = some t → t.cov = true) ∧ Below w.heap.size w wr ∧ Blk wr w.heap.size #[.int .i64 k, .int .i64 n, .string ss, .string nm, .slice ad l.length cap] 37)
          case atStart => exact ⟨0, by omega, rfl, fun i t hi => by omega, hbw, B2⟩
          case round =>
            obtain ⟨j, hj, rfl, hall, hbr, hB⟩ := hrel
            have HA : Hid (∀ i t, i < j → l[i]? = some t → t.cov = true) := hall
            have HB : Hid (Blk wr _ _ _) := hB
            obtain ⟨p0, p1, p2, p3, p4⟩ := five hB
            have zw := Blk.lt hB
            clear hall hbw B2 hB
            cases gk with
            | succ g =>
              have hlt : j < l.length := by omega
              obtain ⟨t, ht⟩ : ∃ t, l[j]? = some t := ⟨_, List.getElem?_eq_getElem hlt⟩
              obtain ⟨ad', cap', hx, -, hxx⟩ := HX.out.later hbr
              simp only [Value.slice.injEq] at hx
              obtain ⟨rfl, -, rfl⟩ := hx
              rcases hxx with hxx | ⟨b, o, rfl, hbs, hxx⟩
              · subst hxx; simp at hlt
              · obtain ⟨c0, c1, c2⟩ := hxx j _ ht
                have HT : Hid (l[j]? = some t) := ht
                obtain ⟨tk, tn, ts⟩ := t
                simp only at c0 c1 c2
                clear hxx ht
                have i1 : (0 : Int) ≤ (j : Int) := by omega
                have i2 : (j : Int) < (l.length : Int) := by omega
                cases hc : Tm.con ⟨tk, tn, ts⟩
                · have HC : Hid (Tm.con ⟨tk, tn, ts⟩ = false) := hc
                  clear hc
                  cases hv : Tm.var ⟨tk, tn, ts⟩
                  · have HV : Hid (Tm.var ⟨tk, tn, ts⟩ = false) := hv
                    have HR3 : Hid (24 = r) := by show _ = _; rw [← HR2.out, all_no HT.out (by unfold Tm.cov; rw [HC.out, hv]; rfl)]; rfl
                    clear hv
                    go_wp2_with (first
                      | (go_at_call 39; refine (rcon_any ⟨tk, tn, ts⟩ _).mono ?_; rw [HC.out]; rintro e w3 ⟨rfl, hb3⟩; have d0 := cell_step hb3 hbs c0; have d1 := cell_step hb3 hbs c1; have d2 := cell_step hb3 hbs c2; have d4 := cell_step hb3 zw p4; clear p0 p1 p2 p3 p4 c0 c1 c2)
                      | (go_at_call 112; refine (rvar_any ⟨tk, tn, ts⟩ _).mono ?_; rw [HV.out]; rintro e w4 ⟨rfl, hb4⟩))
                    go_ret
                    exact ⟨ret_i HR3.out, below_step (below_step hbr hb3) hb4⟩
                  · have HV : Hid (Tm.var ⟨tk, tn, ts⟩ = true) := hv
                    clear hv
                    go_wp2_with (first
                      | (go_at_call 39; refine (rcon_any ⟨tk, tn, ts⟩ _).mono ?_; rw [HC.out]; rintro e w3 ⟨rfl, hb3⟩; have d0 := cell_step hb3 hbs c0; have d1 := cell_step hb3 hbs c1; have d2 := cell_step hb3 hbs c2; have d4 := cell_step hb3 zw p4; clear p0 p1 p2 p3 p4 c0 c1 c2)
                      | (go_at_call 112; refine (rvar_any ⟨tk, tn, ts⟩ _).mono ?_; rw [HV.out]; rintro e w4 ⟨rfl, hb4⟩))
                    go_roundg g
                    case measure => omega
                    case rel =>
                      refine ⟨j + 1, by omega, by go_num, fun i t hi ht => ?_, below_step (below_step hbr hb3) hb4, Blk.later (Blk.later (Hid.out HB) hb3) hb4⟩
                      rcases Nat.lt_or_ge i j with h | h
                      · exact HA.out i t h ht
                      · obtain rfl : i = j := by omega
                        rw [HT.out] at ht; cases ht; unfold Tm.cov; rw [HV.out, Bool.or_true]
                · have HC : Hid (Tm.con ⟨tk, tn, ts⟩ = true) := hc
                  clear hc
                  go_wp2_with (go_at_call 39; refine (rcon_any ⟨tk, tn, ts⟩ _).mono ?_; rw [HC.out]; rintro e w3 ⟨rfl, hb3⟩)
                  go_roundg g
                  case measure => omega
                  case rel =>
                    refine ⟨j + 1, by omega, by go_num, fun i t hi ht => ?_, below_step hbr hb3, Blk.later (Hid.out HB) hb3⟩
                    rcases Nat.lt_or_ge i j with h | h
                    · exact HA.out i t h ht
                    · obtain rfl : i = j := by omega
                      rw [HT.out] at ht; cases ht; unfold Tm.cov; rw [HC.out, Bool.true_or]
            | zero =>
              obtain rfl : j = l.length := by omega
              have HR3 : Hid (0 = r) := by show _ = _; rw [← HR2.out, all_yes fun i t ht => HA.out i t (List.getElem?_eq_some_iff.1 ht).1 ht]; rfl
              have hz : ¬ ((l.length : Int) < (l.length : Int)) := by omega
              go_wp2
              go_ret
              exact ⟨ret_i HR3.out, hbr⟩
end Go.Proofs.YtdfgijdededolabGreatDoor
/-
  MadeAtom.
-/
namespace Go.Proofs.YtdfgijdededolabGreatDoor
open Go.RowKit
attribute [local go_sem ↓] Go.wp_at_zero Go.wp_at_succ

theorem nmP_ok : nameOk nmP = true := by decide
theorem err_q (t : Tm) : (At.mk t nmP []).err = if qualOk t = true then 0 else 23 := by
  unfold At.err
  rw [nmP_ok]
  cases qualOk t <;> simp
theorem err_n (s : ByteArray) : (At.mk zt s []).err = if nameOk s = true then 0 else 21 := by
  unfold At.err
  rw [qual_zt]
  cases nameOk s <;> simp
/-- MadeAtom's boxes. -/
structure MS (w X : World) (x : At) (v : Value) (b' : Tm) (nm' : ByteArray) (u : Value) (L : List Tm) : Prop where
  bc : CBlk X w.heap.size (At.cs x v) 37
  br : CBlk X (w.heap.size + 1) #[.int .i64 0, .int .i64 0, .string ⟨#[]⟩, .string ⟨#[]⟩, .slice none 0 0] 37
  bo : CBlk X (w.heap.size + 1 + 1) #[.int .i64 b'.k, .int .i64 b'.n, .string b'.s, .string nm', u] 37
  ow : OwnT X (w.heap.size + 3) u L
  bw : Below w.heap.size w X
  sz : w.heap.size + 3 ≤ X.heap.size
theorem MS.later {w X X' : World} {x : At} {v : Value} {b' : Tm} {nm' : ByteArray} {u : Value} {L : List Tm} (h : MS w X x v b' nm' u L) (hb : Below X.heap.size X X') : MS w X' x v b' nm' u L :=
  ⟨h.bc.later hb, h.br.later hb, h.bo.later hb, h.ow.later hb, below_step h.bw hb, Nat.le_trans h.sz hb.size⟩
theorem MS.start (w : World) (x : At) (v : Value) :
    MS w (((w.alloc (.cells (At.cs x v) 37)).alloc (.cells #[.int .i64 0, .int .i64 0, .string ⟨#[]⟩, .string ⟨#[]⟩, .slice none 0 0] 37)).alloc (.cells #[.int .i64 x.by_.k, .int .i64 x.by_.n, .string x.by_.s, .string x.name, .slice none 0 0] 37)) x v x.by_ x.name (.slice none 0 0) [] := by
  have b3 := below_step (below2 w (.cells (At.cs x v) 37) (.cells #[.int .i64 0, .int .i64 0, .string ⟨#[]⟩, .string ⟨#[]⟩, .slice none 0 0] 37)) (below1 _ (.cells #[.int .i64 x.by_.k, .int .i64 x.by_.n, .string x.by_.s, .string x.name, .slice none 0 0] 37))
  have x1 := (CBlk.new w (At.cs x v) 37).later (below2 (w.alloc (.cells (At.cs x v) 37)) (.cells #[.int .i64 0, .int .i64 0, .string ⟨#[]⟩, .string ⟨#[]⟩, .slice none 0 0] 37) (.cells #[.int .i64 x.by_.k, .int .i64 x.by_.n, .string x.by_.s, .string x.name, .slice none 0 0] 37))
  have x2 := (CBlk.new (w.alloc (.cells (At.cs x v) 37)) #[.int .i64 0, .int .i64 0, .string ⟨#[]⟩, .string ⟨#[]⟩, .slice none 0 0] 37).later (below1 _ (.cells #[.int .i64 x.by_.k, .int .i64 x.by_.n, .string x.by_.s, .string x.name, .slice none 0 0] 37))
  have x3 := CBlk.new ((w.alloc (.cells (At.cs x v) 37)).alloc (.cells #[.int .i64 0, .int .i64 0, .string ⟨#[]⟩, .string ⟨#[]⟩, .slice none 0 0] 37)) #[.int .i64 x.by_.k, .int .i64 x.by_.n, .string x.by_.s, .string x.name, .slice none 0 0] 37
  rw [show (w.alloc (.cells (At.cs x v) 37)).heap.size = w.heap.size + 1 by simp] at x2
  rw [show ((w.alloc (.cells (At.cs x v) 37)).alloc (.cells #[.int .i64 0, .int .i64 0, .string ⟨#[]⟩, .string ⟨#[]⟩, .slice none 0 0] 37)).heap.size = w.heap.size + 1 + 1 by simp] at x3
  exact ⟨x1, x2, x3, ownT_nil _ _, b3, by simp⟩
/-- A store of a whole atom into a block. -/
theorem CBlk.put5 {W : World} {G : Nat} {a b c d e a' b' c' d' e' : Value} {t : TypeId} (h : CBlk W G #[a, b, c, d, e] t) :
    CBlk (((((W.setCell ⟨G, 0, none⟩ a').setCell ⟨G, 1, none⟩ b').setCell ⟨G, 2, none⟩ c').setCell ⟨G, 3, none⟩ d').setCell ⟨G, 4, none⟩ e') G #[a', b', c', d', e'] t := by
  have := ((((h.set 0 a').set 1 b').set 2 c').set 3 d').set 4 e'
  simpa using this
theorem MS.by0 {w X : World} {x : At} {v : Value} {b' : Tm} {nm' : ByteArray} {u : Value} {L : List Tm} (h : MS w X x v b' nm' u L) :
    MS w (((X.setCell ⟨w.heap.size + 1 + 1, 0, none⟩ (.int .i64 0)).setCell ⟨w.heap.size + 1 + 1, 1, none⟩ (.int .i64 0)).setCell ⟨w.heap.size + 1 + 1, 2, none⟩ (.string ⟨#[]⟩)) x v zt nm' u L := by
  have n1 : w.heap.size ≠ w.heap.size + 1 + 1 := by omega
  have n2 : w.heap.size + 1 ≠ w.heap.size + 1 + 1 := by omega
  have n3 : w.heap.size + 1 + 1 < w.heap.size + 3 := by omega
  have n4 : w.heap.size ≤ w.heap.size + 1 + 1 := by omega
  refine ⟨((h.bc.off n1).off n1).off n1, ((h.br.off n2).off n2).off n2, ?_, ((h.ow.set n3).set n3).set n3, ((h.bw.setCell n4 _).setCell n4 _).setCell n4 _, by simpa [World.setCell] using h.sz⟩
  have := ((h.bo.set 0 (.int .i64 0)).set 1 (.int .i64 0)).set 2 (.string ⟨#[]⟩)
  simpa [zt] using this
theorem MS.name0 {w X : World} {x : At} {v : Value} {b' : Tm} {nm' : ByteArray} {u : Value} {L : List Tm} (h : MS w X x v b' nm' u L) (s : ByteArray) :
    MS w (X.setCell ⟨w.heap.size + 1 + 1, 3, none⟩ (.string s)) x v b' s u L := by
  have n1 : w.heap.size ≠ w.heap.size + 1 + 1 := by omega
  have n2 : w.heap.size + 1 ≠ w.heap.size + 1 + 1 := by omega
  have n3 : w.heap.size + 1 + 1 < w.heap.size + 3 := by omega
  have n4 : w.heap.size ≤ w.heap.size + 1 + 1 := by omega
  refine ⟨h.bc.off n1, h.br.off n2, ?_, h.ow.set n3, h.bw.setCell n4 _, by simpa [World.setCell] using h.sz⟩
  have := h.bo.set 3 (.string s)
  simpa using this
/-- The list grown and stored. -/
theorem MS.args {w X X' : World} {x : At} {v : Value} {b' : Tm} {nm' : ByteArray} {u u' : Value} {L L' : List Tm} (h : MS w X x v b' nm' u L) (ho : OwnT X' (w.heap.size + 3) u' L') (hb : Below (w.heap.size + 3) X X') :
    MS w (X'.setCell ⟨w.heap.size + 1 + 1, 4, none⟩ u') x v b' nm' u' L' := by
  have n1 : w.heap.size ≠ w.heap.size + 1 + 1 := by omega
  have n2 : w.heap.size + 1 ≠ w.heap.size + 1 + 1 := by omega
  have n3 : w.heap.size + 1 + 1 < w.heap.size + 3 := by omega
  have n4 : w.heap.size ≤ w.heap.size + 1 + 1 := by omega
  have l1 : CBlk X' w.heap.size (At.cs x v) 37 := (hb.block _ (by omega)).trans h.bc
  have l2 : CBlk X' (w.heap.size + 1) _ 37 := (hb.block _ (by omega)).trans h.br
  have l3 : CBlk X' (w.heap.size + 1 + 1) _ 37 := (hb.block _ (by omega)).trans h.bo
  refine ⟨l1.off n1, l2.off n2, ?_, ho.set n3, (h.bw.trans (hb.mono (by omega))).setCell n4 _, by simpa [World.setCell] using Nat.le_trans h.sz hb.size⟩
  have := l3.set 4 u'
  simpa using this
theorem ownT_form4 {w : World} {base : Nat} {v : Value} {l : List Tm} (h : OwnT w base v l) : ∃ a n cap, v = .slice a n cap := by
  rcases h.2 with ⟨rfl, hn⟩ | ⟨g, cap, cur, hv, -⟩
  · exact ⟨none, 0, 0, rfl⟩
  · exact ⟨_, _, cap, hv⟩
theorem OwnT.off {w : World} {base G i : Nat} {a : Value} {v : Value} {l : List Tm} (h : OwnT w base v l) (hG : ∀ k, v.ownBlock = some k → k ≠ G) : OwnT (w.setCell ⟨G, i, none⟩ a) base v l := by
  refine ⟨h.1, ?_⟩
  rcases h.2 with hn | ⟨g, cap, cur, hv, hbb, hg, rest⟩
  · exact Or.inl hn
  · exact Or.inr ⟨g, cap, cur, hv, hbb, by rw [heap_setCell_other _ _ _ _ (hG g (by rw [hv]; rfl))]; exact hg, rest⟩
theorem MS.far {w X : World} {x : At} {v : Value} {b' : Tm} {nm' : ByteArray} {u : Value} {L : List Tm} {B i : Nat} (h : MS w X x v b' nm' u L) (hB : w.heap.size + 3 ≤ B) (hu : ∀ k, u.ownBlock = some k → k < B) (c : Value) :
    MS w (X.setCell ⟨B, i, none⟩ c) x v b' nm' u L :=
  ⟨h.bc.off (by omega), h.br.off (by omega), h.bo.off (by omega), h.ow.off (fun k hk => Nat.ne_of_lt (hu k hk)), h.bw.setCell (show w.heap.size ≤ B by omega) _, by simpa [World.setCell] using h.sz⟩
end Go.Proofs.YtdfgijdededolabGreatDoor
/-
  madeTest. (Written by MD4.py.)
-/
namespace Go.Proofs.YtdfgijdededolabGreatDoor
open Go.RowKit
attribute [local go_sem ↓] Go.wp_at_zero Go.wp_at_succ

/-- madeTest's boxes. -/
structure TSu (w X : World) (L R : Tm) (rc : Array Value) : Prop where
  br : CBlk X (w.heap.size + 1) rc 88
  bl : CBlk X (w.heap.size + 1 + 1) #[.int .i64 L.k, .int .i64 L.n, .string L.s] 35
  bR : CBlk X (w.heap.size + 1 + 1 + 1) #[.int .i64 R.k, .int .i64 R.n, .string R.s] 35
  bw : Below w.heap.size w X
theorem TSu.later {w X X' : World} {L R : Tm} {rc : Array Value} (h : TSu w X L R rc) (hb : Below X.heap.size X X') : TSu w X' L R rc :=
  ⟨h.br.later hb, h.bl.later hb, h.bR.later hb, below_step h.bw hb⟩
theorem TSu.put {w X : World} {L R : Tm} (h : TSu w X L R #[.int .i64 0, .int .i64 0, .int .i64 0, .string ⟨#[]⟩, .int .i64 0, .int .i64 0, .string ⟨#[]⟩]) (a b c d e f g : Value) :
    TSu w (((((((X.setCell ⟨w.heap.size + 1, 0, none⟩ a).setCell ⟨w.heap.size + 1, 1, none⟩ b).setCell ⟨w.heap.size + 1, 2, none⟩ c).setCell ⟨w.heap.size + 1, 3, none⟩ d).setCell ⟨w.heap.size + 1, 4, none⟩ e).setCell ⟨w.heap.size + 1, 5, none⟩ f).setCell ⟨w.heap.size + 1, 6, none⟩ g) L R #[a, b, c, d, e, f, g] := by
  have n1 : w.heap.size + 1 + 1 ≠ w.heap.size + 1 := by omega
  have n2 : w.heap.size + 1 + 1 + 1 ≠ w.heap.size + 1 := by omega
  have n3 : w.heap.size ≤ w.heap.size + 1 := by omega
  refine ⟨?_, ((((((h.bl.off n1).off n1).off n1).off n1).off n1).off n1).off n1, ((((((h.bR.off n2).off n2).off n2).off n2).off n2).off n2).off n2, ((((((h.bw.setCell n3 _).setCell n3 _).setCell n3 _).setCell n3 _).setCell n3 _).setCell n3 _).setCell n3 _⟩
  have := ((((((h.br.set 0 a).set 1 b).set 2 c).set 3 d).set 4 e).set 5 f).set 6 g
  simpa using this
theorem TSu.bl_ {w X : World} {L R M : Tm} {rc : Array Value} (h : TSu w X L R rc) :
    TSu w (((X.setCell ⟨w.heap.size + 1 + 1, 0, none⟩ (.int .i64 M.k)).setCell ⟨w.heap.size + 1 + 1, 1, none⟩ (.int .i64 M.n)).setCell ⟨w.heap.size + 1 + 1, 2, none⟩ (.string M.s)) M R rc := by
  have n1 : w.heap.size + 1 ≠ w.heap.size + 1 + 1 := by omega
  have n2 : w.heap.size + 1 + 1 + 1 ≠ w.heap.size + 1 + 1 := by omega
  have n3 : w.heap.size ≤ w.heap.size + 1 + 1 := by omega
  refine ⟨((h.br.off n1).off n1).off n1, ?_, ((h.bR.off n2).off n2).off n2, ((h.bw.setCell n3 _).setCell n3 _).setCell n3 _⟩
  have := ((h.bl.set 0 (.int .i64 M.k)).set 1 (.int .i64 M.n)).set 2 (.string M.s)
  simpa using this
theorem TSu.bR_ {w X : World} {L R M : Tm} {rc : Array Value} (h : TSu w X L R rc) :
    TSu w (((X.setCell ⟨w.heap.size + 1 + 1 + 1, 0, none⟩ (.int .i64 M.k)).setCell ⟨w.heap.size + 1 + 1 + 1, 1, none⟩ (.int .i64 M.n)).setCell ⟨w.heap.size + 1 + 1 + 1, 2, none⟩ (.string M.s)) L M rc := by
  have n1 : w.heap.size + 1 ≠ w.heap.size + 1 + 1 + 1 := by omega
  have n2 : w.heap.size + 1 + 1 ≠ w.heap.size + 1 + 1 + 1 := by omega
  have n3 : w.heap.size ≤ w.heap.size + 1 + 1 + 1 := by omega
  refine ⟨((h.br.off n1).off n1).off n1, ((h.bl.off n2).off n2).off n2, ?_, ((h.bw.setCell n3 _).setCell n3 _).setCell n3 _⟩
  have := ((h.bR.set 0 (.int .i64 M.k)).set 1 (.int .i64 M.n)).set 2 (.string M.s)
  simpa using this
abbrev tW (w : World) (t : Te) : World := (w.alloc (.cells #[.int .i64 t.op, .int .i64 t.l.k, .int .i64 t.l.n, .string t.l.s, .int .i64 t.r.k, .int .i64 t.r.n, .string t.r.s] 88)).alloc (.cells #[.int .i64 0, .int .i64 0, .int .i64 0, .string ⟨#[]⟩, .int .i64 0, .int .i64 0, .string ⟨#[]⟩] 88)
theorem TSu.start (w : World) (t : Te) : TSu w (((tW w t).alloc (.cells #[.int .i64 t.l.k, .int .i64 t.l.n, .string t.l.s] 35)).alloc (.cells #[.int .i64 t.r.k, .int .i64 t.r.n, .string t.r.s] 35)) t.l t.r #[.int .i64 0, .int .i64 0, .int .i64 0, .string ⟨#[]⟩, .int .i64 0, .int .i64 0, .string ⟨#[]⟩] := by
  have e1 : (w.alloc (.cells #[.int .i64 t.op, .int .i64 t.l.k, .int .i64 t.l.n, .string t.l.s, .int .i64 t.r.k, .int .i64 t.r.n, .string t.r.s] 88)).heap.size = w.heap.size + 1 := by simp
  have e2 : (tW w t).heap.size = w.heap.size + 1 + 1 := by simp [tW]
  have e3 : ((tW w t).alloc (.cells #[.int .i64 t.l.k, .int .i64 t.l.n, .string t.l.s] 35)).heap.size = w.heap.size + 1 + 1 + 1 := by simp [tW]
  have x1 := (CBlk.new (w.alloc (.cells #[.int .i64 t.op, .int .i64 t.l.k, .int .i64 t.l.n, .string t.l.s, .int .i64 t.r.k, .int .i64 t.r.n, .string t.r.s] 88)) #[.int .i64 0, .int .i64 0, .int .i64 0, .string ⟨#[]⟩, .int .i64 0, .int .i64 0, .string ⟨#[]⟩] 88).later (below2 (tW w t) (.cells #[.int .i64 t.l.k, .int .i64 t.l.n, .string t.l.s] 35) (.cells #[.int .i64 t.r.k, .int .i64 t.r.n, .string t.r.s] 35))
  have x2 := (CBlk.new (tW w t) #[.int .i64 t.l.k, .int .i64 t.l.n, .string t.l.s] 35).later (below1 _ (.cells #[.int .i64 t.r.k, .int .i64 t.r.n, .string t.r.s] 35))
  have x3 := CBlk.new ((tW w t).alloc (.cells #[.int .i64 t.l.k, .int .i64 t.l.n, .string t.l.s] 35)) #[.int .i64 t.r.k, .int .i64 t.r.n, .string t.r.s] 35
  rw [e1] at x1; rw [e2] at x2; rw [e3] at x3
  exact ⟨x1, x2, x3, below_step (below2 w _ _) (below2 _ _ _)⟩
end Go.Proofs.YtdfgijdededolabGreatDoor
/-
  bodyTerms, testTerms, Terms. (Written by MD5.py.)
-/
namespace Go.Proofs.YtdfgijdededolabGreatDoor
open Go.RowKit
attribute [local go_sem ↓] Go.wp_at_zero Go.wp_at_succ

/-- A clause's box, and the list so far. -/
structure BT (w X : World) (o : Array Value) (L : List Tm) (u : Value) : Prop where
  bc : CBlk X w.heap.size o 41
  ow : OwnT X (w.heap.size + 1) u L
  bw : Below w.heap.size w X
  sz : w.heap.size + 1 ≤ X.heap.size
theorem BT.later {w X X' : World} {o : Array Value} {L : List Tm} {u : Value} (h : BT w X o L u) (hb : Below X.heap.size X X') : BT w X' o L u :=
  ⟨h.bc.later hb, h.ow.later hb, below_step h.bw hb, Nat.le_trans h.sz hb.size⟩
theorem BT.grow {w X X' : World} {o : Array Value} {L L' : List Tm} {u u' : Value} (h : BT w X o L u) (hb : Below (w.heap.size + 1) X X') (ho : OwnT X' (w.heap.size + 1) u' L') : BT w X' o L' u' :=
  ⟨(hb.block _ (by omega)).trans h.bc, ho, h.bw.trans (hb.mono (by omega)), Nat.le_trans h.sz hb.size⟩
theorem BT.start (w : World) (o : Array Value) : BT w (w.alloc (.cells o 41)) o [] (.slice none 0 0) := ⟨CBlk.new _ _ _, ownT_nil _ _, below1 _ _, by simp⟩
theorem flt_next {l : List (At × Value)} {j : Nat} {x : At × Value} (h : l[j]? = some x) : flt (l.take j) ++ x.1.pl = flt (l.take (j + 1)) := by
  rw [List.take_add_one, h]; simp [flt]
theorem flt_take (l : List (At × Value)) (j : Nat) : (flt (l.take j)).length ≤ (flt l).length := by
  have e : flt l = flt (l.take j) ++ flt (l.drop j) := by unfold flt; rw [← List.flatMap_append, List.take_append_drop]
  rw [e, List.length_append]; omega
theorem tls_next {l : List Te} {j : Nat} {x : Te} (h : l[j]? = some x) : tls (l.take j) ++ [x.l, x.r] = tls (l.take (j + 1)) := by
  rw [List.take_add_one, h]; simp [tls]
theorem tls_len (l : List Te) : (tls l).length = l.length * 2 := by
  induction l with
  | nil => rfl
  | cons a l ih => unfold tls at ih ⊢; rw [List.flatMap_cons, List.length_append, ih]; simp; omega
set_option maxRecDepth 20000 in
set_option maxHeartbeats 4000000 in
theorem bodyTerms_any (c : Cm) (w : World) (h : c.ok w) (hp : ∀ x ∈ c.body, TsP w x.2 x.1.args) (hl : (flt c.body).length ≤ 3900000000000) :
    Calls Tryz.prog 84 #[c.v] w fun e w' => ∃ v', e = .returned v' ∧ OwnT w' w.heap.size v' (flt c.body) ∧ Below w.heap.size w w' := by
  obtain ⟨⟨a, hn, cap, h1⟩, ⟨a', cap', h2⟩, ⟨a'', cap'', h3⟩, hbl, htl⟩ := h.shape
  have HAT : Hid (∀ x ∈ c.body, ∀ X : World, Below w.heap.size w X → Calls Tryz.prog 83 #[x.1.v x.2] X fun e w' => ∃ v', e = .returned v' ∧ OwnT w' X.heap.size v' x.1.pl ∧ Below X.heap.size X w') := fun x hx X hX => atomTerms_any x.1 x.2 X ((hp x hx).later hX) (by
    have : x.1.pl.length ≤ (flt c.body).length := by
      obtain ⟨i, hi, rfl⟩ := List.getElem_of_mem hx
      have e := flt_next (List.getElem?_eq_getElem hi)
      have e2 := flt_take c.body (i + 1)
      rw [← e, List.length_append] at e2; omega
    simp [At.pl] at this; omega)
  have hB := h.b
  obtain ⟨⟨⟨⟨k, m, s⟩, nm, ls⟩, hx⟩, body, bv, tests, tv⟩ := c
  simp only at h1 h2 h3 hbl htl hl HAT hB
  subst h1 h2 h3
  obtain ⟨_, _, he, -, hm, hts⟩ := hB
  simp only [Value.slice.injEq, true_and] at he
  obtain ⟨rfl, rfl⟩ := he
  clear h hp hts
  have HB0 : Hid (BT w _ (Cm.cs ⟨(⟨⟨k, m, s⟩, nm, ls⟩, .slice a hn cap), body, .slice a' body.length cap', tests, .slice a'' tests.length cap''⟩) [] (.slice none 0 0)) := BT.start w (Cm.cs ⟨(⟨⟨k, m, s⟩, nm, ls⟩, .slice a hn cap), body, .slice a' body.length cap', tests, .slice a'' tests.length cap''⟩)
  go_enter Tryz.func84, Tryz.ntmps84
  go_wp2_with fail
  go_loopg [3, 4] body.length (fun g u i wr => ∃ j : Nat, j + g = body.length ∧ i = .int .i64 j ∧ BT w wr (Cm.cs ⟨(⟨⟨k, m, s⟩, nm, ls⟩, .slice a hn cap), body, .slice a' body.length cap', tests, .slice a'' tests.length cap''⟩) (flt (body.take j)) u)
  case atStart => exact ⟨0, by omega, rfl, HB0.out⟩
  case round =>
    obtain ⟨j, hj, rfl, hbt⟩ := hrel
    have HBT : Hid (BT w wr (Cm.cs ⟨(⟨⟨k, m, s⟩, nm, ls⟩, .slice a hn cap), body, .slice a' body.length cap', tests, .slice a'' tests.length cap''⟩) (flt (body.take j)) u3) := hbt
    clear hbt HB0
    obtain ⟨c0, c1, c2, c3, c4, c5, c6⟩ := cseven HBT.out.bc
    cases gk with
    | succ g =>
      have hlt : (j : Int) < (body.length : Int) := by omega
      have j0 : (0 : Int) ≤ (j : Int) := by omega
      obtain ⟨x, hx⟩ : ∃ x, body[j]? = some x := ⟨_, List.getElem?_eq_getElem (by omega)⟩
      rcases hm with hm | ⟨b1, o1, rfl, hb1, hm⟩
      · subst hm; simp at hj
      obtain ⟨p0, p1, p2, p3, p4⟩ := hm j x hx
      have q0 := cell_step HBT.out.bw hb1 p0
      have q1 := cell_step HBT.out.bw hb1 p1
      have q2 := cell_step HBT.out.bw hb1 p2
      have q3 := cell_step HBT.out.bw hb1 p3
      have q4 := cell_step HBT.out.bw hb1 p4
      have HX : Hid (flt (body.take j) ++ x.1.pl = flt (body.take (j + 1))) := flt_next hx
      have HLX : Hid ((flt (body.take j)).length + x.1.pl.length ≤ 3900000000000) := by
        show _ ≤ _
        rw [← List.length_append, flt_next hx]
        exact Nat.le_trans (flt_take body (j + 1)) hl
      have HA1 : Hid (∀ X : World, Below w.heap.size w X → Calls Tryz.prog 83 #[x.1.v x.2] X fun e w' => ∃ v', e = .returned v' ∧ OwnT w' X.heap.size v' x.1.pl ∧ Below X.heap.size X w') := HAT.out x (List.mem_of_getElem? hx)
      clear hm hx p0 p1 p2 p3 p4 HAT
      obtain ⟨⟨⟨xk, xn, xs⟩, xm, xa⟩, xv⟩ := x
      simp only at q0 q1 q2 q3 q4 HX HLX HA1
      generalize flt (body.take j) = LJ at HBT HX HLX
      generalize At.pl ⟨⟨xk, xn, xs⟩, xm, xa⟩ = PL at HX HLX HA1
      go_wp2_with (first
        | (go_at_call 83; refine (HA1.out _ HBT.out.bw).mono ?_; clear HA1; rintro e w1 ⟨y, rfl, hy, hb⟩; have HY : Hid (TsP w1 y PL) := hy.tsP; have HB1 : Hid (BT w w1 _ LJ u3) := HBT.out.later hb; clear hb hy HBT c0 c1 c2 c3 c4 c5 c6 q0 q1 q2 q3 q4)
        | (at_builtin; refine app_terms rfl _ _ rfl (w.heap.size + 1) u3 LJ (by rfl) HB1.out.ow y PL (by rfl) HY.out (by have := HLX.out; omega) HB1.out.sz ?_; intro v' w3 hown hb3 hg3; have HB2 : Hid (BT w w3 _ (LJ ++ PL) v') := HB1.out.grow hb3 hown; clear hown hb3 hg3 HB1 HY))
      go_roundg g
      case measure => omega
      case rel => exact ⟨j + 1, by omega, by go_num, by rw [← HX.out]; exact HB2.out⟩
    | zero =>
      obtain rfl : j = body.length := by omega
      have hz : ¬ ((body.length : Int) < (body.length : Int)) := by omega
      rw [List.take_length] at HBT
      clear hm HAT
      go_wp2
      go_ret
      exact ⟨_, rfl, HBT.out.ow.mono (Nat.le_succ _), HBT.out.bw⟩
end Go.Proofs.YtdfgijdededolabGreatDoor
