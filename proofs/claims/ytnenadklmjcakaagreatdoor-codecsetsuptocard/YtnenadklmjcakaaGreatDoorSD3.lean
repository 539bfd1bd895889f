import Derived.Test.YtnenadklmjcakaaGreatDoorSD1
import Derived.Test.YtnenadklmjcakaaGreatDoorL1
import Derived.Test.YtnenadklmjcakaaGreatDoorShelf
import Derived.Sort.OwnSorted
import Derived.Laws.AppendOwn
import Derived.Test.YtnenadklmjcakaaGreatDoorLD2
import Derived.Test.YtnenadklmjcakaaGreatDoorMD5
import Derived.Lib.SliceRun
namespace Go.Proofs.YtnenadklmjcakaaGreatDoor
open Go.RowKit Go.Shelf Go.Lib Go.Sort

def Cm.csl (c : Cm) : List Value := c.cs.toList
def ccs (l : List Cm) : List Value := l.flatMap Cm.csl
theorem ccs_len (l : List Cm) : (ccs l).length = l.length * 7 := by
 induction l with
 | nil => rfl
 | cons d l ih => simp only [ccs, List.flatMap_cons, List.length_append, List.length_cons] at *; rw [ih]; simp [Cm.csl]; omega
theorem ccs_app (l m : List Cm) : ccs (l ++ m) = ccs l ++ ccs m := by simp [ccs]
theorem ccs_get (l : List Cm) (j : Nat) (d : Cm) (h : l[j]? = some d) (i : Nat) (hi : i < 7) : (ccs l)[j * 7 + i]? = d.csl[i]? := by
 induction l generalizing j with
 | nil => simp at h
 | cons e l ih =>
  have hl : e.csl.length = 7 := rfl
  have ec : ccs (e :: l) = e.csl ++ ccs l := by simp [ccs]
  cases j with
  | zero =>
   simp at h
   subst h
   rw [ec, Nat.zero_mul, Nat.zero_add, List.getElem?_append_left (by omega)]
  | succ j =>
   rw [List.getElem?_cons_succ] at h
   rw [ec, List.getElem?_append_right (by omega), hl, show (j + 1) * 7 + i - 7 = j * 7 + i by omega]
   exact ih j h
def OwnC (w : World) (base : Nat) (v : Value) (l : List Cm) : Prop := w.ownsRow base 58 7 v l.length (ccs l)
theorem OwnC.lt {w : World} {base : Nat} {v : Value} {l : List Cm} (h : OwnC w base v l) : ∀ k, v.ownBlock = some k -> base <= k /\ k < w.heap.size := World.ownsRow.lt h
theorem dbelow_grow {w w' : World} (h : DBelow w.heap.size w w') : ∃ q os', w' = grow (w.drewN q) os' := by
 refine ⟨w'.drawn - w.drawn, w'.heap.extract w.heap.size w'.heap.size, ?_⟩
 obtain ⟨hp, tp, dr, os, out⟩ := w
 obtain ⟨hp', tp', dr', os', out'⟩ := w'
 obtain ⟨⟨h1, h2, h3, h4, h5⟩, h6⟩ := h
 simp only at h1 h2 h3 h4 h5 h6
 subst h1 h2 h3
 have e1 : hp' = hp ++ hp'.extract hp.size hp'.size := by
  apply Array.ext_getElem?
  intro i
  by_cases hi : i < hp.size
  ·rw [Array.getElem?_append_left hi]; exact h5 i hi
  ·rw [Array.getElem?_append_right (by omega), Array.getElem?_extract]
   by_cases hi2 : i < hp'.size
   ·rw [if_pos (by omega), show hp.size + (i - hp.size) = i by omega]
   ·rw [if_neg (by omega), Array.getElem?_eq_none (by omega)]
 show World.mk hp' tp' dr' os' out' = World.mk (hp ++ hp'.extract hp.size hp'.size) tp' (dr + (dr' - dr)) os' out'
 rw [<- e1, show dr + (dr' - dr) = dr' by omega]
def Cf (w : World) (g : Nat) : Type := { c : Cm // ∀ X : World, RowKit.Below g w X -> c.ok X }
def zC : Cm := ⟨(⟨zt, ⟨#[]⟩, []⟩, .slice none 0 0), [], .slice none 0 0, [], .slice none 0 0⟩
theorem zC_ok (w : World) : zC.ok w := ⟨⟨none, 0, rfl, by simp [zC], Or.inl rfl⟩, ⟨none, 0, rfl, by simp [zC], Or.inl rfl, fun x hx => by simp [zC] at hx⟩, ⟨none, 0, rfl, by simp [zC], Or.inl rfl⟩⟩
instance (w : World) (g : Nat) : Inhabited (Cf w g) := ⟨⟨zC, fun X _ => zC_ok X⟩⟩
def Cf.cs {w : World} {g : Nat} (x : Cf w g) : List Value := x.1.csl
def cfC {w : World} {g : Nat} (x y : Cf w g) : Int := x.1.cmp y.1
theorem ltC {w : World} {g : Nat} (x y : Cf w g) : ltOf cfC x y = decide (cmpC x.1.key y.1.key < 0) := by unfold ltOf cfC; rw [cmp_key]
theorem swoC (w : World) (g : Nat) : SWO (ltOf (cfC (w := w) (g := g))) where
 irrefl x := by rw [ltC, ord_c.refl]; rfl
 trans x y z h1 h2 := by
  rw [ltC] at *
  simp only [decide_eq_true_eq] at *
  exact (ord_c.tr _ _ _ (by omega) (by omega)).2 (Or.inl h1)
 ntrans x y z h1 h2 := by
  rw [ltC] at *
  simp only [decide_eq_false_iff_not] at *
  have n1 := ord_c.neg x.1.key y.1.key
  have n2 := ord_c.neg y.1.key z.1.key
  have n3 := ord_c.neg x.1.key z.1.key
  have := (ord_c.tr z.1.key y.1.key x.1.key (by omega) (by omega)).1
  omega
theorem flatC {w : World} {g : Nat} (d : Array (Cf w g)) : flatK Cf.cs 7 d = (ccs (d.toList.map (·.1))).toArray := by
 apply Array.ext
 ·simp [ccs_len]
 ·intro t h1 h2
  have ht : t < d.size * 7 := by simpa using h1
  have hq : t / 7 < d.size := by omega
  have hd : (d.toList.map (·.1))[t / 7]? = some (d[t / 7]!).1 := by
   rw [getElem!_pos d (t / 7) hq]; simp [hq]
  have hg := ccs_get (d.toList.map (·.1)) (t / 7) _ hd (t % 7) (by omega)
  rw [show t / 7 * 7 + t % 7 = t by omega] at hg
  have e1 : (flatK Cf.cs 7 d)[t] = (Cf.cs d[t / 7]!)[t % 7]! := by
   have := get_flatK Cf.cs 7 d t ht
   rwa [getElem!_pos _ t h1] at this
  rw [e1]
  have hc : t % 7 < (Cf.cs d[t / 7]!).length := by simp [Cf.cs, Cm.csl]; omega
  rw [getElem!_pos (Cf.cs d[t / 7]!) (t % 7) hc]
  have h3 : t < (ccs (d.toList.map (·.1))).length := by simpa using h2
  have hg2 : (ccs (d.toList.map (·.1)))[t]? = (Cf.cs d[t / 7]!)[t % 7]? := hg
  rw [List.getElem?_eq_getElem hc, List.getElem?_eq_getElem h3] at hg2
  simpa using (Option.some.inj hg2).symm
theorem holdsC {w : World} {base g cap : Nat} {d : Array (Cf w g)} (h : OwnC w base (.slice (some ⟨g, 0, none⟩) d.size cap) (d.toList.map (·.1))) : HoldsK Cf.cs 7 w g 0 d := by
 rcases h.2 with ⟨h, _⟩ | ⟨g', cap', cur, hv, hb, hg, hn, hc, hs, ht⟩
 ·cases h
 ·simp only [Value.slice.injEq, Option.some.injEq, Addr.mk.injEq] at hv
  obtain ⟨⟨rfl, -⟩, -, rfl⟩ := hv
  intro j hj
  rw [flatC] at hj ⊢
  have hj' : j < (ccs (d.toList.map (·.1))).length := by simpa using hj
  refine ⟨?_, by simp [World.frozen?, hg]⟩
  rw [Nat.zero_add, cell_of_row _ _ _ _ _ _ hg, getElem!_pos _ j hj]
  have h1 : (cur.toList.take ((d.toList.map (·.1)).length * 7))[j]? = (ccs (d.toList.map (·.1)))[j]? := by rw [ht]
  rw [List.getElem?_take_of_lt (by rw [ccs_len] at hj'; exact hj'), List.getElem?_eq_getElem hj'] at h1
  simpa using h1
theorem grownC {w : World} {g n : Nat} {os : Array Obj} {d' : Array (Cf w g)} : w.grownBy (sortWorldK Cf.cs 7 w g 0 n d' os) (some g) := by
 refine ⟨rfl, rfl, rfl, by simp [sortWorldK, putRowK], fun k hk hne => ?_⟩
 unfold sortWorldK putRowK
 rw [heap_grow_old _ _ (by simpa using hk)]
 have : g ≠ k := fun e => hne (by rw [e])
 simp [putRow, mapBlock, Sort.ahead, Array.getElem?_modify, this]
theorem belowC {w : World} {g n : Nat} {os : Array Obj} {d' : Array (Cf w g)} (hgs : g < w.heap.size) : RowKit.Below g w (sortWorldK Cf.cs 7 w g 0 n d' os) :=
 (RowKit.Below.refl _ _).grown grownC (Nat.le_of_lt hgs) (fun q e => by cases e; exact Nat.le_refl _)
theorem cmpLaysC (blk size : Nat) (w : World) (hgs : blk < w.heap.size) : CmpLays Tryz.prog 59 #[] (Cf.cs (w := w) (g := blk)) 7 cfC blk 0 size w :=
 fun _ _ _ _ x y => (compareCD_any x.1 y.1 _ (x.2 _ (belowC hgs)) (y.2 _ (belowC hgs))).mono fun _ _ ⟨he, hb⟩ => ⟨he, dbelow_grow hb⟩
theorem ownC {w : World} {base g cap n : Nat} {os : Array Obj} {d d' : Array (Cf w g)} (h : OwnC w base (.slice (some ⟨g, 0, none⟩) d.size cap) (d.toList.map (·.1))) (hs : d'.size = d.size) :
  OwnC (sortWorldK Cf.cs 7 w g 0 n d' os) base (.slice (some ⟨g, 0, none⟩) d.size cap) (d'.toList.map (·.1)) := by
 rcases h.2 with ⟨h, _⟩ | ⟨g', cap', cur, hv, hb, hg, hn, hc, hsz, ht⟩
 ·cases h
 ·simp only [Value.slice.injEq, Option.some.injEq, Addr.mk.injEq] at hv
  obtain ⟨⟨rfl, -⟩, -, rfl⟩ := hv
  have hgs : g < w.heap.size := (Array.getElem?_eq_some_iff.1 hg).1
  have hH : (sortWorldK Cf.cs 7 w g 0 n d' os).heap[g]? = some (.cells (putCells id 0 (ccs (d'.toList.map (·.1))).toArray cur) 58 (0, 0)) := by
   unfold sortWorldK putRowK
   rw [flatC, heap_grow_old _ _ (by simpa using hgs)]
   simp [putRow, mapBlock, Sort.ahead, Array.getElem?_modify, hg, onCells]
  have hl : (d'.toList.map (·.1)).length = (d.toList.map (·.1)).length := by simp [hs]
  refine ⟨ccs_len _, Or.inr ⟨g, cap, _, by simp [hs], hb, hH, by rw [hl]; exact hn, hc, by simp [putCells, hsz], ?_⟩⟩
  apply List.ext_getElem?
  intro j
  by_cases hj : j < (d'.toList.map (·.1)).length * 7
  ·have hjc : j < cur.size := by rw [hsz]; rw [hl] at hj; exact Nat.lt_of_lt_of_le hj (Nat.mul_le_mul_right 7 hn)
   have hjb : j < (ccs (d'.toList.map (·.1))).length := by rw [ccs_len]; exact hj
   rw [List.getElem?_take_of_lt hj, Array.getElem?_toList]
   simp [putCells, hjb, hjc]
  ·rw [List.getElem?_take_eq_none (by omega), List.getElem?_eq_none (by rw [ccs_len]; omega)]
def srtC (l : List Cm) : Prop := l.Pairwise fun a b => cmpC a.key b.key <= 0
theorem perm_ofC {w : World} {g : Nat} {d d' : Array (Cf w g)} (h : PermIn 0 d.size d d') : (d'.toList.map (·.1)).Perm (d.toList.map (·.1)) := by
 obtain ⟨hs, -, hp⟩ := h
 have e1 : d'.extract 0 d.size = d' := by rw [<- hs]; simp
 have e2 : d.extract 0 d.size = d := by simp
 rw [e1, e2] at hp
 exact List.Perm.map _ hp
theorem srt_ofC {w : World} {g : Nat} {d d' : Array (Cf w g)} (hs : d'.size = d.size) (h : SortedIn (ltOf cfC) 0 d.size d') : srtC (d'.toList.map (·.1)) := by
 unfold srtC
 rw [List.pairwise_iff_getElem]
 intro i j hi hj hij
 have hj' : j < d'.size := by simpa using hj
 have hi' : i < d'.size := by simpa using hi
 have := h i j (Nat.zero_le _) hij (by omega)
 rw [ltC, getElem!_pos d' j hj', getElem!_pos d' i hi'] at this
 simp only [decide_eq_false_iff_not] at this
 simp only [List.getElem_map, Array.getElem_toList]
 have := ord_c.neg (d'[i]).1.key (d'[j]).1.key
 omega
set_option maxHeartbeats 2000000 in
theorem sortFuncC_all (g cap base : Nat) (w : World) (d : Array (Cf w g)) (h : OwnC w base (.slice (some ⟨g, 0, none⟩) d.size cap) (d.toList.map (·.1))) (hsz : d.size < 4611686018427387904) :
  Calls Tryz.prog 58 #[.slice (some ⟨g, 0, none⟩) d.size cap, .func (.func 59) #[] #[]] w fun e w' => e = .returned (.tuple #[]) /\ ∃ l', OwnC w' base (.slice (some ⟨g, 0, none⟩) d.size cap) l' /\ l'.Perm (d.toList.map (·.1)) /\ srtC l' /\ RowKit.Below g w w' := by
 have hlt := h.lt g rfl
 have eg : ∀ args w, (callFunc 59 args).run Tryz.prog w = .ok (.enter 59 args) w := enters_of Tryz.func59 (by kernel_rfl) rfl
 have hlim : Lib.bitLen d.size < 4611686018427387904 := Nat.lt_of_le_of_lt (Lib.bitLen_le d.size 62 (by omega) (by omega)) (by omega)
 have hp := AnyQ.pdqsortCmpFunc_all (P := Tryz.prog) Tryz.pdqCm 7 Tryz.isAgg58 Tryz.sizeOf58 Cf.cs cfC 59 #[] (swoC w g) g 0 cap d w eg (cmpLaysC g d.size w hlt.2)
  ⟨fun _ => rfl, fun x v hv => by
   obtain ⟨⟨a, n, cp, e1⟩, ⟨a', cp', e2⟩, ⟨a'', cp'', e3⟩, -, -⟩ := (x.2 w (RowKit.Below.refl _ _)).shape
   simp only [Cf.cs, Cm.csl, e1, e2, e3] at hv
   simp at hv
   rcases hv with rfl | rfl | rfl | rfl | rfl | rfl | rfl <;> rfl, holdsC h, hlt.2⟩ (d.size + 1) 0 d.size (Lib.bitLen d.size) d w (by omega) rfl (SWK.start (holdsC h)) (Nat.zero_le _) (Nat.le_refl _) hsz hlim (Or.inl rfl)
 change Calls Tryz.prog 107 _ _ _ at hp
 have hl := Any.bits_Len Tryz.bitsLen (d.size : Int) w (by omega) (by omega)
 change Calls Tryz.prog 108 _ _ _ at hl
 rw [Int.toNat_natCast] at hl
 have hs := pdq_sorts (ltOf cfC) (swoC w g) d 0 d.size (Lib.bitLen d.size) true true (Nat.zero_le _) (Nat.le_refl _) (Or.inl rfl)
 obtain ⟨d', hd'⟩ : ∃ d', pdq (ltOf cfC) d 0 d.size (Lib.bitLen d.size) true true = d' := ⟨_, rfl⟩
 rw [hd'] at hp hs
 have HP : Hid (Calls Tryz.prog 107 #[.slice (some ⟨g, 0, none⟩) d.size cap, .int .i64 ((0 : Nat) : Int), .int .i64 d.size, .int .i64 (Lib.bitLen d.size), .func (.func 59) #[] #[]] w fun e w' => e = .returned (.tuple #[]) /\ SWK Cf.cs 7 w g 0 d' w') := hp
 have HS : Hid (PermIn 0 d.size d d' /\ SortedIn (ltOf cfC) 0 d.size d') := hs
 have HO : Hid (OwnC w base (.slice (some ⟨g, 0, none⟩) d.size cap) (d.toList.map (·.1))) := h
 have HL : Hid (Calls Tryz.prog 108 #[.int .u64 (d.size : Int)] w fun e w' => e = .returned (.int .i64 (Lib.bitLen d.size)) /\ w' = w) := hl
 have wr : IntKind.u64.wrap (d.size : Int) = d.size := by rw [IntKind.wrap_u64]; omega
 clear hp hs h hl hd' eg
 go_enter Tryz.func58, Tryz.ntmps58
 go_wp2_with (first
  | (go_at_call 108; refine HL.out.mono ?_; rintro e w1 ⟨rfl, rfl⟩)
  | (go_at_call 107; refine HP.out.mono ?_; rintro e w2 ⟨rfl, hw2⟩))
 go_end0
 obtain ⟨n, os, rfl⟩ := hw2
 exact ⟨rfl, d'.toList.map (·.1), ownC HO.out HS.out.1.1, perm_ofC HS.out.1, srt_ofC HS.out.1.1 HS.out.2, belowC hlt.2⟩
end Go.Proofs.YtnenadklmjcakaaGreatDoor
namespace Go.Proofs.YtnenadklmjcakaaGreatDoor
open Go.RowKit

def CRow (w : World) (b o : Nat) (l : List Cm) : Prop := b < w.heap.size /\ ∀ (i : Nat) (c : Cm), l[i]? = some c -> ∀ (k : Nat) (u : Value), c.csl[k]? = some u -> w.cell? ⟨b, o + i * 7 + k, none⟩ = some u
theorem CRow.later {w w' : World} {b o : Nat} {l : List Cm} (h : CRow w b o l) (hb : Below w.heap.size w w') : CRow w' b o l :=
 ⟨Nat.lt_of_lt_of_le h.1 hb.size, fun i c hc k u hu => by rw [hb.cell (p := ⟨b, _, none⟩) h.1]; exact h.2 i c hc k u hu⟩
structure CsP (w : World) (v : Value) (l : List Cm) : Prop where
 m : (v = .slice none 0 0 /\ l = []) ∨ ∃ ad cap, v = .slice (some ad) l.length cap /\ (l = [] ∨ ∃ b o, ad = ⟨b, o, none⟩ /\ CRow w b o l)
 ok : ∀ c ∈ l, c.ok w
theorem CsP.later {w w' : World} {v : Value} {l : List Cm} (h : CsP w v l) (hb : Below w.heap.size w w') : CsP w' v l := by
 refine ⟨?_, fun c hc => (h.ok c hc).later hb⟩
 rcases h.m with h | ⟨ad, cap, h1, h2⟩
 ·exact Or.inl h
 ·refine Or.inr ⟨ad, cap, h1, ?_⟩
  rcases h2 with h2 | ⟨b, o, h2, h3⟩
  ·exact Or.inl h2
  ·exact Or.inr ⟨b, o, h2, h3.later hb⟩
theorem crow_get {w : World} {b o : Nat} {l : List Cm} (h : CRow w b o l) : ∀ j u, (ccs l)[j]? = some u -> w.cell? ((⟨b, o, none⟩ : Addr).add j) = some u := fun j u hu => by
 have hj := (List.getElem?_eq_some_iff.1 hu).1
 rw [ccs_len] at hj
 obtain ⟨d, hd⟩ : ∃ d, l[j / 7]? = some d := ⟨_, List.getElem?_eq_getElem (by omega)⟩
 have hg := ccs_get l (j / 7) d hd (j % 7) (by omega)
 rw [show j / 7 * 7 + j % 7 = j by omega, hu] at hg
 rw [Go.WideShapes.add_plain, show o + j = o + j / 7 * 7 + j % 7 by omega]
 exact h.2 _ d hd _ u hg.symm
theorem OwnC.nil (w : World) (base : Nat) : OwnC w base (.slice none 0 0) [] := World.ownsRow_nil _ _ _ _
theorem OwnC.later {w w' : World} {base : Nat} {v : Value} {l : List Cm} (h : OwnC w base v l) (hb : Below w.heap.size w w') : OwnC w' base v l := by
 refine ⟨h.1, ?_⟩
 rcases h.2 with hn | ⟨g, cap, cur, hv, hbb, hg, rest⟩
 ·exact Or.inl hn
 ·exact Or.inr ⟨g, cap, cur, hv, hbb, (hb.block g (Array.getElem?_eq_some_iff.1 hg).1).trans hg, rest⟩
theorem OwnC.form {w : World} {base : Nat} {v : Value} {l : List Cm} (h : OwnC w base v l) : ∃ a cap, v = .slice a l.length cap := by
 rcases h.2 with ⟨rfl, hn⟩ | ⟨g, cap, cur, hv, _⟩
 ·exact ⟨none, 0, by rw [hn]⟩
 ·exact ⟨_, cap, hv⟩
theorem OwnC.empty {w : World} {b base : Nat} (h : CBlk w b #[] 58) (hb : base <= b) : OwnC w base (.slice (some ⟨b, 0, none⟩) 0 0) [] :=
 ⟨rfl, Or.inr ⟨b, 0, #[], rfl, hb, h, Nat.le_refl _, by unfold maxLen; omega, rfl, rfl⟩⟩
theorem csl_one {c : Cm} {w : World} (h : c.ok w) : ∀ u ∈ c.csl, u.oneCell' = true := by
 obtain ⟨⟨a, n, cp, e1⟩, ⟨a', cp', e2⟩, ⟨a'', cp'', e3⟩, -, -⟩ := h.shape
 intro u hu
 simp only [Cm.csl, e1, e2, e3] at hu
 simp at hu
 rcases hu with rfl | rfl | rfl | rfl | rfl | rfl | rfl <;> rfl
theorem Tryz.infoClause : (Tryz.prog.info? 58).map (fun i => (i.zero, i.size, i.bytes)) = some (some (.agg #[.int .i64 0, .int .i64 0, .string ⟨#[]⟩, .string ⟨#[]⟩, .slice none 0 0, .slice none 0 0, .slice none 0 0]), 7, 120) := by kernel_rfl
theorem capp_list {ops : Array Oper} {rest : List Oper} {o : Oper} {a : Act} {Q : Exit -> Act -> World -> Prop} {w : World} (hgd : o.guard = none) (s x : Operand)
  (ho : o.op = .call { callee := .builtin .append, args := #[s, x], argTypes := #[22, 22] }) (base : Nat) (v : Value) (l : List Cm) (hs : a.eval s = v) (hown : OwnC w base v l)
  (y : Value) (m : List Cm) (hx : a.eval x = y) (hy : CsP w y m) (hlen : l.length + m.length <= 1000000000000) (hbase : base <= w.heap.size)
  (h : ∀ v' w', OwnC w' base v' (l ++ m) -> Below base w w' -> w.grownBy w' v.ownBlock -> wpList Tryz.prog ops Q rest (a.put o.dst v') w') : wpList Tryz.prog ops Q (o :: rest) a w := by
 obtain ⟨i0, hi0, hz0, hz1, hz2⟩ := info_parts Tryz.infoClause
 rcases hy.m with ⟨rfl, rfl⟩ | ⟨ad, cap, rfl, hm⟩
 ·refine wpList_append_own_none hgd s x 22 ho base 58 i0 7 Tryz.underlying22 hi0 v l.length (ccs l) hs hown hx ?_
  exact h v w (by rw [List.append_nil]; exact hown) (Below.refl _ _) (World.grownBy.refl _ _)
 ·refine wpList_append_own _ hgd s x 22 ho base 58 i0 _ 7 120 Tryz.underlying22 hi0 hz0 hz1 hz2 rfl (by omega) v l.length (ccs l) hs hown ad m.length cap (ccs m) hx (ccs_len m) ?_ (fun u hu => by obtain ⟨z, hz, hu⟩ := List.mem_flatMap.1 hu; exact csl_one (hy.ok z hz) u hu) (by unfold maxLen; omega) (by omega) hbase ?_
  ·rcases hm with rfl | ⟨b, o', rfl, hm⟩
   ·intro j u hu; simp [ccs] at hu
   ·exact crow_get hm
  ·intro v' w' h1 h2 _
   refine h v' w' ?_ (grown_below3 h2 (fun k hk => (World.ownsRow.lt hown k hk).1) hbase) h2
   unfold OwnC
   rw [List.length_append, ccs_app]
   exact h1
set_option maxRecDepth 100000 in
theorem len64_tinyC (n : Int) (h : n = 0 ∨ n = 1) (w : World) : Calls Tryz.prog 147 #[.int .u64 n] w fun e w' => (∃ m : Int, e = .returned (.int .i64 m)) /\ w' = w := by
 rcases h with rfl | rfl
 ·go_enter Tryz.func147, Tryz.ntmps147
  go_wp2
  go_ret
  exact ⟨⟨_, rfl⟩, rfl⟩
 ·go_enter Tryz.func147, Tryz.ntmps147
  go_wp2
  go_ret
  exact ⟨⟨_, rfl⟩, rfl⟩
theorem len_tinyC (n : Nat) (h : n <= 1) (w : World) : Calls Tryz.prog 108 #[.int .u64 n] w fun e w' => (∃ m : Int, e = .returned (.int .i64 m)) /\ w' = w := by
 have hn : (n : Int) = 0 ∨ (n : Int) = 1 := by omega
 have HN : Hid ((n : Int) = 0 ∨ (n : Int) = 1) := hn
 clear hn h
 go_enter Tryz.func108, Tryz.ntmps108
 go_wp2_with (go_at_call 147; refine (len64_tinyC _ HN.out _).mono ?_; rintro e w1 ⟨⟨m, rfl⟩, rfl⟩)
 go_ret
 exact ⟨⟨_, rfl⟩, rfl⟩
theorem ins_tinyC (v f : Value) (n : Nat) (h : n <= 1) (w : World) : Calls Tryz.prog 138 #[v, .int .i64 0, .int .i64 n, f] w fun e w' => e = .returned (.tuple #[]) /\ w' = w := by
 have hn : ¬ (1 : Int) < (n : Int) := by omega
 go_enter Tryz.func138, Tryz.ntmps138
 go_wp2
 go_loop [8] (fun i => i = .int .i64 1) (fun _ => 0)
 case atStart => rfl
 case round =>
  subst hrel
  go_wp2
  go_end0
  exact ⟨rfl, rfl⟩
theorem pdq_tinyC (v f : Value) (n : Nat) (h : n <= 1) (m : Int) (w : World) : Calls Tryz.prog 107 #[v, .int .i64 0, .int .i64 n, .int .i64 m, f] w fun e w' => e = .returned (.tuple #[]) /\ w' = w := by
 have hn : (n : Int) <= 12 := by omega
 have hn0 : (0 : Int) <= n := by omega
 go_enter Tryz.func107, Tryz.ntmps107
 go_wp2
 go_loop [1, 2] (fun a b => a = .int .i64 0 /\ b = .int .i64 n) (fun _ _ => 0)
 case atStart => exact ⟨rfl, rfl⟩
 case round =>
  obtain ⟨rfl, rfl⟩ := hrel
  go_wp2_with (go_at_call 138; refine (ins_tinyC _ _ _ h _).mono ?_; rintro e w1 ⟨rfl, rfl⟩)
  (try simp only [Exit.inBlock, Exit.then])
  refine bodyPost_ret (results_none rfl _ _ _) rfl ?_
  exact ⟨rfl, rfl⟩
theorem sortFunc_tinyC (a : Option Addr) (f : Value) (n cap : Nat) (h : n <= 1) (w : World) : Calls Tryz.prog 58 #[.slice a n cap, f] w fun e w' => e = .returned (.tuple #[]) /\ w' = w := by
 have hw : IntKind.u64.wrap (n : Int) = n := by rw [IntKind.wrap_u64]; omega
 go_enter Tryz.func58, Tryz.ntmps58
 go_wp2_with (first
  | (go_at_call 108; refine (len_tinyC n h _).mono ?_; rintro e w1 ⟨⟨m, rfl⟩, rfl⟩)
  | (go_at_call 107; refine (pdq_tinyC _ _ n h _ _).mono ?_; rintro e w1 ⟨rfl, rfl⟩))
 go_end0
 exact ⟨rfl, rfl⟩
set_option maxRecDepth 20000 in
set_option maxHeartbeats 2000000 in
theorem clone_any (l : List Cm) (v : Value) (w : World) (h : CsP w v l) (hl : l.length <= 1000000000) :
  Calls Tryz.prog 57 #[v] w fun e w' => ∃ v', e = .returned v' /\ OwnC w' w.heap.size v' l /\ Below w.heap.size w w' := by
 have HP : Hid (CsP w v l) := h
 have qT : ∀ (w : World) (a : Option Addr) (n c n' c' : Nat), (binOp .eql 22 (.slice a n c) (.slice none n' c')).run Tryz.prog w = .ok (.bool a.isNone) w := fun w a n c n' c' => Lib.run_eql_slice_nil w _ _ a n c n' c' Tryz.underlying22
 rcases h.m with ⟨rfl, rfl⟩ | ⟨ad, cap, rfl, -⟩
 ·clear h
  go_enter Tryz.func57, Tryz.ntmps57
  go_wp2
  go_ret
  exact ⟨_, rfl, OwnC.nil _ _, Below.refl _ _⟩
 ·clear h
  have HE : Hid (OwnC (w.alloc (.cells #[] 58)) w.heap.size (.slice (some ⟨w.heap.size, 0, none⟩) 0 0) []) := OwnC.empty (CBlk.new _ _ _) (Nat.le_refl _)
  go_enter Tryz.func57, Tryz.ntmps57
  go_wp2_with (at_builtin; refine capp_list rfl _ _ rfl w.heap.size _ [] (by rfl) HE.out _ l (by rfl) (HP.out.later (below1 _ _)) (by simp only [List.length_nil]; omega) (by simp) ?_; intro v1 w1 hown hb hg; rw [List.nil_append] at hown; have HO : Hid (OwnC w1 w.heap.size v1 l) := hown; have HW : Hid (Below w.heap.size w w1) := (below1 _ _).trans hb; clear hown hb hg)
  go_ret
  exact ⟨_, rfl, HO.out, HW.out⟩
theorem cf_of {w : World} {g : Nat} : ∀ (l : List Cm), (∀ c ∈ l, ∀ X : World, Below g w X -> c.ok X) -> ∃ d : Array (Cf w g), d.toList.map (·.1) = l
 | [], _ => ⟨#[], rfl⟩
 | c :: l, h => by
  obtain ⟨d, hd⟩ := cf_of l fun x hx => h x (List.mem_cons_of_mem _ hx)
  exact ⟨((⟨c, h c (List.mem_cons_self ..)⟩ : Cf w g) :: d.toList).toArray, congrArg (c :: ·) hd⟩
theorem sortC_any (l : List Cm) (v : Value) (base : Nat) (w : World) (h : OwnC w base v l) (hc : ∀ c ∈ l, ∀ X : World, Below base w X -> c.ok X) (hl : l.length <= 1000000000) :
  Calls Tryz.prog 58 #[v, .func (.func 59) #[] #[]] w fun e w' => e = .returned (.tuple #[]) /\ ∃ l', OwnC w' base v l' /\ l'.Perm l /\ srtC l' /\ Below base w w' := by
 rcases h.2 with ⟨rfl, hn⟩ | ⟨g, cap, cur, rfl, hb, -⟩
 ·have : l = [] := List.length_eq_zero_iff.1 hn
  subst this
  exact (sortFunc_tinyC none _ 0 0 (by omega) w).mono fun e w' ⟨he, hw⟩ => ⟨he, [], by rw [hw]; exact h, List.Perm.refl _, List.Pairwise.nil, by rw [hw]; exact Below.refl _ _⟩
 ·have hall : ∀ c ∈ l, ∀ X : World, Below g w X -> c.ok X := fun c hm X hX => hc c hm X (hX.mono hb)
  obtain ⟨d, e1⟩ : ∃ d : Array (Cf w g), d.toList.map (·.1) = l := cf_of l hall
  have e2 : d.size = l.length := by rw [<- e1]; simp
  have := sortFuncC_all g cap base w d (by rw [e1, e2]; exact h) (by rw [e2]; omega)
  rw [e2, e1] at this
  exact this.mono fun e w' ⟨he, l', h1, h2, h3, h4⟩ => ⟨he, l', h1, h2, h3, h4.mono hb⟩
end Go.Proofs.YtnenadklmjcakaaGreatDoor
