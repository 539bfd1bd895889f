import Derived.Test.YtechceagghcipabGreatDoorRA19
import Derived.Test.YtechceagghcipabGreatDoorShelf
import Derived.Sort.OwnSorted
import Derived.Test.YtechceagghcipabGreatDoorRA2
namespace Go.Proofs.YtechceagghcipabGreatDoor
open Go.RowKit Go.Shelf Go.Lib Go.Sort
def Rf (w : World) (g : Nat) : Type := { p : List Int × Value // ∀ X : World, RowKit.Below g w X -> Li Any X p.2 p.1 }
instance (w : World) (g : Nat) : Inhabited (Rf w g) := ⟨⟨([], .slice none 0 0), fun _ _ => Li.nil _ _⟩⟩
def Rf.enc {w : World} {g : Nat} (x : Rf w g) : Value := x.1.2
def cfR {w : World} {g : Nat} (x y : Rf w g) : Int := cmpR x.1.1 y.1.1
theorem ltR {w : World} {g : Nat} (x y : Rf w g) : ltOf cfR x y = decide (cmpR x.1.1 y.1.1 < 0) := rfl
theorem swoR (w : World) (g : Nat) : SWO (ltOf (cfR (w := w) (g := g))) where
 irrefl x := by rw [ltR, cmpR_refl]; rfl
 trans x y z h1 h2 := by
  rw [ltR] at *
  simp only [decide_eq_true_eq] at *
  exact cmpR_lt h1 h2
 ntrans x y z h1 h2 := by
  rw [ltR] at *
  simp only [decide_eq_false_iff_not] at *
  have n1 := cmpR_neg x.1.1 y.1.1
  have n2 := cmpR_neg y.1.1 z.1.1
  have n3 := cmpR_neg x.1.1 z.1.1
  have := cmpR_le (a := z.1.1) (b := y.1.1) (c := x.1.1) (by omega) (by omega)
  omega
def rvl {w : World} {g : Nat} (d : Array (Rf w g)) : List Value := d.toList.map Rf.enc
theorem holdsR {w : World} {base g cap : Nat} {d : Array (Rf w g)} (h : w.ownsRow base 67 1 (.slice (some ⟨g, 0, none⟩) d.size cap) d.size (rvl d)) : Holds Rf.enc w g 0 d := by
 intro j hj
 obtain ⟨g', e, -, -, h1, h2⟩ := row7_at h (i := j) (u := (d[j]!).enc) (by rw [getElem!_pos d j hj]; simp [rvl, hj])
 cases e
 rw [Nat.zero_add]
 exact ⟨h1, h2⟩
theorem grownR {w : World} {g n : Nat} {os : Array Obj} {d' : Array (Rf w g)} : w.grownBy (sortWorld Rf.enc w g 0 n d' os) (some g) := by
 refine ⟨rfl, rfl, rfl, by simp [sortWorld, putRow, mapBlock, Sort.ahead], fun k hk hne => ?_⟩
 unfold sortWorld
 rw [heap_grow_old _ _ (by simpa [putRow, mapBlock, Sort.ahead] using hk)]
 have : g ≠ k := fun e => hne (by rw [e])
 simp [putRow, mapBlock, Sort.ahead, Array.getElem?_modify, this]
theorem belowR {w : World} {g n : Nat} {os : Array Obj} {d' : Array (Rf w g)} (hgs : g < w.heap.size) : RowKit.Below g w (sortWorld Rf.enc w g 0 n d' os) :=
 (RowKit.Below.refl _ _).grown grownR (Nat.le_of_lt hgs) (fun q e => by cases e; exact Nat.le_refl _)
theorem grow_self (w : World) : ∃ q os', w = grow (w.drewN q) os' := ⟨0, #[], by rw [grow_empty]; rfl⟩
theorem cmpLaysR (blk size : Nat) (w : World) (hgs : blk < w.heap.size) : CmpLays1 Tryz.prog 133 #[] (Rf.enc (w := w) (g := blk)) cfR blk 0 size w :=
 fun _ _ _ _ x y => (compareI7_any Any Any x.1.1 y.1.1 _ _ _ (x.2 _ (belowR hgs)) (y.2 _ (belowR hgs))).mono fun _ w' ⟨he, hb⟩ => ⟨he, hb ▸ grow_self w'⟩
theorem ownR {w : World} {base g cap n : Nat} {os : Array Obj} {d d' : Array (Rf w g)} (h : w.ownsRow base 67 1 (.slice (some ⟨g, 0, none⟩) d.size cap) d.size (rvl d)) (hs : d'.size = d.size) :
  (sortWorld Rf.enc w g 0 n d' os).ownsRow base 67 1 (.slice (some ⟨g, 0, none⟩) d.size cap) d.size (rvl d') := by
 rcases h.2 with ⟨h, _⟩ | ⟨g', cap', cur, hv, hb, hg, hn, hc, hsz, ht⟩
 ·cases h
 ·simp only [Value.slice.injEq, Option.some.injEq, Addr.mk.injEq] at hv
  obtain ⟨⟨rfl, -⟩, -, rfl⟩ := hv
  have hgs : g < w.heap.size := (Array.getElem?_eq_some_iff.1 hg).1
  have hH : (sortWorld Rf.enc w g 0 n d' os).heap[g]? = some (.cells (putCells Rf.enc 0 d' cur) 67 (0, 0)) := by
   unfold sortWorld
   rw [heap_grow_old _ _ (by simpa [putRow, mapBlock, Sort.ahead] using hgs)]
   simp [putRow, mapBlock, Sort.ahead, Array.getElem?_modify, hg, onCells]
  have hl : (rvl d').length = d.size := by simp [rvl, hs]
  refine ⟨by rw [hl, Nat.mul_one], Or.inr ⟨g, cap, _, rfl, hb, hH, hn, hc, by simp [putCells, hsz], ?_⟩⟩
  apply List.ext_getElem?
  intro j
  by_cases hj : j < d.size * 1
  ·have hjc : j < cur.size := by rw [hsz]; exact Nat.lt_of_lt_of_le hj (Nat.mul_le_mul_right 1 hn)
   have hjd : j < d'.size := by omega
   rw [List.getElem?_take_of_lt hj, Array.getElem?_toList]
   simp [putCells, hjc, hjd, rvl]
  ·rw [List.getElem?_take_eq_none (by omega), List.getElem?_eq_none (by omega)]
theorem perm_ofR {w : World} {g : Nat} {d d' : Array (Rf w g)} (h : PermIn 0 d.size d d') : d'.toList.Perm d.toList := by
 obtain ⟨hs, -, hp⟩ := h
 have e1 : d'.extract 0 d.size = d' := by rw [<- hs]; simp
 have e2 : d.extract 0 d.size = d := by simp
 rw [e1, e2] at hp
 exact hp
theorem srt_ofR {w : World} {g : Nat} {d d' : Array (Rf w g)} (hs : d'.size = d.size) (h : SortedIn (ltOf cfR) 0 d.size d') : srtR (d'.toList.map fun x => x.1.1) := by
 unfold srtR
 rw [List.pairwise_iff_getElem]
 intro i j hi hj hij
 have hj' : j < d'.size := by simpa using hj
 have hi' : i < d'.size := by simpa using hi
 have := h i j (Nat.zero_le _) hij (by omega)
 rw [ltR, getElem!_pos d' j hj', getElem!_pos d' i hi'] at this
 simp only [decide_eq_false_iff_not] at this
 simp only [List.getElem_map, Array.getElem_toList]
 have := cmpR_neg (d'[i]).1.1 (d'[j]).1.1
 omega
def toRf {w : World} {g : Nat} : (P : List (List Int × Value)) -> (∀ p ∈ P, ∀ X : World, RowKit.Below g w X -> Li Any X p.2 p.1) -> List (Rf w g)
 | [], _ => []
 | p :: P, h => ⟨p, h p (by simp)⟩ :: toRf P fun q hq => h q (by simp [hq])
theorem toRf_map {w : World} {g : Nat} : ∀ (P : List (List Int × Value)) (h : ∀ p ∈ P, ∀ X : World, RowKit.Below g w X -> Li Any X p.2 p.1), (toRf P h).map (fun x : Rf w g => x.1) = P
 | [], _ => rfl
 | p :: P, h => congrArg (p :: ·) (toRf_map P fun q hq => h q (by simp [hq]))
set_option maxHeartbeats 1000000 in
theorem sortR_one (g cap base : Nat) (w : World) (P : List (List Int × Value)) (h : w.ownsRow base 67 1 (.slice (some ⟨g, 0, none⟩) P.length cap) P.length (P.map Prod.snd)) (hP : ∀ p ∈ P, Li (fun b => b < base) w p.2 p.1) (hl : P.length <= 100000000000) :
  Calls Tryz.prog 132 #[.slice (some ⟨g, 0, none⟩) P.length cap, .func (.func 133) #[] #[]] w (SO7 base (.slice (some ⟨g, 0, none⟩) P.length cap) P w) := by
 have hlt := h.lt g rfl
 have hst : ∀ p ∈ P, ∀ X : World, RowKit.Below g w X -> Li Any X p.2 p.1 := fun p hp X hX => (Li.fr (P := fun b => g <= b) (hP p hp) ⟨hX.os, hX.tape, hX.output, hX.size, fun k _ hk => hX.block k (by omega)⟩ fun b _ hb hc => by omega).any
 obtain ⟨d, hd⟩ : ∃ d : Array (Rf w g), d.toList = toRf P hst := ⟨(toRf P hst).toArray, rfl⟩
 have hdm : d.toList.map (fun x : Rf w g => x.1) = P := by rw [hd]; exact toRf_map P hst
 have hds : d.size = P.length := by rw [<- hdm]; simp
 have hrv : rvl d = P.map Prod.snd := by
  unfold rvl
  conv => rhs; rw [<- hdm]
  rw [List.map_map]; rfl
 rw [<- hds, <- hrv] at h
 have eg : ∀ args w, (callFunc 133 args).run Tryz.prog w = .ok (.enter 133 args) w := enters_of Tryz.func133 (by kernel_rfl) rfl
 have hp := Any.slices_SortFunc (P := Tryz.prog) Tryz.sortFI Rf.enc (fun x => by obtain ⟨a, cp, e1, -⟩ := x.2 w (RowKit.Below.refl _ _); unfold Rf.enc; rw [e1]; rfl) cfR (swoR w g) 133 #[] g 0 cap d w eg (cmpLaysR g d.size w hlt.2) (holdsR h) hlt.2 (by omega)
 change Calls Tryz.prog 132 _ _ _ at hp
 rw [<- hds]
 refine hp.mono ?_
 rintro e w' ⟨rfl, d', n, os, hpm, hsr, rfl⟩
 refine ⟨rfl, d'.toList.map (fun x : Rf w g => x.1), ?_, ?_, ?_, Fr.grown grownR fun b e => by cases e; exact hlt.1⟩
 ·have := ownR (os := os) (n := n) h hpm.1
  rw [<- hds]
  have em : (d'.toList.map (fun x : Rf w g => x.1)).map Prod.snd = rvl d' := by rw [List.map_map]; rfl
  rw [em]
  exact this
 ·rw [<- hdm]; exact (perm_ofR hpm).map _
 ·have := srt_ofR hpm.1 hsr
  simpa [Function.comp_def] using this
set_option maxRecDepth 100000 in
set_option maxHeartbeats 2000000 in
theorem insertI0_any (c : Value) (w : World) : Calls Tryz.prog 177 #[.slice none 0 0, .int .i64 0, .int .i64 0, c] w fun e w' => e = .returned (.tuple #[]) /\ w' = w := by
 go_enter Tryz.func177, Tryz.ntmps177
 go_wp2
 go_loopg [8] 0 (fun g i wr => i = .int .i64 1 /\ wr = w)
 case atStart => exact ⟨rfl, rfl⟩
 case round =>
  obtain ⟨rfl, rfl⟩ := hrel
  go_wp2
  go_end0
  exact ⟨rfl, rfl⟩
set_option maxRecDepth 100000 in
set_option maxHeartbeats 2000000 in
theorem pdqI0_any (c : Value) (l : Int) (w : World) : Calls Tryz.prog 157 #[.slice none 0 0, .int .i64 0, .int .i64 0, .int .i64 l, c] w fun e w' => e = .returned (.tuple #[]) /\ w' = w := by
 go_enter Tryz.func157, Tryz.ntmps157
 go_wp2
 go_loopg [1, 2, 3, 10, 11] 0 (fun g s1 s2 s3 s8 s9 wr => s1 = .int .i64 0 /\ s2 = .int .i64 0 /\ s3 = .int .i64 l /\ s8 = .bool true /\ s9 = .bool true /\ wr = w)
 case atStart => exact ⟨rfl, rfl, rfl, rfl, rfl, rfl⟩
 case round =>
  obtain ⟨rfl, rfl, rfl, rfl, rfl, rfl⟩ := hrel
  go_wp2_with (go_at_call 177; refine (insertI0_any _ _).mono ?_; rintro e w1 ⟨rfl, rfl⟩)
  (try simp only [Exit.inBlock, Exit.then])
  refine bodyPost_ret (results_none rfl _ _ _) rfl ?_
  exact ⟨rfl, rfl⟩
set_option maxRecDepth 20000 in
theorem sortI0_any (c : Value) (w : World) : Calls Tryz.prog 132 #[.slice none 0 0, c] w fun e w' => e = .returned (.tuple #[]) /\ w' = w := by
 have hl := Any.bits_Len Tryz.bitsLen 0 w (by omega) (by omega)
 change Calls Tryz.prog 80 _ _ _ at hl
 have HL := hm7 hl
 clear hl
 go_enter Tryz.func132, Tryz.ntmps132
 go_wp2_with (first | (go_at_call 80; refine HL.out.mono ?_; rintro e w1 ⟨rfl, rfl⟩) | (go_at_call 157; refine (pdqI0_any _ _ _).mono ?_; rintro e w2 ⟨rfl, rfl⟩))
 go_end0
 exact ⟨rfl, rfl⟩
theorem sort_ok7 : SortOK7 := by
 intro base v P w hB ho hP hl
 rcases ho.2 with ⟨rfl, hn⟩ | ⟨g, cap, cur, rfl, -⟩
 ·obtain rfl : P = [] := List.eq_nil_of_length_eq_zero hn
  refine (sortI0_any _ w).mono ?_
  rintro e w' ⟨rfl, rfl⟩
  exact ⟨rfl, [], World.ownsRow_nil _ _ _ _, List.Perm.refl _, List.Pairwise.nil, Fr.refl _ _⟩
 ·exact sortR_one g cap base w P ho hP hl
end Go.Proofs.YtechceagghcipabGreatDoor
namespace Go.Proofs.YtechceagghcipabGreatDoor
open Go.RowKit
attribute [local go_sem ↓] Go.wp_at_zero Go.wp_at_succ
def or7 : List Int -> Int
 | [] => 0
 | x :: l => if x = 0 then or7 l else x
set_option maxRecDepth 20000 in
set_option maxHeartbeats 1000000 in
theorem cmpOr7_any (F : Nat -> Prop) (l : List Int) (u : Value) (w : World) (h : Li F w u l) :
  Calls Tryz.prog 52 #[u] w fun e w' => e = .returned (.int .i64 (or7 l)) /\ w' = w := by
 obtain ⟨ad, cap, rfl, g1, g2, -, h⟩ := h
 obtain ⟨n, hn⟩ : ∃ n, l.length = n := ⟨_, rfl⟩
 have hnb : n <= 9223372036854775807 := by omega
 clear g1 g2
 rw [hn]
 go_enter Tryz.func52, Tryz.ntmps52
 go_wp2
 go_loopg [8] n (fun g i wr => ∃ j : Nat, j + g = n /\ i = .int .i64 j /\ or7 l = or7 (l.drop j) /\ wr = w)
 case atStart => exact ⟨0, by omega, rfl, rfl, rfl⟩
 case round =>
  obtain ⟨j, hj, rfl, hc, rfl⟩ := hrel
  have HC := hm7 hc
  clear hc
  cases gk with
  | succ g =>
   have hlt : (j : Int) < (n : Int) := by omega
   have j0 : (0 : Int) <= (j : Int) := by omega
   obtain ⟨x, hx⟩ : ∃ x, l[j]? = some x := ⟨_, List.getElem?_eq_getElem (by omega)⟩
   rcases h with ⟨h, -⟩ | ⟨b1, o1, rfl, hb1, -, h⟩
   ·rw [h] at hx; simp at hx
   have p0 := h j x hx
   have HS : Hid (or7 l = if x = 0 then or7 (l.drop (j + 1)) else x) := by rw [HC.out, drop_cons7 hx]; rfl
   clear h hx
   by_cases hx0 : x = 0
   ·subst hx0
    go_wp2
    go_roundg g
    case measure => omega
    case rel => exact ⟨j + 1, by omega, by go_num, by rw [HS.out, if_pos trivial], rfl⟩
   ·have hk1 : (x == 0) = false := by simp [hx0]
    have hk2 : (x != 0) = true := by simp [hx0]
    go_wp2
    go_ret
    exact ⟨ret_i (by rw [HS.out, if_neg hx0]), rfl⟩
  | zero =>
   have hlt : ¬ (j : Int) < (n : Int) := by omega
   have HS : Hid (or7 l = 0) := by rw [HC.out, show l.drop j = [] from List.drop_eq_nil_of_le (by omega)]; rfl
   clear h hn
   go_wp2
   go_ret
   exact ⟨ret_i HS.out.symm, rfl⟩
structure DB7 (B : Nat) (w w' : World) : Prop extends Go.RowKit.Below B w w' where
 drawn : w.drawn <= w'.drawn
theorem DB7.refl (B : Nat) (w : World) : DB7 B w w := ⟨Go.RowKit.Below.refl _ _, Nat.le_refl _⟩
theorem DB7.trans {B : Nat} {a b c : World} (h : DB7 B a b) (k : DB7 B b c) : DB7 B a c := ⟨h.toBelow.trans k.toBelow, Nat.le_trans h.drawn k.drawn⟩
theorem DB7.mono {B B' : Nat} {w w' : World} (h : DB7 B w w') (hB : B' <= B) : DB7 B' w w' := ⟨h.toBelow.mono hB, h.drawn⟩
theorem DB7.drew {B : Nat} {a w : World} (h : DB7 B a w) : DB7 B a w.drew := ⟨h.toBelow.drew, Nat.le_trans h.drawn (Nat.le_succ _)⟩
theorem DB7.alloc {B : Nat} {a w : World} (h : DB7 B a w) (hB : B <= w.heap.size) (o : Obj) : DB7 B a (w.alloc o) := ⟨h.toBelow.alloc hB o, h.drawn⟩
theorem li_lit7 {w : World} {b n : Nat} {l : List Int} {c : Array Value} (h : Bk w b c 3) (hn : l.length = n) (hc : c.toList = ibs7 l) (hw : w64 l) (hl : n <= 1000) : Li Any w (.slice (some ⟨b, 0, none⟩) n n) l := by
 refine ⟨_, n, by rw [hn], by omega, by omega, hw, Or.inr ⟨b, 0, rfl, h.lt, trivial, fun i x hx => ?_⟩⟩
 rw [Nat.zero_add]
 refine h.cell ?_
 rw [<- Array.getElem?_toList, hc]
 simp [ibs7, hx]
def cc7 (a b : Int × Int) : Int := or7 [sg7 a.1 b.1, sg7 a.2 b.2]
theorem sg7_wf (x y : Int) : (Lit.int .i64 (sg7 x y)).wf = true := by
 rcases sg7_v x y with ⟨e, -⟩ | ⟨e, -⟩ | ⟨e, -⟩ <;> rw [e] <;> rfl
set_option maxRecDepth 20000 in
set_option maxHeartbeats 1000000 in
theorem cells7_any (a1 a2 c1 c2 : Int) (w : World) : Calls Tryz.prog 128 #[.agg #[.int .i64 a1, .int .i64 a2], .agg #[.int .i64 c1, .int .i64 c2]] w fun e w' => e = .returned (.int .i64 (cc7 (a1, a2) (c1, c2))) /\ DB7 w.heap.size w w' := by
 obtain ⟨W2, hW2⟩ : ∃ W2, (w.alloc (.cells #[.int .i64 a1, .int .i64 a2] 174)).alloc (.cells #[.int .i64 c1, .int .i64 c2] 174) = W2 := ⟨_, rfl⟩
 have hz : W2.heap.size = w.heap.size + 2 := by rw [<- hW2]; simp
 have hbw : DB7 w.heap.size w W2 := by rw [<- hW2]; exact ((DB7.refl _ _).alloc (Nat.le_refl _) _).alloc (by simp) _
 have k1 : Bk W2 w.heap.size #[.int .i64 a1, .int .i64 a2] 174 := by rw [<- hW2]; exact (Bk.new _ _ _).below (below1 _ _)
 have k2 : Bk W2 (w.heap.size + 1) #[.int .i64 c1, .int .i64 c2] 174 := by
  have := Bk.new (w.alloc (.cells #[.int .i64 a1, .int .i64 a2] 174)) #[.int .i64 c1, .int .i64 c2] 174
  rw [World.size_alloc, hW2] at this
  exact this
 have HBW := hm7 hbw
 have d0 := k1.cell (i := 0) rfl
 have d1 := k1.cell (i := 1) rfl
 have d2 := k2.cell (i := 0) rfl
 have d3 := k2.cell (i := 1) rfl
 have hg1 := k1.lt
 have hg2 := k2.lt
 have HX : Hid (or7 [sg7 a1 c1, sg7 a2 c2] = cc7 (a1, a2) (c1, c2)) := rfl
 obtain ⟨x, hx⟩ : ∃ x, sg7 a1 c1 = x := ⟨_, rfl⟩
 obtain ⟨y, hy⟩ : ∃ y, sg7 a2 c2 = y := ⟨_, rfl⟩
 have HC1 : Hid (∀ X : World, Calls Tryz.prog 54 #[.int .i64 a1, .int .i64 c1] X fun e w' => e = .returned (.int .i64 x) /\ w' = X) := fun X => by rw [<- hx]; exact cmpI7_any _ _ _
 have HC2 : Hid (∀ X : World, Calls Tryz.prog 54 #[.int .i64 a2, .int .i64 c2] X fun e w' => e = .returned (.int .i64 y) /\ w' = X) := fun X => by rw [<- hy]; exact cmpI7_any _ _ _
 have HW : Hid (w64 [x, y]) := by
  intro z hz
  simp at hz
  rcases hz with rfl | rfl
  ·rw [<- hx]; exact sg7_wf _ _
  ·rw [<- hy]; exact sg7_wf _ _
 rw [hx, hy] at HX
 clear hx hy k1 k2 hbw
 go_enter Tryz.func128, Tryz.ntmps128
 go_upto_region 1 with fail
 clear hW2
 refine wp_region_held_drew (S := fun w' => DB7 W2.heap.size W2 w') (by kernel_rfl) (DB7.refl _ _).drew (fun hH => ?_)
 revert hH
 generalize W2.drew = V0
 intro hH
 refine wTl 0 (.pointer (some ⟨w.heap.size, 0, none⟩)) rfl (by kernel_rfl) (fun _ _ _ h => h) rfl (fun w' h => by clear h; go_simp) hH ?_
 simp only [wA, wB, wC, wD]
 refine wTl 1 (.int .i64 a1) rfl (by kernel_rfl) (fun _ _ _ h => h) rfl (fun w' h => by have q := (h.toBelow.cell (p := ⟨w.heap.size, 0, none⟩) hg1).trans d0; clear h; go_simp) hH ?_
 simp only [wA, wB, wC, wD]
 refine wTl 2 (.pointer (some ⟨w.heap.size + 1, 0, none⟩)) rfl (by kernel_rfl) (fun _ _ _ h => h) rfl (fun w' h => by clear h; go_simp) hH ?_
 simp only [wA, wB, wC, wD]
 refine wTl 3 (.int .i64 c1) rfl (by kernel_rfl) (fun _ _ _ h => h) rfl (fun w' h => by have q := (h.toBelow.cell (p := ⟨w.heap.size + 1, 0, none⟩) hg2).trans d2; clear h; go_simp) hH ?_
 simp only [wA, wB, wC, wD]
 refine wTl 5 (.pointer (some ⟨w.heap.size, 1, none⟩)) rfl (by kernel_rfl) (fun _ _ _ h => h) rfl (fun w' h => by clear h; go_simp) hH ?_
 simp only [wA, wB, wC, wD]
 refine wTl 6 (.int .i64 a2) rfl (by kernel_rfl) (fun _ _ _ h => h) rfl (fun w' h => by have q := (h.toBelow.cell (p := ⟨w.heap.size, 1, none⟩) hg1).trans d1; clear h; go_simp) hH ?_
 simp only [wA, wB, wC, wD]
 refine wTl 7 (.pointer (some ⟨w.heap.size + 1, 1, none⟩)) rfl (by kernel_rfl) (fun _ _ _ h => h) rfl (fun w' h => by clear h; go_simp) hH ?_
 simp only [wA, wB, wC, wD]
 refine wTl 8 (.int .i64 c2) rfl (by kernel_rfl) (fun _ _ _ h => h) rfl (fun w' h => by have q := (h.toBelow.cell (p := ⟨w.heap.size + 1, 1, none⟩) hg2).trans d3; clear h; go_simp) hH ?_
 simp only [wA, wB, wC, wD]
 refine wRd 4 (by kernel_rfl) rfl (fun K hK => ?_)
 go_simp
 refine (HC1.out _).mono ?_
 rintro e V1 ⟨rfl, hV1⟩
 rw [hV1]
 clear hV1 V1
 refine hK.out _ _ hH (fun hH => ?_)
 clear hK K
 try simp only [wA, wB, wC, wD]
 refine wRd 9 (by kernel_rfl) rfl (fun K hK => ?_)
 go_simp
 refine (HC2.out _).mono ?_
 rintro e V1 ⟨rfl, hV1⟩
 rw [hV1]
 clear hV1 V1
 refine hK.out _ _ hH (fun hH => ?_)
 clear hK K
 try simp only [wA, wB, wC, wD]
 refine wRd 10 (by kernel_rfl) rfl (fun K hK => ?_)
 go_simp
 refine hK.out _ _ (hH.alloc hH.toBelow.size _) (fun hH => ?_)
 clear hK K
 try simp only [wA, wB, wC, wD]
 refine wRd 11 (by kernel_rfl) rfl (fun K hK => ?_)
 go_simp
 refine (cmpOr7_any Any [x, y] _ _ (li_lit7 (Bk.new _ _ _) rfl rfl HW.out (by simp))).mono ?_
 rintro e V2 ⟨rfl, hV2⟩
 rw [hV2, HX.out]
 clear hV2 V2
 refine hK.out _ _ hH (fun hH => ?_)
 clear hK K
 try simp only [wA, wB, wC, wD]
 refine wTl 12 (.int .i64 (cc7 (a1, a2) (c1, c2))) rfl (by kernel_rfl) (fun _ _ _ h => h) rfl (fun w' h => by clear h; go_simp) hH ?_
 simp only [wA, wB, wC, wD]
 refine wpAnyH_done (by kernel_rfl) ?_ _
 go_wp2
 go_ret
 exact ⟨rfl, HBW.out.trans (hH.mono (by omega))⟩
end Go.Proofs.YtechceagghcipabGreatDoor
