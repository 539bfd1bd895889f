import Derived.Test.YtechceagghcipaaGreatDoorRA19
import Derived.Test.YtechceagghcipaaGreatDoorShelf
import Derived.Sort.OwnSorted
namespace Go.Proofs.YtechceagghcipaaGreatDoor
open Go.RowKit Go.Shelf Go.Lib Go.Sort

def Rf (w : World) (g : Nat) : Type := { p : List Int × Value // ∀ X : World, RowKit.Below g w X -> Li Any X p.2 p.1 }
instance (w : World) (g : Nat) : Inhabited (Rf w g) := ⟨⟨([], .slice none 0 0), fun _ _ => Li.nil _ _⟩⟩
def Rf.enc {w : World} {g : Nat} (x : Rf w g) : Value := x.1.2
def cfR {w : World} {g : Nat} (x y : Rf w g) : Int := cmpR x.1.1 y.1.1
theorem ltR {w : World} {g : Nat} (x y : Rf w g) : ltOf cfR x y = decide (cmpR x.1.1 y.1.1 < 0) := rfl
theorem swoR (w : World) (g : Nat) : SWO (ltOf (cfR (w := w) (g := g))) where
 irrefl x := by rw [ltR, cmpR_refl]; rfl
 trans x y z h1 h2 := by
  rw [ltR] at *
  simp only [decide_eq_true_eq] at *
  exact cmpR_lt h1 h2
 ntrans x y z h1 h2 := by
  rw [ltR] at *
  simp only [decide_eq_false_iff_not] at *
  have n1 := cmpR_neg x.1.1 y.1.1
  have n2 := cmpR_neg y.1.1 z.1.1
  have n3 := cmpR_neg x.1.1 z.1.1
  have := cmpR_le (a := z.1.1) (b := y.1.1) (c := x.1.1) (by omega) (by omega)
  omega
def rvl {w : World} {g : Nat} (d : Array (Rf w g)) : List Value := d.toList.map Rf.enc
theorem holdsR {w : World} {base g cap : Nat} {d : Array (Rf w g)} (h : w.ownsRow base 71 1 (.slice (some ⟨g, 0, none⟩) d.size cap) d.size (rvl d)) : Holds Rf.enc w g 0 d := by
 intro j hj
 obtain ⟨g', e, -, -, h1, h2⟩ := row7_at h (i := j) (u := (d[j]!).enc) (by rw [getElem!_pos d j hj]; simp [rvl, hj])
 cases e
 rw [Nat.zero_add]
 exact ⟨h1, h2⟩
theorem grownR {w : World} {g n : Nat} {os : Array Obj} {d' : Array (Rf w g)} : w.grownBy (sortWorld Rf.enc w g 0 n d' os) (some g) := by
 refine ⟨rfl, rfl, rfl, by simp [sortWorld, putRow, mapBlock, Sort.ahead], fun k hk hne => ?_⟩
 unfold sortWorld
 rw [heap_grow_old _ _ (by simpa [putRow, mapBlock, Sort.ahead] using hk)]
 have : g ≠ k := fun e => hne (by rw [e])
 simp [putRow, mapBlock, Sort.ahead, Array.getElem?_modify, this]
theorem belowR {w : World} {g n : Nat} {os : Array Obj} {d' : Array (Rf w g)} (hgs : g < w.heap.size) : RowKit.Below g w (sortWorld Rf.enc w g 0 n d' os) :=
 (RowKit.Below.refl _ _).grown grownR (Nat.le_of_lt hgs) (fun q e => by cases e; exact Nat.le_refl _)
theorem grow_self (w : World) : ∃ q os', w = grow (w.drewN q) os' := ⟨0, #[], by rw [grow_empty]; rfl⟩
theorem cmpLaysR (blk size : Nat) (w : World) (hgs : blk < w.heap.size) : CmpLays1 Tryz.prog 129 #[] (Rf.enc (w := w) (g := blk)) cfR blk 0 size w :=
 fun _ _ _ _ x y => (compareI7_any Any Any x.1.1 y.1.1 _ _ _ (x.2 _ (belowR hgs)) (y.2 _ (belowR hgs))).mono fun _ w' ⟨he, hb⟩ => ⟨he, hb ▸ grow_self w'⟩
theorem ownR {w : World} {base g cap n : Nat} {os : Array Obj} {d d' : Array (Rf w g)} (h : w.ownsRow base 71 1 (.slice (some ⟨g, 0, none⟩) d.size cap) d.size (rvl d)) (hs : d'.size = d.size) :
  (sortWorld Rf.enc w g 0 n d' os).ownsRow base 71 1 (.slice (some ⟨g, 0, none⟩) d.size cap) d.size (rvl d') := by
 rcases h.2 with ⟨h, _⟩ | ⟨g', cap', cur, hv, hb, hg, hn, hc, hsz, ht⟩
 ·cases h
 ·simp only [Value.slice.injEq, Option.some.injEq, Addr.mk.injEq] at hv
  obtain ⟨⟨rfl, -⟩, -, rfl⟩ := hv
  have hgs : g < w.heap.size := (Array.getElem?_eq_some_iff.1 hg).1
  have hH : (sortWorld Rf.enc w g 0 n d' os).heap[g]? = some (.cells (putCells Rf.enc 0 d' cur) 71 (0, 0)) := by
   unfold sortWorld
   rw [heap_grow_old _ _ (by simpa [putRow, mapBlock, Sort.ahead] using hgs)]
   simp [putRow, mapBlock, Sort.ahead, Array.getElem?_modify, hg, onCells]
  have hl : (rvl d').length = d.size := by simp [rvl, hs]
  refine ⟨by rw [hl, Nat.mul_one], Or.inr ⟨g, cap, _, rfl, hb, hH, hn, hc, by simp [putCells, hsz], ?_⟩⟩
  apply List.ext_getElem?
  intro j
  by_cases hj : j < d.size * 1
  ·have hjc : j < cur.size := by rw [hsz]; exact Nat.lt_of_lt_of_le hj (Nat.mul_le_mul_right 1 hn)
   have hjd : j < d'.size := by omega
   rw [List.getElem?_take_of_lt hj, Array.getElem?_toList]
   simp [putCells, hjc, hjd, rvl]
  ·rw [List.getElem?_take_eq_none (by omega), List.getElem?_eq_none (by omega)]
theorem perm_ofR {w : World} {g : Nat} {d d' : Array (Rf w g)} (h : PermIn 0 d.size d d') : d'.toList.Perm d.toList := by
 obtain ⟨hs, -, hp⟩ := h
 have e1 : d'.extract 0 d.size = d' := by rw [<- hs]; simp
 have e2 : d.extract 0 d.size = d := by simp
 rw [e1, e2] at hp
 exact hp
theorem srt_ofR {w : World} {g : Nat} {d d' : Array (Rf w g)} (hs : d'.size = d.size) (h : SortedIn (ltOf cfR) 0 d.size d') : srtR (d'.toList.map fun x => x.1.1) := by
 unfold srtR
 rw [List.pairwise_iff_getElem]
 intro i j hi hj hij
 have hj' : j < d'.size := by simpa using hj
 have hi' : i < d'.size := by simpa using hi
 have := h i j (Nat.zero_le _) hij (by omega)
 rw [ltR, getElem!_pos d' j hj', getElem!_pos d' i hi'] at this
 simp only [decide_eq_false_iff_not] at this
 simp only [List.getElem_map, Array.getElem_toList]
 have := cmpR_neg (d'[i]).1.1 (d'[j]).1.1
 omega
def toRf {w : World} {g : Nat} : (P : List (List Int × Value)) -> (∀ p ∈ P, ∀ X : World, RowKit.Below g w X -> Li Any X p.2 p.1) -> List (Rf w g)
 | [], _ => []
 | p :: P, h => ⟨p, h p (by simp)⟩ :: toRf P fun q hq => h q (by simp [hq])
theorem toRf_map {w : World} {g : Nat} : ∀ (P : List (List Int × Value)) (h : ∀ p ∈ P, ∀ X : World, RowKit.Below g w X -> Li Any X p.2 p.1), (toRf P h).map (fun x : Rf w g => x.1) = P
 | [], _ => rfl
 | p :: P, h => congrArg (p :: ·) (toRf_map P fun q hq => h q (by simp [hq]))
set_option maxHeartbeats 1000000 in
theorem sortR_one (g cap base : Nat) (w : World) (P : List (List Int × Value)) (h : w.ownsRow base 71 1 (.slice (some ⟨g, 0, none⟩) P.length cap) P.length (P.map Prod.snd)) (hP : ∀ p ∈ P, Li (fun b => b < base) w p.2 p.1) (hl : P.length <= 100000000000) :
  Calls Tryz.prog 128 #[.slice (some ⟨g, 0, none⟩) P.length cap, .func (.func 129) #[] #[]] w (SO7 base (.slice (some ⟨g, 0, none⟩) P.length cap) P w) := by
 have hlt := h.lt g rfl
 have hst : ∀ p ∈ P, ∀ X : World, RowKit.Below g w X -> Li Any X p.2 p.1 := fun p hp X hX => (Li.fr (P := fun b => g <= b) (hP p hp) ⟨hX.os, hX.tape, hX.output, hX.size, fun k _ hk => hX.block k (by omega)⟩ fun b _ hb hc => by omega).any
 obtain ⟨d, hd⟩ : ∃ d : Array (Rf w g), d.toList = toRf P hst := ⟨(toRf P hst).toArray, rfl⟩
 have hdm : d.toList.map (fun x : Rf w g => x.1) = P := by rw [hd]; exact toRf_map P hst
 have hds : d.size = P.length := by rw [<- hdm]; simp
 have hrv : rvl d = P.map Prod.snd := by
  unfold rvl
  conv => rhs; rw [<- hdm]
  rw [List.map_map]; rfl
 rw [<- hds, <- hrv] at h
 have eg : ∀ args w, (callFunc 129 args).run Tryz.prog w = .ok (.enter 129 args) w := enters_of Tryz.func129 (by kernel_rfl) rfl
 have hp := Any.slices_SortFunc (P := Tryz.prog) Tryz.sortFI Rf.enc (fun x => by obtain ⟨a, cp, e1, -⟩ := x.2 w (RowKit.Below.refl _ _); unfold Rf.enc; rw [e1]; rfl) cfR (swoR w g) 129 #[] g 0 cap d w eg (cmpLaysR g d.size w hlt.2) (holdsR h) hlt.2 (by omega)
 change Calls Tryz.prog 128 _ _ _ at hp
 rw [<- hds]
 refine hp.mono ?_
 rintro e w' ⟨rfl, d', n, os, hpm, hsr, rfl⟩
 refine ⟨rfl, d'.toList.map (fun x : Rf w g => x.1), ?_, ?_, ?_, Fr.grown grownR fun b e => by cases e; exact hlt.1⟩
 ·have := ownR (os := os) (n := n) h hpm.1
  rw [<- hds]
  have em : (d'.toList.map (fun x : Rf w g => x.1)).map Prod.snd = rvl d' := by rw [List.map_map]; rfl
  rw [em]
  exact this
 ·rw [<- hdm]; exact (perm_ofR hpm).map _
 ·have := srt_ofR hpm.1 hsr
  simpa [Function.comp_def] using this
set_option maxRecDepth 100000 in
set_option maxHeartbeats 2000000 in
theorem insertI0_any (c : Value) (w : World) : Calls Tryz.prog 190 #[.slice none 0 0, .int .i64 0, .int .i64 0, c] w fun e w' => e = .returned (.tuple #[]) /\ w' = w := by
 go_enter Tryz.func190, Tryz.ntmps190
 go_wp2
 go_loopg [8] 0 (fun g i wr => i = .int .i64 1 /\ wr = w)
 case atStart => exact ⟨rfl, rfl⟩
 case round =>
  obtain ⟨rfl, rfl⟩ := hrel
  go_wp2
  go_end0
  exact ⟨rfl, rfl⟩
set_option maxRecDepth 100000 in
set_option maxHeartbeats 2000000 in
theorem pdqI0_any (c : Value) (l : Int) (w : World) : Calls Tryz.prog 159 #[.slice none 0 0, .int .i64 0, .int .i64 0, .int .i64 l, c] w fun e w' => e = .returned (.tuple #[]) /\ w' = w := by
 go_enter Tryz.func159, Tryz.ntmps159
 go_wp2
 go_loopg [1, 2, 3, 10, 11] 0 (fun g s1 s2 s3 s8 s9 wr => s1 = .int .i64 0 /\ s2 = .int .i64 0 /\ s3 = .int .i64 l /\ s8 = .bool true /\ s9 = .bool true /\ wr = w)
 case atStart => exact ⟨rfl, rfl, rfl, rfl, rfl, rfl⟩
 case round =>
  obtain ⟨rfl, rfl, rfl, rfl, rfl, rfl⟩ := hrel
  go_wp2_with (go_at_call 190; refine (insertI0_any _ _).mono ?_; rintro e w1 ⟨rfl, rfl⟩)
  (try simp only [Exit.inBlock, Exit.then])
  refine bodyPost_ret (results_none rfl _ _ _) rfl ?_
  exact ⟨rfl, rfl⟩
set_option maxRecDepth 20000 in
theorem sortI0_any (c : Value) (w : World) : Calls Tryz.prog 128 #[.slice none 0 0, c] w fun e w' => e = .returned (.tuple #[]) /\ w' = w := by
 have hl := Any.bits_Len Tryz.bitsLen 0 w (by omega) (by omega)
 change Calls Tryz.prog 64 _ _ _ at hl
 have HL := hm7 hl
 clear hl
 go_enter Tryz.func128, Tryz.ntmps128
 go_wp2_with (first | (go_at_call 64; refine HL.out.mono ?_; rintro e w1 ⟨rfl, rfl⟩) | (go_at_call 159; refine (pdqI0_any _ _ _).mono ?_; rintro e w2 ⟨rfl, rfl⟩))
 go_end0
 exact ⟨rfl, rfl⟩
theorem sort_ok7 : SortOK7 := by
 intro base v P w hB ho hP hl
 rcases ho.2 with ⟨rfl, hn⟩ | ⟨g, cap, cur, rfl, -⟩
 ·obtain rfl : P = [] := List.eq_nil_of_length_eq_zero hn
  refine (sortI0_any _ w).mono ?_
  rintro e w' ⟨rfl, rfl⟩
  exact ⟨rfl, [], World.ownsRow_nil _ _ _ _, List.Perm.refl _, List.Pairwise.nil, Fr.refl _ _⟩
 ·exact sortR_one g cap base w P ho hP hl
end Go.Proofs.YtechceagghcipaaGreatDoor
