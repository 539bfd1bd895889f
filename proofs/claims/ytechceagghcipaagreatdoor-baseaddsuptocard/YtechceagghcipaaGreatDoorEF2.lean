import Derived.Test.YtechceagghcipaaGreatDoorAA0
import Derived.Test.YtechceagghcipaaGreatDoorEE8
import Derived.Test.YtechceagghcipaaGreatDoorCN4
import Derived.LoopN
namespace Go.Proofs.YtechceagghcipaaGreatDoor
open Go.RowKit Go.Shelf Go.Lib Go.Sort

set_option maxHeartbeats 400000 in
theorem or28_any (x y : Int) (b : Nat) (w : World) (h : CBlk w b #[.int .i64 x, .int .i64 y] 3) :
  Calls Tryz.prog 44 #[.slice (some ⟨b, 0, none⟩) 2 2] w fun e w' => e = .returned (.int .i64 (if x ≠ 0 then x else y)) /\ w' = w := by
 have c0 : w.cell? ⟨b, 0, none⟩ = some (.int .i64 x) := cell_of_row _ _ _ _ _ _ h
 have c1 : w.cell? ⟨b, 1, none⟩ = some (.int .i64 y) := cell_of_row _ _ _ _ _ _ h
 clear h
 obtain ⟨R, hR⟩ : ∃ R, (if x ≠ 0 then x else y) = R := ⟨_, rfl⟩
 rw [hR]
 by_cases hx : x = 0
 ·by_cases hy : y = 0
  ·have HR : Hid ((0 : Int) = R) := by rw [<- hR, if_neg (by simp [hx])]; exact hy.symm
   subst hx hy
   clear hR
   go_enter Tryz.func44, Tryz.ntmps44
   go_wp2
   refine wp_loop_rounds 3 ?_
   rw [rounds_succ]; go_wp2
   rw [rounds_succ]; go_wp2
   rw [rounds_succ]; go_wp2
   go_ret
   exact ⟨ret_i HR.out, rfl⟩
  ·have HR : Hid (y = R) := (by rw [<- hR, if_neg (by simp [hx])] : y = R)
   have n1 : (y == 0) = false := beq_eq_false_iff_ne.2 hy
   have n2 : (y != 0) = true := by rw [bne, n1]; rfl
   subst hx
   clear hR hy
   go_enter Tryz.func44, Tryz.ntmps44
   go_wp2
   refine wp_loop_rounds 2 ?_
   rw [rounds_succ]; go_wp2
   rw [rounds_succ]; go_wp2
   go_ret
   exact ⟨ret_i HR.out, rfl⟩
 ·have HR : Hid (x = R) := (by rw [<- hR, if_pos hx] : x = R)
  have n1 : (x == 0) = false := beq_eq_false_iff_ne.2 hx
  have n2 : (x != 0) = true := by rw [bne, n1]; rfl
  clear hR hx
  go_enter Tryz.func44, Tryz.ntmps44
  go_wp2
  refine wp_loop_rounds 1 ?_
  rw [rounds_succ]; go_wp2
  go_ret
  exact ⟨ret_i HR.out, rfl⟩
set_option maxRecDepth 20000 in
set_option maxHeartbeats 4000000 in
theorem comparePD8_any (p q : Pd) (w : World) : Calls Tryz.prog 43 #[p.v, q.v] w fun e w' => e = .returned (.int .i64 (cmpP p q)) /\ DBelow w.heap.size w w' := by
 have HR : Hid (∀ (b : Nat) (X : World), CBlk X b #[.int .i64 (M.sgL p.nm.toList q.nm.toList), .int .i64 (M.sgI p.ar q.ar)] 3 -> Calls Tryz.prog 44 #[.slice (some ⟨b, 0, none⟩) 2 2] X fun e w' => e = .returned (.int .i64 (cmpP p q)) /\ w' = X) := fun b X h => or28_any _ _ b X h
 obtain ⟨R, hR⟩ : ∃ R, cmpP p q = R := ⟨_, rfl⟩
 rw [hR] at HR ⊢
 clear hR
 obtain ⟨n, a⟩ := p
 obtain ⟨m, b⟩ := q
 have B1 : Hid (CBlk ((w.alloc (.cells #[.string n, .int .i64 a] 60)).alloc (.cells #[.string m, .int .i64 b] 60)) w.heap.size #[.string n, .int .i64 a] 60) := (CBlk.new _ _ _).later (below1 _ _)
 have B2 : Hid (CBlk ((w.alloc (.cells #[.string n, .int .i64 a] 60)).alloc (.cells #[.string m, .int .i64 b] 60)) (w.heap.size + 1) #[.string m, .int .i64 b] 60) := by
  have := CBlk.new (w.alloc (.cells #[.string n, .int .i64 a] 60)) #[.string m, .int .i64 b] 60
  rw [show (w.alloc (.cells #[.string n, .int .i64 a] 60)).heap.size = w.heap.size + 1 by simp] at this
  exact this
 have HB : Hid (DBelow w.heap.size w ((w.alloc (.cells #[.string n, .int .i64 a] 60)).alloc (.cells #[.string m, .int .i64 b] 60))) := dbelow2 _ _ _
 go_enter Tryz.func43, Tryz.ntmps43
 go_upto_region 1 with fail
 revert B1 B2 HB
 generalize (w.alloc (.cells #[.string n, .int .i64 a] 60)).alloc (.cells #[.string m, .int .i64 b] 60) = W
 intro B1 B2 HB
 refine wp_region_held_drew (S := fun w' => DBelow W.heap.size W w') (by kernel_rfl) (DBelow.refl _ _).drew (fun hH => ?_)
 revert hH
 generalize W.drew = V
 intro hH
 refine wTk 0 (.pointer (some ⟨w.heap.size, 0, none⟩)) rfl (by kernel_rfl) (fun _ _ _ h => h) (Or.inl ⟨by rfl, fun w' h => by clear h; go_simp⟩) hH ?_
 simp only [wA8, wB8, wC8, wD8]
 refine wTk 1 (.string n) rfl (by kernel_rfl) (fun _ _ _ h => h) (Or.inl ⟨by rfl, fun w' h => by have hc := CBlk.later (Hid.out B1) h.toBelow; have y0 : w'.cell? ⟨w.heap.size, 0, none⟩ = some (.string n) := cell_of_row _ _ _ _ _ _ hc; clear h hc; go_simp⟩) hH ?_
 simp only [wA8, wB8, wC8, wD8]
 refine wTk 2 (.pointer (some ⟨w.heap.size + 1, 0, none⟩)) rfl (by kernel_rfl) (fun _ _ _ h => h) (Or.inl ⟨by rfl, fun w' h => by clear h; go_simp⟩) hH ?_
 simp only [wA8, wB8, wC8, wD8]
 refine wTk 3 (.string m) rfl (by kernel_rfl) (fun _ _ _ h => h) (Or.inl ⟨by rfl, fun w' h => by have hc := CBlk.later (Hid.out B2) h.toBelow; have y0 : w'.cell? ⟨w.heap.size + 1, 0, none⟩ = some (.string m) := cell_of_row _ _ _ _ _ _ hc; clear h hc; go_simp⟩) hH ?_
 simp only [wA8, wB8, wC8, wD8]
 refine wTk 5 (.pointer (some ⟨w.heap.size, 1, none⟩)) rfl (by kernel_rfl) (fun _ _ _ h => h) (Or.inl ⟨by rfl, fun w' h => by clear h; go_simp⟩) hH ?_
 simp only [wA8, wB8, wC8, wD8]
 refine wTk 6 (.int .i64 a) rfl (by kernel_rfl) (fun _ _ _ h => h) (Or.inl ⟨by rfl, fun w' h => by have hc := CBlk.later (Hid.out B1) h.toBelow; have y0 : w'.cell? ⟨w.heap.size, 1, none⟩ = some (.int .i64 a) := cell_of_row _ _ _ _ _ _ hc; clear h hc; go_simp⟩) hH ?_
 simp only [wA8, wB8, wC8, wD8]
 refine wTk 7 (.pointer (some ⟨w.heap.size + 1, 1, none⟩)) rfl (by kernel_rfl) (fun _ _ _ h => h) (Or.inl ⟨by rfl, fun w' h => by clear h; go_simp⟩) hH ?_
 simp only [wA8, wB8, wC8, wD8]
 refine wTk 8 (.int .i64 b) rfl (by kernel_rfl) (fun _ _ _ h => h) (Or.inl ⟨by rfl, fun w' h => by have hc := CBlk.later (Hid.out B2) h.toBelow; have y0 : w'.cell? ⟨w.heap.size + 1, 1, none⟩ = some (.int .i64 b) := cell_of_row _ _ _ _ _ _ hc; clear h hc; go_simp⟩) hH ?_
 simp only [wA8, wB8, wC8, wD8]
 refine wRd 4 (by kernel_rfl) rfl (fun K hK => ?_)
 go_simp
 refine (cmpS_any _ _ _).mono ?_
 rintro e V1 ⟨rfl, rfl⟩
 refine hK.out _ _ hH (fun hH => ?_)
 clear hK K
 refine wRd 9 (by kernel_rfl) rfl (fun K hK => ?_)
 go_simp
 refine (cmpI_any _ _ _).mono ?_
 rintro e V1 ⟨rfl, rfl⟩
 refine hK.out _ _ hH (fun hH => ?_)
 clear hK K
 refine wRd 10 (by kernel_rfl) rfl (fun K hK => ?_)
 go_simp
 refine hK.out _ _ (hH.alloc hH.toBelow.size _) (fun hH => ?_)
 clear hK K
 refine wRd 11 (by kernel_rfl) rfl (fun K hK => ?_)
 go_simp
 refine (HR.out _ _ (CBlk.new _ _ _)).mono ?_
 rintro e V2 ⟨rfl, rfl⟩
 refine hK.out _ _ hH (fun hH => ?_)
 clear hK K
 refine wTk 12 (.int .i64 R) rfl (by kernel_rfl) (fun _ _ _ h => h) (Or.inl ⟨by rfl, fun w' h => by clear h; go_simp⟩) hH ?_
 simp only [wA8, wB8, wC8, wD8]
 refine wpAnyH_done (by kernel_rfl) ?_ _
 go_wp2
 go_ret
 exact ⟨rfl, HB.out.trans (hH.mono HB.out.toBelow.size)⟩
instance : Inhabited Pd := ⟨⟨⟨#[]⟩, 0⟩⟩
theorem lt8P (x y : Pd) : ltOf cmpP x y = decide (cmpP x y < 0) := rfl
theorem swo8P : SWO (ltOf cmpP) where
 irrefl x := by rw [lt8P, ord_pd.refl]; rfl
 trans x y z h1 h2 := by
  rw [lt8P] at *
  simp only [decide_eq_true_eq] at *
  exact (ord_pd.tr _ _ _ (by omega) (by omega)).2 (Or.inl h1)
 ntrans x y z h1 h2 := by
  rw [lt8P] at *
  simp only [decide_eq_false_iff_not] at *
  have n1 := ord_pd.neg x y
  have n2 := ord_pd.neg y z
  have n3 := ord_pd.neg x z
  have := (ord_pd.tr z y x (by omega) (by omega)).1
  omega
theorem flat8P (d : Array Pd) : flatK Pd.cs 2 d = (pcs (d.toList)).toArray := by
 apply Array.ext
 ·simp [pcs_len]
 ·intro t h1 h2
  have ht : t < d.size * 2 := by simpa using h1
  have hq : t / 2 < d.size := by omega
  have hd : (d.toList)[t / 2]? = some (d[t / 2]!) := by
   rw [getElem!_pos d (t / 2) hq]; simp [hq]
  have hg := pcs_get (d.toList) (t / 2) _ hd (t % 2) (by omega)
  rw [show t / 2 * 2 + t % 2 = t by omega] at hg
  have e1 : (flatK Pd.cs 2 d)[t] = (Pd.cs d[t / 2]!)[t % 2]! := by
   have := get_flatK Pd.cs 2 d t ht
   rwa [getElem!_pos _ t h1] at this
  rw [e1]
  have hc : t % 2 < (Pd.cs d[t / 2]!).length := by simp [Pd.cs]; omega
  rw [getElem!_pos (Pd.cs d[t / 2]!) (t % 2) hc]
  have h3 : t < (pcs (d.toList)).length := by simpa using h2
  have hg2 : (pcs (d.toList))[t]? = (Pd.cs d[t / 2]!)[t % 2]? := hg
  rw [List.getElem?_eq_getElem hc, List.getElem?_eq_getElem h3] at hg2
  simpa using (Option.some.inj hg2).symm
theorem holds8P {w : World} {base g cap : Nat} {d : Array Pd} (h : OwnP w base (.slice (some ⟨g, 0, none⟩) d.size cap) (d.toList)) : HoldsK Pd.cs 2 w g 0 d := by
 rcases h.2 with ⟨h, _⟩ | ⟨g', cap', cur, hv, hb, hg, hn, hc, hs, ht⟩
 ·cases h
 ·simp only [Value.slice.injEq, Option.some.injEq, Addr.mk.injEq] at hv
  obtain ⟨⟨rfl, -⟩, -, rfl⟩ := hv
  intro j hj
  rw [flat8P] at hj ⊢
  have hj' : j < (pcs (d.toList)).length := by simpa using hj
  refine ⟨?_, by simp [World.frozen?, hg]⟩
  rw [Nat.zero_add, cell_of_row _ _ _ _ _ _ hg, getElem!_pos _ j hj]
  have h1 : (cur.toList.take ((d.toList).length * 2))[j]? = (pcs (d.toList))[j]? := by rw [ht]
  rw [List.getElem?_take_of_lt (by rw [pcs_len] at hj'; exact hj'), List.getElem?_eq_getElem hj'] at h1
  simpa using h1
theorem grown8P {w : World} {g n : Nat} {os : Array Obj} {d' : Array Pd} : w.grownBy (sortWorldK Pd.cs 2 w g 0 n d' os) (some g) := by
 refine ⟨rfl, rfl, rfl, by simp [sortWorldK, putRowK], fun k hk hne => ?_⟩
 unfold sortWorldK putRowK
 rw [heap_grow_old _ _ (by simpa using hk)]
 have : g ≠ k := fun e => hne (by rw [e])
 simp [putRow, mapBlock, Sort.ahead, Array.getElem?_modify, this]
theorem below8P {w : World} {g n : Nat} {os : Array Obj} {d' : Array Pd} (hgs : g < w.heap.size) : RowKit.Below g w (sortWorldK Pd.cs 2 w g 0 n d' os) :=
 (RowKit.Below.refl _ _).grown grown8P (Nat.le_of_lt hgs) (fun q e => by cases e; exact Nat.le_refl _)
theorem cmpLays8P (blk size : Nat) (w : World) : CmpLays Tryz.prog 43 #[] Pd.cs 2 cmpP blk 0 size w :=
 fun _ _ _ _ x y => (comparePD8_any x y _).mono fun _ _ ⟨he, hb⟩ => ⟨he, dbelow_grow8 hb⟩
theorem own8P {w : World} {base g cap n : Nat} {os : Array Obj} {d d' : Array Pd} (h : OwnP w base (.slice (some ⟨g, 0, none⟩) d.size cap) (d.toList)) (hs : d'.size = d.size) :
  OwnP (sortWorldK Pd.cs 2 w g 0 n d' os) base (.slice (some ⟨g, 0, none⟩) d.size cap) (d'.toList) := by
 rcases h.2 with ⟨h, _⟩ | ⟨g', cap', cur, hv, hb, hg, hn, hc, hsz, ht⟩
 ·cases h
 ·simp only [Value.slice.injEq, Option.some.injEq, Addr.mk.injEq] at hv
  obtain ⟨⟨rfl, -⟩, -, rfl⟩ := hv
  have hgs : g < w.heap.size := (Array.getElem?_eq_some_iff.1 hg).1
  have hH : (sortWorldK Pd.cs 2 w g 0 n d' os).heap[g]? = some (.cells (putCells id 0 (pcs (d'.toList)).toArray cur) 60 (0, 0)) := by
   unfold sortWorldK putRowK
   rw [flat8P, heap_grow_old _ _ (by simpa using hgs)]
   simp [putRow, mapBlock, Sort.ahead, Array.getElem?_modify, hg, onCells]
  have hl : (d'.toList).length = (d.toList).length := by simp [hs]
  refine ⟨pcs_len _, Or.inr ⟨g, cap, _, by simp [hs], hb, hH, by rw [hl]; exact hn, hc, by simp [putCells, hsz], ?_⟩⟩
  apply List.ext_getElem?
  intro j
  by_cases hj : j < (d'.toList).length * 2
  ·have hjc : j < cur.size := by rw [hsz]; rw [hl] at hj; exact Nat.lt_of_lt_of_le hj (Nat.mul_le_mul_right 2 hn)
   have hjb : j < (pcs (d'.toList)).length := by rw [pcs_len]; exact hj
   rw [List.getElem?_take_of_lt hj, Array.getElem?_toList]
   simp [putCells, hjb, hjc]
  ·rw [List.getElem?_take_eq_none (by omega), List.getElem?_eq_none (by rw [pcs_len]; omega)]
def srt8P (l : List Pd) : Prop := l.Pairwise fun a b => cmpP a b <= 0
theorem perm_of8P {d d' : Array Pd} (h : PermIn 0 d.size d d') : (d'.toList).Perm (d.toList) := by
 obtain ⟨hs, -, hp⟩ := h
 have e1 : d'.extract 0 d.size = d' := by rw [<- hs]; simp
 have e2 : d.extract 0 d.size = d := by simp
 rw [e1, e2] at hp
 exact hp
theorem srt_of8P {d d' : Array Pd} (hs : d'.size = d.size) (h : SortedIn (ltOf cmpP) 0 d.size d') : srt8P (d'.toList) := by
 unfold srt8P
 rw [List.pairwise_iff_getElem]
 intro i j hi hj hij
 have hj' : j < d'.size := by simpa using hj
 have hi' : i < d'.size := by simpa using hi
 have := h i j (Nat.zero_le _) hij (by omega)
 rw [lt8P, getElem!_pos d' j hj', getElem!_pos d' i hi'] at this
 simp only [decide_eq_false_iff_not] at this
 simp only [Array.getElem_toList]
 have := ord_pd.neg d'[i] d'[j]
 omega
set_option maxHeartbeats 2000000 in
theorem sortFunc8P_all (g cap base : Nat) (w : World) (d : Array Pd) (h : OwnP w base (.slice (some ⟨g, 0, none⟩) d.size cap) (d.toList)) (hsz : d.size < 4611686018427387904) :
  Calls Tryz.prog 67 #[.slice (some ⟨g, 0, none⟩) d.size cap, .func (.func 43) #[] #[]] w fun e w' => e = .returned (.tuple #[]) /\ ∃ l', OwnP w' base (.slice (some ⟨g, 0, none⟩) d.size cap) l' /\ l'.Perm (d.toList) /\ srt8P l' /\ RowKit.Below g w w' := by
 have hlt := h.lt g rfl
 have eg : ∀ args w, (callFunc 43 args).run Tryz.prog w = .ok (.enter 43 args) w := enters_of Tryz.func43 (by kernel_rfl) rfl
 have hlim : Lib.bitLen d.size < 4611686018427387904 := Nat.lt_of_le_of_lt (Lib.bitLen_le d.size 62 (by omega) (by omega)) (by omega)
 have hp := AnyQ.pdqsortCmpFunc_all (P := Tryz.prog) Tryz.pdqPd 2 Tryz.isAgg60 Tryz.sizeOf60 Pd.cs cmpP 43 #[] (swo8P) g 0 cap d w eg (cmpLays8P g d.size w)
  ⟨fun _ => rfl, fun x v hv => by
   simp only [Pd.cs] at hv
   simp at hv
   rcases hv with rfl | rfl <;> rfl, holds8P h, hlt.2⟩ (d.size + 1) 0 d.size (Lib.bitLen d.size) d w (by omega) rfl (SWK.start (holds8P h)) (Nat.zero_le _) (Nat.le_refl _) hsz hlim (Or.inl rfl)
 change Calls Tryz.prog 105 _ _ _ at hp
 have hl := Any.bits_Len Tryz.bitsLen (d.size : Int) w (by omega) (by omega)
 change Calls Tryz.prog 64 _ _ _ at hl
 rw [Int.toNat_natCast] at hl
 have hs := pdq_sorts (ltOf cmpP) (swo8P) d 0 d.size (Lib.bitLen d.size) true true (Nat.zero_le _) (Nat.le_refl _) (Or.inl rfl)
 obtain ⟨d', hd'⟩ : ∃ d', pdq (ltOf cmpP) d 0 d.size (Lib.bitLen d.size) true true = d' := ⟨_, rfl⟩
 rw [hd'] at hp hs
 have HP : Hid (Calls Tryz.prog 105 #[.slice (some ⟨g, 0, none⟩) d.size cap, .int .i64 ((0 : Nat) : Int), .int .i64 d.size, .int .i64 (Lib.bitLen d.size), .func (.func 43) #[] #[]] w fun e w' => e = .returned (.tuple #[]) /\ SWK Pd.cs 2 w g 0 d' w') := hp
 have HS : Hid (PermIn 0 d.size d d' /\ SortedIn (ltOf cmpP) 0 d.size d') := hs
 have HO : Hid (OwnP w base (.slice (some ⟨g, 0, none⟩) d.size cap) (d.toList)) := h
 have HL : Hid (Calls Tryz.prog 64 #[.int .u64 (d.size : Int)] w fun e w' => e = .returned (.int .i64 (Lib.bitLen d.size)) /\ w' = w) := hl
 have wr : IntKind.u64.wrap (d.size : Int) = d.size := by rw [IntKind.wrap_u64]; omega
 clear hp hs h hl hd' eg
 go_enter Tryz.func67, Tryz.ntmps67
 go_wp2_with (first
  | (go_at_call 64; refine HL.out.mono ?_; rintro e w1 ⟨rfl, rfl⟩)
  | (go_at_call 105; refine HP.out.mono ?_; rintro e w2 ⟨rfl, hw2⟩))
 go_end0
 obtain ⟨n, os, rfl⟩ := hw2
 exact ⟨rfl, d'.toList, own8P HO.out HS.out.1.1, perm_of8P HS.out.1, srt_of8P HS.out.1.1 HS.out.2, below8P hlt.2⟩
theorem ins_tiny8P (v f : Value) (n : Nat) (h : n <= 1) (w : World) : Calls Tryz.prog 135 #[v, .int .i64 0, .int .i64 n, f] w fun e w' => e = .returned (.tuple #[]) /\ w' = w := by
 have hn : ¬ (1 : Int) < (n : Int) := by omega
 go_enter Tryz.func135, Tryz.ntmps135
 go_wp2
 go_loop [8] (fun i => i = .int .i64 1) (fun _ => 0)
 case atStart => rfl
 case round =>
  subst hrel
  go_wp2
  go_end0
  exact ⟨rfl, rfl⟩
theorem pdq_tiny8P (v f : Value) (n : Nat) (h : n <= 1) (m : Int) (w : World) : Calls Tryz.prog 105 #[v, .int .i64 0, .int .i64 n, .int .i64 m, f] w fun e w' => e = .returned (.tuple #[]) /\ w' = w := by
 have hn : (n : Int) <= 12 := by omega
 have hn0 : (0 : Int) <= n := by omega
 go_enter Tryz.func105, Tryz.ntmps105
 go_wp2
 go_loop [1, 2] (fun a b => a = .int .i64 0 /\ b = .int .i64 n) (fun _ _ => 0)
 case atStart => exact ⟨rfl, rfl⟩
 case round =>
  obtain ⟨rfl, rfl⟩ := hrel
  go_wp2_with (go_at_call 135; refine (ins_tiny8P _ _ _ h _).mono ?_; rintro e w1 ⟨rfl, rfl⟩)
  (try simp only [Exit.inBlock, Exit.then])
  refine bodyPost_ret (results_none rfl _ _ _) rfl ?_
  exact ⟨rfl, rfl⟩
theorem sortFunc_tiny8P (a : Option Addr) (f : Value) (n cap : Nat) (h : n <= 1) (w : World) : Calls Tryz.prog 67 #[.slice a n cap, f] w fun e w' => e = .returned (.tuple #[]) /\ w' = w := by
 have hw : IntKind.u64.wrap (n : Int) = n := by rw [IntKind.wrap_u64]; omega
 have hl := Any.bits_Len Tryz.bitsLen (n : Int) w (by omega) (by omega)
 change Calls Tryz.prog 64 _ _ _ at hl
 have HL := hm7 hl
 clear hl
 go_enter Tryz.func67, Tryz.ntmps67
 go_wp2_with (first
  | (go_at_call 64; refine HL.out.mono ?_; rintro e w1 ⟨rfl, rfl⟩)
  | (go_at_call 105; refine (pdq_tiny8P _ _ n h _ _).mono ?_; rintro e w1 ⟨rfl, rfl⟩))
 go_end0
 exact ⟨rfl, rfl⟩
theorem sort8P_any (l : List Pd) (v : Value) (base : Nat) (w : World) (h : OwnP w base v l) (hl : l.length < 4611686018427387904) :
  Calls Tryz.prog 67 #[v, .func (.func 43) #[] #[]] w fun e w' => e = .returned (.tuple #[]) /\ ∃ l', OwnP w' base v l' /\ l'.Perm l /\ srt8P l' /\ Below base w w' := by
 rcases h.2 with ⟨rfl, hn⟩ | ⟨g, cap, cur, rfl, hb, -⟩
 ·have : l = [] := List.length_eq_zero_iff.1 hn
  subst this
  exact (sortFunc_tiny8P none _ 0 0 (by omega) w).mono fun e w' ⟨he, hw⟩ => ⟨he, [], by rw [hw]; exact h, List.Perm.refl _, List.Pairwise.nil, by rw [hw]; exact Below.refl _ _⟩
 ·have e1 : l.toArray.toList = l := rfl
  have e2 : l.toArray.size = l.length := by simp
  have := sortFunc8P_all g cap base w l.toArray (by rw [e1, e2]; exact h) (by rw [e2]; exact hl)
  rw [e2, e1] at this
  exact this.mono fun e w' ⟨he, l', h1, h2, h3, h4⟩ => ⟨he, l', h1, h2, h3, h4.mono hb⟩
end Go.Proofs.YtechceagghcipaaGreatDoor
