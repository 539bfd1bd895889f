import Derived.Test.YtechceagghcipabGreatDoorRA2
import Derived.Test.YtechceagghcipabGreatDoorEE8
import Derived.Test.YtechceagghcipabGreatDoorCN4
import Derived.LoopN
namespace Go.Proofs.YtechceagghcipabGreatDoor
open Go.RowKit Go.Shelf Go.Lib Go.Sort
set_option maxHeartbeats 400000 in
theorem or28_any (x y : Int) (b : Nat) (w : World) (h : CBlk w b #[.int .i64 x, .int .i64 y] 3) :
  Calls Tryz.prog 52 #[.slice (some ⟨b, 0, none⟩) 2 2] w fun e w' => e = .returned (.int .i64 (if x ≠ 0 then x else y)) /\ w' = w := by
 have c0 : w.cell? ⟨b, 0, none⟩ = some (.int .i64 x) := cell_of_row _ _ _ _ _ _ h
 have c1 : w.cell? ⟨b, 1, none⟩ = some (.int .i64 y) := cell_of_row _ _ _ _ _ _ h
 clear h
 obtain ⟨R, hR⟩ : ∃ R, (if x ≠ 0 then x else y) = R := ⟨_, rfl⟩
 rw [hR]
 by_cases hx : x = 0
 ·by_cases hy : y = 0
  ·have HR : Hid ((0 : Int) = R) := by rw [<- hR, if_neg (by simp [hx])]; exact hy.symm
   subst hx hy
   clear hR
   go_enter Tryz.func52, Tryz.ntmps52
   go_wp2
   refine wp_loop_rounds 3 ?_
   rw [rounds_succ]; go_wp2
   rw [rounds_succ]; go_wp2
   rw [rounds_succ]; go_wp2
   go_ret
   exact ⟨ret_i HR.out, rfl⟩
  ·have HR : Hid (y = R) := (by rw [<- hR, if_neg (by simp [hx])] : y = R)
   have n1 : (y == 0) = false := beq_eq_false_iff_ne.2 hy
   have n2 : (y != 0) = true := by rw [bne, n1]; rfl
   subst hx
   clear hR hy
   go_enter Tryz.func52, Tryz.ntmps52
   go_wp2
   refine wp_loop_rounds 2 ?_
   rw [rounds_succ]; go_wp2
   rw [rounds_succ]; go_wp2
   go_ret
   exact ⟨ret_i HR.out, rfl⟩
 ·have HR : Hid (x = R) := (by rw [<- hR, if_pos hx] : x = R)
  have n1 : (x == 0) = false := beq_eq_false_iff_ne.2 hx
  have n2 : (x != 0) = true := by rw [bne, n1]; rfl
  clear hR hx
  go_enter Tryz.func52, Tryz.ntmps52
  go_wp2
  refine wp_loop_rounds 1 ?_
  rw [rounds_succ]; go_wp2
  go_ret
  exact ⟨ret_i HR.out, rfl⟩
set_option maxRecDepth 20000 in
set_option maxHeartbeats 4000000 in
theorem comparePD8_any (p q : Pd) (w : World) : Calls Tryz.prog 51 #[p.v, q.v] w fun e w' => e = .returned (.int .i64 (cmpP p q)) /\ DBelow w.heap.size w w' := by
 have HR : Hid (∀ (b : Nat) (X : World), CBlk X b #[.int .i64 (M.sgL p.nm.toList q.nm.toList), .int .i64 (M.sgI p.ar q.ar)] 3 -> Calls Tryz.prog 52 #[.slice (some ⟨b, 0, none⟩) 2 2] X fun e w' => e = .returned (.int .i64 (cmpP p q)) /\ w' = X) := fun b X h => or28_any _ _ b X h
 obtain ⟨R, hR⟩ : ∃ R, cmpP p q = R := ⟨_, rfl⟩
 rw [hR] at HR ⊢
 clear hR
 obtain ⟨n, a⟩ := p
 obtain ⟨m, b⟩ := q
 have B1 : Hid (CBlk ((w.alloc (.cells #[.string n, .int .i64 a] 72)).alloc (.cells #[.string m, .int .i64 b] 72)) w.heap.size #[.string n, .int .i64 a] 72) := (CBlk.new _ _ _).later (below1 _ _)
 have B2 : Hid (CBlk ((w.alloc (.cells #[.string n, .int .i64 a] 72)).alloc (.cells #[.string m, .int .i64 b] 72)) (w.heap.size + 1) #[.string m, .int .i64 b] 72) := by
  have := CBlk.new (w.alloc (.cells #[.string n, .int .i64 a] 72)) #[.string m, .int .i64 b] 72
  rw [show (w.alloc (.cells #[.string n, .int .i64 a] 72)).heap.size = w.heap.size + 1 by simp] at this
  exact this
 have HB : Hid (DBelow w.heap.size w ((w.alloc (.cells #[.string n, .int .i64 a] 72)).alloc (.cells #[.string m, .int .i64 b] 72))) := dbelow2 _ _ _
 go_enter Tryz.func51, Tryz.ntmps51
 go_upto_region 1 with fail
 revert B1 B2 HB
 generalize (w.alloc (.cells #[.string n, .int .i64 a] 72)).alloc (.cells #[.string m, .int .i64 b] 72) = W
 intro B1 B2 HB
 refine wp_region_held_drew (S := fun w' => DBelow W.heap.size W w') (by kernel_rfl) (DBelow.refl _ _).drew (fun hH => ?_)
 revert hH
 generalize W.drew = V
 intro hH
 refine wTl 0 (.pointer (some ⟨w.heap.size, 0, none⟩)) rfl (by kernel_rfl) (fun _ _ _ h => h) rfl (fun w' h => by clear h; go_simp) hH ?_
 simp only [wA, wB, wC, wD]
 refine wTl 1 (.string n) rfl (by kernel_rfl) (fun _ _ _ h => h) rfl (fun w' h => by have hc := CBlk.later (Hid.out B1) h.toBelow; have y0 : w'.cell? ⟨w.heap.size, 0, none⟩ = some (.string n) := cell_of_row _ _ _ _ _ _ hc; clear h hc; go_simp) hH ?_
 simp only [wA, wB, wC, wD]
 refine wTl 2 (.pointer (some ⟨w.heap.size + 1, 0, none⟩)) rfl (by kernel_rfl) (fun _ _ _ h => h) rfl (fun w' h => by clear h; go_simp) hH ?_
 simp only [wA, wB, wC, wD]
 refine wTl 3 (.string m) rfl (by kernel_rfl) (fun _ _ _ h => h) rfl (fun w' h => by have hc := CBlk.later (Hid.out B2) h.toBelow; have y0 : w'.cell? ⟨w.heap.size + 1, 0, none⟩ = some (.string m) := cell_of_row _ _ _ _ _ _ hc; clear h hc; go_simp) hH ?_
 simp only [wA, wB, wC, wD]
 refine wTl 5 (.pointer (some ⟨w.heap.size, 1, none⟩)) rfl (by kernel_rfl) (fun _ _ _ h => h) rfl (fun w' h => by clear h; go_simp) hH ?_
 simp only [wA, wB, wC, wD]
 refine wTl 6 (.int .i64 a) rfl (by kernel_rfl) (fun _ _ _ h => h) rfl (fun w' h => by have hc := CBlk.later (Hid.out B1) h.toBelow; have y0 : w'.cell? ⟨w.heap.size, 1, none⟩ = some (.int .i64 a) := cell_of_row _ _ _ _ _ _ hc; clear h hc; go_simp) hH ?_
 simp only [wA, wB, wC, wD]
 refine wTl 7 (.pointer (some ⟨w.heap.size + 1, 1, none⟩)) rfl (by kernel_rfl) (fun _ _ _ h => h) rfl (fun w' h => by clear h; go_simp) hH ?_
 simp only [wA, wB, wC, wD]
 refine wTl 8 (.int .i64 b) rfl (by kernel_rfl) (fun _ _ _ h => h) rfl (fun w' h => by have hc := CBlk.later (Hid.out B2) h.toBelow; have y0 : w'.cell? ⟨w.heap.size + 1, 1, none⟩ = some (.int .i64 b) := cell_of_row _ _ _ _ _ _ hc; clear h hc; go_simp) hH ?_
 simp only [wA, wB, wC, wD]
 refine wRd 4 (by kernel_rfl) rfl (fun K hK => ?_)
 go_simp
 refine (cmpS_any _ _ _).mono ?_
 rintro e V1 ⟨rfl, rfl⟩
 refine hK.out _ _ hH (fun hH => ?_)
 clear hK K
 refine wRd 9 (by kernel_rfl) rfl (fun K hK => ?_)
 go_simp
 refine (cmpI_any _ _ _).mono ?_
 rintro e V1 ⟨rfl, rfl⟩
 refine hK.out _ _ hH (fun hH => ?_)
 clear hK K
 refine wRd 10 (by kernel_rfl) rfl (fun K hK => ?_)
 go_simp
 refine hK.out _ _ (hH.alloc hH.toBelow.size _) (fun hH => ?_)
 clear hK K
 refine wRd 11 (by kernel_rfl) rfl (fun K hK => ?_)
 go_simp
 refine (HR.out _ _ (CBlk.new _ _ _)).mono ?_
 rintro e V2 ⟨rfl, rfl⟩
 refine hK.out _ _ hH (fun hH => ?_)
 clear hK K
 refine wTl 12 (.int .i64 R) rfl (by kernel_rfl) (fun _ _ _ h => h) rfl (fun w' h => by clear h; go_simp) hH ?_
 simp only [wA, wB, wC, wD]
 refine wpAnyH_done (by kernel_rfl) ?_ _
 go_wp2
 go_ret
 exact ⟨rfl, HB.out.trans (hH.mono HB.out.toBelow.size)⟩
instance : Inhabited Pd := ⟨⟨⟨#[]⟩, 0⟩⟩
theorem lt8P (x y : Pd) : ltOf cmpP x y = decide (cmpP x y < 0) := rfl
theorem swo8P : SWO (ltOf cmpP) where
 irrefl x := by rw [lt8P, ord_pd.refl]; rfl
 trans x y z h1 h2 := by
  rw [lt8P] at *
  simp only [decide_eq_true_eq] at *
  exact (ord_pd.tr _ _ _ (by omega) (by omega)).2 (Or.inl h1)
 ntrans x y z h1 h2 := by
  rw [lt8P] at *
  simp only [decide_eq_false_iff_not] at *
  have n1 := ord_pd.neg x y
  have n2 := ord_pd.neg y z
  have n3 := ord_pd.neg x z
  have := (ord_pd.tr z y x (by omega) (by omega)).1
  omega
theorem flat8P (d : Array Pd) : flatK Pd.cs 2 d = (pcs (d.toList)).toArray := by
 apply Array.ext
 ·simp [pcs_len]
 ·intro t h1 h2
  have ht : t < d.size * 2 := by simpa using h1
  have hq : t / 2 < d.size := by omega
  have hd : (d.toList)[t / 2]? = some (d[t / 2]!) := by
   rw [getElem!_pos d (t / 2) hq]; simp [hq]
  have hg := pcs_get (d.toList) (t / 2) _ hd (t % 2) (by omega)
  rw [show t / 2 * 2 + t % 2 = t by omega] at hg
  have e1 : (flatK Pd.cs 2 d)[t] = (Pd.cs d[t / 2]!)[t % 2]! := by
   have := get_flatK Pd.cs 2 d t ht
   rwa [getElem!_pos _ t h1] at this
  rw [e1]
  have hc : t % 2 < (Pd.cs d[t / 2]!).length := by simp [Pd.cs]; omega
  rw [getElem!_pos (Pd.cs d[t / 2]!) (t % 2) hc]
  have h3 : t < (pcs (d.toList)).length := by simpa using h2
  have hg2 : (pcs (d.toList))[t]? = (Pd.cs d[t / 2]!)[t % 2]? := hg
  rw [List.getElem?_eq_getElem hc, List.getElem?_eq_getElem h3] at hg2
  simpa using (Option.some.inj hg2).symm
theorem holds8P {w : World} {base g cap : Nat} {d : Array Pd} (h : OwnP w base (.slice (some ⟨g, 0, none⟩) d.size cap) (d.toList)) : HoldsK Pd.cs 2 w g 0 d := by
 rcases h.2 with ⟨h, _⟩ | ⟨g', cap', cur, hv, hb, hg, hn, hc, hs, ht⟩
 ·cases h
 ·simp only [Value.slice.injEq, Option.some.injEq, Addr.mk.injEq] at hv
  obtain ⟨⟨rfl, -⟩, -, rfl⟩ := hv
  intro j hj
  rw [flat8P] at hj ⊢
  have hj' : j < (pcs (d.toList)).length := by simpa using hj
  refine ⟨?_, by simp [World.frozen?, hg]⟩
  rw [Nat.zero_add, cell_of_row _ _ _ _ _ _ hg, getElem!_pos _ j hj]
  have h1 : (cur.toList.take ((d.toList).length * 2))[j]? = (pcs (d.toList))[j]? := by rw [ht]
  rw [List.getElem?_take_of_lt (by rw [pcs_len] at hj'; exact hj'), List.getElem?_eq_getElem hj'] at h1
  simpa using h1
theorem grown8P {w : World} {g n : Nat} {os : Array Obj} {d' : Array Pd} : w.grownBy (sortWorldK Pd.cs 2 w g 0 n d' os) (some g) := by
 refine ⟨rfl, rfl, rfl, by simp [sortWorldK, putRowK], fun k hk hne => ?_⟩
 unfold sortWorldK putRowK
 rw [heap_grow_old _ _ (by simpa using hk)]
 have : g ≠ k := fun e => hne (by rw [e])
 simp [putRow, mapBlock, Sort.ahead, Array.getElem?_modify, this]
theorem below8P {w : World} {g n : Nat} {os : Array Obj} {d' : Array Pd} (hgs : g < w.heap.size) : RowKit.Below g w (sortWorldK Pd.cs 2 w g 0 n d' os) :=
 (RowKit.Below.refl _ _).grown grown8P (Nat.le_of_lt hgs) (fun q e => by cases e; exact Nat.le_refl _)
theorem cmpLays8P (blk size : Nat) (w : World) : CmpLays Tryz.prog 51 #[] Pd.cs 2 cmpP blk 0 size w :=
 fun _ _ _ _ x y => (comparePD8_any x y _).mono fun _ _ ⟨he, hb⟩ => ⟨he, dbelow_grow8 hb⟩
theorem own8P {w : World} {base g cap n : Nat} {os : Array Obj} {d d' : Array Pd} (h : OwnP w base (.slice (some ⟨g, 0, none⟩) d.size cap) (d.toList)) (hs : d'.size = d.size) :
  OwnP (sortWorldK Pd.cs 2 w g 0 n d' os) base (.slice (some ⟨g, 0, none⟩) d.size cap) (d'.toList) := by
 rcases h.2 with ⟨h, _⟩ | ⟨g', cap', cur, hv, hb, hg, hn, hc, hsz, ht⟩
 ·cases h
 ·simp only [Value.slice.injEq, Option.some.injEq, Addr.mk.injEq] at hv
  obtain ⟨⟨rfl, -⟩, -, rfl⟩ := hv
  have hgs : g < w.heap.size := (Array.getElem?_eq_some_iff.1 hg).1
  have hH : (sortWorldK Pd.cs 2 w g 0 n d' os).heap[g]? = some (.cells (putCells id 0 (pcs (d'.toList)).toArray cur) 72 (0, 0)) := by
   unfold sortWorldK putRowK
   rw [flat8P, heap_grow_old _ _ (by simpa using hgs)]
   simp [putRow, mapBlock, Sort.ahead, Array.getElem?_modify, hg, onCells]
  have hl : (d'.toList).length = (d.toList).length := by simp [hs]
  refine ⟨pcs_len _, Or.inr ⟨g, cap, _, by simp [hs], hb, hH, by rw [hl]; exact hn, hc, by simp [putCells, hsz], ?_⟩⟩
  apply List.ext_getElem?
  intro j
  by_cases hj : j < (d'.toList).length * 2
  ·have hjc : j < cur.size := by rw [hsz]; rw [hl] at hj; exact Nat.lt_of_lt_of_le hj (Nat.mul_le_mul_right 2 hn)
   have hjb : j < (pcs (d'.toList)).length := by rw [pcs_len]; exact hj
   rw [List.getElem?_take_of_lt hj, Array.getElem?_toList]
   simp [putCells, hjb, hjc]
  ·rw [List.getElem?_take_eq_none (by omega), List.getElem?_eq_none (by rw [pcs_len]; omega)]
def srt8P (l : List Pd) : Prop := l.Pairwise fun a b => cmpP a b <= 0
theorem perm_of8P {d d' : Array Pd} (h : PermIn 0 d.size d d') : (d'.toList).Perm (d.toList) := by
 obtain ⟨hs, -, hp⟩ := h
 have e1 : d'.extract 0 d.size = d' := by rw [<- hs]; simp
 have e2 : d.extract 0 d.size = d := by simp
 rw [e1, e2] at hp
 exact hp
theorem srt_of8P {d d' : Array Pd} (hs : d'.size = d.size) (h : SortedIn (ltOf cmpP) 0 d.size d') : srt8P (d'.toList) := by
 unfold srt8P
 rw [List.pairwise_iff_getElem]
 intro i j hi hj hij
 have hj' : j < d'.size := by simpa using hj
 have hi' : i < d'.size := by simpa using hi
 have := h i j (Nat.zero_le _) hij (by omega)
 rw [lt8P, getElem!_pos d' j hj', getElem!_pos d' i hi'] at this
 simp only [decide_eq_false_iff_not] at this
 simp only [Array.getElem_toList]
 have := ord_pd.neg d'[i] d'[j]
 omega
set_option maxHeartbeats 2000000 in
theorem sortFunc8P_all (g cap base : Nat) (w : World) (d : Array Pd) (h : OwnP w base (.slice (some ⟨g, 0, none⟩) d.size cap) (d.toList)) (hsz : d.size < 4611686018427387904) :
  Calls Tryz.prog 83 #[.slice (some ⟨g, 0, none⟩) d.size cap, .func (.func 51) #[] #[]] w fun e w' => e = .returned (.tuple #[]) /\ ∃ l', OwnP w' base (.slice (some ⟨g, 0, none⟩) d.size cap) l' /\ l'.Perm (d.toList) /\ srt8P l' /\ RowKit.Below g w w' := by
 have hlt := h.lt g rfl
 have eg : ∀ args w, (callFunc 51 args).run Tryz.prog w = .ok (.enter 51 args) w := enters_of Tryz.func51 (by kernel_rfl) rfl
 have hlim : Lib.bitLen d.size < 4611686018427387904 := Nat.lt_of_le_of_lt (Lib.bitLen_le d.size 62 (by omega) (by omega)) (by omega)
 have hp := AnyQ.pdqsortCmpFunc_all (P := Tryz.prog) Tryz.pdqPd 2 Tryz.isAgg72 Tryz.sizeOf72 Pd.cs cmpP 51 #[] (swo8P) g 0 cap d w eg (cmpLays8P g d.size w)
  ⟨fun _ => rfl, fun x v hv => by
   simp only [Pd.cs] at hv
   simp at hv
   rcases hv with rfl | rfl <;> rfl, holds8P h, hlt.2⟩ (d.size + 1) 0 d.size (Lib.bitLen d.size) d w (by omega) rfl (SWK.start (holds8P h)) (Nat.zero_le _) (Nat.le_refl _) hsz hlim (Or.inl rfl)
 change Calls Tryz.prog 118 _ _ _ at hp
 have hl := Any.bits_Len Tryz.bitsLen (d.size : Int) w (by omega) (by omega)
 change Calls Tryz.prog 80 _ _ _ at hl
 rw [Int.toNat_natCast] at hl
 have hs := pdq_sorts (ltOf cmpP) (swo8P) d 0 d.size (Lib.bitLen d.size) true true (Nat.zero_le _) (Nat.le_refl _) (Or.inl rfl)
 obtain ⟨d', hd'⟩ : ∃ d', pdq (ltOf cmpP) d 0 d.size (Lib.bitLen d.size) true true = d' := ⟨_, rfl⟩
 rw [hd'] at hp hs
 have HP : Hid (Calls Tryz.prog 118 #[.slice (some ⟨g, 0, none⟩) d.size cap, .int .i64 ((0 : Nat) : Int), .int .i64 d.size, .int .i64 (Lib.bitLen d.size), .func (.func 51) #[] #[]] w fun e w' => e = .returned (.tuple #[]) /\ SWK Pd.cs 2 w g 0 d' w') := hp
 have HS : Hid (PermIn 0 d.size d d' /\ SortedIn (ltOf cmpP) 0 d.size d') := hs
 have HO : Hid (OwnP w base (.slice (some ⟨g, 0, none⟩) d.size cap) (d.toList)) := h
 have HL : Hid (Calls Tryz.prog 80 #[.int .u64 (d.size : Int)] w fun e w' => e = .returned (.int .i64 (Lib.bitLen d.size)) /\ w' = w) := hl
 have wr : IntKind.u64.wrap (d.size : Int) = d.size := by rw [IntKind.wrap_u64]; omega
 clear hp hs h hl hd' eg
 go_enter Tryz.func83, Tryz.ntmps83
 go_wp2_with (first
  | (go_at_call 80; refine HL.out.mono ?_; rintro e w1 ⟨rfl, rfl⟩)
  | (go_at_call 118; refine HP.out.mono ?_; rintro e w2 ⟨rfl, hw2⟩))
 go_end0
 obtain ⟨n, os, rfl⟩ := hw2
 exact ⟨rfl, d'.toList, own8P HO.out HS.out.1.1, perm_of8P HS.out.1, srt_of8P HS.out.1.1 HS.out.2, below8P hlt.2⟩
theorem ins_tiny8P (v f : Value) (n : Nat) (h : n <= 1) (w : World) : Calls Tryz.prog 139 #[v, .int .i64 0, .int .i64 n, f] w fun e w' => e = .returned (.tuple #[]) /\ w' = w := by
 have hn : ¬ (1 : Int) < (n : Int) := by omega
 go_enter Tryz.func139, Tryz.ntmps139
 go_wp2
 go_loop [8] (fun i => i = .int .i64 1) (fun _ => 0)
 case atStart => rfl
 case round =>
  subst hrel
  go_wp2
  go_end0
  exact ⟨rfl, rfl⟩
theorem pdq_tiny8P (v f : Value) (n : Nat) (h : n <= 1) (m : Int) (w : World) : Calls Tryz.prog 118 #[v, .int .i64 0, .int .i64 n, .int .i64 m, f] w fun e w' => e = .returned (.tuple #[]) /\ w' = w := by
 have hn : (n : Int) <= 12 := by omega
 have hn0 : (0 : Int) <= n := by omega
 go_enter Tryz.func118, Tryz.ntmps118
 go_wp2
 go_loop [1, 2] (fun a b => a = .int .i64 0 /\ b = .int .i64 n) (fun _ _ => 0)
 case atStart => exact ⟨rfl, rfl⟩
 case round =>
  obtain ⟨rfl, rfl⟩ := hrel
  go_wp2_with (go_at_call 139; refine (ins_tiny8P _ _ _ h _).mono ?_; rintro e w1 ⟨rfl, rfl⟩)
  (try simp only [Exit.inBlock, Exit.then])
  refine bodyPost_ret (results_none rfl _ _ _) rfl ?_
  exact ⟨rfl, rfl⟩
theorem sortFunc_tiny8P (a : Option Addr) (f : Value) (n cap : Nat) (h : n <= 1) (w : World) : Calls Tryz.prog 83 #[.slice a n cap, f] w fun e w' => e = .returned (.tuple #[]) /\ w' = w := by
 have hw : IntKind.u64.wrap (n : Int) = n := by rw [IntKind.wrap_u64]; omega
 have hl := Any.bits_Len Tryz.bitsLen (n : Int) w (by omega) (by omega)
 change Calls Tryz.prog 80 _ _ _ at hl
 have HL := hm7 hl
 clear hl
 go_enter Tryz.func83, Tryz.ntmps83
 go_wp2_with (first
  | (go_at_call 80; refine HL.out.mono ?_; rintro e w1 ⟨rfl, rfl⟩)
  | (go_at_call 118; refine (pdq_tiny8P _ _ n h _ _).mono ?_; rintro e w1 ⟨rfl, rfl⟩))
 go_end0
 exact ⟨rfl, rfl⟩
theorem sort8P_any (l : List Pd) (v : Value) (base : Nat) (w : World) (h : OwnP w base v l) (hl : l.length < 4611686018427387904) :
  Calls Tryz.prog 83 #[v, .func (.func 51) #[] #[]] w fun e w' => e = .returned (.tuple #[]) /\ ∃ l', OwnP w' base v l' /\ l'.Perm l /\ srt8P l' /\ Below base w w' := by
 rcases h.2 with ⟨rfl, hn⟩ | ⟨g, cap, cur, rfl, hb, -⟩
 ·have : l = [] := List.length_eq_zero_iff.1 hn
  subst this
  exact (sortFunc_tiny8P none _ 0 0 (by omega) w).mono fun e w' ⟨he, hw⟩ => ⟨he, [], by rw [hw]; exact h, List.Perm.refl _, List.Pairwise.nil, by rw [hw]; exact Below.refl _ _⟩
 ·have e1 : l.toArray.toList = l := rfl
  have e2 : l.toArray.size = l.length := by simp
  have := sortFunc8P_all g cap base w l.toArray (by rw [e1, e2]; exact h) (by rw [e2]; exact hl)
  rw [e2, e1] at this
  exact this.mono fun e w' ⟨he, l', h1, h2, h3, h4⟩ => ⟨he, l', h1, h2, h3, h4.mono hb⟩
end Go.Proofs.YtechceagghcipabGreatDoor
namespace Go.Proofs.YtechceagghcipabGreatDoor
open Go.RowKit Go.Shelf Go.Maps
attribute [local go_sem] Oper.semAt_some
def OwK8 (_ : World) (_ : Nat) (v : Value) (x : Pd) : Prop := v = x.v
def KD8 (w0 : World) (g : Nat) (tv : Value) (mn mr : Nat) (ga : Pd -> Nat) (B : Pd -> Nat -> Prop) (m : Nat) (T : List Tm) (K : List Pd) (s : Pd -> St7) (bx : Nat) (W : World) : Prop := BS w0 g tv mn mr ga B m T K s W /\ Bk W bx #[.map (some mr)] 42
def KE8 (W : World) (D : Nat) (W1 : World) : Prop := Below W.heap.size W W1 /\ D = W.heap.size /\ W1.heap.size = W.heap.size + 1
set_option maxRecDepth 100000 in
set_option maxHeartbeats 1000000 in
theorem keys_seq (w0 : World) (g : Nat) (tv : Value) (mn mr : Nat) (ga : Pd -> Nat) (B : Pd -> Nat -> Prop) (m : Nat) (T : List Tm) (K : List Pd) (s : Pd -> St7) (bx : Nat) :
  SeqN Tryz.prog 84 #[.pointer (some ⟨bx, 0, none⟩)] OwK8 (fun pre x => x ∈ K /\ x ∉ pre) (fun ss => ss.Perm K) (KD8 w0 g tv mn mr ga B m T K s bx) KE8 (fun W W1 => W1.heap[mr]? = W.heap[mr]?) := by
 intro nn l J Jx W hd hEff hK hJ hJx hY
 obtain ⟨D, hD, hsz, hc0, hin⟩ := hd.1.rng
 obtain ⟨W1, hrun1, hrg0, hg1, hs1⟩ := hD.range Tryz.lawPred Tryz.underlying42
 have c1 := hd.2.cell (i := 0) rfl
 have HJ0 := hm7 (hEff W.heap.size W1 ⟨(Fr.grown (P := fun _ => False) hg1 fun b e => by cases e).below (fun _ _ h => h), rfl, hs1⟩)
 have HIN := hm7 hin
 have HC0 := hm7 hc0
 have HRG0 := hm7 hrg0
 have HS := hm7 hd.1
 have HK := hm7 hK
 have HJ := hm7 hJ
 have HJx := hm7 hJx
 have HY := hm7 hY
 have HS1 := hm7 hs1
 have hml := hd.1.r.lt
 have HM1 : Hid (W1.heap[mr]? = W.heap[mr]?) := hg1.block mr hml (by simp)
 clear hd hEff hK hJ hJx hY hD hin hc0 hrg0 hg1 hs1
 refine callsIn_of_wp Tryz.func84 rfl trivial ?_ rfl
 simp only [Tryz.ntmps84, List.size_toArray, List.length_cons, List.length_nil, Nat.reduceAdd, Nat.reduceSub, Array.replicate_succ, Array.replicate_zero, List.push_toArray, List.append_toArray, List.nil_append, List.cons_append]
 gi_wp2
 clear c1 hrun1
 rw [HS1.out] at HJ0
 gi_loopw [13] (fun _ wr => ∃ (left : Lit -> Bool) (cnt : Nat) (ss : List Pd), wr.ranges Tryz.prog 72 rawE mr W.heap.size K.length D left cnt /\ CollQ K left ss /\ J W.heap.size (W.heap.size + 1) ss wr) (fun _ wr => wr.rangeLeft mr W.heap.size)
 case atStart => exact ⟨_, _, [], HRG0.out, HC0.out, HJ0.out⟩
 case round =>
  obtain ⟨left, cnt, ss, hrg, hC, hj⟩ := hrel
  rcases hrg.next Tryz.lawPred 0 with ⟨-, hl0, hrun⟩ | ⟨key, v, kl, y, w1, cnt1, hkey, hlk, hv, hat, hrun, hrg1, hlt, hg1, hs1, hen⟩
  ·have HPM := hm7 (hC.done HS.out.nd hl0)
   have HJJ := hm7 hj
   clear hrg hC hj hl0 HJ0
   gi_wp2
   go_end0
   exact ⟨⟨_, rfl⟩, _, _, .inl ⟨ss, HPM.out, HJJ.out⟩⟩
  ·obtain ⟨x, rfl, -⟩ := keyOf_pd_inv hkey
   obtain ⟨hx, rfl, rfl⟩ := HIN.out x v kl y hkey hv hat
   have hnx : x ∉ ss := fun hq => by have := (hC.mem x hx).1 hq; rw [hlk] at this; cases this
   have HC1 := hm7 (hC.step HS.out.kp hx hlk)
   have hfi : Fr (fun b => b = W.heap.size) wr w1 := Fr.grown hg1 fun b e => by cases e; rfl
   have hj1 := HJ.out _ _ _ _ _ hfi hj
   have HR1 := hm7 hrg1
   have HRG := hm7 hrg
   have HLT := hm7 hlt
   have hDl : W.heap.size < w1.heap.size := by
    have := hrg1
    obtain ⟨es, clock, since, seen, c0, hb, -, -, -, hr, -⟩ := this
    exact (Array.getElem?_eq_some_iff.1 hr).1
   obtain ⟨xn, xa⟩ := x
   obtain ⟨W2, hW2⟩ : ∃ W2, w1.alloc (.cells #[.string xn, .int .i64 xa] 72) = W2 := ⟨_, rfl⟩
   have hb2 : Below w1.heap.size w1 W2 := by rw [<- hW2]; exact below1 _ _
   have HB2 := hm7 hb2
   have HPB : Hid (Bk W2 w1.heap.size #[.string xn, .int .i64 xa] 72) := by show Bk _ _ _ _; rw [<- hW2]; exact Bk.new _ _ _
   have p0 := HPB.out.cell (i := 0) rfl
   have p1 := HPB.out.cell (i := 1) rfl
   obtain ⟨fn, tmps, assign, bd, hy, hR⟩ := HY.out (nn - 1) _ _ _ ⟨xn, xa⟩ (⟨xn, xa⟩ : Pd).v w1 W2 hj1 ⟨hx, hnx⟩ hb2 rfl
   have HJ1 := hm7 (HK.out _ _ _ _ (Or.inl hj1))
   clear hx hat hlk hkey hrg1 hg1 hs1 hv hC hlt hrg hfi hnx hb2 hj hj1
   gi_wp2
   try rw [hW2]
   refine ⟨fun h => (by cases h), hR.mono ?_⟩
   clear hR hy hW2
   rintro e W3 (⟨rfl, hJ3, hu3⟩ | ⟨rfl, hx3, -⟩)
   ·have hmr3 : W3.heap[mr]? = w1.heap[mr]? := (HK.out _ _ _ _ (Or.inl hJ3)).trans HJ1.out.symm
    have hD3 : W3.heap[W.heap.size]? = w1.heap[W.heap.size]? := (hu3.same _ (Nat.le_refl _) (by omega) (by have := HB2.out.size; omega)).trans (HB2.out.block _ hDl)
    have HR3 := hm7 (ranges_same8 HR1.out hmr3 hD3)
    have HJ3 := hm7 hJ3
    clear hJ3 hu3 hmr3 hD3
    gi_wp2
    go_roundw
    case rel => exact ⟨_, cnt1, _, HR3.out, HC1.out, HJ3.out⟩
    case measure => rw [HR3.out.left_eq, HRG.out.left_eq]; exact HLT.out
   ·have HX3 := hm7 hx3
    clear hx3
    gi_wp2
    refine bodyPost_ret (results_none rfl _ _ _) rfl ?_
    exact ⟨⟨_, rfl⟩, _, _, .inr ⟨_, HX3.out⟩⟩
end Go.Proofs.YtechceagghcipabGreatDoor
namespace Go.Proofs.YtechceagghcipabGreatDoor
open Go.RowKit Go.Shelf
attribute [local go_sem] Oper.semAt_some
theorem pappIn {F : Fence} {fu : Nat} {ops : Array Oper} {rest : List Oper} {o : Oper} {a : Act} {Q : Exit -> Act -> World -> Prop} {w : World} (hgd : o.guard = none) (s x : Operand)
  (ho : o.op = .call { callee := .builtin .append, args := #[s, x], argTypes := #[59, 59] }) (base : Nat) (v : Value) (l : List Pd) (hs : a.eval s = v) (hown : OwnP w base v l)
  (b : Nat) (y : Pd) (hx : a.eval x = .slice (some ⟨b, 0, none⟩) 1 1) (hblk : Bk w b #[.string y.nm, .int .i64 y.ar] 72) (hlen : l.length <= 1800000000000) (hbase : base <= w.heap.size)
  (h : ∀ v' w', OwnP w' base v' (l ++ [y]) -> w.grownBy w' v.ownBlock -> (v'.ownBlock = v.ownBlock ∨ v'.ownBlock = some w.heap.size) -> wpListIn F fu Tryz.prog ops Q rest (a.put o.dst v') w') : wpListIn F fu Tryz.prog ops Q (o :: rest) a w := by
 obtain ⟨i0, hi0, hz0, hz1, hz2⟩ := info_parts Tryz.infoPred
 refine wpListIn_plain hgd fun K hK' => ?_
 obtain ⟨v', w', hrun, r1, r2, -, r3⟩ := run_append_own_at (P := Tryz.prog) w base 59 o.type 72 i0 _ 2 24 Tryz.underlying59 hi0 hz0 hz1 hz2 rfl (by omega) v l.length (pcs l) hown ⟨b, 0, none⟩ 1 1 (pcs [y]) (by simp [pcs, Pd.cs]) (fun j u hj => by
  have := World.news_of_block (cs := #[.string y.nm, .int .i64 y.ar]) (t := 72) (fr := (0, 0)) hblk j u
  exact this (by simpa [pcs, Pd.cs] using hj)) (fun u hu => pcs_mem hu) (by unfold maxLen; omega) (by omega) hbase
 unfold Oper.wpIn
 refine ⟨?_, ?_⟩
 ·simp [Oper.about, ho, resolve, Target.leads, Sem.run_pure]
 ·rw [Oper.semAt_plain F _ _ (by rw [ho]; intro c hc'; cases hc')]
  simp [execOp, ho, resolve, invoke, builtin, hs, hx, hrun, Result.andThen]
  refine hK' _ _ (h v' w' ?_ r2 r3)
  unfold OwnP
  rw [List.length_append, pcs_app]
  exact r1
structure GP8 (Y : World) (K pre : List Pd) (D E : Nat) (V : World) : Prop where
 ex : ∃ v, Bk V Y.heap.size #[v] 59 /\ OwnP V (Y.heap.size + 1) v pre /\ ∀ b, v.ownBlock = some b -> E <= b
 fr : Fr (fun b => Y.heap.size <= b) Y V
 d : Y.heap.size + 3 <= D
 e : D < E
 z : E <= V.heap.size
 l : pre.Nodup /\ ∀ x ∈ pre, x ∈ K
theorem GP8.stay {Y : World} {K pre : List Pd} {D E : Nat} {V V' : World} (h : GP8 Y K pre D E V) (hf : Fr (fun b => Y.heap.size < b /\ b < E) V V') : GP8 Y K pre D E V' := by
 obtain ⟨v, h1, h2, h3⟩ := h.ex
 exact ⟨⟨v, h1.fr hf (by omega), row7_fr h2 hf fun b hb hc => by have := h3 b hb; omega, h3⟩, h.fr.trans hf fun b hl hc => by omega, h.d, h.e, Nat.le_trans h.z hf.size, h.l⟩
theorem GP8.below {Y : World} {K pre : List Pd} {D E : Nat} {V V' : World} (h : GP8 Y K pre D E V) (hb : Below V.heap.size V V') : GP8 Y K pre D E V' := h.stay (Fr.of hb)
set_option maxRecDepth 100000 in
set_option maxHeartbeats 1000000 in
theorem appSeqP8_any (w0 : World) (g : Nat) (tv : Value) (mn mr : Nat) (ga : Pd -> Nat) (B : Pd -> Nat -> Prop) (m : Nat) (T : List Tm) (K : List Pd) (s : Pd -> St7) (bx : Nat) (Y : World) (h : KD8 w0 g tv mn mr ga B m T K s bx Y) (hkl : K.length <= 100000000000) :
  Calls Tryz.prog 117 #[.slice none 0 0, .func (.func 84) #[] #[.pointer (some ⟨bx, 0, none⟩)]] Y fun e Y' => ∃ v l, e = .returned v /\ OwnP Y' Y.heap.size v l /\ l.Perm K /\ Below Y.heap.size Y Y' := by
 obtain ⟨nn, -⟩ : ∃ n : Nat, True := ⟨0, trivial⟩
 refine (callsIn_wide (n := nn)).1 ?_
 obtain ⟨W0, hW0⟩ : ∃ W0, Y.alloc (.cells #[.slice none 0 0] 59) = W0 := ⟨_, rfl⟩
 have hb0 : Below Y.heap.size Y W0 := by rw [<- hW0]; exact below1 _ _
 have hz0 : W0.heap.size = Y.heap.size + 1 := by rw [<- hW0]; simp
 have HFB : Hid (Bk W0 Y.heap.size #[.slice none 0 0] 59) := by show Bk _ _ _ _; rw [<- hW0]; exact Bk.new _ _ _
 have HB0 := hm7 hb0
 have HH := hm7 h
 have hml := h.1.r.lt
 clear h hb0
 refine callsIn_of_wp_marks Tryz.func117 rfl trivial ?_ rfl
 simp only [Tryz.ntmps117, List.size_toArray, List.length_cons, List.length_nil, Nat.reduceAdd, Nat.reduceSub, Array.replicate_succ, Array.replicate_zero, List.push_toArray, List.append_toArray, List.nil_append, List.cons_append]
 gi_wp2
 try rw [hW0]
 clear hW0
 refine wpIn_seqN (gf := 84) (lb := #[.pointer (some ⟨bx, 0, none⟩)]) rfl (enters_of Tryz.func84 (by kernel_rfl) rfl) (keys_seq w0 g tv mn mr ga B m T K s bx) rfl
  (fun D E pre V => GP8 Y K pre D E V) (fun _ _ _ _ _ => False) ?ownI (fun _ _ _ _ _ _ _ h => h) ?start
  (fun D E pre x v act V => ∃ C, v = x.v /\ GP8 Y K pre D E V /\ Bk V C #[.string x.nm, .int .i64 x.ar] 72 /\ E <= C /\ act = { tmps := #[.slice none 0 0, .func (.func 84) #[] #[.pointer (some ⟨bx, 0, none⟩)], .pointer (some ⟨Y.heap.size, 0, none⟩), undef, .slice none 0 0, .pointer (some ⟨C, 0, none⟩), .func (.func 84) #[] #[.pointer (some ⟨bx, 0, none⟩)], v, undef, undef, undef, undef, undef], defers := [] })
  ?ownA ?assign ?body ?done (fun _ _ _ _ _ _ _ h => h.elim)
 case ownI =>
  rintro D E pre V V2 hf h
  have := h.d
  have := h.e
  exact h.stay (hf.mono fun b _ e => by omega)
 case ownA =>
  rintro D E pre x v act V o ⟨C, h1, h2, h3, h4, h5⟩
  have := h2.d
  have := h2.e
  exact ⟨C, h1, h2.stay ((fr_put _ _ _).mono fun b _ e => by omega), (World.putObj_heap_other (by omega)).trans h3, h4, h5⟩
 case start =>
  intro W1 hb1 hz1
  have hbY := below_step HB0.out hb1
  refine ⟨⟨HH.out.1.below hbY, HH.out.2.below hbY⟩, fun D W2 ⟨k1, k2, k3⟩ => ⟨⟨⟨_, (HFB.out.below hb1).below k1, ownP_nil _ _, by intro b hb; cases hb⟩, Fr.of (below_step hbY k1), by omega, by omega, Nat.le_refl _, List.nodup_nil, by intro x hx; cases hx⟩, by omega, k1.block _ (by omega), k1.block _ (by omega)⟩, fun D E pre V h => ⟨?_, by have := h.d; have := h.e; omega⟩, fun _ _ _ _ _ h => h.elim⟩
  show V.heap[mr]? = W1.heap[mr]?
  rw [h.fr.block mr hml (by omega), hbY.block mr hml]
 case assign =>
  rintro l mm D E pre ⟨xn, xa⟩ v V0 V KK ⟨hxK, hxp⟩ h hb hown hle hK
  obtain rfl : v = (⟨xn, xa⟩ : Pd).v := hown
  have hz := h.z
  have hs := hb.size
  gi_wp2
  exact hK _ _ (Uq.below (below1 _ _)) ⟨V.heap.size, (by first | exact trivial | rfl), (h.below hb).below (below1 _ _), Bk.new _ _ _, by omega, rfl⟩
 case body =>
  rintro l mm D E pre ⟨xn, xa⟩ v act V ⟨hxK, hxp⟩ ⟨C, rfl, hg, hC, hCE, rfl⟩ hle
  obtain ⟨v, h1, h2, h3⟩ := hg.ex
  have f0 := h1.cell (i := 0) rfl
  have fl := h1.lt
  have c0 := hC.cell (i := 0) rfl
  have c1 := hC.cell (i := 1) rfl
  have hCl := hC.lt
  have HG := hm7 hg
  have H1 := hm7 h1
  have H2 := hm7 h2
  have H3 := hm7 h3
  have HXP := hm7 (And.intro hxK hxp)
  have hpl : pre.length <= 100000000000 := by
   obtain ⟨r, hr⟩ := sub_perm8 hg.l.1 hg.l.2
   have := hr.length_eq
   rw [List.length_append] at this
   omega
  obtain ⟨fa, fc, efv, -⟩ := row7_form h2
  subst efv
  have hd := hg.d
  have he := hg.e
  have hz := hg.z
  clear hg hC h1 h2 h3 hxK hxp
  gi_wp2_with (gi_at_builtin; (refine pappIn rfl _ _ rfl (Y.heap.size + 1) (.slice fa pre.length fc) pre rfl (row7_below H2.out (below1 _ _)) V.heap.size ⟨xn, xa⟩ rfl (Bk.new _ _ _) (by omega) (by simp; omega) ?_); intro v2 w7 ho7 hg7 hv7; (have hk7 : Bk w7 Y.heap.size #[.slice fa pre.length fc] 59 := (hg7.block _ (by simp; omega) (fun e => by have := H3.out _ e.symm; omega)).trans (H1.out.below (below1 _ _))); have f7 := hk7.cell (i := 0) rfl; have z7 := hk7.froz 0; have l7 := hk7.lt; have HK7 := hm7 hk7; have HH7 := hm7 (And.intro ho7 (And.intro hg7 hv7)); obtain ⟨a7, n7, e7, -⟩ := row7_form ho7; rw [List.length_append, List.length_singleton] at e7; subst e7; clear ho7 hg7 hv7 hk7)
  obtain ⟨ho7, hg7, hv7⟩ := HH7.out
  have hf7 : Fr (fun b => Y.heap.size <= b) V w7 := ((Fr.of (below1 _ _)).trans (Q := fun b => (Value.slice fa pre.length fc).ownBlock = some b) (Fr.grown hg7 fun b e => e) fun b _ e => by have := H3.out b e; omega)
  have hf8 : Fr (fun b => b = Y.heap.size ∨ E <= b) V w7 := ((Fr.of (below1 _ _)).trans (Q := fun b => (Value.slice fa pre.length fc).ownBlock = some b) (Fr.grown hg7 fun b e => e) fun b _ e => Or.inr (H3.out b e))
  have hnew : ∀ b, (Value.slice a7 (pre.length + 1) n7).ownBlock = some b -> E <= b := fun b hb => by
   rcases hv7 with hv | hv
   ·exact H3.out b (hv ▸ hb)
   ·rw [hv] at hb; cases hb; simp; omega
  refine ⟨?_, ⟨⟨_, HK7.out.set 0 _, row7 ho7 fun b hb => heap_setCell_other _ _ _ _ fun e => ?_, hnew⟩, ?_, hd, he, ?_, ?_⟩⟩
  ·have hset : Fr (fun b => b = Y.heap.size ∨ E <= b) V (w7.setCell ⟨Y.heap.size, 0, none⟩ (.slice a7 (pre.length + 1) n7)) := hf8.set (Or.inl (Or.inl rfl))
   exact ⟨hset.size, fun b q1 q2 q3 => hset.block b q3 (by omega)⟩
  ·have e' : b = Y.heap.size := e
   have := hnew b hb
   omega
  ·exact (HG.out.fr.trans hf7 fun b _ h => h).set (Or.inl (Nat.le_refl _))
  ·have q1 := (hf8.set (g := Y.heap.size) (i := 0) (v := .slice a7 (pre.length + 1) n7) (Or.inl (Or.inl rfl))).size
   omega
  ·refine ⟨List.nodup_append.2 ⟨HG.out.l.1, by simp, fun a ha b hb => ?_⟩, fun y hy => ?_⟩
   ·rw [List.mem_singleton] at hb
    subst hb
    exact fun e => HXP.out.2 (e ▸ ha)
   ·rcases List.mem_append.1 hy with hy | hy
    ·exact HG.out.l.2 y hy
    ·rw [List.mem_singleton] at hy; rw [hy]; exact HXP.out.1
 case done =>
  rintro D E D' ss V rfl hfin hg hD
  obtain ⟨v, h1, h2, h3⟩ := hg.ex
  have f0 := h1.cell (i := 0) rfl
  obtain ⟨fa, fc, efv, -⟩ := row7_form h2
  subst efv
  have HG := hm7 hg
  have H2 := hm7 h2
  have H3 := hm7 h3
  have HD := hm7 hD
  have HFIN := hm7 hfin
  have hd := hg.d
  have he := hg.e
  clear hg h1 h2 h3 hD hfin
  gi_wp2
  refine ⟨by simp, .inl ⟨_, _, rfl, run_takeDeferred HD.out, ⟨_, results_tmp rfl _ _ _, .slice fa ss.length fc, ss, rfl, ?_, HFIN.out, ?_⟩⟩⟩
  ·exact OwnP.mono (row7 H2.out fun b hb => World.putObj_heap_other (by have := H3.out b hb; omega)) (Nat.le_succ _)
  ·exact (HG.out.fr.trans (fr_put _ _ _) fun b _ e => by omega).below fun b hl hc => by omega
set_option maxRecDepth 20000 in
theorem keys8_any (mr : Nat) (Y : World) : Calls Tryz.prog 50 #[.map (some mr)] Y fun e Y' => e = .returned (.func (.func 84) #[] #[.pointer (some ⟨Y.heap.size, 0, none⟩)]) /\ Bk Y' Y.heap.size #[.map (some mr)] 42 /\ Below Y.heap.size Y Y' := by
 go_enter Tryz.func50, Tryz.ntmps50
 go_wp2
 go_ret
 exact ⟨rfl, Bk.new _ _ _, below1 _ _⟩
set_option maxRecDepth 20000 in
theorem collP8_any (w0 : World) (g : Nat) (tv : Value) (mn mr : Nat) (ga : Pd -> Nat) (B : Pd -> Nat -> Prop) (m : Nat) (T : List Tm) (K : List Pd) (s : Pd -> St7) (bx : Nat) (Y : World) (h : KD8 w0 g tv mn mr ga B m T K s bx Y) (hkl : K.length <= 100000000000) :
  Calls Tryz.prog 82 #[.func (.func 84) #[] #[.pointer (some ⟨bx, 0, none⟩)]] Y fun e Y' => ∃ v l, e = .returned v /\ OwnP Y' Y.heap.size v l /\ l.Perm K /\ Below Y.heap.size Y Y' := by
 have HA := hm7 (appSeqP8_any w0 g tv mn mr ga B m T K s bx Y h hkl)
 clear h
 go_enter Tryz.func82, Tryz.ntmps82
 go_wp2_with (go_at_call 117; refine HA.out.mono ?_; rintro e w1 ⟨v, l, rfl, h1, h2, h3⟩; have HH := hm7 (And.intro h1 (And.intro h2 h3)); clear h1 h2 h3)
 go_ret
 exact ⟨v, l, rfl, HH.out⟩
def PQ8 (K : List Pd) (Y : World) (e : Ending) (Y' : World) : Prop := ∃ v l, e = .returned v /\ OwnP Y' Y.heap.size v l /\ l.Perm K /\ srt8P l /\ Below Y.heap.size Y Y'
set_option maxRecDepth 20000 in
theorem sortedP8_any (w0 : World) (g : Nat) (tv : Value) (mn mr : Nat) (ga : Pd -> Nat) (B : Pd -> Nat -> Prop) (m : Nat) (T : List Tm) (K : List Pd) (s : Pd -> St7) (bx : Nat) (Y : World) (h : KD8 w0 g tv mn mr ga B m T K s bx Y) (hkl : K.length <= 100000000000) :
  Calls Tryz.prog 49 #[.func (.func 84) #[] #[.pointer (some ⟨bx, 0, none⟩)], .func (.func 51) #[] #[]] Y (PQ8 K Y) := by
 have HA := hm7 (collP8_any w0 g tv mn mr ga B m T K s bx Y h hkl)
 have HKL := hm7 hkl
 clear h
 go_enter Tryz.func49, Tryz.ntmps49
 go_wp2_with (first
  | (go_at_call 82; refine HA.out.mono ?_; rintro e w1 ⟨v, l, rfl, h1, h2, h3⟩; have HH := hm7 (And.intro h1 (And.intro h2 h3)); have HSO := hm7 (sort8P_any l v Y.heap.size w1 h1 (by have := h2.length_eq; have := HKL.out; omega)); obtain ⟨fa, fc, efv, -⟩ := row7_form h1; subst efv; clear h1 h2 h3)
  | (go_at_call 83; refine HSO.out.mono ?_; rintro e w2 ⟨rfl, l', k1, k2, k3, k4⟩; have HQ := hm7 (And.intro k1 (And.intro k2 (And.intro k3 k4))); clear k1 k2 k3 k4))
 go_ret
 exact ⟨_, l', rfl, HQ.out.1, HQ.out.2.1.trans HH.out.2.1, HQ.out.2.2.1, HH.out.2.2.trans HQ.out.2.2.2⟩
set_option maxRecDepth 20000 in
theorem preds8_any (w0 : World) (g : Nat) (tv : Value) (mn mr : Nat) (ga : Pd -> Nat) (B : Pd -> Nat -> Prop) (m : Nat) (T : List Tm) (K : List Pd) (s : Pd -> St7) (Y : World) (h : BS w0 g tv mn mr ga B m T K s Y) (hkl : K.length <= 100000000000) :
  Calls Tryz.prog 24 #[.pointer (some ⟨g, 0, none⟩)] Y (PQ8 K Y) := by
 have c2 := h.t.b.cell (i := 2) rfl
 have HS := hm7 h
 have HKL := hm7 hkl
 clear h
 go_enter Tryz.func24, Tryz.ntmps24
 go_wp2_with (first
  | (go_at_call 50; refine (keys8_any _ _).mono ?_; rintro e w1 ⟨rfl, h1, h2⟩; have HSO := hm7 (sortedP8_any w0 g tv mn mr ga B m T K s Y.heap.size w1 ⟨HS.out.below h2, h1⟩ HKL.out); have HB := hm7 h2; clear h1 h2)
  | (go_at_call 49; refine HSO.out.mono ?_; rintro e w2 ⟨v, l, rfl, k1, k2, k3, k4⟩; have HQ := hm7 (And.intro k1 (And.intro k2 (And.intro k3 k4))); clear k1 k2 k3 k4))
 go_ret
 exact ⟨v, l, rfl, HQ.out.1.mono HB.out.size, HQ.out.2.1, HQ.out.2.2.1, below_step HB.out HQ.out.2.2.2⟩
end Go.Proofs.YtechceagghcipabGreatDoor
