import Derived.Test.YtechceagghcipabGreatDoorEE5
import Derived.Maps.AppendAt
import Derived.Laws.OwnMore
import Derived.Test.YtechceagghcipabGreatDoorB7
import Derived.Test.YtechceagghcipabGreatDoorShelf
import Derived.Sort.OwnSorted
import Derived.Test.YtechceagghcipabGreatDoorA1
namespace Go.Proofs.YtechceagghcipabGreatDoor
open Go.RowKit Go.Shelf
theorem aappIn {F : Fence} {fu : Nat} {ops : Array Oper} {rest : List Oper} {o : Oper} {a : Act} {Q : Exit -> Act -> World -> Prop} {w : World} (hgd : o.guard = none) (s x : Operand)
  (ho : o.op = .call { callee := .builtin .append, args := #[s, x], argTypes := #[56, 56] }) (base : Nat) (v : Value) (l : List (At × Value)) (hs : a.eval s = v) (hown : OwnA w base v l)
  (b : Nat) (y : At × Value) (hx : a.eval x = .slice (some ⟨b, 0, none⟩) 1 1) (hblk : Bk w b (acell y).toArray 33) (h1c : ∀ u ∈ acell y, u.oneCell' = true) (hlen : l.length <= 1800000000000) (hbase : base <= w.heap.size)
  (h : ∀ v' w', OwnA w' base v' (l ++ [y]) -> w.grownBy w' v.ownBlock -> (v'.ownBlock = v.ownBlock ∨ v'.ownBlock = some w.heap.size) -> wpListIn F fu Tryz.prog ops Q rest (a.put o.dst v') w') : wpListIn F fu Tryz.prog ops Q (o :: rest) a w := by
 obtain ⟨i0, hi0, hz0, hz1, hz2⟩ := info_parts Tryz.infoAtom
 refine wpListIn_plain hgd fun K hK' => ?_
 obtain ⟨v', w', hrun, r1, r2, -, r3⟩ := run_append_own_at (P := Tryz.prog) w base 56 o.type 33 i0 _ 5 72 Tryz.underlying56 hi0 hz0 hz1 hz2 rfl (by omega) v l.length (acs l) hown ⟨b, 0, none⟩ 1 1 (acs [y]) (by simp [acs, acell]) (fun j u hj => by
  have := World.news_of_block (cs := (acell y).toArray) (t := 33) (fr := (0, 0)) hblk j u
  exact this (by simpa [acs] using hj)) (by simpa [acs] using h1c) (by unfold maxLen; omega) (by omega) hbase
 unfold Oper.wpIn
 refine ⟨?_, ?_⟩
 ·simp [Oper.about, ho, resolve, Target.leads, Sem.run_pure]
 ·rw [Oper.semAt_plain F _ _ (by rw [ho]; intro c hc'; cases hc')]
  simp [execOp, ho, resolve, invoke, builtin, hs, hx, hrun, Result.andThen]
  refine hK' _ _ (h v' w' ?_ r2 r3)
  unfold OwnA
  rw [List.length_append, acs_app]
  exact r1
structure GA8 (fb base : Nat) (X : Nat -> Prop) (L : List At) (E : Nat) (V : World) : Prop where
 ex : ∃ fv Q, Bk V fb #[fv] 56 /\ AL8 V base fv Q /\ Q.map Prod.fst = L /\ (∀ b, (fv.ownBlock = some b ∨ ∃ x ∈ Q, x.2 = b) -> X b ∨ E <= b) /\ X fb /\ fb < base
theorem GA8.only {fb base : Nat} {X : Nat -> Prop} {L : List At} {E : Nat} : OnlyE X E (GA8 fb base X L E) := by
 rintro W W' ⟨fv, Q, h1, h2, h3, h4, h5, h6⟩ hs hb
 exact ⟨fv, Q, (hb fb (Or.inl h5) h1.lt).trans h1, h2.same fun b hq => hb b (h4 b hq) (h2.lt hq).2, h3, h4, h5, h6⟩
theorem GA8.put {fb base : Nat} {X : Nat -> Prop} {L : List At} {E : Nat} {V : World} {fv : Value} {Q : List (At × Nat)} {x : At} {A : Nat} (h1 : Bk V fb #[fv] 56) (h2 : AL8 V base fv Q) (h3 : Q.map Prod.fst = L) (h4 : ∀ b, (fv.ownBlock = some b ∨ ∃ x ∈ Q, x.2 = b) -> X b ∨ E <= b) (h5 : X fb) (h6 : fb < base)
  (hA : TBlk V A x.args x.args.length) (hAE : E <= A) (hbE : base <= E) (hn : x.args.length <= 1000000000) (hnA : ∀ y ∈ Q, y.2 ≠ A) (hEV : E <= V.heap.size) {v' : Value} {V1 V' : World} (hb1 : Below V.heap.size V V1) (ho : OwnA V' base v' (Q.map enc8 ++ [(x, .slice (some ⟨A, 0, none⟩) x.args.length x.args.length)])) (hg : V1.grownBy V' fv.ownBlock) (hv : v'.ownBlock = fv.ownBlock ∨ v'.ownBlock = some V1.heap.size) :
  GA8 fb base X (L ++ [x]) E (V'.setCell ⟨fb, 0, none⟩ v') /\ Fr (fun b => X b ∨ E <= b) V (V'.setCell ⟨fb, 0, none⟩ v') := by
 have hfv : fv.ownBlock ≠ some A := fun e => by
  obtain ⟨c, hc⟩ := row7_blk h2.o e
  obtain ⟨C, k1, -⟩ := hA
  unfold Bk at hc
  rw [hc] at k1
  exact absurd k1 (by simp)
 have hs : AL8 V' base v' (Q ++ [(x, A)]) := (h2.below hb1).snoc (x := (x, A)) (by rw [List.map_append]; exact ho) hg (hA.later hb1) (by simpa using Nat.le_trans hbE hAE) hn hnA hfv
 have hfbn : fv.ownBlock ≠ some fb := fun e => by have := (h2.lt (Or.inl e)).1; omega
 have hz1 := hb1.size
 have hz2 := hg.size
 have hk : Bk V' fb #[fv] 56 := (hg.block fb (Nat.lt_of_lt_of_le h1.lt hz1) (fun e => hfbn e.symm)).trans (h1.below hb1)
 have hv4 : ∀ b, v'.ownBlock = some b -> X b ∨ E <= b := fun b hb => by
  rcases hv with hv | hv
  ·exact h4 b (Or.inl (hv ▸ hb))
  ·rw [hv] at hb; cases hb; exact Or.inr (by omega)
 refine ⟨⟨v', Q ++ [(x, A)], ?_, hs.same fun b hb => heap_setCell_other _ _ _ _ fun e => ?_, by simp [h3], fun b hb => ?_, h5, h6⟩, ?_⟩
 ·have := hk.set 0 v'
  exact this
 ·have e' : b = fb := e
  have := (hs.lt hb).1
  omega
 ·rcases hb with hb | ⟨y, hy, rfl⟩
  ·exact hv4 b hb
  ·rcases List.mem_append.1 hy with hy | hy
   ·exact h4 _ (Or.inr ⟨y, hy, rfl⟩)
   ·rw [List.mem_singleton] at hy; subst hy; exact Or.inr hAE
 ·refine Fr.set (((Fr.of hb1).trans (Q := fun b => fv.ownBlock = some b) (Fr.grown hg fun b e => e) fun b _ e => h4 b (Or.inl e))) (Or.inl (Or.inl h5))
theorem one8 (x : At) (A n m : Nat) : ∀ u ∈ acell (x, .slice (some ⟨A, 0, none⟩) n m), u.oneCell' = true := by
 intro u hu
 simp only [acell, List.mem_cons, List.not_mem_nil, or_false] at hu
 rcases hu with rfl | rfl | rfl | rfl | rfl <;> rfl
end Go.Proofs.YtechceagghcipabGreatDoor
namespace Go.Proofs.YtechceagghcipabGreatDoor
open Go.RowKit Go.Shelf Go.Lib Go.Sort
instance : Inhabited Bd := ⟨⟨0, zt⟩⟩
def cfB (x y : Bd) : Int := M.sgI x.x y.x
theorem ltB (x y : Bd) : ltOf cfB x y = decide (x.x < y.x) := by
 unfold ltOf cfB M.sgI
 by_cases h1 : x.x < y.x
 ·simp [h1]
 ·by_cases h2 : y.x < x.x <;> simp [h1, h2]
theorem swoB : SWO (ltOf cfB) where
 irrefl x := by rw [ltB]; simp
 trans x y z h1 h2 := by rw [ltB] at *; simp at *; omega
 ntrans x y z h1 h2 := by rw [ltB] at *; simp at *; omega
set_option maxHeartbeats 1000000 in
theorem closure_any (x y : Bd) (W : World) : Calls Tryz.prog 163 #[.agg (Bd.cs x).toArray, .agg (Bd.cs y).toArray] W fun e w' => e = .returned (.int .i64 (cfB x y)) /\ ∃ q os', w' = grow (W.drewN q) os' := by
 obtain ⟨x, k, n, s⟩ := x
 obtain ⟨y, k', n', s'⟩ := y
 unfold Bd.cs
 go_enter Tryz.func163, Tryz.ntmps163
 go_wp2_with (go_at_call 54; refine (cmpI_any _ _ _).mono ?_; rintro e w' ⟨rfl, rfl⟩)
 go_ret
 exact ⟨rfl, 0, _, by rw [alloc_eq_grow, alloc_eq_grow, grow_grow]; rfl⟩
theorem cmpLaysB (blk off size : Nat) (w : World) : CmpLays Tryz.prog 163 #[] Bd.cs 4 cfB blk off size w :=
 fun _ _ _ _ x y => closure_any x y _
theorem flatB (d : Array Bd) : flatK Bd.cs 4 d = (bcs d.toList).toArray := by
 apply Array.ext
 ·simp [bcs_len]
 ·intro t h1 h2
  have ht : t < d.size * 4 := by simpa using h1
  have hq : t / 4 < d.size := by omega
  have hd : d.toList[t / 4]? = some d[t / 4]! := by
   rw [getElem!_pos d (t / 4) hq]; simp [hq]
  have hg := bcs_get d.toList (t / 4) _ hd (t % 4) (by omega)
  rw [show t / 4 * 4 + t % 4 = t by omega] at hg
  have e1 : (flatK Bd.cs 4 d)[t] = (Bd.cs d[t / 4]!)[t % 4]! := by
   have := get_flatK Bd.cs 4 d t ht
   rwa [getElem!_pos _ t h1] at this
  rw [e1]
  have hc : t % 4 < (Bd.cs d[t / 4]!).length := by simp [Bd.cs]; omega
  rw [getElem!_pos (Bd.cs d[t / 4]!) (t % 4) hc]
  have h3 : t < (bcs d.toList).length := by simpa using h2
  rw [List.getElem?_eq_getElem hc, List.getElem?_eq_getElem h3] at hg
  simpa using (Option.some.inj hg).symm
theorem holdsB {w : World} {base g cap : Nat} {d : Array Bd} (h : Own w base (.slice (some ⟨g, 0, none⟩) d.size cap) d.toList) : HoldsK Bd.cs 4 w g 0 d := by
 rcases h.2 with ⟨h, _⟩ | ⟨g', cap', cur, hv, hb, hg, hn, hc, hs, ht⟩
 ·cases h
 ·simp only [Value.slice.injEq, Option.some.injEq, Addr.mk.injEq] at hv
  obtain ⟨⟨rfl, -⟩, -, rfl⟩ := hv
  intro j hj
  rw [flatB] at hj ⊢
  have hj' : j < (bcs d.toList).length := by simpa using hj
  refine ⟨?_, by simp [World.frozen?, hg]⟩
  rw [Nat.zero_add, cell_of_row _ _ _ _ _ _ hg, getElem!_pos _ j hj]
  have h1 : (cur.toList.take (d.toList.length * 4))[j]? = (bcs d.toList)[j]? := by rw [ht]
  rw [List.getElem?_take_of_lt (by rw [bcs_len] at hj'; exact hj'), List.getElem?_eq_getElem hj'] at h1
  simpa using h1
theorem ownB {w : World} {base g cap n : Nat} {os : Array Obj} {d d' : Array Bd} (h : Own w base (.slice (some ⟨g, 0, none⟩) d.size cap) d.toList) (hs : d'.size = d.size) :
  Own (sortWorldK Bd.cs 4 w g 0 n d' os) base (.slice (some ⟨g, 0, none⟩) d.size cap) d'.toList /\ RowKit.Below g w (sortWorldK Bd.cs 4 w g 0 n d' os) := by
 rcases h.2 with ⟨h, _⟩ | ⟨g', cap', cur, hv, hb, hg, hn, hc, hsz, ht⟩
 ·cases h
 ·simp only [Value.slice.injEq, Option.some.injEq, Addr.mk.injEq] at hv
  obtain ⟨⟨rfl, -⟩, -, rfl⟩ := hv
  have hgs : g < w.heap.size := (Array.getElem?_eq_some_iff.1 hg).1
  have hH : (sortWorldK Bd.cs 4 w g 0 n d' os).heap[g]? = some (.cells (putCells id 0 (bcs d'.toList).toArray cur) 144 (0, 0)) := by
   unfold sortWorldK putRowK
   rw [flatB, heap_grow_old _ _ (by simpa using hgs)]
   simp [putRow, mapBlock, Sort.ahead, Array.getElem?_modify, hg, onCells]
  refine ⟨⟨bcs_len _, Or.inr ⟨g, cap, _, by simp [hs], hb, hH, by simpa [hs] using hn, hc, by simp [putCells, hsz], ?_⟩⟩, ?_⟩
  ·apply List.ext_getElem?
   intro j
   have hl : d'.toList.length = d.toList.length := by simp [hs]
   by_cases hj : j < d'.toList.length * 4
   ·have hjc : j < cur.size := by rw [hsz]; rw [hl] at hj; exact Nat.lt_of_lt_of_le hj (Nat.mul_le_mul_right 4 hn)
    have hjb : j < (bcs d'.toList).length := by rw [bcs_len]; exact hj
    rw [List.getElem?_take_of_lt hj, Array.getElem?_toList]
    simp [putCells, hjb, hjc]
   ·rw [List.getElem?_take_eq_none (by omega), List.getElem?_eq_none (by rw [bcs_len]; omega)]
  ·have hgrow : w.grownBy (sortWorldK Bd.cs 4 w g 0 n d' os) (some g) := by
    refine ⟨rfl, rfl, rfl, by simp [sortWorldK, putRowK], fun k hk hne => ?_⟩
    unfold sortWorldK putRowK
    rw [heap_grow_old _ _ (by simpa using hk)]
    have : g ≠ k := fun e => hne (by rw [e])
    simp [putRow, mapBlock, Sort.ahead, Array.getElem?_modify, this]
   exact (RowKit.Below.refl _ _).grown hgrow (Nat.le_of_lt hgs) (fun q e => by cases e; exact Nat.le_refl _)
theorem perm_of {d d' : Array Bd} (h : PermIn 0 d.size d d') : d'.toList.Perm d.toList := by
 obtain ⟨hs, -, hp⟩ := h
 have e1 : d'.extract 0 d.size = d' := by rw [<- hs]; simp
 have e2 : d.extract 0 d.size = d := by simp
 rw [e1, e2] at hp
 exact hp
theorem srt_of {d d' : Array Bd} (hs : d'.size = d.size) (h : SortedIn (ltOf cfB) 0 d.size d') : srt d'.toList := by
 unfold srt
 rw [List.pairwise_iff_getElem]
 intro i j hi hj hij
 have hj' : j < d'.size := by simpa using hj
 have hi' : i < d'.size := by simpa using hi
 have := h i j (Nat.zero_le _) hij (by omega)
 rw [ltB, getElem!_pos d' j hj', getElem!_pos d' i hi'] at this
 simp only [decide_eq_false_iff_not] at this
 simp only [Array.getElem_toList]
 omega
set_option maxHeartbeats 2000000 in
theorem sortFunc_all (g cap base : Nat) (d : Array Bd) (w : World) (h : Own w base (.slice (some ⟨g, 0, none⟩) d.size cap) d.toList) (hsz : d.size < 4611686018427387904) :
  Calls Tryz.prog 162 #[.slice (some ⟨g, 0, none⟩) d.size cap, .func (.func 163) #[] #[]] w fun e w' => e = .returned (.tuple #[]) /\ ∃ l', Own w' base (.slice (some ⟨g, 0, none⟩) d.size cap) l' /\ l'.Perm d.toList /\ srt l' /\ RowKit.Below base w w' := by
 have hlt := h.lt g rfl
 have eg : ∀ args w, (callFunc 163 args).run Tryz.prog w = .ok (.enter 163 args) w := enters_of Tryz.func163 (by kernel_rfl) rfl
 have hlim : Lib.bitLen d.size < 4611686018427387904 := Nat.lt_of_le_of_lt (Lib.bitLen_le d.size 62 (by omega) (by omega)) (by omega)
 have hp := AnyQ.pdqsortCmpFunc_all (P := Tryz.prog) Tryz.pdqBd 4 Tryz.isAgg144 Tryz.sizeOf144 Bd.cs cfB 163 #[] swoB g 0 cap d w eg (cmpLaysB g 0 d.size w)
  ⟨fun _ => rfl, fun x v hv => by simp [Bd.cs] at hv; rcases hv with rfl | rfl | rfl | rfl <;> rfl, holdsB h, hlt.2⟩ (d.size + 1) 0 d.size (Lib.bitLen d.size) d w (by omega) rfl (SWK.start (holdsB h)) (Nat.zero_le _) (Nat.le_refl _) hsz hlim (Or.inl rfl)
 change Calls Tryz.prog 186 _ _ _ at hp
 have hl := Any.bits_Len Tryz.bitsLen (d.size : Int) w (by omega) (by omega)
 change Calls Tryz.prog 80 _ _ _ at hl
 rw [Int.toNat_natCast] at hl
 have hs := pdq_sorts (ltOf cfB) swoB d 0 d.size (Lib.bitLen d.size) true true (Nat.zero_le _) (Nat.le_refl _) (Or.inl rfl)
 obtain ⟨d', hd'⟩ : ∃ d', pdq (ltOf cfB) d 0 d.size (Lib.bitLen d.size) true true = d' := ⟨_, rfl⟩
 rw [hd'] at hp hs
 have HP : Hid (Calls Tryz.prog 186 #[.slice (some ⟨g, 0, none⟩) d.size cap, .int .i64 ((0 : Nat) : Int), .int .i64 d.size, .int .i64 (Lib.bitLen d.size), .func (.func 163) #[] #[]] w fun e w' => e = .returned (.tuple #[]) /\ SWK Bd.cs 4 w g 0 d' w') := hp
 have HS : Hid (PermIn 0 d.size d d' /\ SortedIn (ltOf cfB) 0 d.size d') := hs
 have HO : Hid (Own w base (.slice (some ⟨g, 0, none⟩) d.size cap) d.toList) := h
 have HL : Hid (Calls Tryz.prog 80 #[.int .u64 (d.size : Int)] w fun e w' => e = .returned (.int .i64 (Lib.bitLen d.size)) /\ w' = w) := hl
 have wr : IntKind.u64.wrap (d.size : Int) = d.size := by rw [IntKind.wrap_u64]; omega
 clear hp hs h hl hd' eg
 go_enter Tryz.func162, Tryz.ntmps162
 go_wp2_with (first
  | (go_at_call 80; refine HL.out.mono ?_; rintro e w1 ⟨rfl, rfl⟩)
  | (go_at_call 186; refine HP.out.mono ?_; rintro e w2 ⟨rfl, hw2⟩))
 go_end0
 obtain ⟨n, os, rfl⟩ := hw2
 have := ownB (n := n) (os := os) HO.out HS.out.1.1
 exact ⟨rfl, d'.toList, this.1, perm_of HS.out.1, srt_of HS.out.1.1 HS.out.2, this.2.mono hlt.1⟩
end Go.Proofs.YtechceagghcipabGreatDoor
namespace Go.Proofs.YtechceagghcipabGreatDoor
open Go.RowKit
theorem sortFunc_list (g cap base : Nat) (l : List Bd) (w : World) (h : Own w base (.slice (some ⟨g, 0, none⟩) l.length cap) l) (hsz : l.length < 4611686018427387904) :
  Calls Tryz.prog 162 #[.slice (some ⟨g, 0, none⟩) l.length cap, .func (.func 163) #[] #[]] w fun e w' => e = .returned (.tuple #[]) /\ ∃ l', Own w' base (.slice (some ⟨g, 0, none⟩) l.length cap) l' /\ l'.Perm l /\ srt l' /\ RowKit.Below base w w' :=
 sortFunc_all g cap base l.toArray w h hsz
theorem sort_all (N : Nat) (hN : N <= 4000000000000) : SortOK N := by
 intro w base v l ho hl
 by_cases h1 : l.length <= 1
 ·exact sort_one w base v l ho h1
 ·obtain ⟨g, cap, rfl, -, -⟩ := own_form ho (by omega)
  have HS : Hid (Calls Tryz.prog 162 #[.slice (some ⟨g, 0, none⟩) l.length cap, .func (.func 163) #[] #[]] w fun e w' => e = .returned (.tuple #[]) /\ ∃ l', Own w' base (.slice (some ⟨g, 0, none⟩) l.length cap) l' /\ l'.Perm l /\ srt l' /\ RowKit.Below base w w') := sortFunc_list g cap base l w ho (by omega)
  clear ho h1
  go_enter Tryz.func151, Tryz.ntmps151
  go_wp2_with (go_at_call 162; refine HS.out.mono ?_; rintro e w1 ⟨rfl, l', h1, h2, h3, h4⟩)
  go_end0
  exact ⟨rfl, l', h1, h2, h3, h4⟩
theorem mGo_len : ∀ (r : List (Tm × Tm)) (o out : List Bd), mGo o r = some out -> out.length <= o.length + r.length := by
 intro r
 induction r with
 | nil => intro o out h; simp [mGo] at h; subst h; simp
 | cons x r ih =>
  intro o out h
  simp only [mGo] at h
  split at h
  ·split at h
   ·split at h
    ·have := ih _ _ h; simp only [List.length_cons]; omega
    ·cases h
   ·have := ih _ _ h; simp only [List.length_cons, List.length_append, List.length_nil] at this ⊢; omega
  ·have := ih _ _ h; simp only [List.length_cons]; omega
theorem mRes_len (p a : At) (s out : List Bd) (h : mRes p a s = some out) : out.length <= s.length + p.args.length + 1 := by
 unfold mRes at h
 split at h
 ·have h1 := mGo_len _ _ _ h
  have h2 := fb_len s
  have h3 : (p.pl.zip a.pl).length <= p.args.length + 1 := by simp only [List.length_zip, At.pl, List.length_cons]; omega
  omega
 ·cases h
theorem match_all (p a : At) (s : List Bd) (x y v : Value) (w : World) (hx : Ts w x p.args) (hy : Ts w y a.args) (hv : Bs w v s) (hlen : s.length + p.args.length + 1 <= 1000000000000) :
  Calls Tryz.prog 120 #[p.v x, a.v y, v] w (MPost w (mRes p a s)) :=
 match_any 1000000000000 (Nat.le_refl _) p a s x y v w hx hy hv hlen fun out ho => sort_all _ (by have := mRes_len p a s out ho; omega)
end Go.Proofs.YtechceagghcipabGreatDoor
