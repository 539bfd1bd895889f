/-
  script (stage 25): the program's Lines: the library's iterator over a text's lines, which writes what is left into its own box; a range over it.
-/
import Derived.Test.YtdfdnjkeiddfjaaDoorShelf2
import Derived.Test.YtdfdnjkeiddfjaaDoorSC9
import Derived.RangeFuncNested
import Derived.RangeFuncBound
import Derived.RangeFuncCalls
import Derived.RangeFuncLeaves
import Derived.Shelf.Abstract
import Derived.Shelf.RegionOpen
import Derived.WalkKit
import Derived.OwnWalkIn
import Derived.TacticsInMore
import Derived.LoopNIn
import Derived.LoopIn
namespace Go.Proofs.YtdfdnjkeiddfjaaDoor
open Go.RowKit Go.Shelf
attribute [local go_sem] Oper.semAt_some

/-- What is handed out are a text's lines; what is left stands in the iterator's own box. -/
def SeqS (P : Program) (g : Nat) (lb : Array Value) (bx : Nat) (s : ByteArray) : Prop :=
  ∀ (n l : Nat) (J : List ByteArray → World → Prop) (W : World), BlkK W bx #[.string s] 9 → J [] W →
    (∀ pre W1 W2, Fr (fun b => b = bx) W1 W2 → J pre W1 → J pre W2) →
    (∀ (m : Nat) pre x W1, J pre W1 → pre.length < s.size → x.size ≤ s.size → YieldAt Fence.wide m P l #[.string x] W1 fun e W' => e = .returned (.bool true) ∧ J (pre ++ [trA x]) W' ∧ W'.heap[bx]? = W1.heap[bx]?) →
    CallsIn Fence.wide n P g (#[.func (.yield l) #[] #[]] ++ lb) W fun e W' => (∃ v, e = .returned v) ∧ J (lnS s) W'
/-- How a round's body is left. -/
def postS (A bx : Nat) (I : List ByteArray → World → Prop) (xs : List ByteArray) (W : World) : Exit → Act → World → Prop
  | .normal, _, W' => I xs W' ∧ (∀ k, k = bx ∨ k = A ∨ k = A + 1 → W'.heap[k]? = W.heap[k]?)
  | _, _, _ => False
theorem frPut (V : World) (k : Nat) (o : Obj) : Fr (fun b => b = k) V (V.putObj k o) := ⟨rfl, rfl, rfl, by simp, fun _ _ hn => World.putObj_heap_other hn⟩
/-- The statement 'for x := range seq { .. }' over such an iterator. -/
theorem wpIn_seqS {n : Nat} {P : Program} {g : Operand} {ps : Array Tmp} {assign body : Code} {Q : Exit → Act → World → Prop} {a : Act} {w : World}
    {gf bx : Nat} {lb : Array Value} {s : ByteArray} (hg : a.eval g = .func (.func gf) #[] lb) (eg : ∀ args w, (callFunc gf args).run P w = .ok (.enter gf args) w) (hseq : SeqS P gf lb bx s) (hps : 1 = ps.size) (hbx : bx < w.heap.size) (hbox : BlkK w bx #[.string s] 9)
    (I : List ByteArray → World → Prop) (h0 : ∀ W, Below w.heap.size w W → W.heap.size = w.heap.size + 2 → I [] W) (hI : ∀ xs W W2, Fr (fun b => b = bx ∨ b = w.heap.size + 1) W W2 → I xs W → I xs W2)
    (a₁ : ByteArray → Act)
    (hassign : ∀ (l m : Nat) (x : ByteArray) (W : World) (K : Act → World → Prop), K (a₁ x) W →
      assign.wpIn (Fence.wide.inRound l) m P (Exit.then K (fun _ _ _ => False)) { tmps := (ps.zip #[.string x]).foldl (fun t (p, v) => t.setIfInBounds p v) a.tmps, defers := [] } W)
    (hbody : ∀ (l m : Nat) (pre : List ByteArray) (x : ByteArray) (W : World), I pre W → pre.length < s.size → x.size ≤ s.size → w.heap.size + 2 ≤ W.heap.size → body.wpIn (Fence.wide.inRound l) m P (postS w.heap.size bx I (pre ++ [trA x]) W) (a₁ x) W)
    (hdone : ∀ (W : World), I (lnS s) W → W.heap[w.heap.size]? = some (.deferred (some [])) → Q .normal { a with defers := { target := .collected w.heap.size, args := #[] } :: a.defers } W) :
    (Code.rangeFunc g ps assign body).wpIn Fence.wide n P Q a w := by
  refine wpIn_rangeFunc fun fn hfn => ?_
  obtain ⟨rec, hrec⟩ : ∃ rec : LoopState → Option Code → Loop, rec = fun st pe => { state := st, pending := pe, fn, tmps := a.tmps, params := ps, assign, body, defers := w.heap.size } := ⟨_, rfl⟩
  obtain ⟨W1, hW1⟩ : ∃ W1, (w.alloc (.deferred (some []))).alloc (.loop (rec .ready none)) = W1 := ⟨_, rfl⟩
  have hz1 : W1.heap.size = w.heap.size + 2 := by rw [← hW1]; simp
  have hL1 : W1.heap[w.heap.size + 1]? = some (.loop (rec .ready none)) := by
    rw [← hW1]; have := World.alloc_heap_new (w.alloc (.deferred (some []))) (.loop (rec .ready none)); rwa [World.size_alloc] at this
  have hK1 : W1.heap[w.heap.size]? = some (.deferred (some [])) := by
    rw [← hW1]; exact (Below.heap_alloc _ _ _ (by simp)).trans (World.alloc_heap_new w _)
  have hB1 : Below w.heap.size w W1 := by rw [← hW1]; exact below2K _ _ _
  refine ⟨w.heap.size + 1, [{ target := .collected w.heap.size, args := #[] }], W1, { target := .fn (.func gf) lb, args := #[.func (.yield (w.heap.size + 1)) #[] #[]] }, W1, gf,
    #[.func (.yield (w.heap.size + 1)) #[] #[]] ++ lb, W1, ?_, ?_, ?_, ?_, ?_, ?_⟩
  · rw [← hW1, hrec]; exact run_enterLoop_outer _ _ _ _ _
  · simp only [resolve, hg]
    simp [go_sem]
  · intro f' _; trivial
  · simp [invoke, go_sem, eg]
  · intro h; cases h
  · refine (hseq (n - 1) (w.heap.size + 1)
      (fun pre W => I pre W ∧ W.heap[w.heap.size + 1]? = some (.loop (rec .ready none)) ∧ W.heap[w.heap.size]? = some (.deferred (some [])))
      W1 (hbox.later hB1) ⟨h0 W1 hB1 hz1, hL1, hK1⟩
      (fun pre X X2 hk h => ⟨hI pre X X2 (hk.mono fun b _ e => Or.inl e) h.1, (hk.block _ (Array.getElem?_eq_some_iff.1 h.2.1).1 (by omega)).trans h.2.1, (hk.block _ (Array.getElem?_eq_some_iff.1 h.2.2).1 (by omega)).trans h.2.2⟩)
      ?_).mono ?_
    · rintro m pre x W ⟨hi, hl, hk⟩ hpre hx
      have hy := run_yield (P := P) (args := #[.string x]) hl (by rw [hrec]; exact hps)
      rw [hrec] at hy
      have hlt : w.heap.size + 1 < W.heap.size := (Array.getElem?_eq_some_iff.1 hl).1
      refine ⟨fn, _, assign, body, hy, roundIn_of_wpIn hfn (hassign _ _ x W _ ⟨_, run_beginRound hl (by rw [hrec]), ?_⟩)⟩
      clear hy
      obtain ⟨Wb, hWb⟩ : ∃ Wb, W.putObj (w.heap.size + 1) (.loop { rec .ready none with state := .busy }) = Wb := ⟨_, rfl⟩
      have hlb : Wb.heap[w.heap.size + 1]? = some (.loop { rec .ready none with state := .busy }) := by rw [← hWb]; exact World.putObj_heap_same hlt
      have hkb : Wb.heap[w.heap.size]? = some (.deferred (some [])) := by rw [← hWb]; exact (World.putObj_heap_other (by omega)).trans hk
      have hbb : Wb.heap[bx]? = W.heap[bx]? := by rw [← hWb]; exact World.putObj_heap_other (by omega)
      have hib : I pre Wb := by rw [← hWb]; exact hI _ _ _ ((frPut _ _ _).mono fun b _ e => Or.inr e) hi
      have hzb : Wb.heap.size = W.heap.size := by rw [← hWb]; simp
      rw [hWb]
      refine wpIn_mono (hbody _ _ pre x Wb hib hpre hx (by omega)) ?_
      rintro e a3 W3 hp
      cases e with
      | normal =>
        obtain ⟨hi3, hsm⟩ := hp
        have hl3 := (hsm _ (Or.inr (Or.inr rfl))).trans hlb
        have hk3 := (hsm _ (Or.inr (Or.inl rfl))).trans hkb
        have hr := run_endRound (P := P) none hl3
        rw [hrec] at hr
        have hlt3 : w.heap.size + 1 < W3.heap.size := (Array.getElem?_eq_some_iff.1 hl3).1
        refine ⟨_, _, hr, rfl, ⟨hI _ _ _ ((frPut _ _ _).mono fun b _ e => Or.inr e) hi3, ?_, (World.putObj_heap_other (by omega)).trans hk3⟩, (World.putObj_heap_other (by omega)).trans ((hsm _ (Or.inl rfl)).trans hbb)⟩
        rw [hrec]
        exact World.putObj_heap_same hlt3
      | ret => exact hp.elim
      | exit id => exact hp.elim
      | goto t => exact hp.elim
      | panic ch => exact hp.elim
      | outgrown => exact hp.elim
    · rintro e W2 ⟨⟨v, rfl⟩, hi, hl, hk⟩
      exact ⟨none, _, by have := run_endLoop (P := P) hl (by rw [hrec]; simp); rw [hrec] at this; exact this, hdone _ (hI _ _ _ ((frPut _ _ _).mono fun b _ e => Or.inr e) hi) ((World.putObj_heap_other (by omega)).trans hk)⟩
theorem idxB_any (r : ByteArray) (w : World) : Calls Tryd.prog 44 #[.string r, .int .u8 10] w fun e w' => e = .returned (.int .i64 (Lib.indexByte r.data.toList 10)) ∧ w' = w := Any.strings_IndexByte Tryd.idxbL r 10 w
theorem trimSuf_any (r : ByteArray) (hr : r.size ≤ 9000000) (w : World) : Calls Tryd.prog 30 #[.string r, .string ⟨#[10]⟩] w fun e w' => e = .returned (.string (trA r)) ∧ w' = w := Any.strings_TrimSuffix Tryd.trsfL r ⟨#[10]⟩ w (by omega)
/-- What is left, by the world. -/
def boxSz (bx : Nat) (w : World) : Nat := match w.cell? ⟨bx, 0, none⟩ with | some (.string r) => r.size | _ => 0
theorem boxSz_eq {bx : Nat} {w : World} {r : ByteArray} (h : BlkK w bx #[.string r] 9) : boxSz bx w = r.size := by
  unfold boxSz
  rw [cell8 h 0 _ rfl]
  rfl
theorem rsA_lt {r : ByteArray} (h : r.size ≠ 0) : (rsA r).size < r.size := by
  unfold rsA
  split
  · rw [ByteArray.size_extract]; omega
  · show 0 < r.size; omega
set_option maxRecDepth 100000 in
set_option maxHeartbeats 2000000 in
theorem lines_seq (bx : Nat) (s : ByteArray) (hs : s.size ≤ 9000000) : SeqS Tryd.prog 43 #[.pointer (some ⟨bx, 0, none⟩)] bx s := by
  intro n l J W hb h0 hJ hY
  have HJ := hm7 hJ
  have HY := hm7 hY
  have HB0 := hm7 hb
  have HJ0 := hm7 h0
  clear hJ hY hb h0
  refine callsIn_of_wp Tryd.func43 rfl trivial ?_ rfl
  simp only [Tryd.ntmps43, List.size_toArray, List.length_cons, List.length_nil, Nat.reduceAdd, Nat.reduceSub, Array.replicate_succ, Array.replicate_zero, List.push_toArray, List.append_toArray, List.nil_append, List.cons_append]
  gi_wp2
  gi_loopw [3, 4] (fun _ _ wr => ∃ (L : List ByteArray) (r : ByteArray), BlkK wr bx #[.string r] 9 ∧ InvA s L r ∧ J L wr) (fun _ _ wr => boxSz bx wr)
  case atStart => exact ⟨[], s, HB0.out, InvA.zero s, HJ0.out⟩
  case round =>
    obtain ⟨L, r, hbr, hin, hj⟩ := hrel
    have HBR := hm7 hbr
    have HIN := hm7 hin
    have HJJ := hm7 hj
    have c0 := cell8 hbr 0 _ rfl
    have f0 := froz8 hbr 0
    clear hbr hin hj HB0 HJ0
    by_cases hz : r.size = 0
    · have hz2 : ¬ (r.size : Int) > 0 := by omega
      have HZ := hm7 hz
      clear hz
      gi_wp2
      go_end0
      exact ⟨⟨_, rfl⟩, by rw [HIN.out.done HZ.out]; exact HJJ.out⟩
    · have hz2 : (r.size : Int) > 0 := by omega
      have HZ := hm7 hz
      clear hz
      have hle := HIN.out.le HZ.out
      have hxs : (lnA r).size ≤ s.size := by
        have h1 : (lnA r).size ≤ r.size := by
          unfold lnA
          split
          · rw [ByteArray.size_extract]; omega
          · exact Nat.le_refl _
        omega
      have hL : L.length < s.size := by have := HZ.out; omega
      have HIN2 := hm7 (HIN.out.step HZ.out)
      have HLT := hm7 (rsA_lt HZ.out)
      have HLE := hm7 (show r.size ≤ 9000000 by omega)
      obtain ⟨i, hi⟩ : ∃ i, Lib.indexByte r.data.toList 10 = i := ⟨_, rfl⟩
      have HIX : Hid (∀ X, Calls Tryd.prog 44 #[.string r, .int .u8 10] X fun e w' => e = .returned (.int .i64 i) ∧ w' = X) := fun X => by rw [← hi]; exact idxB_any r X
      rcases ib_spec 10 r.data.toList with ⟨h1, -⟩ | ⟨k, h1, h2, -⟩
      · rw [hi] at h1
        subst h1
        have e1 : lnA r = r := by unfold lnA; rw [hi]; rfl
        have e2 : rsA r = ⟨#[]⟩ := by unfold rsA; rw [hi]; rfl
        rw [e1] at hxs HIN2
        rw [e2] at HIN2 HLT
        have hf3 : Fr (fun b => b = bx) wr (wr.setCell ⟨bx, 0, none⟩ (.string ⟨#[]⟩)) := (Fr.refl _ wr).set (Or.inl rfl)
        have hj3 := HJ.out _ _ _ hf3 HJJ.out
        have hb3 : BlkK (wr.setCell ⟨bx, 0, none⟩ (.string ⟨#[]⟩)) bx #[.string ⟨#[]⟩] 9 := heap_setCell_same _ _ 0 _ _ _ HBR.out
        obtain ⟨fn, tmps, assign, bd, hy, hR⟩ := HY.out (n - 1) L r _ hj3 hL hxs
        have HB3 := hm7 hb3
        clear hi e1 e2 hf3 hj3 hb3 hL hxs hle
        gi_wp2
        refine ⟨trivial, fun h => (by cases h), (callsIn_wide.2 (HIX.out _)).mono ?_⟩
        rintro e w1 ⟨rfl, e2⟩
        rw [e2]
        clear e2
        gi_wp2
        refine ⟨fun h => (by cases h), hR.mono ?_⟩
        clear hR hy
        rintro e W4 ⟨rfl, hj4, hb4⟩
        have HJ4 := hm7 hj4
        have HB4 := hm7 (show BlkK W4 bx #[.string ⟨#[]⟩] 9 from hb4.trans HB3.out)
        clear hj4 hb4
        gi_wp2
        go_roundw
        case rel => exact ⟨_, _, HB4.out, HIN2.out, HJ4.out⟩
        case measure => rw [boxSz_eq HB4.out, boxSz_eq HBR.out]; exact HLT.out
      · rw [hi] at h1
        subst h1
        have hk : k < r.size := by
          have h3 := (List.getElem?_eq_some_iff.1 h2).1
          have : r.size = r.data.toList.length := by simp
          omega
        have e1 : lnA r = r.extract 0 (k + 1) := by unfold lnA; rw [hi, if_pos (by omega), Int.toNat_natCast]
        have e2 : rsA r = r.extract (k + 1) r.size := by unfold rsA; rw [hi, if_pos (by omega), Int.toNat_natCast]
        rw [e1] at hxs HIN2
        rw [e2] at HIN2 HLT
        have hf3 : Fr (fun b => b = bx) wr (wr.setCell ⟨bx, 0, none⟩ (.string (r.extract (k + 1) r.size))) := (Fr.refl _ wr).set (Or.inl rfl)
        have hj3 := HJ.out _ _ _ hf3.drew HJJ.out
        have hb3 : BlkK (wr.setCell ⟨bx, 0, none⟩ (.string (r.extract (k + 1) r.size))).drew bx #[.string (r.extract (k + 1) r.size)] 9 := heap_setCell_same _ _ 0 _ _ _ HBR.out
        obtain ⟨fn, tmps, assign, bd, hy, hR⟩ := HY.out (n - 1) L (r.extract 0 (k + 1)) _ hj3 hL hxs
        have HB3 := hm7 hb3
        have g0 : (k : Int) ≥ 0 := by omega
        have g1 : (k : Int) + 1 ≤ (r.size : Int) := by omega
        have g2 : (0 : Int) ≤ (k : Int) + 1 := by omega
        have g3 : wrap64 ((k : Int) + 1) = (k : Int) + 1 := by have := HLE.out; unfold wrap64; omega
        have g4 : ((k : Int) + 1).toNat = k + 1 := by omega
        clear hi e1 e2 hf3 hj3 hb3 hL hxs hle h2 hk
        gi_wp2
        refine ⟨trivial, fun h => (by cases h), (callsIn_wide.2 (HIX.out _)).mono ?_⟩
        rintro e w1 ⟨rfl, e2⟩
        rw [e2]
        clear e2
        gi_wp2
        gi_region
        gi_wp2
        refine ⟨fun h => (by cases h), hR.mono ?_⟩
        clear hR hy
        rintro e W4 ⟨rfl, hj4, hb4⟩
        have HJ4 := hm7 hj4
        have HB4 := hm7 (show BlkK W4 bx #[.string (r.extract (k + 1) r.size)] 9 from hb4.trans HB3.out)
        clear hj4 hb4
        gi_wp2
        go_roundw
        case rel => exact ⟨_, _, HB4.out, HIN2.out, HJ4.out⟩
        case measure => rw [boxSz_eq HB4.out, boxSz_eq HBR.out]; exact HLT.out
end Go.Proofs.YtdfdnjkeiddfjaaDoor
