import Derived.Test.YtechceagghcipabGreatDoorRA44
import Derived.Sort.QuietIn
import Derived.Deep.RegionHeld3
import GoSem.Op.String
import Derived.Laws.Strings
import Derived.Test.YtechceagghcipabGreatDoorRA2
import Derived.Laws.Cover1
import Derived.Laws.IdiomStrings
import Derived.Deep.QuietTactic
import Derived.BigQuiet
namespace Go.Proofs.YtechceagghcipabGreatDoor
open Go.RowKit Go.Lib
def fits8 (cols keys row : List Int) : Bool := decide (cols.length = keys.length) && (cols.zip keys).all fun p => decide (0 <= p.1 /\ p.1 < (row.length : Int) /\ row[p.1.toNat]?.getD 0 = p.2)
theorem zip_left {cols keys : List Int} (hl : cols.length = keys.length) {c : Int} (hc : c ∈ cols) : ∃ k, (c, k) ∈ cols.zip keys := by
 obtain ⟨j, hj⟩ := List.getElem?_of_mem hc
 have h1 := (List.getElem?_eq_some_iff.1 hj).1
 exact ⟨keys[j]'(by omega), List.mem_of_getElem? (i := j) (by rw [List.getElem?_zip_eq_some]; exact ⟨hj, List.getElem?_eq_getElem (by omega)⟩)⟩
theorem bad_none {wd : Nat} {cols keys : List Int} (h : bad7 wd cols keys) {row : List Int} (hr : row.length = wd) : fits8 cols keys row = false := by
 unfold fits8
 by_cases hl : cols.length = keys.length
 ·rw [decide_eq_true hl, Bool.true_and]
  cases hq : (cols.zip keys).all fun p => decide (0 <= p.1 /\ p.1 < (row.length : Int) /\ row[p.1.toNat]?.getD 0 = p.2) with
  | false => rfl
  | true =>
   exfalso
   rw [List.all_eq_true] at hq
   have hq' : ∀ p ∈ cols.zip keys, 0 <= p.1 /\ p.1 < (row.length : Int) /\ row[p.1.toNat]?.getD 0 = p.2 := fun p hp => by simpa using hq p hp
   rcases h with h | ⟨c, hc, h⟩ | ⟨l, hu, j, p, q, hp, hq2, he⟩
   ·exact h hl
   ·obtain ⟨k, hk⟩ := zip_left hl hc
    have := hq' _ hk
    rw [col7, decide_eq_false_iff_not] at h
    simp only at this
    rw [hr] at this
    exact h ⟨this.1, this.2.1⟩
   ·have h1 := hq' p ((unq7_mem hu p).1 (List.mem_of_getElem? hp))
    have h2 := hq' q ((unq7_mem hu q).1 (List.mem_of_getElem? hq2))
    obtain ⟨l', -, hs, rfl⟩ := hu
    have h3 := compact_rise hs
    obtain ⟨a1, rfl⟩ := List.getElem?_eq_some_iff.1 hp
    obtain ⟨a2, rfl⟩ := List.getElem?_eq_some_iff.1 hq2
    have h4 := List.pairwise_iff_getElem.1 h3 j (j + 1) a1 a2 (by omega)
    rw [<- he] at h2
    have := h1.2.2.symm.trans h2.2.2
    omega
 ·rw [decide_eq_false hl]; rfl
theorem good_fit {wd : Nat} {cols keys : List Int} (hl : cols.length = keys.length) (hc : ∀ c ∈ cols, col7 wd c = true) {row : List Int} (hr : row.length = wd) : fits8 cols keys row = fit7 (cols.zip keys) row := by
 unfold fits8 fit7
 rw [decide_eq_true hl, Bool.true_and, Bool.eq_iff_iff, List.all_eq_true, List.all_eq_true]
 refine forall_congr' fun p => forall_congr' fun hp => ?_
 have h1 := hc p.1 (List.of_mem_zip hp).1
 rw [col7, decide_eq_true_eq] at h1
 simp only [decide_eq_true_eq]
 rw [hr]
 exact ⟨fun h => h.2.2, fun h => ⟨h1.1, h1.2, h⟩⟩
theorem nums8_w {s : St7} (ho : s.Ok) {r : List Int} (hr : r ∈ s.rows) (cols : List Nat) : w64 (nums7 cols r) := by
 intro x hx
 simp only [nums7, List.mem_map] at hx
 obtain ⟨c, -, rfl⟩ := hx
 cases h : r[c]? with
 | none => rfl
 | some y => exact ho.w r hr y (List.mem_of_getElem? h)
theorem sift8 {s : St7} (ho : s.Ok) {cols keys : List Int} {l : List (Int × Int)} (parts : Int) (hl : cols.length = keys.length) (hc : ∀ c ∈ cols, col7 s.wd c = true) (hu : unq7 (cols.zip keys) l) (hw : w64 keys) :
  srt7 (sel7 s parts (l.map fun p => p.1.toNat) (l.map Prod.snd)) = (srt7 (sel7 s parts [] [])).filter (fits8 cols keys) := by
 rw [sel7_sift, srt7_filter]
 apply List.filter_congr
 intro r hr
 have hm : r ∈ s.rows := sel_mem r ((srt7_perm _).mem_iff.1 hr)
 have hwl : w64 (l.map Prod.snd) := by
  intro x hx
  simp only [List.mem_map] at hx
  obtain ⟨p, hp, rfl⟩ := hx
  exact hw p.2 (List.of_mem_zip ((unq7_mem hu p).1 hp)).2
 rw [good_fit hl hc (ho.wid r hm), <- fit7_mem (unq7_mem hu) r, Bool.eq_iff_iff, decide_eq_true_eq, <- nums7_fit]
 exact ⟨fun h => tx_inj (nums8_w ho hm _) hwl h, fun h => by rw [h]⟩
end Go.Proofs.YtechceagghcipabGreatDoor
namespace Go.Proofs.YtechceagghcipabGreatDoor
open Go.RowKit
def AD (w : World) (g : Nat) (F S : Nat -> Prop) (m : Nat) (s : St7) (r : List Int) (e : Ending) (w' : World) : Prop :=
 e = .returned (.tuple #[.bool (decide (r ∉ s.rows)), .int .i64 0]) /\ (∃ F' S' : Nat -> Prop, RM w' g F' S' m (ad7 s r) /\ (∀ b, F' b -> F b ∨ w.heap.size <= b) /\ ∀ b, S' b -> S b ∨ w.heap.size <= b) /\ Fr F w w'
theorem add8_any (g : Nat) (F S G : Nat -> Prop) (m : Nat) (s : St7) (v : Value) (r : List Int) (w : World) (h : RM w g F S m s) (hv : Li G w v r) (he : r.length = s.wd) (hl : r.length <= 10000000000) (hc : s.rows.length < 10000000000) :
  Calls Tryz.prog 36 #[.pointer (some ⟨g, 0, none⟩), v] w (AD w g F S m s r) := by
 cases hx : txi s.rows (tx r) with
 | some i =>
  obtain ⟨r', h1, h2⟩ := txi_some hx
  have hm := List.mem_of_getElem? h1
  have e : r' = r := tx_inj (h.ok.w r' hm) hv.w h2
  rw [e] at hm
  refine (add7_old g F S G m s v r w h hv hl he (by rw [hx]; rfl)).mono ?_
  rintro e w' ⟨rfl, hb⟩
  refine ⟨by rw [decide_eq_false (by simpa using hm)], ⟨F, S, by rw [ad7, if_pos hm]; exact h.below hb, fun b hb => Or.inl hb, fun b hb => Or.inl hb⟩, Fr.of hb⟩
 | none =>
  have hm : r ∉ s.rows := fun hm => txi_none hx r hm rfl
  refine (add7_new g F S G m s v r w h hv hl he hx hc).mono ?_
  rintro e w' ⟨rfl, ⟨F', S', h1, h2, h3, -, -⟩, h4⟩
  exact ⟨by rw [decide_eq_true hm], ⟨F', S', by rw [ad7, if_neg hm]; exact h1, h2, h3⟩, h4⟩
end Go.Proofs.YtechceagghcipabGreatDoor
namespace Go.Proofs.YtechceagghcipabGreatDoor
open Go.RowKit
attribute [local go_sem ↓] Go.wp_at_zero Go.wp_at_succ
theorem low7 {w wr w' : World} {F : Nat -> Prop} (h3 : Below w.heap.size w wr) (h : Fr F wr w') (hd : ∀ b, F b -> w.heap.size <= b) : Below w.heap.size w w' := h3.trans ((h.mono (Q := fun b => w.heap.size <= b) fun b _ hF => hd b hF).low h3.size)
end Go.Proofs.YtechceagghcipabGreatDoor
namespace Go.Proofs.YtechceagghcipabGreatDoor
open Go.RowKit
theorem ad7_ok {s : St7} {r : List Int} (h : s.Ok) (he : r.length = s.wd) (hw : w64 r) (hl : s.wd <= 10000000000) (hc : s.rows.length < 10000000000) : (ad7 s r).Ok := by
 unfold ad7
 split
 ·exact h
 ·rename_i hn
  refine ⟨?_, fun x hx => ?_, fun x hx => ?_, h.a, Nat.le_trans h.b (by simp [Add7]), by simp [Add7]; omega, fun _ => hl, h.e⟩
  ·show (s.rows ++ [r]).Nodup
   rw [List.nodup_append]
   refine ⟨h.nd, by simp, fun a ha b hb => ?_⟩
   simp at hb
   subst hb
   intro e
   subst e
   exact hn ha
  ·rcases List.mem_append.1 hx with hx | hx
   ·exact h.wid x hx
   ·simp at hx; subst hx; exact he
  ·rcases List.mem_append.1 hx with hx | hx
   ·exact h.w x hx
   ·simp at hx; subst hx; exact hw
theorem turn_ok7 {s : St7} (h : s.Ok) : (Turn7 s).Ok := ⟨h.nd, h.wid, h.w, h.b, Nat.le_refl _, h.c, h.d, h.e⟩
end Go.Proofs.YtechceagghcipabGreatDoor
namespace Go.Proofs.YtechceagghcipabGreatDoor
open Go.RowKit
def KR (w : World) (X : Nat -> Prop) (g m : Nat) (s : St7) (wr : World) : Prop :=
 ∃ F S : Nat -> Prop, RM wr g F S m s /\ (∀ b, F b ∨ S b -> w.heap.size <= b /\ ¬ X b) /\ Below w.heap.size w wr
def Fx (w : World) (X : Nat -> Prop) (wr w' : World) : Prop := Fr (fun b => w.heap.size <= b /\ ¬ X b) wr w'
theorem KR.add {w wr : World} {X : Nat -> Prop} {g m : Nat} {s : St7} {G : Nat -> Prop} {v : Value} {r : List Int} (h : KR w X g m s wr) (hX : ∀ b, X b -> b < wr.heap.size) (hv : Li G wr v r) (he : r.length = s.wd) (hl : r.length <= 10000000000) (hc : s.rows.length < 10000000000) :
  Calls Tryz.prog 36 #[.pointer (some ⟨g, 0, none⟩), v] wr fun e w' => e = .returned (.tuple #[.bool (decide (r ∉ s.rows)), .int .i64 0]) /\ KR w X g m (ad7 s r) w' /\ Fx w X wr w' := by
 obtain ⟨F, S, h1, h2, h3⟩ := h
 refine (add8_any g F S G m s v r wr h1 hv he hl hc).mono ?_
 rintro e w' ⟨rfl, ⟨F', S', k1, k2, k3⟩, k4⟩
 have := h3.size
 refine ⟨rfl, ⟨F', S', k1, fun b hb => ?_, low7 h3 k4 fun b hF => (h2 b (Or.inl hF)).1⟩, Fr.mono k4 fun b _ hF => h2 b (Or.inl hF)⟩
 have hn : wr.heap.size <= b -> w.heap.size <= b /\ ¬ X b := fun hb => ⟨by omega, fun hc => by have := hX b hc; omega⟩
 exact hb.elim (fun h => (k2 b h).elim (fun h => h2 b (Or.inl h)) hn) fun h => (k3 b h).elim (fun h => h2 b (Or.inr h)) hn
theorem KR.turn {w wr : World} {X : Nat -> Prop} {g m : Nat} {s : St7} (h : KR w X g m s wr) :
  Calls Tryz.prog 41 #[.pointer (some ⟨g, 0, none⟩)] wr fun e w' => e = .returned (.int .i64 ((s.rows.length : Int) - (s.xf : Int))) /\ KR w X g m (Turn7 s) w' /\ Fx w X wr w' := by
 obtain ⟨F, S, h1, h2, h3⟩ := h
 refine (turn7_any g F S m s wr h1).mono ?_
 rintro e w' ⟨rfl, k1, k4⟩
 exact ⟨rfl, ⟨F, S, k1, h2, low7 h3 k4 fun b hF => (h2 b (Or.inl hF)).1⟩, Fr.mono k4 fun b _ hF => h2 b (Or.inl hF)⟩
theorem KR.len {w wr : World} {X : Nat -> Prop} {g m : Nat} {s : St7} (h : KR w X g m s wr) (parts : Int) :
  Calls Tryz.prog 44 #[.pointer (some ⟨g, 0, none⟩), .int .i64 parts] wr fun e w' => e = .returned (.int .i64 (len7 s parts)) /\ Below wr.heap.size wr w' := by
 obtain ⟨F, S, h1, h2, h3⟩ := h
 exact len7_any g F S m s parts wr h1
end Go.Proofs.YtechceagghcipabGreatDoor
namespace Go.Proofs.YtechceagghcipabGreatDoor
open Go.RowKit Go.Shelf
section
variable {F : Fence} {n : Nat} {P : Program} {ops : Array Oper} {C : World -> Prop} {md : Region.Mode}
def plainOps (ops : Array Oper) : Bool := ops.toList.all fun o => match o.op with | .defer _ => false | _ => true
theorem plainOps_get {i : Nat} {o : Oper} (h : plainOps ops = true) (ho : ops[i]? = some o) : ∀ c, o.op ≠ .defer c := by
 intro c hc
 have h1 := List.all_eq_true.1 h o (by rw [<- Array.getElem?_toList] at ho; exact List.mem_of_getElem? ho)
 rw [hc] at h1
 cases h1
end
def mk7 (Es : List Nat) : List Deferred := Es.map fun E => { target := .collected E, args := #[] }
structure Mk7 (X : World) (Es : List Nat) : Prop where
 nd : Es.Nodup
 bl : ∀ E ∈ Es, X.heap[E]? = some (.deferred (some []))
theorem Mk7.lt {X : World} {Es : List Nat} (h : Mk7 X Es) : ∀ E ∈ Es, E < X.heap.size := fun E hE => (Array.getElem?_eq_some_iff.1 (h.bl E hE)).1
theorem Mk7.same {X Y : World} {Es : List Nat} (h : Mk7 X Es) (hs : ∀ E ∈ Es, Y.heap[E]? = X.heap[E]?) : Mk7 Y Es := ⟨h.nd, fun E hE => (hs E hE).trans (h.bl E hE)⟩
theorem Mk7.cons {E : Nat} {X : World} {Es : List Nat} (h : Mk7 X Es) (hn : E ∉ Es) (hE : X.heap[E]? = some (.deferred (some []))) : Mk7 X (E :: Es) :=
 ⟨List.nodup_cons.2 ⟨hn, h.nd⟩, fun e he => by rcases List.mem_cons.1 he with rfl | he; exact hE; exact h.bl e he⟩
def NQ (R : Act -> World -> Prop) : Exit -> Act -> World -> Prop
 | .normal, a, w => R a w
 | _, _, _ => False
theorem arr_of (n : Nat) (tmps : Array Value) (h : tmps.size = n) : ∃ f : Nat -> Value, tmps = ((List.range n).map f).toArray /\ ∀ i, i < n -> tmps[i]? = some (f i) := by
 refine ⟨fun i => tmps[i]?.getD undef, ?_, fun i hi => ?_⟩
 ·apply Array.ext
  ·simp [h]
  ·intro i h1 h2
   simp [h1]
 ·have h1 : tmps[i]? = some (tmps[i]'(by omega)) := Array.getElem?_eq_getElem (by omega)
  simp only [h1, Option.getD_some]
end Go.Proofs.YtechceagghcipabGreatDoor
namespace Go.Proofs.YtechceagghcipabGreatDoor
open Go.RowKit
section
variable {F : Fence} {n : Nat} {P : Program} {ops : Array Oper} {Q : Exit -> Act -> World -> Prop} {md : Region.Mode} {S : World -> Prop}
def YieldsZ (P : Program) (ops : Array Oper) (S : World -> Prop) (o : Oper) (v : Value) (a : Act) : Prop := YieldsIf P ops S o v a /\ ∀ w, o.about P w a.eval = none
theorem YieldsZ.of_same {o : Oper} {v : Value} {a a' : Act} (hy : YieldsZ P ops S o v a) (he : execOp a'.eval o = execOp a.eval o) (hw : Region.wanted o (yielded ops a'.tmps) = Region.wanted o (yielded ops a.tmps)) (hb : ∀ w, o.about P w a'.eval = o.about P w a.eval) : YieldsZ P ops S o v a' :=
 ⟨hy.1.of_same he hw, fun w => by rw [hb w]; exact hy.2 w⟩
theorem YieldsZ.op {i : Nat} {o : Oper} {v : Value} {a : Act} (hnd : plainOps ops = true) (hi : ops[i]? = some o) (hy : YieldsZ P ops S o v a) {K : Act -> World -> Prop} {w : World} (hS : S w) (h : K (a.put o.dst v) w) : wpOpIn F n P ops Q i K a w := by
 unfold Go.wpOpIn
 simp only [hi]
 have hab : ∀ f, o.about P w a.eval = some f -> F.fn f := fun f hf => by rw [hy.2 w] at hf; cases hf
 rcases hy.1 with ⟨hw, hv⟩ | ⟨hw, rfl⟩
 ·simp only [hw, if_true, Oper.wpIn, Oper.semAt_eq _ _ _ (plainOps_get hnd hi), hv w hS, Oper.uponIn]; exact ⟨hab, h⟩
 ·simp only [hw, Bool.false_eq_true, if_false]; exact ⟨hab, h⟩
theorem wpOpIn_putZ {j : Nat} {oi oj : Oper} {v : Value} (hnd : plainOps ops = true) (hj : ops[j]? = some oj) (hap : oi.apart ops oj = true) (hsi : ∀ cs b, oi.op ≠ .select cs b) (hsj : ∀ cs b, oj.op ≠ .select cs b)
  (hQ : ∀ c a w, Q (.panic c) (a.put oi.dst v) w -> Q (.panic c) a w) {K : Act -> World -> Prop} {a : Act} {w : World} (hy : YieldsZ P ops S oi v a) (h : wpOpIn F n P ops Q j K (a.put oi.dst v) w) :
  wpOpIn F n P ops Q j (fun a' w' => YieldsZ P ops S oi v a' /\ K (a'.put oi.dst v) w') a w := by
 obtain ⟨h1, h2, h3⟩ := Oper.apart_spec hap
 have hpj := plainOps_get hnd hj
 have keep : ∀ (a : Act), YieldsZ P ops S oi v a -> ∀ u, YieldsZ P ops S oi v (a.put oj.dst u) := fun a hy u =>
  hy.of_same (execOp_put oi hsi a oj.dst u h3) (wanted_put oi a oj.dst u h3) (fun w => about_put oi w a oj.dst u h3)
 have keepD : ∀ d, YieldsZ P ops S oi v { a with defers := d :: a.defers } := fun d => hy.of_same rfl rfl (fun _ => rfl)
 unfold wpOpIn at *
 simp only [hj] at *
 rw [wanted_put oj a oi.dst v h1, about_put oj w a oi.dst v h1] at h
 split
 ·rename_i hw
  simp only [hw, if_true] at h
  unfold Oper.wpIn at *
  rw [about_put oj w a oi.dst v h1] at h
  refine ⟨h.1, ?_⟩
  have h := h.2
  rw [Oper.semAt_eq _ _ _ hpj, execOp_put oj hsj a oi.dst v h1] at h
  rw [Oper.semAt_eq _ _ _ hpj]
  generalize (execOp a.eval oj).run P w = r at *
  cases r with
  | ok x w' =>
   cases x <;> simp only [Oper.uponIn] at h ⊢
   case value u => exact ⟨keep a hy u, by rw [<- Act.put_comm a v u h2]; exact h⟩
   case skip => exact ⟨keep a hy _, by rw [<- Act.put_comm a v undef h2]; exact h⟩
   case defer d =>
    refine ⟨keep _ (keepD d) _, ?_⟩
    rw [<- Act.put_comm _ v undef h2, <- Act.put_defers]
    exact h
   case enter f args =>
    refine ⟨h.1, CallsIn.mono h.2 fun e w'' he => ?_⟩
    cases e with
    | returned u => exact ⟨keep a hy u, by rw [<- Act.put_comm a v u h2]; exact he⟩
    | panicked c => exact hQ _ _ _ he
    | outgrown => exact he
   case row row args => exact ⟨h.1, RowsIn.mono h.2 fun u w'' he => ⟨keep a hy u, by rw [<- Act.put_comm a v u h2]; exact he⟩⟩
   case round l f tmps assign body =>
    refine ⟨h.1, RoundIn.mono h.2 fun e w'' he => ?_⟩
    cases e with
    | returned u => exact ⟨keep a hy u, by rw [<- Act.put_comm a v u h2]; exact he⟩
    | panicked c => exact hQ _ _ _ he
    | outgrown => exact he
  | halt x w' =>
   cases x <;> simp only [Oper.uponIn] at h ⊢
   case panic u => exact hQ _ _ _ h
 ·rename_i hw
  simp only [hw] at h
  exact ⟨h.1, keep a hy _, by rw [<- Act.put_comm a v undef h2]; exact h.2⟩
def wpAnyZ (F : Fence) (n : Nat) (P : Program) (md : Region.Mode) (ops : Array Oper) (Q : Exit -> Act -> World -> Prop) (S : World -> Prop) : Nat -> Array Bool -> Act -> World -> Prop
 | 0, listed, a, w => Region.ready md ops listed = [] /\ Q .normal a w
 | fuel + 1, listed, a, w =>
  (Region.ready md ops listed = [] -> Q .normal a w) ∧
  ∀ i ∈ Region.ready md ops listed, wpOpIn F n P ops Q i (fun a' w' => S w' /\ wpAnyZ F n P md ops Q S fuel (listed.setIfInBounds i true) a' w') a w
theorem wpAnyIn_of_Z : ∀ (fuel : Nat) (listed : Array Bool) (a : Act) (w : World), wpAnyZ F n P md ops Q S fuel listed a w -> wpAnyIn F n P md ops Q fuel listed a w
 | 0, _, _, _, h => h
 | fuel + 1, _, _, _, h => ⟨h.1, fun i hi => wpOpIn_mono (fun a' w' h' => wpAnyIn_of_Z fuel _ a' w' h'.2) (h.2 i hi)⟩
theorem wpAnyZ_first {i : Nat} {oi : Oper} {v : Value} (hnd : plainOps ops = true) (hi : ops[i]? = some oi) (hsel : ∀ (j : Nat) (o : Oper) cs b, ops[j]? = some o -> o.op ≠ .select cs b)
  (hQ : ∀ c a w, Q (.panic c) (a.put oi.dst v) w -> Q (.panic c) a w) :
  ∀ (fuel : Nat) (listed : Array Bool) (a : Act) (w : World),
   (∀ j oj, ops[j]? = some oj -> j ≠ i -> listed.getD j true = false -> (∀ e ∈ oj.after, Region.binds md e = true -> e.on ≠ i) -> oi.apart ops oj = true) →
   i ∈ Region.ready md ops listed -> YieldsZ P ops S oi v a -> S w →
   wpAnyZ F n P md ops Q S fuel (listed.setIfInBounds i true) (a.put oi.dst v) w -> wpAnyZ F n P md ops Q S (fuel + 1) listed a w := by
 intro fuel
 induction fuel with
 | zero =>
  intro listed a w _ hr hy hS H
  refine ⟨fun h => (by rw [h] at hr; cases hr), fun j hj => ?_⟩
  by_cases hji : j = i
  ·subst hji; exact hy.op hnd hi hS ⟨hS, H⟩
  ·have := ready_mono hj hji
   rw [H.1] at this
   cases this
 | succ fuel ih =>
  intro listed a w hfree hr hy hS H
  refine ⟨fun h => (by rw [h] at hr; cases hr), fun j hj => ?_⟩
  by_cases hji : j = i
  ·subst hji; exact hy.op hnd hi hS ⟨hS, H⟩
  ·have h1 := H.2 j (ready_mono hj hji)
   obtain ⟨hjun, oj, hoj, hall⟩ := mem_ready.1 hj
   have hnot : ∀ e ∈ oj.after, Region.binds md e = true -> e.on ≠ i := fun e he hb heq => by
    have h1 := hall e he hb
    have h0 := (mem_ready.1 hr).1
    rw [heq] at h1
    rcases Nat.lt_or_ge i listed.size with h' | h'
    ·simp [h'] at h0 h1; rw [h0] at h1; cases h1
    ·simp [Array.getElem?_eq_none h'] at h1
   have h2 := wpOpIn_putZ hnd hoj (hfree j oj hoj hji hjun hnot) (fun cs b => hsel i oi cs b hi) (fun cs b => hsel j oj cs b hoj) hQ hy h1
   have hfree' : ∀ k ok, ops[k]? = some ok -> k ≠ i -> (listed.setIfInBounds j true).getD k true = false →
     (∀ e ∈ ok.after, Region.binds md e = true -> e.on ≠ i) -> oi.apart ops ok = true := fun k ok hk hki hun hno => by
    refine hfree k ok hk hki ?_ hno
    by_cases hjk : j = k
    ·subst hjk; exact hjun
    ·rw [getD_set_ne true hjk] at hun; exact hun
   refine wpOpIn_mono (fun a' w' h3 => ⟨h3.2.1, ih (listed.setIfInBounds j true) a' w' hfree' (ready_mono hr (Ne.symm hji)) h3.1 h3.2.1 ?_⟩) h2
   rw [Array.setIfInBounds_comm _ _ hji]
   exact h3.2.2
theorem wpAnyZ_take {i : Nat} {oi : Oper} {v : Value} {fuel : Nat} {listed : Array Bool} {a : Act} {w : World} (hnd : plainOps ops = true) (hi : ops[i]? = some oi)
  (hs : Region.noSelect ops = true) (hf : Region.free md ops listed i = true) (hr : (Region.ready md ops listed).contains i = true)
  (hQ : ∀ c a w, Q (.panic c) (a.put oi.dst v) w -> Q (.panic c) a w) (hab : ∀ w, oi.about P w a.eval = none) (hy : YieldsIf P ops S oi v a) (hS : S w)
  (h : wpAnyZ F n P md ops Q S fuel (listed.setIfInBounds i true) (a.put oi.dst v) w) : wpAnyZ F n P md ops Q S (fuel + 1) listed a w :=
 wpAnyZ_first hnd hi (Region.noSelect_spec hs) hQ fuel listed a w (Region.free_spec hi hf) (by simpa using hr) ⟨hy, hab⟩ hS h
def AllReadyZ (F : Fence) (n : Nat) (P : Program) (md : Region.Mode) (ops : Array Oper) (Q : Exit -> Act -> World -> Prop) (S : World -> Prop) (fuel : Nat) (listed : Array Bool) (a : Act) (w : World) (rs : List Nat) : Prop :=
 ∀ i ∈ rs, wpOpIn F n P ops Q i (fun a' w' => S w' /\ wpAnyZ F n P md ops Q S fuel (listed.setIfInBounds i true) a' w') a w
theorem AllReadyZ.nil {fuel : Nat} {listed : Array Bool} {a : Act} {w : World} : AllReadyZ F n P md ops Q S fuel listed a w [] := fun _ h => by cases h
theorem AllReadyZ.cons {fuel : Nat} {listed : Array Bool} {a : Act} {w : World} {i : Nat} {o : Oper} {rs : List Nat} (ho : ops[i]? = some o)
  (h : ∀ K' : Act -> World -> Prop, Shut (∀ a w, S w -> (S w -> wpAnyZ F n P md ops Q S fuel (listed.setIfInBounds i true) a w) -> K' a w) -> if Region.wanted o (yielded ops a.tmps) = true then o.wpIn F n P a w K' Q else (∀ f, o.about P w a.eval = some f -> F.fn f) /\ K' (a.put o.dst undef) w)
  (hs : AllReadyZ F n P md ops Q S fuel listed a w rs) : AllReadyZ F n P md ops Q S fuel listed a w (i :: rs) := fun j hj => by
 rcases List.mem_cons.1 hj with rfl | hj
 ·unfold wpOpIn
  simp only [ho]
  exact h _ fun a w hS hW => ⟨hS, hW hS⟩
 ·exact hs j hj
theorem wpAnyZ_ready {rs : List Nat} {fuel : Nat} {listed : Array Bool} {a : Act} {w : World} (hr : Region.ready md ops listed = rs) (hne : rs ≠ []) (h : AllReadyZ F n P md ops Q S fuel listed a w rs) : wpAnyZ F n P md ops Q S (fuel + 1) listed a w :=
 ⟨fun h0 => absurd (hr ▸ h0) hne, hr ▸ h⟩
theorem wpAnyZ_done {listed : Array Bool} {a : Act} {w : World} (hr : Region.ready md ops listed = []) (h : Q .normal a w) : ∀ fuel, wpAnyZ F n P md ops Q S fuel listed a w
 | 0 => ⟨hr, h⟩
 | _ + 1 => ⟨fun _ => h, by rw [hr]; simp⟩
theorem wpIn_region_heldZ {id : Nat} {a : Act} {w : World} (hm : P.follows .mixedOrders = true) (hS : S w.drew) (h : S w.drew -> wpAnyZ F n P .any ops Q S ops.size (Array.replicate ops.size false) a w.drew) : (Code.region id ops true).wpIn F n P Q a w :=
 wpIn_region_any hm (wpAnyIn_of_Z _ _ _ _ (h hS))
end
end Go.Proofs.YtechceagghcipabGreatDoor
namespace Go.Proofs.YtechceagghcipabGreatDoor
namespace M
def bl := Go.Op.bytesLess
theorem bl_nil (x : List UInt8) : bl x [] = false := by cases x <;> rfl
theorem bl_cons (a b : UInt8) (x y : List UInt8) : bl (a :: x) (b :: y) = (decide (a < b) || (a == b && bl x y)) := rfl
theorem bl_irr : ∀ x, bl x x = false
 | [] => rfl
 | a :: x => by rw [bl_cons, bl_irr x]; simp
theorem bl_pre : ∀ p x y, bl (p ++ x) (p ++ y) = bl x y
 | [], _, _ => rfl
 | a :: p, x, y => by rw [List.cons_append, List.cons_append, bl_cons, bl_pre p x y]; simp
theorem bl_trans : ∀ x y z, bl x y = true -> bl y z = true -> bl x z = true
 | _, y, [], _, h => by rw [bl_nil] at h; cases h
 | x, [], _ :: _, h, _ => by rw [bl_nil] at h; cases h
 | [], _ :: _, _ :: _, _, _ => rfl
 | a :: x, b :: y, c :: z, h1, h2 => by
  rw [bl_cons] at *
  simp only [Bool.or_eq_true, decide_eq_true_eq, Bool.and_eq_true, beq_iff_eq] at *
  have ih := bl_trans x y z
  rcases h1 with h1 | ⟨rfl, h1⟩ <;> rcases h2 with h2 | ⟨rfl, h2⟩
  ·exact Or.inl (UInt8.lt_trans h1 h2)
  ·exact Or.inl h1
  ·exact Or.inl h2
  ·exact Or.inr ⟨rfl, ih h1 h2⟩
theorem bl_total : ∀ x y, bl x y = false -> bl y x = false -> x = y
 | [], [], _, _ => rfl
 | [], _ :: _, h, _ => by cases h
 | _ :: _, [], _, h => by cases h
 | a :: x, b :: y, h1, h2 => by
  rw [bl_cons] at *
  simp only [Bool.or_eq_false_iff, decide_eq_false_iff_not, Bool.and_eq_false_iff, beq_eq_false_iff_ne] at *
  have e : a = b := UInt8.le_antisymm (UInt8.not_lt.1 h2.1) (UInt8.not_lt.1 h1.1)
  subst e
  have := bl_total x y (by simpa using h1.2) (by simpa using h2.2)
  rw [this]
def sgL (x y : List UInt8) : Int := if bl x y then -1 else if x = y then 0 else 1
def sgI (a b : Int) : Int := if a < b then -1 else if b < a then 1 else 0
theorem sgL_pre (p x y) : sgL (p ++ x) (p ++ y) = sgL x y := by unfold sgL; rw [bl_pre]; simp
theorem sgL_ne (a b : UInt8) (x y : List UInt8) (h : a ≠ b) : sgL (a :: x) (b :: y) = sgI a.toNat b.toNat := by
 unfold sgL sgI
 rw [bl_cons]
 have hn : ¬ a.toNat = b.toNat := fun e => h (UInt8.toNat_inj.1 e)
 by_cases hl : a < b
 ·have := UInt8.lt_iff_toNat_lt.1 hl; simp [hl, this]
 ·have := mt UInt8.lt_iff_toNat_lt.2 hl
  have h2 : b.toNat < a.toNat := by omega
  simp [hl, h, this, h2]
theorem sgL_end (x y : List UInt8) (h : x = [] ∨ y = []) : sgL x y = sgI x.length y.length := by
 unfold sgL sgI
 rcases h with rfl | rfl
 ·cases y
  ·rfl
  ·simp [bl, Go.Op.bytesLess]
 ·cases x
  ·rfl
  ·simp [bl_nil]; omega
def at_ (s : ByteArray) (j : Nat) : Int := if h : j < s.size then (s[j].toNat : Int) else 0
theorem at_lt (s : ByteArray) (j : Nat) (h : j < s.size) : at_ s j = (s[j].toNat : Int) := by unfold at_; rw [dif_pos h]
theorem at_rng (s : ByteArray) (j : Nat) : 0 <= at_ s j /\ at_ s j <= 255 := by
 unfold at_; split
 ·rename_i h; have := s[j].toNat_lt; omega
 ·omega
theorem split_at (s : ByteArray) (i : Nat) (h : i < s.size) : s.toList = s.toList.take i ++ s[i] :: s.toList.drop (i + 1) := by
 rw [ByteArray.toList_eq]
 have h' : i < s.data.toList.length := by simpa using h
 conv => lhs; rw [<- List.take_append_drop i s.data.toList, List.drop_eq_getElem_cons h']
 rfl
theorem txt_ne (a b : ByteArray) (i : Nat) (ha : i < a.size) (hb : i < b.size) (hp : a.toList.take i = b.toList.take i) (h : at_ a i ≠ at_ b i) :
  sgL a.toList b.toList = sgI (at_ a i) (at_ b i) := by
 rw [split_at a i ha, split_at b i hb, hp, sgL_pre, sgL_ne, at_lt a i ha, at_lt b i hb]
 intro e; apply h; rw [at_lt a i ha, at_lt b i hb, e]
theorem txt_eq (a b : ByteArray) (i : Nat) (ha : i < a.size) (hb : i < b.size) (hp : a.toList.take i = b.toList.take i) (h : at_ a i = at_ b i) :
  a.toList.take (i + 1) = b.toList.take (i + 1) := by
 have e : a[i] = b[i] := by
  rw [at_lt a i ha, at_lt b i hb] at h
  exact UInt8.toNat_inj.1 (by omega)
 have l1 : i < a.toList.length := by rw [ByteArray.toList_eq]; simpa using ha
 have l2 : i < b.toList.length := by rw [ByteArray.toList_eq]; simpa using hb
 rw [List.take_succ_eq_append_getElem l1, List.take_succ_eq_append_getElem l2, hp]
 congr 2
 simp only [ByteArray.toList_eq, Array.getElem_toList]; exact e
theorem txt_end (a b : ByteArray) (i : Nat) (ha : i <= a.size) (hb : i <= b.size) (hp : a.toList.take i = b.toList.take i) (h : i = a.size ∨ i = b.size) :
  sgL a.toList b.toList = sgI a.size b.size := by
 have l1 : a.toList.length = a.size := by rw [ByteArray.toList_eq]; simp
 have l2 : b.toList.length = b.size := by rw [ByteArray.toList_eq]; simp
 rw [<- List.take_append_drop i a.toList, <- List.take_append_drop i b.toList, hp, sgL_pre, sgL_end]
 ·simp only [List.length_drop, l1, l2, sgI]
  have e1 : (((a.size - i : Nat) : Int) < ((b.size - i : Nat) : Int)) = ((a.size : Int) < b.size) := propext (by omega)
  have e2 : (((b.size - i : Nat) : Int) < ((a.size - i : Nat) : Int)) = ((b.size : Int) < a.size) := propext (by omega)
  simp only [e1, e2]
 ·rcases h with h | h
  ·left; apply List.drop_eq_nil_of_le; omega
  ·right; apply List.drop_eq_nil_of_le; omega
theorem sgL_zero (x y) : sgL x y = 0 ↔ x = y := by
 unfold sgL
 by_cases h : x = y
 ·subst h; simp [bl_irr]
 ·simp [h]; split <;> omega
theorem sgL_neg (x y) : sgL y x = - sgL x y := by
 unfold sgL
 by_cases h : x = y
 ·subst h; simp [bl_irr]
 ·have h' : ¬ y = x := fun e => h e.symm
  cases h1 : bl x y <;> cases h2 : bl y x <;> simp [h, h']
  ·exact h (bl_total _ _ h1 h2)
  ·have := bl_trans _ _ _ h1 h2; rw [bl_irr] at this; cases this
theorem sgL_trans (x y z) : sgL x y <= 0 -> sgL y z <= 0 -> sgL x z <= 0 /\ (sgL x y < 0 ∨ sgL y z < 0 -> sgL x z < 0) := by
 have key : ∀ a b, sgL a b <= 0 ↔ bl a b = true ∨ a = b := by
  intro a b; unfold sgL; cases bl a b <;> by_cases e : a = b <;> simp [e]
 have key2 : ∀ a b, sgL a b < 0 ↔ bl a b = true := by
  intro a b; unfold sgL; cases bl a b <;> by_cases e : a = b <;> simp [e]
 rw [key, key, key, key2, key2, key2]
 rintro (h1 | rfl) (h2 | rfl)
 ·exact ⟨Or.inl (bl_trans _ _ _ h1 h2), fun _ => bl_trans _ _ _ h1 h2⟩
 ·exact ⟨Or.inl h1, fun _ => h1⟩
 ·exact ⟨Or.inl h2, fun _ => h2⟩
 ·exact ⟨Or.inr rfl, fun h => by rcases h with h | h <;> exact h⟩
theorem sgL_rng (x y) : sgL x y = -1 ∨ sgL x y = 0 ∨ sgL x y = 1 := by
 unfold sgL; split
 ·simp
 ·split <;> simp
end M
end Go.Proofs.YtechceagghcipabGreatDoor
namespace Go.Proofs.YtechceagghcipabGreatDoor
open Go.RowKit
abbrev sgS (a b : ByteArray) : Int := M.sgL a.toList b.toList
theorem nanI_any (a : Int) (w : World) : Calls Tryz.prog 86 #[.int .i64 a] w fun e w' => e = .returned (.bool false) /\ w' = w := by
 go_enter Tryz.func86, Tryz.ntmps86
 go_wp2
 go_ret
 exact ⟨ret_b (by simp), rfl⟩
theorem nanS_any (a : ByteArray) (w : World) : Calls Tryz.prog 85 #[.string a] w fun e w' => e = .returned (.bool false) /\ w' = w := by
 go_enter Tryz.func85, Tryz.ntmps85
 go_wp2
 go_ret
 exact ⟨ret_b (by simp), rfl⟩
theorem cmpI_any (a b : Int) (w : World) : Calls Tryz.prog 54 #[.int .i64 a, .int .i64 b] w fun e w' => e = .returned (.int .i64 (M.sgI a b)) /\ w' = w := by
 go_enter Tryz.func54, Tryz.ntmps54
 go_wp2_with (go_at_call 86; refine (nanI_any _ _).mono ?_; rintro e w1 ⟨rfl, rfl⟩)
 all_goals go_ret
 all_goals refine ⟨ret_i ?_, rfl⟩
 all_goals (unfold M.sgI; repeat' split) <;> omega
theorem cmpS_any (a b : ByteArray) (w : World) : Calls Tryz.prog 53 #[.string a, .string b] w fun e w' => e = .returned (.int .i64 (sgS a b)) /\ w' = w := by
 go_enter Tryz.func53, Tryz.ntmps53
 go_wp2_with (go_at_call 85; refine (nanS_any _ _).mono ?_; rintro e w1 ⟨rfl, rfl⟩)
 all_goals go_ret
 all_goals refine ⟨ret_i ?_, rfl⟩
 all_goals (unfold sgS M.sgL M.bl; simp_all)
theorem ints_any (a b : Int) (w : World) : Calls Tryz.prog 71 #[.int .i64 a, .int .i64 b] w fun e w' => e = .returned (.int .i64 (M.sgI a b)) /\ w' = w := by
 go_enter Tryz.func71, Tryz.ntmps71
 go_wp2
 all_goals go_ret
 all_goals refine ⟨ret_i ?_, rfl⟩
 all_goals (unfold M.sgI; repeat' split) <;> omega
theorem run_index_at (s : ByteArray) (j : Nat) (hj : j < s.size) (i : Int) (hi : i = j) (w : World) (k : IntKind) : (Instr.index 9 (.string s) (.int k i)).run Tryz.prog w = .ok (.int .u8 (M.at_ s j)) w := by
 subst hi
 rw [run_index_string w 9 s k _ Tryz.underlying9, dif_pos (by omega), M.at_lt s j hj]
 rfl
theorem wrap_id (x : Int) (h0 : 0 <= x) (h1 : x <= 255) : IntKind.i64.wrap x = x := by
 simp only [IntKind.wrap, IntKind.bits, IntKind.signed]
 simp
 omega
set_option maxHeartbeats 400000 in
theorem texts_any (a b : ByteArray) (w : World) (hsa : a.size <= maxLen) (hsb : b.size <= maxLen) : Calls Tryz.prog 70 #[.string a, .string b] w fun e w' => e = .returned (.int .i64 (sgS a b)) /\ Below w.heap.size w w' := by
 unfold maxLen at hsa hsb
 unfold sgS
 go_enter Tryz.func70, Tryz.ntmps70
 go_wp2
 go_loopw [5] (fun i wr => ∃ k n : Nat, k <= a.size /\ k <= b.size /\ i = .int .i64 k /\ a.toList.take k = b.toList.take k /\ wr = w.drewN n) (fun i _ => a.size - (intOf i).toNat)
 case atStart => exact ⟨0, 0, by omega, by omega, rfl, rfl, rfl⟩
 case round =>
  obtain ⟨k, m, ha, hb, rfl, hp, rfl⟩ := hrel
  have HP : Hid (a.toList.take k = b.toList.take k) := hp
  clear hp
  by_cases h : k < a.size /\ k < b.size
  ·obtain ⟨h1, h2⟩ := h
   have i1 := run_index_at a k h1 (k : Int) rfl
   have i2 := run_index_at b k h2 (k : Int) rfl
   by_cases e : M.at_ a k = M.at_ b k
   ·have E : Hid (M.at_ a k = M.at_ b k) := e
    have hq : (M.at_ a k == M.at_ b k) = true := by simpa using e
    clear e
    go_wp2
    go_quiet (fail)
    go_wp2
    go_roundw
    case rel => exact ⟨k + 1, _, by omega, by omega, by go_num, M.txt_eq a b k h1 h2 HP.out E.out, rfl⟩
    case measure => simp [intOf]; omega
   ·have E : Hid (¬ M.at_ a k = M.at_ b k) := e
    have hq : (M.at_ a k == M.at_ b k) = false := by simpa using e
    obtain ⟨r1, r2⟩ := M.at_rng a k
    obtain ⟨r3, r4⟩ := M.at_rng b k
    have e1 := wrap_id _ r1 r2
    have e2 := wrap_id _ r3 r4
    clear e
    go_wp2
    go_quiet (fail)
    go_wp2
    go_quiet ((go_at_call 71; refine (ints_any _ _ _).mono ?_; rintro e w2 ⟨rfl, rfl⟩; exact ⟨rfl, _, rfl⟩))
    go_wp2
    go_ret
    exact ⟨ret_i (M.txt_ne a b k h1 h2 HP.out E.out).symm, below_drewN (below_drewN (below_drewN (Below.refl _ _) _) _) _⟩
  ·have hend : k = a.size ∨ k = b.size := by omega
   have E : Hid (M.sgL a.toList b.toList = M.sgI a.size b.size) := M.txt_end a b k ha hb HP.out hend
   by_cases h1 : k < a.size
   ·have h2 : ¬ k < b.size := fun x => h ⟨h1, x⟩
    clear h hend
    go_wp2_with (go_at_call 71; refine (ints_any _ _ _).mono ?_; rintro e w1 ⟨rfl, rfl⟩)
    go_ret
    exact ⟨ret_i E.out.symm, below_drewN (Below.refl _ _) _⟩
   ·clear h hend
    go_wp2_with (go_at_call 71; refine (ints_any _ _ _).mono ?_; rintro e w1 ⟨rfl, rfl⟩)
    go_ret
    exact ⟨ret_i E.out.symm, below_drewN (Below.refl _ _) _⟩
def Tm.cmp (a b : Tm) : Int := if a.k ≠ b.k then M.sgI a.k b.k else if a.n ≠ b.n then M.sgI a.n b.n else M.sgL a.s.toList b.s.toList
theorem toList_inj {a b : ByteArray} (h : a.toList = b.toList) : a = b := by
 rw [ByteArray.toList_eq, ByteArray.toList_eq] at h
 exact ByteArray.ext (Array.toList_inj.1 h)
end Go.Proofs.YtechceagghcipabGreatDoor
