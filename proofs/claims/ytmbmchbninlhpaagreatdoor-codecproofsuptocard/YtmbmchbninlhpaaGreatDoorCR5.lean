import Derived.Test.YtmbmchbninlhpaaGreatDoorCH3
import Derived.Test.YtmbmchbninlhpaaGreatDoorCM0
import Derived.Deep.RegionHeld3
import Derived.Test.YtmbmchbninlhpaaGreatDoorCL14
import Derived.Test.YtmbmchbninlhpaaGreatDoorMD5
import Derived.Deep.CutRange
import Derived.Test.YtmbmchbninlhpaaGreatDoorCL5
import Derived.Test.YtmbmchbninlhpaaGreatDoorCL1
import Derived.Test.YtmbmchbninlhpaaGreatDoorMD2
import Derived.Laws.AppendOwn
import Derived.Laws.AppendOwnNone
import Derived.Test.YtmbmchbninlhpaaGreatDoorRC2
import Derived.Test.YtmbmchbninlhpaaGreatDoorT4
import Derived.Test.YtmbmchbninlhpaaGreatDoorSD5
import Derived.Test.YtmbmchbninlhpaaGreatDoorCV1
import Derived.Test.YtmbmchbninlhpaaGreatDoorCR4
import Derived.Test.YtmbmchbninlhpaaGreatDoorMD7
namespace Go.Proofs.YtmbmchbninlhpaaGreatDoor
open Go.RowKit

theorem cellO {X : World} {g G i j : Nat} {u c : Value} (h : X.cell? ⟨g, i, none⟩ = some u) (hne : G ≠ g) : (X.setCell ⟨G, j, none⟩ c).cell? ⟨g, i, none⟩ = some u := by
 have hn : (⟨G, j, none⟩ : Addr) ≠ ⟨g, i, none⟩ := by intro e; injection e; omega
 rw [World.cell?_setCell_other X ⟨G, j, none⟩ ⟨g, i, none⟩ c hn]; exact h
end Go.Proofs.YtmbmchbninlhpaaGreatDoor
namespace Go.Proofs.YtmbmchbninlhpaaGreatDoor
open Go.RowKit

def vS (l : List Int) (t : Tm) : List Int := if t.var then (if l.any (fun n => decide (n = t.n)) then l else l ++ [t.n]) else l
def vs (pl : List Tm) : List Int := pl.foldl vS []
end Go.Proofs.YtmbmchbninlhpaaGreatDoor
namespace Go.Proofs.YtmbmchbninlhpaaGreatDoor
open Go.RowKit
attribute [local go_sem ↓] Go.wp_at_zero Go.wp_at_succ

end Go.Proofs.YtmbmchbninlhpaaGreatDoor
namespace Go.Proofs.YtmbmchbninlhpaaGreatDoor
open Go.RowKit

def Te.szs (t : Te) : Prop := t.l.s.size <= maxLen /\ t.r.s.size <= maxLen
end Go.Proofs.YtmbmchbninlhpaaGreatDoor
namespace Go.Proofs.YtmbmchbninlhpaaGreatDoor
open Go.RowKit

def Cm.szs (c : Cm) : Prop := (c.head.1.name.size <= maxLen /\ ∀ t ∈ c.head.1.pl, t.s.size <= maxLen) /\ (∀ x ∈ c.body, x.1.name.size <= maxLen /\ ∀ t ∈ x.1.pl, t.s.size <= maxLen) /\ ∀ t ∈ c.tests, t.szs
end Go.Proofs.YtmbmchbninlhpaaGreatDoor
namespace Go.Proofs.YtmbmchbninlhpaaGreatDoor
open Go.RowKit
attribute [local go_sem ↓] Go.wp_at_zero Go.wp_at_succ

structure OKP (w : World) (c : Cm) : Prop where
 ok : c.ok w
 hh : TsP w c.head.2 c.head.1.args
 hp : ∀ x ∈ c.body, TsP w x.2 x.1.args
 bp : AsP w c.bv c.body
theorem OKP.later {w w' : World} {c : Cm} (h : OKP w c) (hb : Below w.heap.size w w') : OKP w' c := ⟨h.ok.later hb, h.hh.later hb, fun x hx => (h.hp x hx).later hb, h.bp.later hb⟩
end Go.Proofs.YtmbmchbninlhpaaGreatDoor
namespace Go.Proofs.YtmbmchbninlhpaaGreatDoor
open Go.RowKit

theorem OwnC.csp2 {B : Nat} {X : World} {v : Value} {l : List Cm} (h : OwnC X B v l) (hok : ∀ c ∈ l, c.ok X) : CsP X v l := by
 refine ⟨?_, hok⟩
 rcases h.2 with ⟨rfl, hn⟩ | ⟨g, cap, cur, hv, -⟩
 ·exact Or.inl ⟨rfl, List.length_eq_zero_iff.1 hn⟩
 ·refine Or.inr ⟨⟨g, 0, none⟩, cap, hv, ?_⟩
  cases l with
  | nil => exact Or.inl rfl
  | cons c l =>
   have ho := h
   rw [hv] at ho
   obtain ⟨b, o, e, hr⟩ := ho.adr (j := 0) (c := c) rfl
   exact Or.inr ⟨b, o, Option.some.inj e, hr⟩
end Go.Proofs.YtmbmchbninlhpaaGreatDoor
namespace Go.Proofs.YtmbmchbninlhpaaGreatDoor
open Go.RowKit

structure OCQ (X : World) (B : Nat) (v : Value) (l : List Cm) : Prop where
 o : OwnC X B v l
 m : ∀ c ∈ l, MC8 B X c /\ SZ c.key
theorem OCQ.nil (X : World) (B : Nat) : OCQ X B (.slice none 0 0) [] := ⟨OwnC.nil _ _, fun c hc => by cases hc⟩
theorem OCQ.blM {g B : Nat} {X X' : World} {v : Value} {l : List Cm} (h : OCQ X B v l) (hb : Bv g X.heap.size X X') (hg : g < B) : OCQ X' B v l := ⟨row_blM h.o hb hg, fun c hc => ⟨(h.m c hc).1.blM hb hg, (h.m c hc).2⟩⟩
theorem OCQ.add {B : Nat} {X X' : World} {v v' : Value} {l : List Cm} {c : Cm} (h : OCQ X B v l) (ho : OwnC X' B v' (l ++ [c])) (hk : Kt 62 X X') (hc : MC8 B X c /\ SZ c.key) : OCQ X' B v' (l ++ [c]) :=
 ⟨ho, fun d hd => by
  rcases List.mem_append.1 hd with hd | hd
  ·exact ⟨(h.m d hd).1.kt hk (by decide) (by decide) (by decide), (h.m d hd).2⟩
  ·rw [List.mem_singleton] at hd; subst hd; exact ⟨hc.1.kt hk (by decide) (by decide) (by decide), hc.2⟩⟩
theorem OCQ.csp {B : Nat} {X : World} {v : Value} {l : List Cm} (h : OCQ X B v l) : CsP X v l := h.o.csp2 (fun c hc => (h.m c hc).1.okS (h.m c hc).2)
theorem Blk.bl9 {g k : Nat} {c : Array Value} {t : TypeId} {w w' : World} (h : CBlk w k c t) (hb : Bv g w.heap.size w w') (hk : k ≠ g) : CBlk w' k c t := (hb.block k h.lt hk).trans h
end Go.Proofs.YtmbmchbninlhpaaGreatDoor
namespace Go.Proofs.YtmbmchbninlhpaaGreatDoor
open Go.RowKit
attribute [local go_sem ↓] Go.wp_at_zero Go.wp_at_succ

theorem ownN_form4 {w : World} {base : Nat} {v : Value} {l : List Int} (h : OwnN w base v l) : ∃ a n cap, v = .slice a n cap := by
 obtain ⟨a, cap, rfl⟩ := h.form
 exact ⟨_, _, _, rfl⟩
theorem step_num {ops : Array Oper} {o : Oper} {a : Act} {K : Act -> World -> Prop} {Q : Exit -> Act -> World -> Prop} {E : Prop} {w : World} (hgd : o.guard = none) (s x : Operand)
  (ho : o.op = .call { callee := .builtin .append, args := #[s, x], argTypes := #[48, 48] }) (base : Nat) (v : Value) (l : List Int) (hs : a.eval s = v) (hown : OwnN w base v l)
  (b : Nat) (y : Int) (hx : a.eval x = .slice (some ⟨b, 0, none⟩) 1 1) (hblk : CBlk w b #[.int .i64 y] 3) (hlen : l.length <= 1000000000000) (hbase : base <= w.heap.size)
  (h : ∀ v' w', OwnN w' base v' (l ++ [y]) -> Below base w w' -> w.grownBy w' v.ownBlock -> K (a.put o.dst v') w') : if Region.wanted o (yielded ops a.tmps) = true then Oper.wp Tryz.prog o a w K Q else E := by
 obtain ⟨i0, hi0, hz0, hz1, hz2⟩ := info_parts Tryz.infoInt8
 refine step_append_lies _ hgd s x 48 ho base 3 i0 _ 1 8 Tryz.underlying48 hi0 hz0 hz1 hz2 rfl (by omega) v l.length (nbs l) hs hown ⟨b, 0, none⟩ 1 1 (nbs [y]) hx (by simp [nbs]) ?_ (by simp [nbs, Value.oneCell']) (by omega) (by unfold maxLen; omega) (by omega) hbase _ rfl ?_
 ·intro j u hj
  exact World.news_of_block (cs := #[.int .i64 y]) (t := 3) (fr := (0, 0)) hblk j u (by simpa [nbs] using hj)
 ·intro g cap w' h1 h2 _ _
  refine h _ w' ?_ (grown_below3 h2 (fun k hk => (World.ownsRow.lt hown k hk).1) hbase) h2
  unfold OwnN
  rw [List.length_append, show nbs (l ++ [y]) = nbs l ++ nbs [y] by simp [nbs]]
  exact h1
end Go.Proofs.YtmbmchbninlhpaaGreatDoor
namespace Go.Proofs.YtmbmchbninlhpaaGreatDoor
open Go.RowKit

theorem row_hi {e : TypeId} {w w' : World} {base n m : Nat} {v : Value} {xs : List Value} (h : w.ownsRow base e n v m xs) (hb : ∀ k, base <= k -> k < w.heap.size -> w'.heap[k]? = w.heap[k]?) : w'.ownsRow base e n v m xs :=
 row_agree h fun k hk => by
  obtain ⟨h1, cur, h2⟩ := row_block h hk
  exact hb k h1 (Array.getElem?_eq_some_iff.1 h2).1
def Hi (B : Nat) (w w' : World) : Prop := w.heap.size <= w'.heap.size /\ ∀ k, B <= k -> k < w.heap.size -> w'.heap[k]? = w.heap[k]?
theorem Hi.refl (B : Nat) (w : World) : Hi B w w := ⟨Nat.le_refl _, fun _ _ _ => rfl⟩
theorem Hi.set {B : Nat} {w w' : World} {g i : Nat} {u : Value} (h : Hi B w w') (hg : g < B) : Hi B w (w'.setCell ⟨g, i, none⟩ u) :=
 ⟨by simpa using h.1, fun k h1 h2 => (heap_setCell_other _ _ _ _ (by show k ≠ g; omega)).trans (h.2 k h1 h2)⟩
theorem Hi.alloc {B : Nat} {w w' : World} (h : Hi B w w') (o : Obj) : Hi B w (w'.alloc o) :=
 ⟨by have := h.1; simp; omega, fun k h1 h2 => (@heap_alloc_old _ _ _ (by have := h.1; omega)).trans (h.2 k h1 h2)⟩
theorem MC8.hi {B B' : Nat} {X X' : World} {d : Cm} (h : MC8 B X d) (hk : Hi B' X X') (hB : B' <= B) : MC8 B X' d :=
 have hk' := fun k (h1 : B <= k) h2 => hk.2 k (by omega) h2
 ⟨row_hi h.h hk', ⟨row_hi h.b.1 hk', fun y hy => row_hi (h.b.2 y hy) hk'⟩, row_hi h.t hk'⟩
theorem OCL.hi {B B' : Nat} {X X' : World} {v : Value} {l : List Cm} (h : OCL X B v l) (hk : Hi B' X X') (hB : B' <= B) : OCL X' B v l :=
 ⟨row_hi h.o fun k h1 h2 => hk.2 k (by omega) h2, fun c hc => ⟨(h.m c hc).1.hi hk hB, (h.m c hc).2⟩⟩
theorem MS8.hi {B B' : Nat} {X X' : World} {d : St} (h : MS8 B X d) (hk : Hi B' X X') (hB : B' <= B) : MS8 B X' d :=
 have hk' := fun k (h1 : B <= k) h2 => hk.2 k (by omega) h2
 ⟨row_hi h.t hk', row_hi h.u hk', h.l⟩
theorem OSL.hi {B B' : Nat} {X X' : World} {v : Value} {l : List St} (h : OSL X B v l) (hk : Hi B' X X') (hB : B' <= B) : OSL X' B v l :=
 ⟨row_hi h.o fun k h1 h2 => hk.2 k (by omega) h2, fun c hc => (h.m c hc).hi hk hB⟩
theorem PR8.hi {B : Nat} {X X' : World} {x : Pk} {v : Value} (h : PR8 B X x v) (hk : Hi B X X') : PR8 B X' x v := by
 obtain ⟨rv, sv, R, S, h1, h2, h3, h4, h5⟩ := h
 exact ⟨rv, sv, R, S, h1, h2, h3, h4.hi hk (Nat.le_refl _), h5.hi hk (Nat.le_refl _)⟩
theorem PR8.mono {B B' : Nat} {X : World} {x : Pk} {v : Value} (h : PR8 B X x v) (hb : B' <= B) : PR8 B' X x v := by
 obtain ⟨rv, sv, R, S, h1, h2, h3, h4, h5⟩ := h
 exact ⟨rv, sv, R, S, h1, h2, h3, h4.mono hb, h5.mono hb⟩
theorem PR8.nil (B : Nat) (X : World) : PR8 B X ([], []) (.agg #[.slice none 0 0, .slice none 0 0]) := ⟨_, _, [], [], rfl, rfl, rfl, OCL.nil _ _, OSL.nil _ _⟩
theorem catchP_panic (p : Addr) (x c : Int) (older : List PanicEntry) (w : World) (hc : w.cell? p = some (.int .i64 x)) (hz : w.frozen? p = false) :
  CallsD Tryz.prog 78 #[.pointer (some p)] (.panicking (pE c :: older)) w fun e u' w' =>
   e = .returned (.tuple #[]) /\ u' = .panicking ({ v := .iface 29 (.int .i64 c), recovered := true } :: older) /\ w' = w.setCell p (.int .i64 c) := by
 refine callsD_of_wpS Tryz.func78 rfl fun c₀ cs hu => ?_
 unfold pE at hu
 apply wpS_seq
 apply wpS_region
 simp [wpOpsS, go_sem, recoverD, hu, Tryz.ntmps78, Exit.thenS]
 have hta := run_assert
 refine wpS_of_wp ?_
 change Code.wp _ _ _ { tmps := #[.pointer (some p), .iface 29 (.int .i64 c), .iface 29 (.int .i64 c), undef, undef, undef, undef], defers := [] } w
 go_wp2
 exact ⟨rfl, _, rfl, _, by simp [results, Tryz.results78], rfl, rfl, rfl⟩
theorem catchP_idle (p : Addr) (w : World) :
  CallsD Tryz.prog 78 #[.pointer (some p)] .returning w fun e u' w' => e = .returned (.tuple #[]) /\ u' = .returning /\ w' = w := by
 refine callsD_of_wpS Tryz.func78 rfl fun c₀ cs hu => ?_
 apply wpS_seq
 apply wpS_region
 simp [wpOpsS, go_sem, recoverD, hu, Tryz.ntmps78, Exit.thenS]
 refine wpS_of_wp ?_
 change Code.wp _ _ _ { tmps := #[.pointer (some p), .nilIface, .nilIface, undef, undef, undef, undef], defers := [] } w
 go_wp2
 exact ⟨rfl, .returning, by rw [<- hu], _, by simp [results, Tryz.results78], rfl, rfl, rfl⟩
set_option maxRecDepth 20000 in
set_option maxHeartbeats 800000 in
theorem readP_ok (v : Value) (l : List Int) (w : World) (h : Bh w v l) (x : Pk) (hr : rProof l = .ok (x, [])) :
  Calls Tryz.prog 39 #[v, .func (.func 40) #[] #[]] w fun e w' => ∃ u : Value, e = .returned (.tuple #[u, .int .i64 0]) /\ PR8 w.heap.size w' x u /\ Below w.heap.size w w' := by
 have hmf : ∀ (fn : Fn) (first cap : Array Value) (w : World), (Instr.makeFunc fn first cap).run Tryz.prog w = .ok (.func fn first cap) w := fun _ _ _ _ => rfl
 have HR : Hid (RdS (((w.alloc (.cells #[.slice none 0 0, .slice none 0 0] 25)).alloc (.cells #[.int .i64 0] 29)).alloc (.cells #[v] 112)) (w.heap.size + 1 + 1) l) := by
  have := h.rd (below2 w (.cells #[.slice none 0 0, .slice none 0 0] 25) (.cells #[.int .i64 0] 29))
  rwa [show ((w.alloc (.cells #[.slice none 0 0, .slice none 0 0] 25)).alloc (.cells #[.int .i64 0] 29)).heap.size = w.heap.size + 1 + 1 by simp] at this
 obtain ⟨-, b, o, cap, rfl, -, -, -, -⟩ := h
 have HO1 : Hid (Blk (((w.alloc (.cells #[.slice none 0 0, .slice none 0 0] 25)).alloc (.cells #[.int .i64 0] 29)).alloc (.cells #[.slice (some ⟨b, o, none⟩) l.length cap] 112)) w.heap.size #[.slice none 0 0, .slice none 0 0] 25) := (Blk.old _ _ _ _).later (below1 _ _)
 have HO2 : Hid (Blk (((w.alloc (.cells #[.slice none 0 0, .slice none 0 0] 25)).alloc (.cells #[.int .i64 0] 29)).alloc (.cells #[.slice (some ⟨b, o, none⟩) l.length cap] 112)) (w.heap.size + 1) #[.int .i64 0] 29) := (Blk.new2 _ _ _ _).later (below1 _ _)
 have HL : Hid (Below w.heap.size w (((w.alloc (.cells #[.slice none 0 0, .slice none 0 0] 25)).alloc (.cells #[.int .i64 0] 29)).alloc (.cells #[.slice (some ⟨b, o, none⟩) l.length cap] 112))) := (below2 _ _ _).alloc (by simp; omega) _
 have HN : Hid (∀ (g : Nat) (X : World), RdS X g l -> Calls Tryz.prog 40 #[.pointer (some ⟨g, 0, none⟩)] X fun e w' => ∃ v, e = .returned v /\ PR8 (X.heap.size + 1) w' x v /\ RdS w' g [] /\ Bv g X.heap.size X w') := fun g X hX => RdP.ok (proof8_any g l X hX) hr
 clear hr
 go_enter_defers Tryz.func39, Tryz.ntmps39
 go_wp2_with (go_at_call 40; refine (HN.out _ _ HR.out).mono ?_; rintro e w1 ⟨v1, rfl, hp, ⟨-, v2, hk, b2', o2, cap2, rfl, -⟩, hb⟩; obtain ⟨rv, sv, R, S, rfl, hR, hS, hoc, hos⟩ := hp; obtain ⟨a1, a3, e1⟩ := hoc.o.form; obtain ⟨a2, ha2⟩ : ∃ n, n = R.length := ⟨_, rfl⟩; rw [<- ha2] at e1; subst e1; obtain ⟨b1, b3, e2⟩ := hos.o.form; obtain ⟨b2, hb2⟩ : ∃ n, n = S.length := ⟨_, rfl⟩; rw [<- hb2] at e2; subst e2; have c0 := bcell1 hk; obtain ⟨p0, p1⟩ := ctwo (HO1.out.bl hb (by omega)); have f0 : w1.frozen? ⟨w.heap.size, 0, none⟩ = false := frozen_of_row _ _ _ _ _ (HO1.out.bl hb (by omega)); have f1 : w1.frozen? ⟨w.heap.size, 1, none⟩ = false := frozen_of_row _ _ _ _ _ (HO1.out.bl hb (by omega)); obtain ⟨q0, qf⟩ := (HO2.out.bl hb (by omega)).one; have hz1 : w.heap.size + 3 <= w1.heap.size := (by have := hb.size; simp at this; omega); have hz2 : w.heap.size + 1 + 1 < w1.heap.size := (by omega); have hz3 : w.heap.size + 1 < w1.heap.size := (by omega); have hz4 : w.heap.size < w1.heap.size := (by omega); have HB1 : Hid (Below w.heap.size w w1) := HL.out.trans ((hb.mono (by simp; omega)).below (by omega)); have HO : Hid (PR8 (w.heap.size + 3) w1 x (.agg #[.slice a1 a2 a3, .slice b1 b2 b3])) := PR8.mono ⟨_, _, R, S, rfl, hR, hS, hoc, hos⟩ (by simp); clear hb hoc hos hk hR hS ha2 hb2)
 refine leaves_cons (f := 78) (args := #[.pointer (some ⟨w.heap.size + 1, 0, none⟩)]) (by simp) (by simp [go_sem]) ?_
 refine (catchP_idle ⟨w.heap.size + 1, 0, none⟩ _).mono ?_
 rintro e u' w'' ⟨rfl, rfl, rfl⟩
 simp only [Leaves, settle]
 refine ⟨_, ?_, .agg #[.slice a1 a2 a3, .slice b1 b2 b3], rfl, (HO.out.hi (((((Hi.refl _ _).set (by omega)).set (by omega)).set (by omega)).alloc _)).mono (by omega), ((((HB1.out.setCell (p := ⟨w.heap.size, 0, none⟩) (Nat.le_refl _) _).setCell (p := ⟨w.heap.size, 1, none⟩) (Nat.le_refl _) _).setCell (p := ⟨w.heap.size + 1, 0, none⟩) (Nat.le_succ _) _).alloc (by simp; omega) _)⟩
 simp [results, Tryz.results39, go_sem, p0, p1, q0, hz3, hz4]
set_option maxRecDepth 20000 in
set_option maxHeartbeats 800000 in
theorem readP_no (v : Value) (l : List Int) (w : World) (h : Bh w v l) (c : Int) (hr : rProof l = .error c) :
  Calls Tryz.prog 39 #[v, .func (.func 40) #[] #[]] w fun e w' => e = .returned (.tuple #[.agg #[.slice none 0 0, .slice none 0 0], .int .i64 c]) /\ Below w.heap.size w w' := by
 have hmf : ∀ (fn : Fn) (first cap : Array Value) (w : World), (Instr.makeFunc fn first cap).run Tryz.prog w = .ok (.func fn first cap) w := fun _ _ _ _ => rfl
 have HR : Hid (RdS (((w.alloc (.cells #[.slice none 0 0, .slice none 0 0] 25)).alloc (.cells #[.int .i64 0] 29)).alloc (.cells #[v] 112)) (w.heap.size + 1 + 1) l) := by
  have := h.rd (below2 w (.cells #[.slice none 0 0, .slice none 0 0] 25) (.cells #[.int .i64 0] 29))
  rwa [show ((w.alloc (.cells #[.slice none 0 0, .slice none 0 0] 25)).alloc (.cells #[.int .i64 0] 29)).heap.size = w.heap.size + 1 + 1 by simp] at this
 obtain ⟨-, b, o, cap, rfl, -, -, -, -⟩ := h
 have HO1 : Hid (Blk (((w.alloc (.cells #[.slice none 0 0, .slice none 0 0] 25)).alloc (.cells #[.int .i64 0] 29)).alloc (.cells #[.slice (some ⟨b, o, none⟩) l.length cap] 112)) w.heap.size #[.slice none 0 0, .slice none 0 0] 25) := (Blk.old _ _ _ _).later (below1 _ _)
 have HO2 : Hid (Blk (((w.alloc (.cells #[.slice none 0 0, .slice none 0 0] 25)).alloc (.cells #[.int .i64 0] 29)).alloc (.cells #[.slice (some ⟨b, o, none⟩) l.length cap] 112)) (w.heap.size + 1) #[.int .i64 0] 29) := (Blk.new2 _ _ _ _).later (below1 _ _)
 have HL : Hid (Below w.heap.size w (((w.alloc (.cells #[.slice none 0 0, .slice none 0 0] 25)).alloc (.cells #[.int .i64 0] 29)).alloc (.cells #[.slice (some ⟨b, o, none⟩) l.length cap] 112))) := (below2 _ _ _).alloc (by simp; omega) _
 have HN : Hid (∀ (g : Nat) (X : World), RdS X g l -> Calls Tryz.prog 40 #[.pointer (some ⟨g, 0, none⟩)] X fun e w' => e = .panicked [pE c] /\ Bv g X.heap.size X w') := fun g X hX => RdP.err (proof8_any g l X hX) hr
 clear hr
 go_enter_defers Tryz.func39, Tryz.ntmps39
 go_wp2_with (go_at_call 40; refine (HN.out _ _ HR.out).mono ?_; rintro e w1 ⟨rfl, hb⟩; obtain ⟨p0, p1⟩ := ctwo (HO1.out.bl hb (by omega)); have f0 : w1.frozen? ⟨w.heap.size, 0, none⟩ = false := frozen_of_row _ _ _ _ _ (HO1.out.bl hb (by omega)); have f1 : w1.frozen? ⟨w.heap.size, 1, none⟩ = false := frozen_of_row _ _ _ _ _ (HO1.out.bl hb (by omega)); obtain ⟨q0, qf⟩ := (HO2.out.bl hb (by omega)).one; have hz1 : w.heap.size + 3 <= w1.heap.size := (by have := hb.size; simp at this; omega); have hz2 : w.heap.size + 1 + 1 < w1.heap.size := (by omega); have hz3 : w.heap.size + 1 < w1.heap.size := (by omega); have hz4 : w.heap.size < w1.heap.size := (by omega); have HB1 : Hid (Below w.heap.size w w1) := HL.out.trans ((hb.mono (by simp; omega)).below (by omega)); clear hb)
 refine leaves_cons (f := 78) (args := #[.pointer (some ⟨w.heap.size + 1, 0, none⟩)]) (by simp) (by simp [go_sem]) ?_
 refine (catchP_panic ⟨w.heap.size + 1, 0, none⟩ 0 c [] _ q0 qf).mono ?_
 rintro e u' w'' ⟨rfl, rfl, rfl⟩
 simp [Leaves, settle, results, Tryz.results39, go_sem, p0, p1, q0]
 exact HB1.out.setCell (p := ⟨w.heap.size + 1, 0, none⟩) (Nat.le_succ _) _
set_option maxRecDepth 20000 in
set_option maxHeartbeats 800000 in
theorem readP_tail (v : Value) (l : List Int) (w : World) (h : Bh w v l) (x : Pk) (r : List Int) (hne : r ≠ []) (hr : rProof l = .ok (x, r)) :
  Calls Tryz.prog 39 #[v, .func (.func 40) #[] #[]] w fun e w' => e = .returned (.tuple #[.agg #[.slice none 0 0, .slice none 0 0], .int .i64 62]) /\ Below w.heap.size w w' := by
 have hmf : ∀ (fn : Fn) (first cap : Array Value) (w : World), (Instr.makeFunc fn first cap).run Tryz.prog w = .ok (.func fn first cap) w := fun _ _ _ _ => rfl
 have HR : Hid (RdS (((w.alloc (.cells #[.slice none 0 0, .slice none 0 0] 25)).alloc (.cells #[.int .i64 0] 29)).alloc (.cells #[v] 112)) (w.heap.size + 1 + 1) l) := by
  have := h.rd (below2 w (.cells #[.slice none 0 0, .slice none 0 0] 25) (.cells #[.int .i64 0] 29))
  rwa [show ((w.alloc (.cells #[.slice none 0 0, .slice none 0 0] 25)).alloc (.cells #[.int .i64 0] 29)).heap.size = w.heap.size + 1 + 1 by simp] at this
 obtain ⟨-, b, o, cap, rfl, -, -, -, -⟩ := h
 have HO1 : Hid (Blk (((w.alloc (.cells #[.slice none 0 0, .slice none 0 0] 25)).alloc (.cells #[.int .i64 0] 29)).alloc (.cells #[.slice (some ⟨b, o, none⟩) l.length cap] 112)) w.heap.size #[.slice none 0 0, .slice none 0 0] 25) := (Blk.old _ _ _ _).later (below1 _ _)
 have HO2 : Hid (Blk (((w.alloc (.cells #[.slice none 0 0, .slice none 0 0] 25)).alloc (.cells #[.int .i64 0] 29)).alloc (.cells #[.slice (some ⟨b, o, none⟩) l.length cap] 112)) (w.heap.size + 1) #[.int .i64 0] 29) := (Blk.new2 _ _ _ _).later (below1 _ _)
 have HL : Hid (Below w.heap.size w (((w.alloc (.cells #[.slice none 0 0, .slice none 0 0] 25)).alloc (.cells #[.int .i64 0] 29)).alloc (.cells #[.slice (some ⟨b, o, none⟩) l.length cap] 112))) := (below2 _ _ _).alloc (by simp; omega) _
 have HN : Hid (∀ (g : Nat) (X : World), RdS X g l -> Calls Tryz.prog 40 #[.pointer (some ⟨g, 0, none⟩)] X fun e w' => ∃ v, e = .returned v /\ PR8 (X.heap.size + 1) w' x v /\ RdS w' g r /\ Bv g X.heap.size X w') := fun g X hX => RdP.ok (proof8_any g l X hX) hr
 clear hr
 have hlen : (0 : Int) < (r.length : Int) := by have := List.length_pos_iff.2 hne; omega
 go_enter_defers Tryz.func39, Tryz.ntmps39
 go_wp2_with (first
  | (go_at_call 40; refine (HN.out _ _ HR.out).mono ?_; rintro e w1 ⟨v1, rfl, hp, ⟨-, v2, hk, b2', o2, cap2, rfl, -⟩, hb⟩; obtain ⟨rv, sv, R, S, rfl, hR, hS, hoc, hos⟩ := hp; obtain ⟨a1, a3, e1⟩ := hoc.o.form; obtain ⟨a2, ha2⟩ : ∃ n, n = R.length := ⟨_, rfl⟩; rw [<- ha2] at e1; subst e1; obtain ⟨b1, b3, e2⟩ := hos.o.form; obtain ⟨b2, hb2⟩ : ∃ n, n = S.length := ⟨_, rfl⟩; rw [<- hb2] at e2; subst e2; have c0 := bcell1 hk; obtain ⟨p0, p1⟩ := ctwo (HO1.out.bl hb (by omega)); have f0 : w1.frozen? ⟨w.heap.size, 0, none⟩ = false := frozen_of_row _ _ _ _ _ (HO1.out.bl hb (by omega)); have f1 : w1.frozen? ⟨w.heap.size, 1, none⟩ = false := frozen_of_row _ _ _ _ _ (HO1.out.bl hb (by omega)); obtain ⟨q0, qf⟩ := (HO2.out.bl hb (by omega)).one; have hz1 : w.heap.size + 3 <= w1.heap.size := (by have := hb.size; simp at this; omega); have hz2 : w.heap.size + 1 + 1 < w1.heap.size := (by omega); have hz3 : w.heap.size + 1 < w1.heap.size := (by omega); have hz4 : w.heap.size < w1.heap.size := (by omega); have HB1 : Hid (Below w.heap.size w w1) := HL.out.trans ((hb.mono (by simp; omega)).below (by omega)); have HO : Hid (PR8 (w.heap.size + 3) w1 x (.agg #[.slice a1 a2 a3, .slice b1 b2 b3])) := PR8.mono ⟨_, _, R, S, rfl, hR, hS, hoc, hos⟩ (by simp); clear hb hoc hos hk hR hS ha2 hb2)
  | (go_at_call 79; refine (giveUp_any 62 _).mono ?_; rintro e w2 ⟨rfl, rfl⟩))
 refine leaves_cons (f := 78) (args := #[.pointer (some ⟨w.heap.size + 1, 0, none⟩)]) (by simp) (by simp [go_sem]) ?_
 refine (catchP_panic ⟨w.heap.size + 1, 0, none⟩ 0 62 [] _ ?_ ?_).mono ?_
 ·simp [go_sem, q0, hz3]
 ·simp [go_sem, qf, hz3]
 rintro e u' w'' ⟨rfl, rfl, rfl⟩
 simp [Leaves, settle, results, Tryz.results39, go_sem, p0, p1, q0, hz3, hz4]
 exact (HB1.out.setCell (p := ⟨w.heap.size + 1, 0, none⟩) (Nat.le_succ _) _).alloc (by simp; omega) _
def RP8 (w : World) (r : Except Int Pk) (e : Ending) (w' : World) : Prop := Below w.heap.size w w' /\ ∃ (x : Pk) (u : Value) (er : Int), e = .returned (.tuple #[u, .int .i64 er]) /\ PR8 w.heap.size w' x u /\ match r with
 | .ok y => x = y /\ er = 0
 | .error d => x = ([], []) /\ er = d
theorem readP_any (v : Value) (l : List Int) (w : World) (h : Bh w v l) :
  Calls Tryz.prog 39 #[v, .func (.func 40) #[] #[]] w (RP8 w (rWhole rProof l)) := by
 unfold rWhole
 rcases hr : rProof l with c | ⟨a, r⟩
 ·exact (readP_no v l w h c hr).mono (by rintro e w' ⟨rfl, hb⟩; exact ⟨hb, _, _, c, rfl, PR8.nil _ _, rfl, rfl⟩)
 ·by_cases hne : r = []
  ·subst hne
   simp only [if_true]
   exact (readP_ok v l w h a hr).mono (by rintro e w' ⟨u, rfl, ho, hb⟩; exact ⟨hb, a, u, 0, rfl, ho, rfl, rfl⟩)
  ·simp only [hne, if_false]
   exact (readP_tail v l w h a r hne hr).mono (by rintro e w' ⟨rfl, hb⟩; exact ⟨hb, _, _, 62, rfl, PR8.nil _ _, rfl, rfl⟩)
set_option maxRecDepth 20000 in
set_option maxHeartbeats 800000 in
theorem readProof_any (v : Value) (l : List Int) (w : World) (h : Bh w v l) :
  Calls Tryz.prog 11 #[v] w (RP8 w (rWhole rProof l)) := by
 have HN : Hid (∀ X, Below w.heap.size w X -> Calls Tryz.prog 39 #[v, .func (.func 40) #[] #[]] X (RP8 X (rWhole rProof l))) := fun X hX => readP_any v l X (h.later hX)
 obtain ⟨-, b, o, cap, rfl, -, -, -, -⟩ := h
 go_enter Tryz.func11, Tryz.ntmps11
 go_wp2_with (go_at_call 39; refine (HN.out _ (below1 _ _)).mono ?_; rintro e w1 ⟨hb, x, u, er, rfl, hp, hm⟩; obtain ⟨rv, sv, R, S, rfl, hR, hS, hoc, hos⟩ := hp; obtain ⟨a1, a3, e1⟩ := hoc.o.form; obtain ⟨a2, ha2⟩ : ∃ n, n = R.length := ⟨_, rfl⟩; rw [<- ha2] at e1; subst e1; obtain ⟨b1, b3, e2⟩ := hos.o.form; obtain ⟨b2, hb2⟩ : ∃ n, n = S.length := ⟨_, rfl⟩; rw [<- hb2] at e2; subst e2; have HM : Hid _ := hm; have HO : Hid (PR8 (w.heap.size + 1) w1 x (.agg #[.slice a1 a2 a3, .slice b1 b2 b3])) := PR8.mono ⟨_, _, R, S, rfl, hR, hS, hoc, hos⟩ (by simp); obtain ⟨p0, p1⟩ := ctwo ((CBlk.new w #[.slice none 0 0, .slice none 0 0] 25).later hb); have f0 : w1.frozen? ⟨w.heap.size, 0, none⟩ = false := frozen_of_row _ _ _ _ _ ((CBlk.new w #[.slice none 0 0, .slice none 0 0] 25).later hb); have f1 : w1.frozen? ⟨w.heap.size, 1, none⟩ = false := frozen_of_row _ _ _ _ _ ((CBlk.new w #[.slice none 0 0, .slice none 0 0] 25).later hb); have HB : Hid (Below w.heap.size w w1) := below_step (below1 _ _) hb; clear hb hoc hos hm hR hS ha2 hb2)
 refine bodyPost_ret (v := .tuple #[.agg #[.slice a1 a2 a3, .slice b1 b2 b3], .int .i64 er]) (by simp [results, Tryz.results11, go_sem, p0, p1]) rfl ⟨?_, x, _, _, rfl, ?_, HM.out⟩
 ·exact ((HB.out.setCell (p := ⟨w.heap.size, 0, none⟩) (Nat.le_refl _) _).setCell (p := ⟨w.heap.size, 1, none⟩) (Nat.le_refl _) _)
 ·exact (HO.out.hi (((Hi.refl _ _).set (by omega)).set (by omega))).mono (by omega)
end Go.Proofs.YtmbmchbninlhpaaGreatDoor
