import Derived.Test.YtnenadklmjcakaaGreatDoorCL1
import Derived.Test.YtnenadklmjcakaaGreatDoorSD3
namespace Go.Proofs.YtnenadklmjcakaaGreatDoor
open Go.RowKit

theorem capp_one {ops : Array Oper} {rest : List Oper} {o : Oper} {a : Act} {Q : Exit -> Act -> World -> Prop} {w : World} (hgd : o.guard = none) (s x : Operand)
  (ho : o.op = .call { callee := .builtin .append, args := #[s, x], argTypes := #[22, 22] }) (base : Nat) (v : Value) (l : List Cm) (hs : a.eval s = v) (hown : OwnC w base v l)
  (b : Nat) (y : Cm) (hx : a.eval x = .slice (some ⟨b, 0, none⟩) 1 1) (hblk : CBlk w b y.cs 58) {W : World} (h1c : y.ok W) (hlen : l.length <= 1000000000000) (hbase : base <= w.heap.size)
  (h : ∀ v' w', OwnC w' base v' (l ++ [y]) -> Below base w w' -> w.grownBy w' v.ownBlock -> (∀ k, v'.ownBlock = some k -> v.ownBlock = some k ∨ w.heap.size <= k) -> wpList Tryz.prog ops Q rest (a.put o.dst v') w') : wpList Tryz.prog ops Q (o :: rest) a w := by
 obtain ⟨i0, hi0, hz0, hz1, hz2⟩ := info_parts Tryz.infoClause
 refine wpList_append_lies _ hgd s x 22 ho base 58 i0 _ 7 120 Tryz.underlying22 hi0 hz0 hz1 hz2 rfl (by omega) v l.length (ccs l) hs hown ⟨b, 0, none⟩ 1 1 (ccs [y]) hx (by rw [ccs_len]; rfl) ?_ (fun u hu => by obtain ⟨z, hz, hu⟩ := List.mem_flatMap.1 hu; rw [List.mem_singleton] at hz; subst hz; exact csl_one h1c u hu) (by omega) (by unfold maxLen; omega) (by omega) hbase _ rfl ?_
 ·intro j u hj
  have := World.news_of_block (cs := y.cs) (t := 58) (fr := (0, 0)) hblk j u
  exact this (by simpa [ccs, Cm.csl] using hj)
 ·intro g cap w' h1 h2 h3 h4
  refine h _ w' ?_ (grown_below3 h2 (fun k hk => (World.ownsRow.lt hown k hk).1) hbase) h2 (fun k hk => by cases hk; exact h3.imp id (fun e => Nat.le_of_eq e.symm))
  unfold OwnC
  rw [List.length_append, ccs_app]
  exact h1
theorem OwnC.mono {w : World} {b b' : Nat} {v : Value} {l : List Cm} (h : OwnC w b v l) (hb : b' <= b) : OwnC w b' v l := by
 refine ⟨h.1, ?_⟩
 rcases h.2 with hn | ⟨g, cap, cur, hv, hbb, hg, rest⟩
 ·exact Or.inl hn
 ·exact Or.inr ⟨g, cap, cur, hv, Nat.le_trans hb hbb, hg, rest⟩
theorem OwnC.adr {w : World} {base n cap j : Nat} {a : Option Addr} {l : List Cm} {c : Cm} (h : OwnC w base (.slice a n cap) l) (hc : l[j]? = some c) : ∃ b o, a = some ⟨b, o, none⟩ /\ CRow w b o l := by
 rcases h.2 with ⟨-, hn⟩ | ⟨g', cap', cur, hv, hb, hg, hn, hcc, hs, ht⟩
 ·have := (List.getElem?_eq_some_iff.1 hc).1; omega
 ·simp only [Value.slice.injEq] at hv
  obtain ⟨rfl, -, rfl⟩ := hv
  refine ⟨g', 0, rfl, (Array.getElem?_eq_some_iff.1 hg).1, fun i d hd k u hu => ?_⟩
  have hk : k < 7 := by have := (List.getElem?_eq_some_iff.1 hu).1; simpa [Cm.csl] using this
  have hi := (List.getElem?_eq_some_iff.1 hd).1
  have h1 : (cur.toList.take (l.length * 7))[i * 7 + k]? = (ccs l)[i * 7 + k]? := by rw [ht]
  rw [List.getElem?_take_of_lt (by omega), ccs_get l i d hd k hk, hu] at h1
  rw [Nat.zero_add, cell_of_row _ _ _ _ _ _ hg]
  simpa using h1
theorem CRow.seven {w : World} {b o j : Nat} {l : List Cm} {c : Cm} (h : CRow w b o l) (hc : l[j]? = some c) :
  w.cell? ⟨b, o + j * 7, none⟩ = some (.int .i64 c.head.1.by_.k) /\ w.cell? ⟨b, o + j * 7 + 1, none⟩ = some (.int .i64 c.head.1.by_.n) /\ w.cell? ⟨b, o + j * 7 + 2, none⟩ = some (.string c.head.1.by_.s) /\ w.cell? ⟨b, o + j * 7 + 3, none⟩ = some (.string c.head.1.name) ∧
   w.cell? ⟨b, o + j * 7 + 4, none⟩ = some c.head.2 /\ w.cell? ⟨b, o + j * 7 + 5, none⟩ = some c.bv /\ w.cell? ⟨b, o + j * 7 + 6, none⟩ = some c.tv :=
 ⟨h.2 j c hc 0 _ rfl, h.2 j c hc 1 _ rfl, h.2 j c hc 2 _ rfl, h.2 j c hc 3 _ rfl, h.2 j c hc 4 _ rfl, h.2 j c hc 5 _ rfl, h.2 j c hc 6 _ rfl⟩
theorem CsP.form {w : World} {v : Value} {l : List Cm} (h : CsP w v l) : ∃ a cap, v = .slice a l.length cap := by
 rcases h.m with ⟨rfl, rfl⟩ | ⟨ad, cap, rfl, -⟩
 ·exact ⟨none, 0, rfl⟩
 ·exact ⟨_, cap, rfl⟩
theorem Ts.agreeS {X X' : World} {v : Value} {l : List Tm} (h : Ts X v l) (hs : X.heap.size <= X'.heap.size) (hb : ∀ b, v.ownBlock = some b -> b < X.heap.size -> X'.heap[b]? = X.heap[b]?) : Ts X' v l := by
 obtain ⟨a, cap, rfl, hl, hm⟩ := h
 refine ⟨a, cap, rfl, hl, ?_⟩
 rcases hm with hm | ⟨b, o, rfl, hlt, hm⟩
 ·exact Or.inl hm
 ·have hc : ∀ j, X'.cell? ⟨b, j, none⟩ = X.cell? ⟨b, j, none⟩ := fun j => World.cell?_of_block (w := X) (a := ⟨b, j, none⟩) (hb b rfl hlt)
  refine Or.inr ⟨b, o, rfl, Nat.lt_of_lt_of_le hlt hs, fun q t ht => ?_⟩
  simp only [hc]
  exact hm q t ht
def KpC (B : Nat) (X : World) (d : Cm) : Prop := ∀ Y : World, X.heap.size <= Y.heap.size -> (∀ b, B <= b -> b < X.heap.size -> Y.heap[b]? = X.heap[b]?) -> d.ok Y
theorem KpC.ok {B : Nat} {X : World} {d : Cm} (h : KpC B X d) : d.ok X := h X (Nat.le_refl _) fun _ _ _ => rfl
theorem KpC.gr {B : Nat} {X Y : World} {d : Cm} {o : Obj} {row : Option Nat} (h : KpC B X d) (hr : ∀ k, row = some k -> k < B) (hg : (X.alloc o).grownBy Y row) : d.ok Y :=
 h Y (by have := hg.size; rw [show (X.alloc o).heap.size = X.heap.size + 1 by simp] at this; omega) fun b h1 h2 => by
  have := hg.block b (by rw [show (X.alloc o).heap.size = X.heap.size + 1 by simp]; omega) (fun e => by have := hr b e.symm; omega)
  rw [this, @heap_alloc_old _ _ _ h2]
theorem copiedK_any (c : Cm) (w : World) (h : c.ok w) (hl1 : c.head.1.args.length <= 1900000000000) (hl2 : c.body.length <= 1900000000000) (hl3 : c.tests.length <= 1900000000000) (hl4 : ∀ x ∈ c.body, x.1.args.length <= 1900000000000) :
  Calls Tryz.prog 60 #[c.v] w fun e w' => ∃ d : Cm, e = .returned d.v /\ d.key = c.key /\ KpC w.heap.size w' d /\ Below w.heap.size w w' := by
 refine (copied_any c w h hl1 hl2 hl3 hl4).mono fun e w' he => ?_
 obtain ⟨M1, M2, M3, lb, rfl, hr, hb⟩ := he
 have hl : lb.length = c.body.length := by have := congrArg List.length hr.f; simpa [fsts] using this
 refine ⟨_, rfl, ?_, fun Y hs ha => ?_, hb⟩
 ·unfold Cm.key Cm.cp
  simp only
  rw [hr.f]
 ·have hA : ABlk Y M2 c.body.length lb := by
   obtain ⟨C, e1, e2, e3⟩ := hr.a
   exact ⟨C, (ha M2 hr.b2 hr.a.lt).trans e1, e2, e3⟩
  have hE : EBlk Y M3 c.tests.length c.tests := by
   obtain ⟨C, e1, e2, e3⟩ := hr.e
   exact ⟨C, (ha M3 (by have := hr.b2; have := hr.b3; omega) hr.e.lt).trans e1, e2, e3⟩
  refine ⟨?_, hA.as hl (by omega) fun x hx => (hr.ts x hx).1.1.agreeS hs fun b e hlt => ha b ((hr.ts x hx).2 b e) hlt, hE.es rfl (by omega)⟩
  exact hr.t1.agreeS hs fun b e hlt => by obtain rfl : M1 = b := Option.some.inj e; exact ha M1 hr.b1 hlt
structure OutC (B : Nat) (X : World) (v : Value) (l : List Cm) : Prop where
 o : OwnC X B v l
 s : ∀ c ∈ l, ∀ Y : World, X.grownBy Y v.ownBlock -> c.ok Y
theorem OutC.nil (B : Nat) (X : World) : OutC B X (.slice none 0 0) [] := ⟨OwnC.nil _ _, fun c hc => by cases hc⟩
theorem grown_of {X Y : World} (h : Below X.heap.size X Y) (row : Option Nat) : X.grownBy Y row := ⟨h.os, h.tape, h.output, h.size, fun k hk _ => h.block k hk⟩
theorem OutC.later {B : Nat} {X X' : World} {v : Value} {l : List Cm} (h : OutC B X v l) (hb : Below X.heap.size X X') : OutC B X' v l :=
 ⟨h.o.later hb, fun c hc Y hY => h.s c hc Y ((grown_of hb _).trans hY)⟩
theorem OutC.mono {B B' : Nat} {X : World} {v : Value} {l : List Cm} (h : OutC B X v l) (hb : B' <= B) : OutC B' X v l := ⟨h.o.mono hb, h.s⟩
theorem OutC.add {B : Nat} {X X' : World} {v v' : Value} {l : List Cm} {d : Cm} (H : OutC B X v l) (hd : ∀ Y, X.grownBy Y v.ownBlock -> d.ok Y) (hown : OwnC X' B v' (l ++ [d])) (hg : X.grownBy X' v.ownBlock)
  (ha : ∀ k, v'.ownBlock = some k -> v.ownBlock = some k ∨ X.heap.size <= k) : OutC B X' v' (l ++ [d]) :=
 ⟨hown, fun c hc Y hY => by
  have hG : X.grownBy Y v.ownBlock := hg.andThen hY fun k hk => (ha k hk).symm
  rcases List.mem_append.1 hc with hc | hc
  ·exact H.s c hc Y hG
  ·rw [List.mem_singleton] at hc; subst hc; exact hd Y hG⟩
theorem OutC.csp {B : Nat} {X : World} {v : Value} {l : List Cm} (h : OutC B X v l) : CsP X v l := by
 refine ⟨?_, fun c hc => h.s c hc X (World.grownBy.refl _ _)⟩
 have hf := h.o.form
 rcases h.o.2 with ⟨rfl, hn⟩ | ⟨g, cap, cur, hv, -⟩
 ·exact Or.inl ⟨rfl, List.length_eq_zero_iff.1 hn⟩
 ·refine Or.inr ⟨⟨g, 0, none⟩, cap, hv, ?_⟩
  cases l with
  | nil => exact Or.inl rfl
  | cons c l =>
   have ho := h.o
   rw [hv] at ho
   obtain ⟨b, o, e, hr⟩ := ho.adr (j := 0) (c := c) rfl
   exact Or.inr ⟨b, o, Option.some.inj e, hr⟩
def prv (l : List Cm) (j : Nat) : Option Cm := if j = 0 then none else l[j - 1]?
def kpt (l : List Cm) (j : Nat) (c : Cm) : Bool := match prv l j with | none => true | some p => decide (p.cmp c ≠ 0)
def dkN (l : List Cm) : Nat -> List Ck
 | 0 => []
 | j + 1 => dkN l j ++ (match l[j]? with | some c => if kpt l j c then [c.key] else [] | none => [])
theorem dkN_yes {l : List Cm} {j : Nat} {c : Cm} (h : l[j]? = some c) (hk : kpt l j c = true) : dkN l (j + 1) = dkN l j ++ [c.key] := by
 conv => lhs; unfold dkN
 rw [h]; simp only; rw [if_pos hk]
theorem dkN_no {l : List Cm} {j : Nat} {c : Cm} (h : l[j]? = some c) (hk : kpt l j c = false) : dkN l (j + 1) = dkN l j := by
 conv => lhs; unfold dkN
 rw [h]; simp only; rw [if_neg (by rw [hk]; simp), List.append_nil]
def Cm.sml (c : Cm) : Prop := c.head.1.args.length <= 1900000000000 /\ c.body.length <= 1900000000000 /\ c.tests.length <= 1900000000000 /\ ∀ x ∈ c.body, x.1.args.length <= 1900000000000
theorem conj7 {a b c d e f g : Prop} (h1 : a) (h2 : b) (h3 : c) (h4 : d) (h5 : e) (h6 : f) (h7 : g) : Hid (a /\ b /\ c /\ d /\ e /\ f /\ g) := ⟨h1, h2, h3, h4, h5, h6, h7⟩
set_option maxRecDepth 20000 in
set_option maxHeartbeats 4000000 in
theorem set_any (l : List Cm) (v : Value) (w : World) (h : CsP w v l) (hl : l.length <= 1000000000) (hz : ∀ c ∈ l, c.sml) :
  Calls Tryz.prog 26 #[v] w fun e w' => ∃ v', e = .returned v' /\ ∃ o, OutC w.heap.size w' v' o /\ ∃ l', o.map Cm.key = dkN l' l'.length /\ l'.Perm l /\ srtC l' /\ Below w.heap.size w w' := by
 have HP : Hid (CsP w v l) := h
 have HZ : Hid (∀ c ∈ l, c.sml) := hz
 have HCL := clone_any l v w h hl
 obtain ⟨va, vc, rfl⟩ := h.form
 have HCL : Hid (Calls Tryz.prog 57 #[.slice va l.length vc] w _) := HCL
 clear h hz
 go_enter Tryz.func26, Tryz.ntmps26
 go_upto_region 3 with (first
  | (go_at_call 57; refine HCL.out.mono ?_; rintro e w1 ⟨v1, rfl, ho1, hb1⟩; obtain ⟨sa, sc, rfl⟩ := ho1.form; have HO1 : Hid (OwnC w1 w.heap.size (.slice sa l.length sc) l) := ho1; have HB1 : Hid (Below w.heap.size w w1) := hb1; clear ho1 hb1 HCL)
  | (go_at_call 58; refine (sortC_any l _ w.heap.size w1 HO1.out (fun c hc X hX => (HP.out.ok c hc).later (HB1.out.trans hX)) hl).mono ?_; rintro e w2 ⟨rfl, l', ho2, hp2, hs2, hb2⟩; have HO2 : Hid (OwnC w2 w.heap.size (.slice sa l.length sc) l') := ho2; have HPM : Hid (l'.Perm l) := hp2; have HSR : Hid (srtC l') := hs2; have HB2 : Hid (Below w.heap.size w w2) := HB1.out.trans hb2; clear ho2 hp2 hs2 hb2 HO1 HB1))
 have hll : l'.length = l.length := HPM.out.length_eq
 have HOK : Hid (∀ c ∈ l', c.ok w2 /\ c.sml) := fun c hc => ⟨(HP.out.ok c (HPM.out.mem_iff.1 hc)).later HB2.out, HZ.out c (HPM.out.mem_iff.1 hc)⟩
 clear HP HZ
 go_wp2
 go_loopg [4, 13] l.length (fun g u i wr => ∃ (j : Nat) (o : List Cm), j + g = l.length /\ i = .int .i64 (j : Int) /\ OutC w2.heap.size wr u o /\ o.length <= j /\ o.map Cm.key = dkN l' j /\ Below w2.heap.size w2 wr)
 case atStart => exact ⟨0, [], by omega, rfl, OutC.nil _ _, Nat.le_refl _, rfl, Below.refl _ _⟩
 case round =>
  obtain ⟨j, o, hg, rfl, hou, hol, hok, hb⟩ := hrel
  have HB : Hid (Below w2.heap.size w2 wr) := hb
  have HO : Hid (OutC w2.heap.size wr u4 o) := hou
  have HK : Hid (o.map Cm.key = dkN l' j) := hok
  clear hou hok hb
  cases gk with
  | succ g =>
   have i0 : (0 : Int) <= (j : Int) := by omega
   have i1 : (j : Int) < (l.length : Int) := by omega
   obtain ⟨c, hc⟩ : ∃ c, l'[j]? = some c := ⟨_, List.getElem?_eq_getElem (by omega)⟩
   obtain ⟨sb, so, rfl, hrw⟩ := (HO2.out.later HB.out).adr hc
   have HRW : Hid (CRow wr sb so l') := hrw
   have hcz := HOK.out c (List.mem_of_getElem? hc)
   have HCX : Hid (c.ok wr) := hcz.1.later HB.out
   have HCO : Hid (∀ X : World, Below wr.heap.size wr X -> Calls Tryz.prog 60 #[c.v] X fun e w' => ∃ d : Cm, e = .returned d.v /\ d.key = c.key /\ KpC X.heap.size w' d /\ Below X.heap.size X w') := fun X hX => copiedK_any c X (HCX.out.later hX) hcz.2.1 hcz.2.2.1 hcz.2.2.2.1 hcz.2.2.2.2
   have hsv := HRW.out.seven hc
   have hsh := hcz.1.shape
   have HT : Hid (l'[j]? = some c) := hc
   have HCM0 : Hid (∀ p : Cm, p ∈ l' -> ∀ Y : World, Below wr.heap.size wr Y -> Calls Tryz.prog 59 #[p.v, c.v] Y fun e w' => e = .returned (.int .i64 (p.cmp c)) /\ Below Y.heap.size Y w') := fun p hp Y hY => compareC_any p c Y (((HOK.out p hp).1.later HB.out).later hY) (HCX.out.later hY)
   have HPS : Hid (∀ p : Cm, p ∈ l' -> p.ok w2) := fun p hp => (HOK.out p hp).1
   clear hc hcz hrw
   obtain ⟨⟨⟨⟨k, m, s⟩, nm, ls⟩, hx⟩, body, bv, tests, tv⟩ := c
   simp only at hsv hsh
   obtain ⟨⟨a1, a2, a3, e1⟩, ⟨b1, b3, e2⟩, ⟨t1, t3, e3⟩, -, -⟩ := hsh
   obtain ⟨b2, hb2⟩ : ∃ n, body.length = n := ⟨_, rfl⟩
   obtain ⟨t2, ht2⟩ : ∃ n, tests.length = n := ⟨_, rfl⟩
   rw [hb2] at e2
   rw [ht2] at e3
   subst e1 e2 e3
   clear hb2 ht2
   obtain ⟨c0, c1, c2, c3, c4, c5, c6⟩ := hsv
   go_upto_region 7 with fail
   have hbx := below1 wr (.cells #[.int .i64 k, .int .i64 m, .string s, .string nm, .slice a1 a2 a3, .slice b1 b2 b3, .slice t1 t2 t3] 58)
   have bx := CBlk.new wr #[.int .i64 k, .int .i64 m, .string s, .string nm, .slice a1 a2 a3, .slice b1 b2 b3, .slice t1 t2 t3] 58
   revert hbx bx
   generalize wr.alloc (.cells #[.int .i64 k, .int .i64 m, .string s, .string nm, .slice a1 a2 a3, .slice b1 b2 b3, .slice t1 t2 t3] 58) = X
   intro hbx bx
   have HBX : Hid (Below wr.heap.size wr X) := hbx
   have BT : Hid (CBlk X wr.heap.size #[.int .i64 k, .int .i64 m, .string s, .string nm, .slice a1 a2 a3, .slice b1 b2 b3, .slice t1 t2 t3] 58) := bx
   clear c0 c1 c2 c3 c4 c5 c6 hbx bx
   rcases Nat.eq_zero_or_pos j with hj0 | hjp
   ·have HKP : Hid (kpt l' j ⟨(⟨⟨k, m, s⟩, nm, ls⟩, .slice a1 a2 a3), body, .slice b1 b2 b3, tests, .slice t1 t2 t3⟩ = true) := by show kpt l' j _ = true; rw [hj0]; rfl
    have iz : (j : Int) = 0 := by omega
    clear HCM0 HPS HRW
    refine wp_region_held_drew (S := fun w' => Below X.heap.size X w') (by kernel_rfl) (Below.refl _ _).drew (fun hH => ?_)
    revert hH
    generalize X.drew = V
    intro hH
    refine wTk 0 (.int .i64 (j : Int)) rfl (by kernel_rfl) (fun _ _ _ h => h) (Or.inl ⟨by rfl, fun w' _ => by go_simp⟩) hH ?_
    simp only [wA8, wB8, wC8, wD8]
    refine wTk 1 (.bool true) rfl (by kernel_rfl) (fun _ _ _ h => h) (Or.inl ⟨by rfl, fun w' _ => by go_simp⟩) hH ?_
    simp only [wA8, wB8, wC8, wD8]
    refine wTk 2 (.bool true) rfl (by kernel_rfl) (fun _ _ _ h => h) (Or.inl ⟨by rfl, fun w' _ => by go_simp⟩) hH ?_
    simp only [wA8, wB8, wC8, wD8]
    refine wTk 3 (undef) rfl (by kernel_rfl) (fun _ _ _ h => h) (Or.inr ⟨by rfl, rfl⟩) hH ?_
    simp only [wA8, wB8, wC8, wD8]
    refine wTk 4 (undef) rfl (by kernel_rfl) (fun _ _ _ h => h) (Or.inr ⟨by rfl, rfl⟩) hH ?_
    simp only [wA8, wB8, wC8, wD8]
    refine wTk 5 (undef) rfl (by kernel_rfl) (fun _ _ _ h => h) (Or.inr ⟨by rfl, rfl⟩) hH ?_
    simp only [wA8, wB8, wC8, wD8]
    refine wTk 6 (undef) rfl (by kernel_rfl) (fun _ _ _ h => h) (Or.inr ⟨by rfl, rfl⟩) hH ?_
    simp only [wA8, wB8, wC8, wD8]
    refine wTk 7 (undef) rfl (by kernel_rfl) (fun _ _ _ h => h) (Or.inr ⟨by rfl, rfl⟩) hH ?_
    simp only [wA8, wB8, wC8, wD8]
    refine wTk 8 (undef) rfl (by kernel_rfl) (fun _ _ _ h => h) (Or.inr ⟨by rfl, rfl⟩) hH ?_
    simp only [wA8, wB8, wC8, wD8]
    refine wTk 9 (undef) rfl (by kernel_rfl) (fun _ _ _ h => h) (Or.inr ⟨by rfl, rfl⟩) hH ?_
    simp only [wA8, wB8, wC8, wD8]
    refine wTk 10 (undef) rfl (by kernel_rfl) (fun _ _ _ h => h) (Or.inr ⟨by rfl, rfl⟩) hH ?_
    simp only [wA8, wB8, wC8, wD8]
    refine wTk 11 (.bool true) rfl (by kernel_rfl) (fun _ _ _ h => h) (Or.inl ⟨by rfl, fun w' _ => by go_simp⟩) hH ?_
    simp only [wA8, wB8, wC8, wD8]
    refine wpAnyH_done (by kernel_rfl) ?_ _
    have HVb : Hid (Below wr.heap.size wr V) := below_step HBX.out hH
    have BV : Hid (CBlk V wr.heap.size #[.int .i64 k, .int .i64 m, .string s, .string nm, .slice a1 a2 a3, .slice b1 b2 b3, .slice t1 t2 t3] 58) := BT.out.later hH
    clear hH
    obtain ⟨c0, c1, c2, c3, c4, c5, c6⟩ := cseven BV.out
    go_wp2_with (first
     | (go_at_call 60; refine (HCO.out _ HVb.out).mono ?_; clear c0 c1 c2 c3 c4 c5 c6; rintro e w3 ⟨d, rfl, hdk, hkp, hb3⟩; obtain ⟨⟨d1, d2, d3, f1⟩, ⟨d4, d6, f2⟩, ⟨d7, d9, f3⟩, -, -⟩ := hkp.ok.shape; obtain ⟨⟨⟨⟨dk, dm, ds⟩, dn, dl⟩, dv⟩, db, dbv, dt, dtv⟩ := d; simp only at f1 f2 f3; obtain ⟨d5, hd5⟩ : ∃ n, db.length = n := ⟨_, rfl⟩; obtain ⟨d8, hd8⟩ : ∃ n, dt.length = n := ⟨_, rfl⟩; rw [hd5] at f2; rw [hd8] at f3; subst f1 f2 f3; clear hd5 hd8; have HDK : Hid (Cm.key ⟨(⟨⟨dk, dm, ds⟩, dn, dl⟩, .slice d1 d2 d3), db, .slice d4 d5 d6, dt, .slice d7 d8 d9⟩ = Cm.key ⟨(⟨⟨k, m, s⟩, nm, ls⟩, .slice a1 a2 a3), body, .slice b1 b2 b3, tests, .slice t1 t2 t3⟩) := hdk; have HKD : Hid (KpC V.heap.size w3 ⟨(⟨⟨dk, dm, ds⟩, dn, dl⟩, .slice d1 d2 d3), db, .slice d4 d5 d6, dt, .slice d7 d8 d9⟩) := hkp; have HB3 : Hid (Below w2.heap.size w2 w3) := below_step (below_step HB.out HVb.out) hb3; have HOA : Hid (OutC w2.heap.size (w3.alloc (.cells #[.int .i64 dk, .int .i64 dm, .string ds, .string dn, .slice d1 d2 d3, .slice d4 d5 d6, .slice d7 d8 d9] 58)) u4 o) := HO.out.later (below_step (below_step HVb.out hb3) (below1 _ _)); have HG : Hid (CBlk (w3.alloc (.cells #[.int .i64 dk, .int .i64 dm, .string ds, .string dn, .slice d1 d2 d3, .slice d4 d5 d6, .slice d7 d8 d9] 58)) w3.heap.size #[.int .i64 dk, .int .i64 dm, .string ds, .string dn, .slice d1 d2 d3, .slice d4 d5 d6, .slice d7 d8 d9] 58) := CBlk.new _ _ _; have HSZ : Hid (w2.heap.size <= (w3.alloc (.cells #[.int .i64 dk, .int .i64 dm, .string ds, .string dn, .slice d1 d2 d3, .slice d4 d5 d6, .slice d7 d8 d9] 58)).heap.size) := (below_step HB3.out (below1 _ _)).size; clear hdk hkp hb3)
     | (at_builtin; refine capp_one rfl _ _ rfl w2.heap.size u4 o (by rfl) HOA.out.o w3.heap.size ⟨(⟨⟨dk, dm, ds⟩, dn, dl⟩, .slice d1 d2 d3), db, .slice d4 d5 d6, dt, .slice d7 d8 d9⟩ (by rfl) HG.out (HKD.out.ok) (by omega) HSZ.out ?_; intro v4 w4 hown hb4 hg4 ha4; have HO4 : Hid (OutC w2.heap.size w4 v4 (o ++ [⟨(⟨⟨dk, dm, ds⟩, dn, dl⟩, .slice d1 d2 d3), db, .slice d4 d5 d6, dt, .slice d7 d8 d9⟩])) := HOA.out.add (fun Y hY => HKD.out.gr (fun k hk => by have := (HO.out.o.lt k hk).2; have := HVb.out.size; omega) hY) hown hg4 ha4; have HB4 : Hid (Below w2.heap.size w2 w4) := (below_step HB3.out (below1 _ _)).trans hb4; clear hown hb4 hg4 ha4 HOA HG))
    go_roundg g
    case measure => omega
    case rel => exact ⟨j + 1, _, by omega, by go_num, HO4.out, by simp only [List.length_append, List.length_singleton]; omega, by rw [List.map_append, HK.out, dkN_yes HT.out HKP.out, <- HDK.out]; rfl, HB4.out⟩
   ·obtain ⟨p, hp⟩ : ∃ p, l'[j - 1]? = some p := ⟨_, List.getElem?_eq_getElem (by omega)⟩
    have hpm := List.mem_of_getElem? hp
    have hpv : prv l' j = some p := by show (if j = 0 then none else l'[j - 1]?) = _; rw [if_neg (by omega)]; exact hp
    have hsv := HRW.out.seven hp
    have hsh := (HPS.out p hpm).shape
    have HCM := HCM0.out p hpm
    have HKQ : Hid (kpt l' j ⟨(⟨⟨k, m, s⟩, nm, ls⟩, .slice a1 a2 a3), body, .slice b1 b2 b3, tests, .slice t1 t2 t3⟩ = decide (p.cmp ⟨(⟨⟨k, m, s⟩, nm, ls⟩, .slice a1 a2 a3), body, .slice b1 b2 b3, tests, .slice t1 t2 t3⟩ ≠ 0)) := by show kpt l' j _ = _; unfold kpt; rw [hpv]
    have ep : (j : Int) - 1 = ((j - 1 : Nat) : Int) := by omega
    have ip : ¬ (j : Int) = 0 := by omega
    have ipn : ¬ j = 0 := by omega
    have iq0 : (0 : Int) <= ((j - 1 : Nat) : Int) := by omega
    have iq1 : ((j - 1 : Nat) : Int) < (l.length : Int) := by omega
    have HJW : Hid (IntKind.i64.wrap ((j - 1 : Nat) : Int) = ((j - 1 : Nat) : Int)) := by show _ = _; rw [IntKind.wrap_i64]; omega
    have hz0 := HRW.out.1
    obtain ⟨R, hR⟩ : ∃ R, p.cmp ⟨(⟨⟨k, m, s⟩, nm, ls⟩, .slice a1 a2 a3), body, .slice b1 b2 b3, tests, .slice t1 t2 t3⟩ = R := ⟨_, rfl⟩
    rw [hR] at HKQ
    simp only [hR] at HCM
    clear hp hpm hpv HCM0 HPS HRW hR
    obtain ⟨⟨⟨⟨pk, pm, ps⟩, pn, pl⟩, px⟩, pb, pbv, pt, ptv⟩ := p
    simp only at hsv hsh
    obtain ⟨⟨p1, p2, p3, e1⟩, ⟨p4, p6, e2⟩, ⟨p7, p9, e3⟩, -, -⟩ := hsh
    obtain ⟨p5, hp5⟩ : ∃ n, pb.length = n := ⟨_, rfl⟩
    obtain ⟨p8, hp8⟩ : ∃ n, pt.length = n := ⟨_, rfl⟩
    rw [hp5] at e2
    rw [hp8] at e3
    subst e1 e2 e3
    clear hp5 hp8
    obtain ⟨q0, q1, q2, q3, q4, q5, q6⟩ := hsv
    have HQ := conj7 (cell_step HBX.out hz0 q0) (cell_step HBX.out hz0 q1) (cell_step HBX.out hz0 q2) (cell_step HBX.out hz0 q3) (cell_step HBX.out hz0 q4) (cell_step HBX.out hz0 q5) (cell_step HBX.out hz0 q6)
    have HQz : Hid (sb < X.heap.size) := Nat.lt_of_lt_of_le hz0 HBX.out.size
    have HCM : Hid (∀ Y : World, Below wr.heap.size wr Y -> Calls Tryz.prog 59 #[.agg #[.int .i64 pk, .int .i64 pm, .string ps, .string pn, .slice p1 p2 p3, .slice p4 p5 p6, .slice p7 p8 p9], .agg #[.int .i64 k, .int .i64 m, .string s, .string nm, .slice a1 a2 a3, .slice b1 b2 b3, .slice t1 t2 t3]] Y fun e w' => e = .returned (.int .i64 R) /\ Below Y.heap.size Y w') := HCM
    clear q0 q1 q2 q3 q4 q5 q6 hz0
    by_cases hr : R = 0
    ·have HKP : Hid (kpt l' j ⟨(⟨⟨k, m, s⟩, nm, ls⟩, .slice a1 a2 a3), body, .slice b1 b2 b3, tests, .slice t1 t2 t3⟩ = false) := by show kpt l' j _ = false; rw [HKQ.out, hr]; rfl
     subst hr
     clear HKQ HCO
     refine wp_region_held_drew (S := fun w' => Below X.heap.size X w') (by kernel_rfl) (Below.refl _ _).drew (fun hH => ?_)
     revert hH
     generalize X.drew = V
     intro hH
     refine wTk 0 (.int .i64 (j : Int)) rfl (by kernel_rfl) (fun _ _ _ h => h) (Or.inl ⟨by rfl, fun w' _ => by go_simp⟩) hH ?_
     simp only [wA8, wB8, wC8, wD8]
     refine wTk 1 (.bool false) rfl (by kernel_rfl) (fun _ _ _ h => h) (Or.inl ⟨by rfl, fun w' _ => by go_simp⟩) hH ?_
     simp only [wA8, wB8, wC8, wD8]
     refine wTk 2 (.bool false) rfl (by kernel_rfl) (fun _ _ _ h => h) (Or.inl ⟨by rfl, fun w' _ => by go_simp⟩) hH ?_
     simp only [wA8, wB8, wC8, wD8]
     refine wTk 3 (.slice (some ⟨sb, so, none⟩) l.length sc) rfl (by kernel_rfl) (fun _ _ _ h => h) (Or.inl ⟨by rfl, fun w' _ => by go_simp⟩) hH ?_
     simp only [wA8, wB8, wC8, wD8]
     refine wTk 4 (.int .i64 (j : Int)) rfl (by kernel_rfl) (fun _ _ _ h => h) (Or.inl ⟨by rfl, fun w' _ => by go_simp⟩) hH ?_
     simp only [wA8, wB8, wC8, wD8]
     refine wTk 5 (.int .i64 ((j - 1 : Nat) : Int)) rfl (by kernel_rfl) (fun _ _ _ h => h) (Or.inl ⟨by rfl, fun w' _ => by go_simp; exact HJW.out⟩) hH ?_
     simp only [wA8, wB8, wC8, wD8]
     refine wTk 6 (.pointer (some ⟨sb, so + (j - 1) * 7, none⟩)) rfl (by kernel_rfl) (fun _ _ _ h => h) (Or.inl ⟨by rfl, fun w' _ => by go_simp⟩) hH ?_
     simp only [wA8, wB8, wC8, wD8]
     refine wTk 7 (.agg #[.int .i64 pk, .int .i64 pm, .string ps, .string pn, .slice p1 p2 p3, .slice p4 p5 p6, .slice p7 p8 p9]) rfl (by kernel_rfl) (fun _ _ _ h => h) (Or.inl ⟨by rfl, fun w' h => by obtain ⟨q0, q1, q2, q3, q4, q5, q6⟩ := HQ.out; have z := HQz.out; have y0 := cell_step h z q0; have y1 := cell_step h z q1; have y2 := cell_step h z q2; have y3 := cell_step h z q3; have y4 := cell_step h z q4; have y5 := cell_step h z q5; have y6 := cell_step h z q6; clear q0 q1 q2 q3 q4 q5 q6; go_simp⟩) hH ?_
     simp only [wA8, wB8, wC8, wD8]
     refine wTk 8 (.agg #[.int .i64 k, .int .i64 m, .string s, .string nm, .slice a1 a2 a3, .slice b1 b2 b3, .slice t1 t2 t3]) rfl (by kernel_rfl) (fun _ _ _ h => h) (Or.inl ⟨by rfl, fun w' h => by obtain ⟨x0, x1, x2, x3, x4, x5, x6⟩ := cseven (CBlk.later (Hid.out BT) h); clear h; go_simp⟩) hH ?_
     simp only [wA8, wB8, wC8, wD8]
     refine wRd 9 (by kernel_rfl) rfl (fun K hK => ?_)
     go_simp
     refine (HCM.out _ (below_step HBX.out hH)).mono ?_
     rintro e V1 ⟨rfl, hb⟩
     refine hK.out _ _ (below_step hH hb) (fun hH => ?_)
     clear hK K hb
     refine wTk 10 (.bool false) rfl (by kernel_rfl) (fun _ _ _ h => h) (Or.inl ⟨by rfl, fun w' _ => by go_simp⟩) hH ?_
     simp only [wA8, wB8, wC8, wD8]
     refine wTk 11 (.bool false) rfl (by kernel_rfl) (fun _ _ _ h => h) (Or.inl ⟨by rfl, fun w' _ => by go_simp⟩) hH ?_
     simp only [wA8, wB8, wC8, wD8]
     refine wpAnyH_done (by kernel_rfl) ?_ _
     have HVb : Hid (Below wr.heap.size wr V1) := below_step HBX.out hH
     have BV : Hid (CBlk V1 wr.heap.size #[.int .i64 k, .int .i64 m, .string s, .string nm, .slice a1 a2 a3, .slice b1 b2 b3, .slice t1 t2 t3] 58) := BT.out.later hH
     clear hH
     go_wp2
     go_roundg g
     case measure => omega
     case rel => exact ⟨j + 1, o, by omega, by go_num, HO.out.later HVb.out, by omega, by rw [HK.out, dkN_no HT.out HKP.out], below_step HB.out HVb.out⟩
    ·have HKP : Hid (kpt l' j ⟨(⟨⟨k, m, s⟩, nm, ls⟩, .slice a1 a2 a3), body, .slice b1 b2 b3, tests, .slice t1 t2 t3⟩ = true) := by show kpt l' j _ = true; rw [HKQ.out]; exact decide_eq_true hr
     have n1 : (R == 0) = false := beq_eq_false_iff_ne.2 hr
     have n2 : (R != 0) = true := by rw [bne, n1]; rfl
     clear HKQ
     refine wp_region_held_drew (S := fun w' => Below X.heap.size X w') (by kernel_rfl) (Below.refl _ _).drew (fun hH => ?_)
     revert hH
     generalize X.drew = V
     intro hH
     refine wTk 0 (.int .i64 (j : Int)) rfl (by kernel_rfl) (fun _ _ _ h => h) (Or.inl ⟨by rfl, fun w' _ => by go_simp⟩) hH ?_
     simp only [wA8, wB8, wC8, wD8]
     refine wTk 1 (.bool false) rfl (by kernel_rfl) (fun _ _ _ h => h) (Or.inl ⟨by rfl, fun w' _ => by go_simp⟩) hH ?_
     simp only [wA8, wB8, wC8, wD8]
     refine wTk 2 (.bool false) rfl (by kernel_rfl) (fun _ _ _ h => h) (Or.inl ⟨by rfl, fun w' _ => by go_simp⟩) hH ?_
     simp only [wA8, wB8, wC8, wD8]
     refine wTk 3 (.slice (some ⟨sb, so, none⟩) l.length sc) rfl (by kernel_rfl) (fun _ _ _ h => h) (Or.inl ⟨by rfl, fun w' _ => by go_simp⟩) hH ?_
     simp only [wA8, wB8, wC8, wD8]
     refine wTk 4 (.int .i64 (j : Int)) rfl (by kernel_rfl) (fun _ _ _ h => h) (Or.inl ⟨by rfl, fun w' _ => by go_simp⟩) hH ?_
     simp only [wA8, wB8, wC8, wD8]
     refine wTk 5 (.int .i64 ((j - 1 : Nat) : Int)) rfl (by kernel_rfl) (fun _ _ _ h => h) (Or.inl ⟨by rfl, fun w' _ => by go_simp; exact HJW.out⟩) hH ?_
     simp only [wA8, wB8, wC8, wD8]
     refine wTk 6 (.pointer (some ⟨sb, so + (j - 1) * 7, none⟩)) rfl (by kernel_rfl) (fun _ _ _ h => h) (Or.inl ⟨by rfl, fun w' _ => by go_simp⟩) hH ?_
     simp only [wA8, wB8, wC8, wD8]
     refine wTk 7 (.agg #[.int .i64 pk, .int .i64 pm, .string ps, .string pn, .slice p1 p2 p3, .slice p4 p5 p6, .slice p7 p8 p9]) rfl (by kernel_rfl) (fun _ _ _ h => h) (Or.inl ⟨by rfl, fun w' h => by obtain ⟨q0, q1, q2, q3, q4, q5, q6⟩ := HQ.out; have z := HQz.out; have y0 := cell_step h z q0; have y1 := cell_step h z q1; have y2 := cell_step h z q2; have y3 := cell_step h z q3; have y4 := cell_step h z q4; have y5 := cell_step h z q5; have y6 := cell_step h z q6; clear q0 q1 q2 q3 q4 q5 q6; go_simp⟩) hH ?_
     simp only [wA8, wB8, wC8, wD8]
     refine wTk 8 (.agg #[.int .i64 k, .int .i64 m, .string s, .string nm, .slice a1 a2 a3, .slice b1 b2 b3, .slice t1 t2 t3]) rfl (by kernel_rfl) (fun _ _ _ h => h) (Or.inl ⟨by rfl, fun w' h => by obtain ⟨x0, x1, x2, x3, x4, x5, x6⟩ := cseven (CBlk.later (Hid.out BT) h); clear h; go_simp⟩) hH ?_
     simp only [wA8, wB8, wC8, wD8]
     refine wRd 9 (by kernel_rfl) rfl (fun K hK => ?_)
     go_simp
     refine (HCM.out _ (below_step HBX.out hH)).mono ?_
     rintro e V1 ⟨rfl, hb⟩
     refine hK.out _ _ (below_step hH hb) (fun hH => ?_)
     clear hK K hb
     refine wTk 10 (.bool true) rfl (by kernel_rfl) (fun _ _ _ h => h) (Or.inl ⟨by rfl, fun w' _ => by go_simp⟩) hH ?_
     simp only [wA8, wB8, wC8, wD8]
     refine wTk 11 (.bool true) rfl (by kernel_rfl) (fun _ _ _ h => h) (Or.inl ⟨by rfl, fun w' _ => by go_simp⟩) hH ?_
     simp only [wA8, wB8, wC8, wD8]
     refine wpAnyH_done (by kernel_rfl) ?_ _
     have HVb : Hid (Below wr.heap.size wr V1) := below_step HBX.out hH
     have BV : Hid (CBlk V1 wr.heap.size #[.int .i64 k, .int .i64 m, .string s, .string nm, .slice a1 a2 a3, .slice b1 b2 b3, .slice t1 t2 t3] 58) := BT.out.later hH
     clear hH
     obtain ⟨c0, c1, c2, c3, c4, c5, c6⟩ := cseven BV.out
     go_wp2_with (first
      | (go_at_call 60; refine (HCO.out _ HVb.out).mono ?_; clear c0 c1 c2 c3 c4 c5 c6; rintro e w3 ⟨d, rfl, hdk, hkp, hb3⟩; obtain ⟨⟨d1, d2, d3, f1⟩, ⟨d4, d6, f2⟩, ⟨d7, d9, f3⟩, -, -⟩ := hkp.ok.shape; obtain ⟨⟨⟨⟨dk, dm, ds⟩, dn, dl⟩, dv⟩, db, dbv, dt, dtv⟩ := d; simp only at f1 f2 f3; obtain ⟨d5, hd5⟩ : ∃ n, db.length = n := ⟨_, rfl⟩; obtain ⟨d8, hd8⟩ : ∃ n, dt.length = n := ⟨_, rfl⟩; rw [hd5] at f2; rw [hd8] at f3; subst f1 f2 f3; clear hd5 hd8; have HDK : Hid (Cm.key ⟨(⟨⟨dk, dm, ds⟩, dn, dl⟩, .slice d1 d2 d3), db, .slice d4 d5 d6, dt, .slice d7 d8 d9⟩ = Cm.key ⟨(⟨⟨k, m, s⟩, nm, ls⟩, .slice a1 a2 a3), body, .slice b1 b2 b3, tests, .slice t1 t2 t3⟩) := hdk; have HKD : Hid (KpC V1.heap.size w3 ⟨(⟨⟨dk, dm, ds⟩, dn, dl⟩, .slice d1 d2 d3), db, .slice d4 d5 d6, dt, .slice d7 d8 d9⟩) := hkp; have HB3 : Hid (Below w2.heap.size w2 w3) := below_step (below_step HB.out HVb.out) hb3; have HOA : Hid (OutC w2.heap.size (w3.alloc (.cells #[.int .i64 dk, .int .i64 dm, .string ds, .string dn, .slice d1 d2 d3, .slice d4 d5 d6, .slice d7 d8 d9] 58)) u4 o) := HO.out.later (below_step (below_step HVb.out hb3) (below1 _ _)); have HG : Hid (CBlk (w3.alloc (.cells #[.int .i64 dk, .int .i64 dm, .string ds, .string dn, .slice d1 d2 d3, .slice d4 d5 d6, .slice d7 d8 d9] 58)) w3.heap.size #[.int .i64 dk, .int .i64 dm, .string ds, .string dn, .slice d1 d2 d3, .slice d4 d5 d6, .slice d7 d8 d9] 58) := CBlk.new _ _ _; have HSZ : Hid (w2.heap.size <= (w3.alloc (.cells #[.int .i64 dk, .int .i64 dm, .string ds, .string dn, .slice d1 d2 d3, .slice d4 d5 d6, .slice d7 d8 d9] 58)).heap.size) := (below_step HB3.out (below1 _ _)).size; clear hdk hkp hb3)
      | (at_builtin; refine capp_one rfl _ _ rfl w2.heap.size u4 o (by rfl) HOA.out.o w3.heap.size ⟨(⟨⟨dk, dm, ds⟩, dn, dl⟩, .slice d1 d2 d3), db, .slice d4 d5 d6, dt, .slice d7 d8 d9⟩ (by rfl) HG.out (HKD.out.ok) (by omega) HSZ.out ?_; intro v4 w4 hown hb4 hg4 ha4; have HO4 : Hid (OutC w2.heap.size w4 v4 (o ++ [⟨(⟨⟨dk, dm, ds⟩, dn, dl⟩, .slice d1 d2 d3), db, .slice d4 d5 d6, dt, .slice d7 d8 d9⟩])) := HOA.out.add (fun Y hY => HKD.out.gr (fun k hk => by have := (HO.out.o.lt k hk).2; have := HVb.out.size; omega) hY) hown hg4 ha4; have HB4 : Hid (Below w2.heap.size w2 w4) := (below_step HB3.out (below1 _ _)).trans hb4; clear hown hb4 hg4 ha4 HOA HG))
     go_roundg g
     case measure => omega
     case rel => exact ⟨j + 1, _, by omega, by go_num, HO4.out, by simp only [List.length_append, List.length_singleton]; omega, by rw [List.map_append, HK.out, dkN_yes HT.out HKP.out, <- HDK.out]; rfl, HB4.out⟩
  | zero =>
   have hjl : j = l.length := by omega
   have hz : ¬ ((j : Int) < (l.length : Int)) := by omega
   have HFF : Hid (o.map Cm.key = dkN l' l'.length) := by have := HK.out; rw [hjl, <- hll] at this; exact this
   clear HK
   go_wp2
   go_ret
   exact ⟨_, rfl, o, HO.out.mono HB2.out.size, l', HFF.out, HPM.out, HSR.out, HB2.out.trans (HB.out.mono HB2.out.size)⟩
end Go.Proofs.YtnenadklmjcakaaGreatDoor
