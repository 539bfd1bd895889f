import Derived.Test.YtcejljehjhlonaaGreatDoorB5
import Derived.Test.YtcejljehjhlonaaGreatDoorCP1
import Derived.Test.YtcejljehjhlonaaGreatDoorSD18
import Derived.Deep.RegionHeld3
namespace Go.Proofs.YtcejljehjhlonaaGreatDoor
open Go.RowKit
attribute [local go_sem ↓] Go.wp_at_zero Go.wp_at_succ

theorem step_st {ops : Array Oper} {o : Oper} {a : Act} {K : Act -> World -> Prop} {Q : Exit -> Act -> World -> Prop} {E : Prop} {w : World} (hgd : o.guard = none) (s x : Operand)
  (ho : o.op = .call { callee := .builtin .append, args := #[s, x], argTypes := #[23, 23] }) (base : Nat) (v : Value) (l : List St) (hs : a.eval s = v) (hown : OwnS w base v l)
  (b : Nat) (y : St) (hx : a.eval x = .slice (some ⟨b, 0, none⟩) 1 1) (hblk : CBlk w b y.cs 48) (h1c : ∀ u ∈ y.csl, u.oneCell' = true) (hlen : l.length <= 1000000000000) (hbase : base <= w.heap.size)
  (h : ∀ v' w', OwnS w' base v' (l ++ [y]) -> Below base w w' -> w.grownBy w' v.ownBlock -> K (a.put o.dst v') w') : if Region.wanted o (yielded ops a.tmps) = true then Oper.wp Tryz.prog o a w K Q else E := by
 obtain ⟨i0, hi0, hz0, hz1, hz2⟩ := info_parts Tryz.infoStep
 refine step_append_lies _ hgd s x 23 ho base 48 i0 _ 3 56 Tryz.underlying23 hi0 hz0 hz1 hz2 rfl (by omega) v l.length (scs l) hs hown ⟨b, 0, none⟩ 1 1 (scs [y]) hx (by rw [scs_len]; rfl) ?_ (fun u hu => by obtain ⟨z, hz, hu⟩ := List.mem_flatMap.1 hu; rw [List.mem_singleton] at hz; subst hz; exact h1c u hu) (by omega) (by unfold maxLen; omega) (by omega) hbase _ rfl ?_
 ·intro j u hj
  have := World.news_of_block (cs := y.cs) (t := 48) (fr := (0, 0)) hblk j u
  exact this (by simpa [scs, St.csl] using hj)
 ·intro g cap w' h1 h2 _ _
  refine h _ w' ?_ (grown_below3 h2 (fun k hk => (World.ownsRow.lt hown k hk).1) hbase) h2
  unfold OwnS
  rw [List.length_append, scs_app]
  exact h1
theorem ownN_form7 {w : World} {base : Nat} {v : Value} {l : List Int} (h : OwnN w base v l) : ∃ a n cap, v = .slice a n cap := by
 obtain ⟨a, cap, rfl⟩ := h.form
 exact ⟨_, _, _, rfl⟩
theorem row_mono7 {e : TypeId} {w : World} {b b' n m : Nat} {v : Value} {xs : List Value} (h : w.ownsRow b e n v m xs) (hb : b' <= b) : w.ownsRow b' e n v m xs := by
 refine ⟨h.1, ?_⟩
 rcases h.2 with hn | ⟨g, cap, cur, hv, hbb, hg, rest⟩
 ·exact Or.inl hn
 ·exact Or.inr ⟨g, cap, cur, hv, Nat.le_trans hb hbb, hg, rest⟩
theorem ownS_form4 {w : World} {base : Nat} {v : Value} {l : List St} (h : OwnS w base v l) : ∃ a n cap, v = .slice a n cap := by
 obtain ⟨a, cap, rfl⟩ := h.form
 exact ⟨_, _, _, rfl⟩
theorem ownN_some {w : World} {base : Nat} {v : Value} {l : List Int} {x : Int} (h : OwnN w base v (l ++ [x])) : ∃ g cap, v = .slice (some ⟨g, 0, none⟩) (l.length + 1) cap /\ l.length + 1 <= cap := by
 rcases h.2 with ⟨-, hn⟩ | ⟨g, cap, cur, hv, hb, hg, hn, rest⟩
 ·simp at hn
 ·rw [List.length_append, List.length_singleton] at hv hn
  exact ⟨g, cap, hv, hn⟩
theorem ownS_some {w : World} {base : Nat} {v : Value} {l : List St} {x : St} (h : OwnS w base v (l ++ [x])) : ∃ g cap, v = .slice (some ⟨g, 0, none⟩) (l.length + 1) cap /\ l.length + 1 <= cap := by
 rcases h.2 with ⟨-, hn⟩ | ⟨g, cap, cur, hv, hb, hg, hn, rest⟩
 ·simp at hn
 ·rw [List.length_append, List.length_singleton] at hv hn
  exact ⟨g, cap, hv, hn⟩
def LentN (X : World) (B : Nat) (v : Value) (l : List Int) : Prop := ∃ g cap, v = .slice (some ⟨g, 0, none⟩) l.length cap /\ OwnN X B (.slice (some ⟨g, 0, none⟩) (l.length + 1) cap) (l ++ [-908])
theorem LentN.later {X X' : World} {B : Nat} {v : Value} {l : List Int} (h : LentN X B v l) (hb : Below X.heap.size X X') : LentN X' B v l := by
 obtain ⟨g, cap, e, ho⟩ := h
 exact ⟨g, cap, e, ho.later hb⟩
theorem LentN.kt {t : TypeId} {X X' : World} {B : Nat} {v : Value} {l : List Int} (h : LentN X B v l) (hk : Kt t X X') (ht : 3 ≠ t) : LentN X' B v l := by
 obtain ⟨g, cap, e, ho⟩ := h
 exact ⟨g, cap, e, row_kt ho hk ht⟩
theorem LentN.mono {X : World} {B B' : Nat} {v : Value} {l : List Int} (h : LentN X B v l) (hb : B' <= B) : LentN X B' v l := by
 obtain ⟨g, cap, e, ho⟩ := h
 exact ⟨g, cap, e, ho.mono hb⟩
theorem LentT.kt {t : TypeId} {X X' : World} {B : Nat} {v : Value} {l : List Tm} (h : LentT X B v l) (hk : Kt t X X') (ht : 36 ≠ t) : LentT X' B v l := by
 obtain ⟨g, cap, e, ho⟩ := h
 exact ⟨g, cap, e, row_kt ho hk ht⟩
structure LentSt (B : Nat) (X : World) (s : St) : Prop where
 t : LentT X B s.vv s.vals
 u : LentN X B s.uv s.uses
theorem LentSt.later {X X' : World} {B : Nat} {s : St} (h : LentSt B X s) (hb : Below X.heap.size X X') : LentSt B X' s := ⟨h.t.later hb, h.u.later hb⟩
theorem LentSt.kt {t : TypeId} {X X' : World} {B : Nat} {s : St} (h : LentSt B X s) (hk : Kt t X X') (h1 : 36 ≠ t) (h2 : 3 ≠ t) : LentSt B X' s := ⟨h.t.kt hk h1, h.u.kt hk h2⟩
theorem LentSt.mono {X : World} {B B' : Nat} {s : St} (h : LentSt B X s) (hb : B' <= B) : LentSt B' X s := ⟨h.t.mono hb, h.u.mono hb⟩
def bS : St := ⟨-909, [], .slice none 0 0, [], .slice none 0 0⟩
theorem bS_ok (w : World) : bS.ok w := ⟨⟨none, 0, rfl, by simp [bS], Or.inl rfl⟩, ⟨none, 0, rfl, by simp [bS], Or.inl rfl⟩⟩
def LentS (X : World) (B : Nat) (u : Value) (LS : List St) : Prop := (∃ g cap, u = .slice (some ⟨g, 0, none⟩) LS.length cap /\ OwnS X B (.slice (some ⟨g, 0, none⟩) (LS.length + 1) cap) (LS ++ [bS])) /\ ∀ s ∈ LS, LentSt B X s
theorem LentS.later {X X' : World} {B : Nat} {u : Value} {LS : List St} (h : LentS X B u LS) (hb : Below X.heap.size X X') : LentS X' B u LS := by
 obtain ⟨⟨g, cap, e, ho⟩, ht⟩ := h
 exact ⟨⟨g, cap, e, ho.later hb⟩, fun d hd => (ht d hd).later hb⟩
theorem LentS.kt {t : TypeId} {X X' : World} {B : Nat} {u : Value} {LS : List St} (h : LentS X B u LS) (hk : Kt t X X') (h1 : 36 ≠ t) (h2 : 3 ≠ t) (h3 : 48 ≠ t) : LentS X' B u LS := by
 obtain ⟨⟨g, cap, e, ho⟩, ht⟩ := h
 exact ⟨⟨g, cap, e, row_kt ho hk h3⟩, fun d hd => (ht d hd).kt hk h1 h2⟩
structure LF (w1 V : World) (ov u : Value) (LS : List St) : Prop where
 bw : Below w1.heap.size w1 V
 bo : CBlk V w1.heap.size #[ov, u] 25
 os : OwnS V (w1.heap.size + 1) u LS
 ls : ∀ s ∈ LS, LentSt (w1.heap.size + 1) V s
 sz : w1.heap.size + 1 <= V.heap.size
theorem LF.later {w1 V V' : World} {ov u : Value} {LS : List St} (h : LF w1 V ov u LS) (hb : Below V.heap.size V V') : LF w1 V' ov u LS :=
 ⟨below_step h.bw hb, h.bo.later hb, h.os.later hb, fun s hs => (h.ls s hs).later hb, Nat.le_trans h.sz hb.size⟩
structure LQ (w1 V : World) (GS : Nat) (sb : Array Value) (ov u : Value) (LS : List St) (nv : Value) (U : List Int) : Prop where
 f : LF w1 V ov u LS
 bs : CBlk V GS sb 48
 gs : ∀ k, u.ownBlock = some k -> k < GS
 ng : w1.heap.size < GS
 nu : OwnN V (w1.heap.size + 1) nv U
theorem LQ.bw {w1 V : World} {GS : Nat} {sb : Array Value} {ov u : Value} {LS : List St} {nv : Value} {U : List Int} (h : LQ w1 V GS sb ov u LS nv U) : Below w1.heap.size w1 V := h.f.bw
theorem LQ.bo {w1 V : World} {GS : Nat} {sb : Array Value} {ov u : Value} {LS : List St} {nv : Value} {U : List Int} (h : LQ w1 V GS sb ov u LS nv U) : CBlk V w1.heap.size #[ov, u] 25 := h.f.bo
theorem LQ.os {w1 V : World} {GS : Nat} {sb : Array Value} {ov u : Value} {LS : List St} {nv : Value} {U : List Int} (h : LQ w1 V GS sb ov u LS nv U) : OwnS V (w1.heap.size + 1) u LS := h.f.os
theorem LQ.sz {w1 V : World} {GS : Nat} {sb : Array Value} {ov u : Value} {LS : List St} {nv : Value} {U : List Int} (h : LQ w1 V GS sb ov u LS nv U) : w1.heap.size + 1 <= V.heap.size := h.f.sz
theorem LQ.later {w1 V V' : World} {GS : Nat} {sb : Array Value} {ov u : Value} {LS : List St} {nv : Value} {U : List Int} (h : LQ w1 V GS sb ov u LS nv U) (hb : Below V.heap.size V V') : LQ w1 V' GS sb ov u LS nv U :=
 ⟨h.f.later hb, h.bs.later hb, h.gs, h.ng, h.nu.later hb⟩
theorem LQ.sbx {w1 V V' : World} {GS : Nat} {sb : Array Value} {ov u : Value} {LS : List St} {nv : Value} {U : List Int} (h : LQ w1 V GS sb ov u LS nv U) (_ : Below (w1.heap.size + 1) V V') (hg : V.grownBy V' u.ownBlock) : CBlk V' GS sb 48 :=
 (hg.block GS h.bs.lt (fun e => by have := h.gs GS e.symm; omega)).trans h.bs
theorem LQ.sbx2 {w1 V V' : World} {GS : Nat} {sb : Array Value} {ov u : Value} {LS : List St} {nv : Value} {U : List Int} (h : LQ w1 V GS sb ov u LS nv U) (hb : Below (w1.heap.size + 1) V V') (hg : V.grownBy V' u.ownBlock) (x : Value) : CBlk (V'.setCell ⟨w1.heap.size, 1, none⟩ x) GS sb 48 := by
 have hs := h.sbx hb hg
 have hD : CBlk V' w1.heap.size _ 25 := (hb.block _ (by omega)).trans h.bo
 exact hs.kt (Kt.set hD) (by decide)
theorem LQ.fin {w1 V V' : World} {GS : Nat} {sb : Array Value} {ov u v' : Value} {LS : List St} {ng nn nc tg tc ln lu : Nat} {tr : Int} {tl : List Tm} {tu : List Int} (h : LQ w1 V GS sb ov u LS (.slice (some ⟨ng, 0, none⟩) nn nc) (tu ++ [-908]))
  (hown : OwnS V' (w1.heap.size + 1) v' (LS ++ [⟨tr, tl, .slice (some ⟨tg, 0, none⟩) ln tc, tu, .slice (some ⟨ng, 0, none⟩) lu nc⟩])) (hb : Below (w1.heap.size + 1) V V') (hg : V.grownBy V' u.ownBlock) (e1 : ln = tl.length) (e2 : lu = tu.length) (e3 : nn = tu.length + 1)
  (ht : OwnT V (w1.heap.size + 1) (.slice (some ⟨tg, 0, none⟩) (ln + 1) tc) (tl ++ [bT])) : LF w1 (V'.setCell ⟨w1.heap.size, 1, none⟩ v') ov v' (LS ++ [⟨tr, tl, .slice (some ⟨tg, 0, none⟩) ln tc, tu, .slice (some ⟨ng, 0, none⟩) lu nc⟩]) := by
 subst e1 e2 e3
 have hD : CBlk V' w1.heap.size #[ov, u] 25 := (hb.block _ (by omega)).trans h.bo
 have hk : Kt 25 V' (V'.setCell ⟨w1.heap.size, 1, none⟩ v') := Kt.set hD
 have hk1 : Kt 48 V V' := row_grown h.os hg
 have hs2 := hD.set 1 v'
 refine ⟨(h.bw.trans (hb.mono (by omega))).setCell (Nat.le_refl _) _, by simpa using hs2, row_kt hown hk (by decide), fun s hs => ?_, ?_⟩
 ·rcases List.mem_append.1 hs with hs | hs
  ·exact ((h.f.ls s hs).kt hk1 (by decide) (by decide)).kt hk (by decide) (by decide)
  ·rw [List.mem_singleton] at hs; subst hs
   have h1 : LentT V (w1.heap.size + 1) (.slice (some ⟨tg, 0, none⟩) tl.length tc) tl := ⟨tg, tc, rfl, ht⟩
   have h2 : LentN V (w1.heap.size + 1) (.slice (some ⟨ng, 0, none⟩) tu.length nc) tu := ⟨ng, nc, rfl, h.nu⟩
   exact ⟨(h1.kt hk1 (by decide)).kt hk (by decide), (h2.kt hk1 (by decide)).kt hk (by decide)⟩
 ·have := Nat.le_trans h.sz hb.size
  simpa [World.setCell] using this
theorem LentC.agree {X Y : World} {B : Nat} {u : Value} {LB : List Cm} (h : LentC X B u LB) (hs : X.heap.size <= Y.heap.size) (ha : ∀ b, B <= b -> b < X.heap.size -> Y.heap[b]? = X.heap[b]?) : LentC Y B u LB := by
 obtain ⟨⟨g, cap, e, ho⟩, ht⟩ := h
 exact ⟨⟨g, cap, e, row_agree ho (fun k hk => ha k (World.ownsRow.lt ho k hk).1 (World.ownsRow.lt ho k hk).2)⟩, fun d hd => (ht d hd).agree hs ha⟩
theorem LentC.mono {X : World} {B B' : Nat} {u : Value} {LB : List Cm} (h : LentC X B u LB) (hb : B' <= B) : LentC X B' u LB := by
 obtain ⟨⟨g, cap, e, ho⟩, ht⟩ := h
 exact ⟨⟨g, cap, e, row_mono7 ho hb⟩, fun d hd => (ht d hd).mono hb⟩
theorem LentS.mono {X : World} {B B' : Nat} {u : Value} {LS : List St} (h : LentS X B u LS) (hb : B' <= B) : LentS X B' u LS := by
 obtain ⟨⟨g, cap, e, ho⟩, ht⟩ := h
 exact ⟨⟨g, cap, e, ho.mono hb⟩, fun d hd => (ht d hd).mono hb⟩
theorem heap_set_ne {X : World} {G i b : Nat} {v : Value} (h : b ≠ G) : (X.setCell ⟨G, i, none⟩ v).heap[b]? = X.heap[b]? := Below.heap_setCell X ⟨G, i, none⟩ v b h
def NsP (w : World) (v : Value) (l : List Int) : Prop := (v = .slice none 0 0 /\ l = []) ∨ ∃ ad cap, v = .slice (some ad) l.length cap /\ (l = [] ∨ ∃ b o, ad = ⟨b, o, none⟩ /\ b < w.heap.size /\ ∀ (i : Nat) (x : Int), l[i]? = some x -> w.cell? ⟨b, o + i, none⟩ = some (.int .i64 x))
theorem NsP.later {w w' : World} {v : Value} {l : List Int} (h : NsP w v l) (hb : Below w.heap.size w w') : NsP w' v l := by
 rcases h with h | ⟨ad, cap, e, h | ⟨b, o, ea, h1, h2⟩⟩
 ·exact Or.inl h
 ·exact Or.inr ⟨ad, cap, e, Or.inl h⟩
 ·exact Or.inr ⟨ad, cap, e, Or.inr ⟨b, o, ea, Nat.lt_of_lt_of_le h1 hb.size, fun i x hx => cell_step hb h1 (h2 i x hx)⟩⟩
theorem napp_list {ops : Array Oper} {rest : List Oper} {o : Oper} {a : Act} {Q : Exit -> Act -> World -> Prop} {w : World} (hgd : o.guard = none) (s x : Operand)
  (ho : o.op = .call { callee := .builtin .append, args := #[s, x], argTypes := #[46, 46] }) (base : Nat) (v : Value) (l : List Int) (hs : a.eval s = v) (hown : OwnN w base v l)
  (y : Value) (m : List Int) (hx : a.eval x = y) (hy : NsP w y m) (hlen : l.length + m.length <= 1000000000000) (hbase : base <= w.heap.size)
  (h : ∀ v' w', OwnN w' base v' (l ++ m) -> Below base w w' -> w.grownBy w' v.ownBlock -> wpList Tryz.prog ops Q rest (a.put o.dst v') w') : wpList Tryz.prog ops Q (o :: rest) a w := by
 obtain ⟨i0, hi0, hz0, hz1, hz2⟩ := info_parts Tryz.infoInt8
 rcases hy with ⟨rfl, rfl⟩ | ⟨ad, cap, rfl, hm⟩
 ·refine wpList_append_own_none hgd s x 46 ho base 3 i0 1 Tryz.underlying46 hi0 v l.length (nbs l) hs hown hx ?_
  exact h v w (by rw [List.append_nil]; exact hown) (Below.refl _ _) (World.grownBy.refl _ _)
 ·refine wpList_append_own _ hgd s x 46 ho base 3 i0 _ 1 8 Tryz.underlying46 hi0 hz0 hz1 hz2 rfl (by omega) v l.length (nbs l) hs hown ad m.length cap (nbs m) hx (by simp [nbs]) ?_ (fun u hu => by simp [nbs] at hu; obtain ⟨z, -, rfl⟩ := hu; rfl) (by unfold maxLen; omega) (by omega) hbase ?_
  ·rcases hm with rfl | ⟨b, o', rfl, hb1, hm⟩
   ·intro j u hu; simp [nbs] at hu
   ·intro j u hu
    simp only [nbs, List.getElem?_map] at hu
    cases hz : m[j]? with
    | none => rw [hz] at hu; simp at hu
    | some z => rw [hz] at hu; simp at hu; subst hu; rw [Addr.add_mid]; exact hm j z hz
  ·intro v' w' h1 h2 _
   refine h v' w' ?_ (grown_below3 h2 (fun k hk => (World.ownsRow.lt hown k hk).1) hbase) h2
   unfold OwnN
   rw [List.length_append, show nbs (l ++ m) = nbs l ++ nbs m by simp [nbs]]
   exact h1
def LPP (w : World) (R : List Cm) (S : List St) (e : Ending) (w' : World) : Prop := ∃ (rv sv : Value) (LB : List Cm) (LS : List St), e = .returned (.agg #[rv, sv]) /\ LB.map Cm.key = R.map Cm.key /\ LS.map St.key = S.map St.key /\ LentC w' w.heap.size rv LB /\ LentS w' w.heap.size sv LS /\ Below w.heap.size w w'
set_option maxRecDepth 20000 in
set_option maxHeartbeats 1500000 in
theorem lendProof_any (R : List Cm) (S : List St) (rv sv : Value) (w : World) (hR : CsP w rv R) (hS : SsP w sv S) (hp : ∀ c ∈ R, LP w c) (hB : BehOk w) (hl1 : R.length <= 900000000) (hl2 : S.length <= 900000000000) (hl3 : ∀ s ∈ S, s.vals.length <= 900000000000 /\ s.uses.length <= 900000000000)
  (hts : ∀ s ∈ S, TsP w s.vv s.vals) (hns : ∀ s ∈ S, NsP w s.uv s.uses) :
  Calls Tryz.prog 5 #[.agg #[rv, sv]] w (LPP w R S) := by
 have HMA : Hid (∀ X : World, Below w.heap.size w X -> Calls Tryz.prog 11 #[rv] X fun e w' => ∃ u LB, e = .returned u /\ LB.map Cm.key = R.map Cm.key /\ LentC w' X.heap.size u LB /\ Below X.heap.size X w') := fun X hX => lendCs_any R rv X (hR.later hX) (fun c hc => (hp c hc).later hX) (by omega) (hB.later hX)
 have HS : Hid (SsP w sv S) := hS
 have HTS : Hid (∀ s ∈ S, TsP w s.vv s.vals /\ NsP w s.uv s.uses) := fun s hs => ⟨hts s hs, hns s hs⟩
 have HRG : Hid (∀ s ∈ S, s.vals.length <= 900000000000 /\ s.uses.length <= 900000000000) := hl3
 have HBH : Hid (BehOk w) := hB
 obtain ⟨ra, rc, rfl⟩ := hR.form
 obtain ⟨sa, sc, rfl⟩ := hS.form
 have HP0 : Hid (CBlk ((w.alloc (.cells #[.slice ra R.length rc, .slice sa S.length sc] 25)).alloc (.cells #[.slice none 0 0, .slice none 0 0] 25)) w.heap.size #[.slice ra R.length rc, .slice sa S.length sc] 25) := (CBlk.new _ _ _).later (below1 _ _)
 have HQ0 : Hid (CBlk ((w.alloc (.cells #[.slice ra R.length rc, .slice sa S.length sc] 25)).alloc (.cells #[.slice none 0 0, .slice none 0 0] 25)) (w.heap.size + 1) #[.slice none 0 0, .slice none 0 0] 25) := by
  have := CBlk.new (w.alloc (.cells #[.slice ra R.length rc, .slice sa S.length sc] 25)) #[.slice none 0 0, .slice none 0 0] 25
  rwa [show (w.alloc (.cells #[.slice ra R.length rc, .slice sa S.length sc] 25)).heap.size = w.heap.size + 1 by simp] at this
 clear hR hS hl3 hp hB hts hns
 go_enter Tryz.func5, Tryz.ntmps5
 obtain ⟨p0, p1⟩ := ctwo HP0.out
 go_upto_region 2 with (go_at_call 11; refine (HMA.out _ (below2 _ _ _)).mono ?_; clear HMA; rintro e w1 ⟨mv, LB, rfl, hmk, hom, hb⟩; obtain ⟨ma, mn, mc, rfl⟩ : ∃ a n c, mv = .slice a n c := (by obtain ⟨⟨g, cap, e, -⟩, -⟩ := hom; exact ⟨_, _, _, e⟩); have HMK : Hid (LB.map Cm.key = R.map Cm.key) := hmk; have HOM : Hid (LentC w1 (w.heap.size + 2) (.slice ma mn mc) LB) := hom.mono (by simp); have HP1 : Hid (CBlk w1 w.heap.size #[.slice ra R.length rc, .slice sa S.length sc] 25) := HP0.out.later hb; have HQ1 : Hid (CBlk w1 (w.heap.size + 1) #[.slice none 0 0, .slice none 0 0] 25) := HQ0.out.later hb; have HW1 : Hid (Below w.heap.size w w1) := below_step (below2 _ _ _) hb; have HO1 : Hid (LF w1 (w1.alloc (.cells #[.slice ma mn mc, .slice none 0 0] 25)) (.slice ma mn mc) (.slice none 0 0) []) := ⟨below1 _ _, CBlk.new _ _ _, OwnS.nil _ _, (fun s hs => by cases hs), by simp⟩; clear hb hom hmk p0 p1)
 clear HP0 HQ0
 revert HO1
 generalize w1.alloc (.cells #[.slice ma mn mc, .slice none 0 0] 25) = Y0
 intro HO1
 have HX0 : Hid (CBlk Y0 w.heap.size #[.slice ra R.length rc, .slice sa S.length sc] 25) := HP1.out.later HO1.out.bw
 go_wp2_with fail
 go_loopg [4] S.length (fun g i wr => ∃ (j : Nat) (LS : List St) (u : Value), j + g = S.length /\ i = .int .i64 j /\ LS.length = j /\ LS.map St.key = (S.take j).map St.key /\ LF w1 wr (.slice ma mn mc) u LS)
 case atStart => exact ⟨0, [], _, by omega, rfl, rfl, rfl, HO1.out⟩
 case round =>
 obtain ⟨j, LS, u, hj, rfl, hsl, hsk, hlf⟩ := hrel
 clear HO1 HX0
 have HSK : Hid (LS.map St.key = (S.take j).map St.key) := hsk
 have HSL : Hid (LS.length = j) := hsl
 have HLF : Hid (LF w1 wr (.slice ma mn mc) u LS) := hlf
 obtain ⟨ua, un, uc, rfl⟩ := ownS_form4 hlf.os
 have HP : Hid (CBlk wr w.heap.size #[.slice ra R.length rc, .slice sa S.length sc] 25) := HP1.out.later hlf.bw
 have HWR : Hid (Below w.heap.size w wr) := below_step HW1.out hlf.bw
 have HSX : Hid (SsP wr (.slice sa S.length sc) S) := HS.out.later HWR.out
 have hsz : w1.heap.size + 1 <= wr.heap.size := hlf.sz
 obtain ⟨c0, c1⟩ := ctwo HP.out
 clear hsl hsk hlf
 generalize hX1 : wr = X1 at *
 clear hX1
 cases gk with
 | succ g =>
  have hlt : (j : Int) < (S.length : Int) := by omega
  have j0 : (0 : Int) <= (j : Int) := by omega
  obtain ⟨t, ht⟩ : ∃ t, S[j]? = some t := ⟨_, List.getElem?_eq_getElem (by omega)⟩
  obtain ⟨b, o, rfl, hbs, hr, hok⟩ := HSX.out.at_ ht
  obtain ⟨d0, d1, d2⟩ := hr.three ht
  have hrl := HRG.out t (List.mem_of_getElem? ht)
  have htn := HTS.out t (List.mem_of_getElem? ht)
  have HSJ : Hid ((S.take (j + 1)).map St.key = (S.take j).map St.key ++ [t.key]) := by show _ = _; rw [List.take_add_one, ht]; simp
  obtain ⟨⟨a1, cap1, x1⟩, ⟨a2, cap2, x2⟩, -, -⟩ := hok.shape
  have HTT : Hid (TsP X1 t.vv t.vals) := htn.1.later HWR.out
  have HTU : Hid (NsP X1 t.uv t.uses) := htn.2.later HWR.out
  have HLT0 := fun (Y : World) (hY : Below w1.heap.size w1 Y) => lendT_any t.vals t.vv Y (htn.1.later (below_step HW1.out hY)) (by omega) (HBH.out.later (below_step HW1.out hY))
  obtain ⟨tr, tl, tv, tu, tw⟩ := t
  simp only at d0 d1 d2 x1 x2 HTT HTU hrl HLT0
  obtain ⟨ln, hln⟩ : ∃ n, n = tl.length := ⟨_, rfl⟩
  obtain ⟨lu, hlu⟩ : ∃ n, n = tu.length := ⟨_, rfl⟩
  rw [<- hln] at x1 HLT0
  rw [<- hlu] at x2
  subst x1 x2
  have HLT : Hid (∀ Y : World, Below w1.heap.size w1 Y -> Calls Tryz.prog 17 #[.slice a1 ln cap1] Y fun e w' => ∃ g cap, e = .returned (.slice (some ⟨g, 0, none⟩) ln cap) /\ OwnT w' Y.heap.size (.slice (some ⟨g, 0, none⟩) (ln + 1) cap) (tl ++ [bT]) /\ Below Y.heap.size Y w') := HLT0
  have l2 : tu.length <= 900000000000 := hrl.2
  have HLN0 : Hid (ln = tl.length /\ lu = tu.length) := ⟨hln, hlu⟩
  have lu0 : lu <= 900000000000 := by omega
  clear hr hok ht hrl htn HLT0 HSX hln hlu
  have HB0 : Hid (CBlk (X1.alloc (.cells #[.int .i64 tr, .slice a1 ln cap1, .slice a2 lu cap2] 48)) X1.heap.size #[.int .i64 tr, .slice a1 ln cap1, .slice a2 lu cap2] 48) := CBlk.new _ _ _
  have HX : Hid (Below X1.heap.size X1 (X1.alloc (.cells #[.int .i64 tr, .slice a1 ln cap1, .slice a2 lu cap2] 48))) := below1 _ _
  go_upto_region 6 with fail
  clear c0 c1 d0 d1 d2
  revert HB0 HX
  generalize X1.alloc (.cells #[.int .i64 tr, .slice a1 ln cap1, .slice a2 lu cap2] 48) = Y1
  intro HB0 HX
  obtain ⟨s0, s1, s2⟩ := cthree HB0.out
  have hy1 : X1.heap.size + 1 <= Y1.heap.size := HB0.out.lt
  go_upto_region 8 with (at_builtin; refine napp_list rfl _ _ rfl (X1.heap.size + 1) (.slice none 0 0) [] (by rfl) (ownN_nil _ _) (.slice a2 lu cap2) tu (by rfl) (HTU.out.later HX.out) (by simp only [List.length_nil]; omega) hy1 ?_; intro v2 w2 hown hb hg; rw [List.nil_append] at hown; have HO2 : Hid (OwnN w2 (X1.heap.size + 1) v2 tu) := hown; have HB2 : Hid (Below (X1.heap.size + 1) Y1 w2) := hb; clear hown hb hg s0 s1 s2)
  obtain ⟨n1, n2, n3, rfl⟩ := ownN_form7 HO2.out
  have HG3 : Hid (CBlk (w2.alloc (.cells #[.int .i64 (-908)] 3)) w2.heap.size #[.int .i64 (-908)] 3) := CBlk.new _ _ _
  have HO3 : Hid (OwnN (w2.alloc (.cells #[.int .i64 (-908)] 3)) (X1.heap.size + 1) (.slice n1 n2 n3) tu) := HO2.out.later (below1 _ _)
  have HB3 : Hid (Below (X1.heap.size + 1) Y1 (w2.alloc (.cells #[.int .i64 (-908)] 3))) := HB2.out.trans ((below1 _ _).mono (Nat.le_trans hy1 HB2.out.size))
  have hs3 : X1.heap.size + 1 <= (w2.alloc (.cells #[.int .i64 (-908)] 3)).heap.size := Nat.le_trans hy1 HB3.out.size
  go_upto_region 9 with (at_builtin; refine napp_one rfl _ _ rfl (X1.heap.size + 1) (.slice n1 n2 n3) tu (by rfl) HO3.out w2.heap.size (-908) (by rfl) HG3.out (by omega) hs3 ?_; intro v4 w4 hown hb hg hv; obtain ⟨ng, nc, rfl, hcap⟩ := ownN_some hown; have HO4 : Hid (OwnN w4 (X1.heap.size + 1) (.slice (some ⟨ng, 0, none⟩) (tu.length + 1) nc) (tu ++ [-908])) := hown; have HB4 : Hid (Below (X1.heap.size + 1) Y1 w4) := HB3.out.trans hb; have hcp : tu.length + 1 <= nc := hcap; clear hown hb hg hv hcap)
  clear HG3 HO3 HB3 hs3 HO2 HB2
  have HBX : Hid (CBlk w4 X1.heap.size #[.int .i64 tr, .slice a1 ln cap1, .slice a2 lu cap2] 48) := (HB4.out.block _ (by omega)).trans HB0.out
  have HF4 : Hid (LF w1 w4 (.slice ma mn mc) (.slice ua un uc) LS) := HLF.out.later (HX.out.trans (HB4.out.mono (by omega)))
  have HQ : Hid (LQ w1 w4 X1.heap.size #[.int .i64 tr, .slice a1 ln cap1, .slice a2 lu cap2] (.slice ma mn mc) (.slice ua un uc) LS (.slice (some ⟨ng, 0, none⟩) (tu.length + 1) nc) (tu ++ [-908])) := ⟨HF4.out, HBX.out, fun k hk => (World.ownsRow.lt HLF.out.os k hk).2, hsz, HO4.out.mono (by omega)⟩
  obtain ⟨nn, hnn⟩ : ∃ n, n = tu.length + 1 := ⟨_, rfl⟩
  rw [<- hnn] at HQ
  have HLN : Hid (ln = tl.length /\ lu = tu.length /\ nn = tu.length + 1) := ⟨HLN0.out.1, HLN0.out.2, hnn⟩
  have q1 : (0 : Int) <= (lu : Int) := by omega
  have q2 : (lu : Int) <= (nc : Int) := by have := HLN0.out.2; omega
  rw [<- hnn]
  clear HBX HF4 HO4 HB4 HB0 HX HTT HTU hy1 hcp HLN0 hnn HLF HP HWR
  generalize X1.heap.size = GS at *
  generalize w4 = Y9 at *
  have HV0 : Hid (LQ w1 Y9.drew GS #[.int .i64 tr, .slice a1 ln cap1, .slice a2 lu cap2] (.slice ma mn mc) (.slice ua un uc) LS (.slice (some ⟨ng, 0, none⟩) nn nc) (tu ++ [-908])) := HQ.out.later (Below.refl _ _).drew
  refine wp_region_held_drew (S := fun w' => Below w1.heap.size w1 w' /\ CBlk w' GS #[.int .i64 tr, .slice a1 ln cap1, .slice a2 lu cap2] 48) (by kernel_rfl) ⟨HQ.out.bw.drew, HQ.out.bs.later (Below.refl _ _).drew⟩ (fun hH => ?_)
  revert hH HV0
  generalize Y9.drew = V0
  intro HV0 hH
  clear HQ
  refine wTk 0 (.pointer (some ⟨w1.heap.size, 1, none⟩)) rfl (by kernel_rfl) (fun _ _ _ h => h) (Or.inl ⟨by rfl, fun w' h => by clear h; go_simp⟩) hH ?_
  simp only [wA8, wB8, wC8, wD8]
  refine wTk 2 (.pointer (some ⟨GS, 0, none⟩)) rfl (by kernel_rfl) (fun _ _ _ h => h) (Or.inl ⟨by rfl, fun w' h => by clear h; go_simp⟩) hH ?_
  simp only [wA8, wB8, wC8, wD8]
  refine wTk 3 (.int .i64 tr) rfl (by kernel_rfl) (fun _ _ _ h => h) (Or.inl ⟨by rfl, fun w' h => by obtain ⟨c0, c1, c2⟩ := cthree h.2; clear h; go_simp⟩) hH ?_
  simp only [wA8, wB8, wC8, wD8]
  refine wTk 4 (.pointer (some ⟨GS, 1, none⟩)) rfl (by kernel_rfl) (fun _ _ _ h => h) (Or.inl ⟨by rfl, fun w' h => by clear h; go_simp⟩) hH ?_
  simp only [wA8, wB8, wC8, wD8]
  refine wTk 5 (.slice a1 ln cap1) rfl (by kernel_rfl) (fun _ _ _ h => h) (Or.inl ⟨by rfl, fun w' h => by obtain ⟨c0, c1, c2⟩ := cthree h.2; clear h; go_simp⟩) hH ?_
  simp only [wA8, wB8, wC8, wD8]
  refine wTk 7 (.slice (some ⟨ng, 0, none⟩) nn nc) rfl (by kernel_rfl) (fun _ _ _ h => h) (Or.inl ⟨by rfl, fun w' h => by clear h; go_simp⟩) hH ?_
  simp only [wA8, wB8, wC8, wD8]
  refine wTk 8 (.pointer (some ⟨GS, 2, none⟩)) rfl (by kernel_rfl) (fun _ _ _ h => h) (Or.inl ⟨by rfl, fun w' h => by clear h; go_simp⟩) hH ?_
  simp only [wA8, wB8, wC8, wD8]
  refine wTk 9 (.slice a2 lu cap2) rfl (by kernel_rfl) (fun _ _ _ h => h) (Or.inl ⟨by rfl, fun w' h => by obtain ⟨c0, c1, c2⟩ := cthree h.2; clear h; go_simp⟩) hH ?_
  simp only [wA8, wB8, wC8, wD8]
  refine wTk 10 (.int .i64 (lu : Int)) rfl (by kernel_rfl) (fun _ _ _ h => h) (Or.inl ⟨by rfl, fun w' h => by clear h; go_simp⟩) hH ?_
  simp only [wA8, wB8, wC8, wD8]
  refine wTk 11 (.slice (some ⟨ng, 0, none⟩) lu nc) rfl (by kernel_rfl) (fun _ _ _ h => h) (Or.inl ⟨by rfl, fun w' h => by clear h; go_simp⟩) hH ?_
  simp only [wA8, wB8, wC8, wD8]
  refine wpAnyH_ready (rs := [1, 6]) (by kernel_rfl) (by simp) ?_
  refine (AllReadyH.cons (o := ⟨_, _, _, _, _, _⟩) rfl (fun K hK => ?_) (AllReadyH.cons (o := ⟨_, _, _, _, _, _⟩) rfl (fun K hK => ?_) AllReadyH.nil))
  ·have c1 := (ctwo HV0.out.bo).2
   go_simp
   clear c1
   refine hK.out _ _ hH (fun hH => ?_)
   clear hK K
   try simp only [wA8, wB8, wC8, wD8]
   refine wRd 6 (by kernel_rfl) rfl (fun K hK => ?_)
   go_simp
   refine (HLT.out V0 HV0.out.bw).mono ?_
   rintro e V1 ⟨tg, tc, rfl, ho, hb⟩
   have HTV1 : Hid (OwnT V1 (w1.heap.size + 1) (.slice (some ⟨tg, 0, none⟩) (ln + 1) tc) (tl ++ [bT])) := ho.mono HV0.out.sz
   have HV1 : Hid (LQ w1 V1 GS #[.int .i64 tr, .slice a1 ln cap1, .slice a2 lu cap2] (.slice ma mn mc) (.slice ua un uc) LS (.slice (some ⟨ng, 0, none⟩) nn nc) (tu ++ [-908])) := HV0.out.later hb
   clear HV0 ho
   refine hK.out _ _ ⟨HV1.out.bw, HV1.out.bs⟩ (fun hH => ?_)
   clear hK K hb
   try simp only [wA8, wB8, wC8, wD8]
   refine wTk 12 (.agg #[.int .i64 tr, .slice (some ⟨tg, 0, none⟩) ln tc, .slice (some ⟨ng, 0, none⟩) lu nc]) rfl (by kernel_rfl) (fun _ _ _ h => h) (Or.inl ⟨by rfl, fun w' h => by clear h; go_simp⟩) hH ?_
   simp only [wA8, wB8, wC8, wD8]
   refine wRd 13 (by kernel_rfl) rfl (fun K hK => ?_)
   go_simp
   have HV2 : Hid (LQ w1 (V1.alloc (.cells #[.int .i64 tr, .slice (some ⟨tg, 0, none⟩) ln tc, .slice (some ⟨ng, 0, none⟩) lu nc] 48)) GS #[.int .i64 tr, .slice a1 ln cap1, .slice a2 lu cap2] (.slice ma mn mc) (.slice ua un uc) LS (.slice (some ⟨ng, 0, none⟩) nn nc) (tu ++ [-908])) := HV1.out.later (below1 _ _)
   have HTV2 : Hid (OwnT (V1.alloc (.cells #[.int .i64 tr, .slice (some ⟨tg, 0, none⟩) ln tc, .slice (some ⟨ng, 0, none⟩) lu nc] 48)) (w1.heap.size + 1) (.slice (some ⟨tg, 0, none⟩) (ln + 1) tc) (tl ++ [bT])) := HTV1.out.later (below1 _ _)
   have HG : Hid (CBlk (V1.alloc (.cells #[.int .i64 tr, .slice (some ⟨tg, 0, none⟩) ln tc, .slice (some ⟨ng, 0, none⟩) lu nc] 48)) V1.heap.size #[.int .i64 tr, .slice (some ⟨tg, 0, none⟩) ln tc, .slice (some ⟨ng, 0, none⟩) lu nc] 48) := CBlk.new _ _ _
   clear hH HV1 HTV1
   refine hK.out _ _ ⟨HV2.out.bw, HV2.out.bs⟩ (fun hH => ?_)
   clear hK K
   revert hH HV2 HTV2 HG
   generalize V1.alloc (.cells #[.int .i64 tr, .slice (some ⟨tg, 0, none⟩) ln tc, .slice (some ⟨ng, 0, none⟩) lu nc] 48) = V2
   generalize V1.heap.size = GG
   intro HV2 HTV2 HG hH
   refine wRd 14 (by kernel_rfl) rfl (fun K hK => ?_)
   refine step_st rfl _ _ rfl (w1.heap.size + 1) (.slice ua un uc) LS (by rfl) HV2.out.os GG ⟨tr, tl, .slice (some ⟨tg, 0, none⟩) ln tc, tu, .slice (some ⟨ng, 0, none⟩) lu nc⟩ (by rfl) HG.out (fun u hu => ?_) (by have := HSL.out; omega) HV2.out.sz ?_
   ·simp [St.csl] at hu; rcases hu with rfl | rfl | rfl <;> rfl
   intro v' w3 hown hb3 hg3
   obtain ⟨va, vn, vc, rfl⟩ := ownS_form4 hown
   have HW3 : Hid (LF w1 (w3.setCell ⟨w1.heap.size, 1, none⟩ (.slice va vn vc)) (.slice ma mn mc) (.slice va vn vc) (LS ++ [⟨tr, tl, .slice (some ⟨tg, 0, none⟩) ln tc, tu, .slice (some ⟨ng, 0, none⟩) lu nc⟩])) := HV2.out.fin hown hb3 hg3 HLN.out.1 HLN.out.2.1 HLN.out.2.2 HTV2.out
   have hB3 : Below w1.heap.size w1 w3 := HV2.out.bw.trans (hb3.mono (by omega))
   have hS3 : CBlk w3 GS #[.int .i64 tr, .slice a1 ln cap1, .slice a2 lu cap2] 48 := HV2.out.sbx hb3 hg3
   have hS4 : CBlk (w3.setCell ⟨w1.heap.size, 1, none⟩ (.slice va vn vc)) GS #[.int .i64 tr, .slice a1 ln cap1, .slice a2 lu cap2] 48 := HV2.out.sbx2 hb3 hg3 _
   have hD : CBlk w3 w1.heap.size _ 25 := (hb3.block _ (by omega)).trans HV2.out.bo
   obtain ⟨e0, e1⟩ := ctwo hD
   have f1 : w3.frozen? ⟨w1.heap.size, 1, none⟩ = false := hD.froz
   clear hD hown hb3 hg3 HV2 HTV2 HG hH
   refine hK.out _ _ ⟨hB3, hS3⟩ (fun hH => ?_)
   clear hK K hB3 hS3
   simp only [wA8, wB8, wC8, wD8]
   refine wTk 15 (.pointer (some ⟨w1.heap.size, 1, none⟩)) rfl (by kernel_rfl) (fun _ _ _ h => h) (Or.inl ⟨by rfl, fun w' h => by clear h; go_simp⟩) hH ?_
   simp only [wA8, wB8, wC8, wD8]
   refine wRd 16 (by kernel_rfl) rfl (fun K hK => ?_)
   go_simp
   clear e0 e1 f1 hH
   refine hK.out _ _ ⟨HW3.out.bw, hS4⟩ (fun hH => ?_)
   clear hK K hH hS4
   refine wpAnyH_done (by kernel_rfl) ?_ _
   go_wp2_with fail
   go_roundg g
   case measure => omega
   case rel => exact ⟨j + 1, _, _, by omega, by go_num, by rw [List.length_append, HSL.out]; rfl, by rw [List.map_append, HSK.out, HSJ.out]; rfl, HW3.out⟩
  ·go_simp
   refine (HLT.out V0 HV0.out.bw).mono ?_
   rintro e V1 ⟨tg, tc, rfl, ho, hb⟩
   have HTV1 : Hid (OwnT V1 (w1.heap.size + 1) (.slice (some ⟨tg, 0, none⟩) (ln + 1) tc) (tl ++ [bT])) := ho.mono HV0.out.sz
   have HV1 : Hid (LQ w1 V1 GS #[.int .i64 tr, .slice a1 ln cap1, .slice a2 lu cap2] (.slice ma mn mc) (.slice ua un uc) LS (.slice (some ⟨ng, 0, none⟩) nn nc) (tu ++ [-908])) := HV0.out.later hb
   clear HV0 ho
   refine hK.out _ _ ⟨HV1.out.bw, HV1.out.bs⟩ (fun hH => ?_)
   clear hK K hb
   try simp only [wA8, wB8, wC8, wD8]
   refine wTk 12 (.agg #[.int .i64 tr, .slice (some ⟨tg, 0, none⟩) ln tc, .slice (some ⟨ng, 0, none⟩) lu nc]) rfl (by kernel_rfl) (fun _ _ _ h => h) (Or.inl ⟨by rfl, fun w' h => by clear h; go_simp⟩) hH ?_
   simp only [wA8, wB8, wC8, wD8]
   refine wpAnyH_ready (rs := [1, 13]) (by kernel_rfl) (by simp) ?_
   refine (AllReadyH.cons (o := ⟨_, _, _, _, _, _⟩) rfl (fun K hK => ?_) (AllReadyH.cons (o := ⟨_, _, _, _, _, _⟩) rfl (fun K hK => ?_) AllReadyH.nil))
   ·have c1 := (ctwo HV1.out.bo).2
    go_simp
    clear c1
    refine hK.out _ _ hH (fun hH => ?_)
    clear hK K
    try simp only [wA8, wB8, wC8, wD8]
    refine wRd 13 (by kernel_rfl) rfl (fun K hK => ?_)
    go_simp
    have HV2 : Hid (LQ w1 (V1.alloc (.cells #[.int .i64 tr, .slice (some ⟨tg, 0, none⟩) ln tc, .slice (some ⟨ng, 0, none⟩) lu nc] 48)) GS #[.int .i64 tr, .slice a1 ln cap1, .slice a2 lu cap2] (.slice ma mn mc) (.slice ua un uc) LS (.slice (some ⟨ng, 0, none⟩) nn nc) (tu ++ [-908])) := HV1.out.later (below1 _ _)
    have HTV2 : Hid (OwnT (V1.alloc (.cells #[.int .i64 tr, .slice (some ⟨tg, 0, none⟩) ln tc, .slice (some ⟨ng, 0, none⟩) lu nc] 48)) (w1.heap.size + 1) (.slice (some ⟨tg, 0, none⟩) (ln + 1) tc) (tl ++ [bT])) := HTV1.out.later (below1 _ _)
    have HG : Hid (CBlk (V1.alloc (.cells #[.int .i64 tr, .slice (some ⟨tg, 0, none⟩) ln tc, .slice (some ⟨ng, 0, none⟩) lu nc] 48)) V1.heap.size #[.int .i64 tr, .slice (some ⟨tg, 0, none⟩) ln tc, .slice (some ⟨ng, 0, none⟩) lu nc] 48) := CBlk.new _ _ _
    clear hH HV1 HTV1
    refine hK.out _ _ ⟨HV2.out.bw, HV2.out.bs⟩ (fun hH => ?_)
    clear hK K
    revert hH HV2 HTV2 HG
    generalize V1.alloc (.cells #[.int .i64 tr, .slice (some ⟨tg, 0, none⟩) ln tc, .slice (some ⟨ng, 0, none⟩) lu nc] 48) = V2
    generalize V1.heap.size = GG
    intro HV2 HTV2 HG hH
    refine wRd 14 (by kernel_rfl) rfl (fun K hK => ?_)
    refine step_st rfl _ _ rfl (w1.heap.size + 1) (.slice ua un uc) LS (by rfl) HV2.out.os GG ⟨tr, tl, .slice (some ⟨tg, 0, none⟩) ln tc, tu, .slice (some ⟨ng, 0, none⟩) lu nc⟩ (by rfl) HG.out (fun u hu => ?_) (by have := HSL.out; omega) HV2.out.sz ?_
    ·simp [St.csl] at hu; rcases hu with rfl | rfl | rfl <;> rfl
    intro v' w3 hown hb3 hg3
    obtain ⟨va, vn, vc, rfl⟩ := ownS_form4 hown
    have HW3 : Hid (LF w1 (w3.setCell ⟨w1.heap.size, 1, none⟩ (.slice va vn vc)) (.slice ma mn mc) (.slice va vn vc) (LS ++ [⟨tr, tl, .slice (some ⟨tg, 0, none⟩) ln tc, tu, .slice (some ⟨ng, 0, none⟩) lu nc⟩])) := HV2.out.fin hown hb3 hg3 HLN.out.1 HLN.out.2.1 HLN.out.2.2 HTV2.out
    have hB3 : Below w1.heap.size w1 w3 := HV2.out.bw.trans (hb3.mono (by omega))
    have hS3 : CBlk w3 GS #[.int .i64 tr, .slice a1 ln cap1, .slice a2 lu cap2] 48 := HV2.out.sbx hb3 hg3
    have hS4 : CBlk (w3.setCell ⟨w1.heap.size, 1, none⟩ (.slice va vn vc)) GS #[.int .i64 tr, .slice a1 ln cap1, .slice a2 lu cap2] 48 := HV2.out.sbx2 hb3 hg3 _
    have hD : CBlk w3 w1.heap.size _ 25 := (hb3.block _ (by omega)).trans HV2.out.bo
    obtain ⟨e0, e1⟩ := ctwo hD
    have f1 : w3.frozen? ⟨w1.heap.size, 1, none⟩ = false := hD.froz
    clear hD hown hb3 hg3 HV2 HTV2 HG hH
    refine hK.out _ _ ⟨hB3, hS3⟩ (fun hH => ?_)
    clear hK K hB3 hS3
    simp only [wA8, wB8, wC8, wD8]
    refine wTk 15 (.pointer (some ⟨w1.heap.size, 1, none⟩)) rfl (by kernel_rfl) (fun _ _ _ h => h) (Or.inl ⟨by rfl, fun w' h => by clear h; go_simp⟩) hH ?_
    simp only [wA8, wB8, wC8, wD8]
    refine wRd 16 (by kernel_rfl) rfl (fun K hK => ?_)
    go_simp
    clear e0 e1 f1 hH
    refine hK.out _ _ ⟨HW3.out.bw, hS4⟩ (fun hH => ?_)
    clear hK K hH hS4
    refine wpAnyH_done (by kernel_rfl) ?_ _
    go_wp2_with fail
    go_roundg g
    case measure => omega
    case rel => exact ⟨j + 1, _, _, by omega, by go_num, by rw [List.length_append, HSL.out]; rfl, by rw [List.map_append, HSK.out, HSJ.out]; rfl, HW3.out⟩
   ·go_simp
    have HV2 : Hid (LQ w1 (V1.alloc (.cells #[.int .i64 tr, .slice (some ⟨tg, 0, none⟩) ln tc, .slice (some ⟨ng, 0, none⟩) lu nc] 48)) GS #[.int .i64 tr, .slice a1 ln cap1, .slice a2 lu cap2] (.slice ma mn mc) (.slice ua un uc) LS (.slice (some ⟨ng, 0, none⟩) nn nc) (tu ++ [-908])) := HV1.out.later (below1 _ _)
    have HTV2 : Hid (OwnT (V1.alloc (.cells #[.int .i64 tr, .slice (some ⟨tg, 0, none⟩) ln tc, .slice (some ⟨ng, 0, none⟩) lu nc] 48)) (w1.heap.size + 1) (.slice (some ⟨tg, 0, none⟩) (ln + 1) tc) (tl ++ [bT])) := HTV1.out.later (below1 _ _)
    have HG : Hid (CBlk (V1.alloc (.cells #[.int .i64 tr, .slice (some ⟨tg, 0, none⟩) ln tc, .slice (some ⟨ng, 0, none⟩) lu nc] 48)) V1.heap.size #[.int .i64 tr, .slice (some ⟨tg, 0, none⟩) ln tc, .slice (some ⟨ng, 0, none⟩) lu nc] 48) := CBlk.new _ _ _
    clear hH HV1 HTV1
    refine hK.out _ _ ⟨HV2.out.bw, HV2.out.bs⟩ (fun hH => ?_)
    clear hK K
    revert hH HV2 HTV2 HG
    generalize V1.alloc (.cells #[.int .i64 tr, .slice (some ⟨tg, 0, none⟩) ln tc, .slice (some ⟨ng, 0, none⟩) lu nc] 48) = V2
    generalize V1.heap.size = GG
    intro HV2 HTV2 HG hH
    refine wRd 1 (by kernel_rfl) rfl (fun K hK => ?_)
    have c1 := (ctwo HV2.out.bo).2
    go_simp
    clear c1
    refine hK.out _ _ hH (fun hH => ?_)
    clear hK K
    try simp only [wA8, wB8, wC8, wD8]
    refine wRd 14 (by kernel_rfl) rfl (fun K hK => ?_)
    refine step_st rfl _ _ rfl (w1.heap.size + 1) (.slice ua un uc) LS (by rfl) HV2.out.os GG ⟨tr, tl, .slice (some ⟨tg, 0, none⟩) ln tc, tu, .slice (some ⟨ng, 0, none⟩) lu nc⟩ (by rfl) HG.out (fun u hu => ?_) (by have := HSL.out; omega) HV2.out.sz ?_
    ·simp [St.csl] at hu; rcases hu with rfl | rfl | rfl <;> rfl
    intro v' w3 hown hb3 hg3
    obtain ⟨va, vn, vc, rfl⟩ := ownS_form4 hown
    have HW3 : Hid (LF w1 (w3.setCell ⟨w1.heap.size, 1, none⟩ (.slice va vn vc)) (.slice ma mn mc) (.slice va vn vc) (LS ++ [⟨tr, tl, .slice (some ⟨tg, 0, none⟩) ln tc, tu, .slice (some ⟨ng, 0, none⟩) lu nc⟩])) := HV2.out.fin hown hb3 hg3 HLN.out.1 HLN.out.2.1 HLN.out.2.2 HTV2.out
    have hB3 : Below w1.heap.size w1 w3 := HV2.out.bw.trans (hb3.mono (by omega))
    have hS3 : CBlk w3 GS #[.int .i64 tr, .slice a1 ln cap1, .slice a2 lu cap2] 48 := HV2.out.sbx hb3 hg3
    have hS4 : CBlk (w3.setCell ⟨w1.heap.size, 1, none⟩ (.slice va vn vc)) GS #[.int .i64 tr, .slice a1 ln cap1, .slice a2 lu cap2] 48 := HV2.out.sbx2 hb3 hg3 _
    have hD : CBlk w3 w1.heap.size _ 25 := (hb3.block _ (by omega)).trans HV2.out.bo
    obtain ⟨e0, e1⟩ := ctwo hD
    have f1 : w3.frozen? ⟨w1.heap.size, 1, none⟩ = false := hD.froz
    clear hD hown hb3 hg3 HV2 HTV2 HG hH
    refine hK.out _ _ ⟨hB3, hS3⟩ (fun hH => ?_)
    clear hK K hB3 hS3
    simp only [wA8, wB8, wC8, wD8]
    refine wTk 15 (.pointer (some ⟨w1.heap.size, 1, none⟩)) rfl (by kernel_rfl) (fun _ _ _ h => h) (Or.inl ⟨by rfl, fun w' h => by clear h; go_simp⟩) hH ?_
    simp only [wA8, wB8, wC8, wD8]
    refine wRd 16 (by kernel_rfl) rfl (fun K hK => ?_)
    go_simp
    clear e0 e1 f1 hH
    refine hK.out _ _ ⟨HW3.out.bw, hS4⟩ (fun hH => ?_)
    clear hK K hH hS4
    refine wpAnyH_done (by kernel_rfl) ?_ _
    go_wp2_with fail
    go_roundg g
    case measure => omega
    case rel => exact ⟨j + 1, _, _, by omega, by go_num, by rw [List.length_append, HSL.out]; rfl, by rw [List.map_append, HSK.out, HSJ.out]; rfl, HW3.out⟩
 | zero =>
  obtain rfl : j = S.length := by omega
  have hz : ¬ ((S.length : Int) < (S.length : Int)) := by omega
  obtain ⟨e0, e1⟩ := ctwo HLF.out.bo
  have HG : Hid (CBlk (X1.alloc (.cells #[.int .i64 (-909), .slice none 0 0, .slice none 0 0] 48)) X1.heap.size #[.int .i64 (-909), .slice none 0 0, .slice none 0 0] 48) := CBlk.new _ _ _
  have HL3 : Hid (LF w1 (X1.alloc (.cells #[.int .i64 (-909), .slice none 0 0, .slice none 0 0] 48)) (.slice ma mn mc) (.slice ua un uc) LS) := HLF.out.later (below1 _ _)
  have HPY : Hid (CBlk (X1.alloc (.cells #[.int .i64 (-909), .slice none 0 0, .slice none 0 0] 48)) w.heap.size #[.slice ra R.length rc, .slice sa S.length sc] 25) := HP.out.later (below1 _ _)
  have z0 : (0 : Int) <= (S.length : Int) := by omega
  go_upto_region 11 with (at_builtin; refine sapp_one rfl _ _ rfl (w1.heap.size + 1) (.slice ua un uc) LS (by rfl) HL3.out.os X1.heap.size bS (by rfl) HG.out (bS_ok w) (by have := HSL.out; omega) HL3.out.sz ?_; intro v5 w5 hown hb5 hg5 hv5; obtain ⟨q1, q2, rfl, hcap⟩ := ownS_some hown; have HSW : Hid (OwnS w5 (w1.heap.size + 1) (.slice (some ⟨q1, 0, none⟩) (LS.length + 1) q2) (LS ++ [bS])) := hown; have hcp : (S.length : Int) <= (q2 : Int) := (by have := HSL.out; omega); have HG5 : Hid (Kt 48 (X1.alloc (.cells #[.int .i64 (-909), .slice none 0 0, .slice none 0 0] 48)) w5) := row_grown HL3.out.os hg5; have HB5 : Hid (Below (w1.heap.size + 1) (X1.alloc (.cells #[.int .i64 (-909), .slice none 0 0, .slice none 0 0] 48)) w5) := hb5; have HD5 : Hid (CBlk w5 w1.heap.size #[.slice ma mn mc, .slice ua un uc] 25) := HL3.out.bo.kt HG5.out (by decide); clear e0 e1; obtain ⟨e0, e1⟩ := ctwo HD5.out; have f1 : w5.frozen? ⟨w1.heap.size, 1, none⟩ = false := HD5.out.froz; clear hown hb5 hg5 hv5 hcap HG)
  have HBZ : Hid (Below w1.heap.size w1 (w5.setCell ⟨w1.heap.size, 1, none⟩ (.slice (some ⟨q1, 0, none⟩) (LS.length + 1) q2))) := (HL3.out.bw.trans (HB5.out.mono (by omega))).setCell (Nat.le_refl _) _
  have HOZ : Hid (CBlk (w5.setCell ⟨w1.heap.size, 1, none⟩ (.slice (some ⟨q1, 0, none⟩) (LS.length + 1) q2)) w1.heap.size #[.slice ma mn mc, .slice (some ⟨q1, 0, none⟩) (LS.length + 1) q2] 25) := by have := HD5.out.set 1 (.slice (some ⟨q1, 0, none⟩) (LS.length + 1) q2); exact (by simpa using this : CBlk _ _ _ _)
  have hkz : Kt 25 w5 (w5.setCell ⟨w1.heap.size, 1, none⟩ (.slice (some ⟨q1, 0, none⟩) (LS.length + 1) q2)) := Kt.set HD5.out
  have HSZ : Hid (LentS (w5.setCell ⟨w1.heap.size, 1, none⟩ (.slice (some ⟨q1, 0, none⟩) (LS.length + 1) q2)) (w1.heap.size + 1) (.slice (some ⟨q1, 0, none⟩) LS.length q2) LS) := ⟨⟨q1, q2, rfl, row_kt HSW.out hkz (by decide)⟩, fun s hs => ((HL3.out.ls s hs).kt HG5.out (by decide) (by decide)).kt hkz (by decide) (by decide)⟩
  clear hkz HSW HG5 HB5 HD5 HL3 HPY e0 e1 f1 c0 c1
  revert HBZ HOZ HSZ
  generalize w5.setCell ⟨w1.heap.size, 1, none⟩ (.slice (some ⟨q1, 0, none⟩) (LS.length + 1) q2) = Z
  intro HBZ HOZ HSZ
  have HQZ : Hid (CBlk Z (w.heap.size + 1) #[.slice none 0 0, .slice none 0 0] 25) := HQ1.out.later HBZ.out
  have HPZ : Hid (CBlk Z w.heap.size #[.slice ra R.length rc, .slice sa S.length sc] 25) := HP1.out.later HBZ.out
  obtain ⟨e0, e1⟩ := ctwo HOZ.out
  obtain ⟨c0, c1⟩ := ctwo HPZ.out
  obtain ⟨r0, r1⟩ := ctwo HQZ.out
  have f1 : Z.frozen? ⟨w1.heap.size, 1, none⟩ = false := HOZ.out.froz
  have g0 : Z.frozen? ⟨w.heap.size + 1, 0, none⟩ = false := HQZ.out.froz
  have g1 : Z.frozen? ⟨w.heap.size + 1, 1, none⟩ = false := HQZ.out.froz
  have hne : w.heap.size + 1 < w1.heap.size := HQ1.out.lt
  have hzz : w1.heap.size < Z.heap.size := HOZ.out.lt
  have hzz2 : w.heap.size + 1 < Z.heap.size := HQZ.out.lt
  go_wp2_with fail
  have hD1 := HOZ.out.set 1 (.slice (some ⟨q1, 0, none⟩) S.length q2)
  have hk1 : Kt 25 Z (Z.setCell ⟨w1.heap.size, 1, none⟩ (.slice (some ⟨q1, 0, none⟩) S.length q2)) := Kt.set HOZ.out
  have hb1 := HBZ.out.setCell (p := ⟨w1.heap.size, 1, none⟩) (Nat.le_refl _) (.slice (some ⟨q1, 0, none⟩) S.length q2)
  have hQ1 := HQ1.out.later hb1
  have hk2 : Kt 25 (Z.setCell ⟨w1.heap.size, 1, none⟩ (.slice (some ⟨q1, 0, none⟩) S.length q2)) ((Z.setCell ⟨w1.heap.size, 1, none⟩ (.slice (some ⟨q1, 0, none⟩) S.length q2)).setCell ⟨w.heap.size + 1, 0, none⟩ (.slice ma mn mc)) := Kt.set hQ1
  have hQ2 := hQ1.set 0 (.slice ma mn mc)
  have hk3 : Kt 25 ((Z.setCell ⟨w1.heap.size, 1, none⟩ (.slice (some ⟨q1, 0, none⟩) S.length q2)).setCell ⟨w.heap.size + 1, 0, none⟩ (.slice ma mn mc)) (((Z.setCell ⟨w1.heap.size, 1, none⟩ (.slice (some ⟨q1, 0, none⟩) S.length q2)).setCell ⟨w.heap.size + 1, 0, none⟩ (.slice ma mn mc)).setCell ⟨w.heap.size + 1, 1, none⟩ (.slice (some ⟨q1, 0, none⟩) S.length q2)) := Kt.set hQ2
  have hk := (hk1.trans hk2).trans hk3
  exact bodyPost_ret (v := .agg #[.slice ma mn mc, .slice (some ⟨q1, 0, none⟩) S.length q2]) (by simp [results, Tryz.results5, go_sem, r0, r1]) rfl ⟨_, _, LB, LS, rfl, HMK.out, by rw [HSK.out, List.take_length], (HOM.out.agree (by have := hb1.size; simpa [World.setCell] using this) (fun b h1 h2 => by rw [heap_set_ne (by omega), heap_set_ne (by omega)]; exact hb1.block b h2)).mono (by omega), by rw [<- HSL.out]; exact ((HSZ.out.kt (by rw [HSL.out]; exact hk) (by decide) (by decide) (by decide))).mono (by omega), ((HW1.out.trans (hb1.mono HW1.out.size)).setCell (Nat.le_succ _) _).setCell (Nat.le_succ _) _⟩
end Go.Proofs.YtcejljehjhlonaaGreatDoor
