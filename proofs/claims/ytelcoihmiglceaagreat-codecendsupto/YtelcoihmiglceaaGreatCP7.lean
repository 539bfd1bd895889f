import Derived.Test.YtelcoihmiglceaaGreatCT1
import Derived.Test.YtelcoihmiglceaaGreatMD6
import Derived.Deep.RegionHeld3
namespace Go.Proofs.YtelcoihmiglceaaGreat
open Go.RowKit
attribute [local go_sem ↓] Go.wp_at_zero Go.wp_at_succ

def madeS (s : Sk) : Sk := (nat8 s.1, s.2.1.map mkC, s.2.2.map nat8)
theorem ownN_form4 {w : World} {base : Nat} {v : Value} {l : List Int} (h : OwnN w base v l) : ∃ a n cap, v = .slice a n cap := by
 obtain ⟨a, cap, rfl⟩ := h.form
 exact ⟨_, _, _, rfl⟩
theorem step_num {ops : Array Oper} {o : Oper} {a : Act} {K : Act -> World -> Prop} {Q : Exit -> Act -> World -> Prop} {E : Prop} {w : World} (hgd : o.guard = none) (s x : Operand)
  (ho : o.op = .call { callee := .builtin .append, args := #[s, x], argTypes := #[64, 64] }) (base : Nat) (v : Value) (l : List Int) (hs : a.eval s = v) (hown : OwnN w base v l)
  (b : Nat) (y : Int) (hx : a.eval x = .slice (some ⟨b, 0, none⟩) 1 1) (hblk : CBlk w b #[.int .i64 y] 3) (hlen : l.length <= 1000000000000) (hbase : base <= w.heap.size)
  (h : ∀ v' w', OwnN w' base v' (l ++ [y]) -> Below base w w' -> w.grownBy w' v.ownBlock -> K (a.put o.dst v') w') : if Region.wanted o (yielded ops a.tmps) = true then Oper.wp Tryz.prog o a w K Q else E := by
 obtain ⟨i0, hi0, hz0, hz1, hz2⟩ := info_parts Tryz.infoInt8
 refine step_append_lies _ hgd s x 64 ho base 3 i0 _ 1 8 Tryz.underlying64 hi0 hz0 hz1 hz2 rfl (by omega) v l.length (nbs l) hs hown ⟨b, 0, none⟩ 1 1 (nbs [y]) hx (by simp [nbs]) ?_ (by simp [nbs, Value.oneCell']) (by omega) (by unfold maxLen; omega) (by omega) hbase _ rfl ?_
 ·intro j u hj
  exact World.news_of_block (cs := #[.int .i64 y]) (t := 3) (fr := (0, 0)) hblk j u (by simpa [nbs] using hj)
 ·intro g cap w' h1 h2 _ _
  refine h _ w' ?_ (grown_below3 h2 (fun k hk => (World.ownsRow.lt hown k hk).1) hbase) h2
  unfold OwnN
  rw [List.length_append, show nbs (l ++ [y]) = nbs l ++ nbs [y] by simp [nbs]]
  exact h1
structure JJ (X1 V : World) (r : Int) (v : Value) (L : List Tm) (u : Value) (U : List Int) : Prop where
 bw : Below X1.heap.size X1 V
 bs : CBlk V X1.heap.size #[.int .i64 r, v, u] 66
 ow : OwnT V (X1.heap.size + 1) v L
 on : OwnN V (X1.heap.size + 1) u U
 sz : X1.heap.size + 1 <= V.heap.size
theorem JJ.later {X1 V V' : World} {r : Int} {v : Value} {L : List Tm} {u : Value} {U : List Int} (h : JJ X1 V r v L u U) (hb : Below V.heap.size V V') : JJ X1 V' r v L u U :=
 ⟨below_step h.bw hb, h.bs.later hb, h.ow.later hb, h.on.later hb, Nat.le_trans h.sz hb.size⟩
theorem JJ.args {X1 V V' : World} {r : Int} {v v' : Value} {L L' : List Tm} {u : Value} {U : List Int} (h : JJ X1 V r v L u U) (ho : OwnT V' (X1.heap.size + 1) v' L') (hb : Below (X1.heap.size + 1) V V') (hg : V.grownBy V' v.ownBlock) : JJ X1 (V'.setCell ⟨X1.heap.size, 1, none⟩ v') r v' L' u U := by
 have hs : CBlk V' X1.heap.size #[.int .i64 r, v, u] 66 := (hb.block _ (by omega)).trans h.bs
 have hk : Kt 66 V' (V'.setCell ⟨X1.heap.size, 1, none⟩ v') := Kt.set hs
 have hs2 := hs.set 1 v'
 refine ⟨(h.bw.trans (hb.mono (by omega))).setCell (Nat.le_refl _) _, by simpa using hs2, row_kt ho hk (by decide), row_kt (row_kt h.on (row_grown h.ow hg) (by decide)) hk (by decide), ?_⟩
 have := Nat.le_trans h.sz hb.size
 simpa [World.setCell] using this
theorem JJ.nums {X1 V V' : World} {r : Int} {v : Value} {L : List Tm} {u u' : Value} {U U' : List Int} (h : JJ X1 V r v L u U) (ho : OwnN V' (X1.heap.size + 1) u' U') (hb : Below (X1.heap.size + 1) V V') (hg : V.grownBy V' u.ownBlock) : JJ X1 (V'.setCell ⟨X1.heap.size, 2, none⟩ u') r v L u' U' := by
 have hs : CBlk V' X1.heap.size #[.int .i64 r, v, u] 66 := (hb.block _ (by omega)).trans h.bs
 have hk : Kt 66 V' (V'.setCell ⟨X1.heap.size, 2, none⟩ u') := Kt.set hs
 have hs2 := hs.set 2 u'
 refine ⟨(h.bw.trans (hb.mono (by omega))).setCell (Nat.le_refl _) _, by simpa using hs2, row_kt (row_kt h.ow (row_grown h.on hg) (by decide)) hk (by decide), row_kt ho hk (by decide), ?_⟩
 have := Nat.le_trans h.sz hb.size
 simpa [World.setCell] using this
def Dj (a b : St) : Prop := (∀ k, a.vv.ownBlock = some k -> b.vv.ownBlock ≠ some k) /\ ∀ k, a.uv.ownBlock = some k -> b.uv.ownBlock ≠ some k
structure OSt (B : Nat) (X : World) (v : Value) (l : List St) : Prop where
 o : OwnS X B v l
 t : ∀ s ∈ l, OwnT X B s.vv s.vals /\ OwnN X B s.uv s.uses
 d : l.Pairwise Dj
theorem OSt.nil (B : Nat) (X : World) : OSt B X (.slice none 0 0) [] := ⟨OwnS.nil _ _, fun c hc => by simp at hc, List.Pairwise.nil⟩
theorem OSt.later {B : Nat} {X X' : World} {v : Value} {l : List St} (h : OSt B X v l) (hb : Below X.heap.size X X') : OSt B X' v l := ⟨h.o.later hb, fun s hs => ⟨(h.t s hs).1.later hb, (h.t s hs).2.later hb⟩, h.d⟩
theorem OSt.kt {t : TypeId} {B : Nat} {X X' : World} {v : Value} {l : List St} (h : OSt B X v l) (hk : Kt t X X') (h1 : 66 ≠ t) (h2 : 23 ≠ t) (h3 : 3 ≠ t) : OSt B X' v l := ⟨row_kt h.o hk h1, fun s hs => ⟨row_kt (h.t s hs).1 hk h2, row_kt (h.t s hs).2 hk h3⟩, h.d⟩
structure Lo (M : Nat) (d : Cm) : Prop where
 h : ∀ k, d.head.2.ownBlock = some k -> k < M
 b : ∀ k, d.bv.ownBlock = some k -> k < M
 x : ∀ y ∈ d.body, ∀ k, y.2.ownBlock = some k -> k < M
 t : ∀ k, d.tv.ownBlock = some k -> k < M
theorem MCl.lo {B : Nat} {X : World} {d : Cm} (h : MCl B X d) : Lo X.heap.size d :=
 ⟨fun k hk => (World.ownsRow.lt h.h k hk).2, fun k hk => (World.ownsRow.lt h.b k hk).2, fun y hy k hk => (World.ownsRow.lt (h.x y hy) k hk).2, fun k hk => (World.ownsRow.lt h.t k hk).2⟩
def MPP (w : World) (R : List Cm) (S : List St) (e : Ending) (w' : World) : Prop := ∃ (rv sv : Value) (R' : List Cm) (S' : List St) (M : Nat), e = .returned (.agg #[rv, sv]) /\ R'.map Cm.key = R.map (fun c => madeK c.key) /\ S'.map St.key = S.map (fun s => madeS s.key) ∧
 OM w.heap.size w' rv R' /\ OSt M w' sv S' /\ (∀ c ∈ R', Lo M c) /\ w.heap.size <= M /\ M <= w'.heap.size /\ Below w.heap.size w w'
theorem sapp_one9 {V : World} {s : St} (h1 : OwnT V 0 s.vv s.vals) (h2 : OwnN V 0 s.uv s.uses) (l1 : s.vals.length <= 1000000000000) (l2 : s.uses.length <= 1000000000000) : s.ok V := ⟨h1.tsP.ts (by omega), h2.ns (by omega)⟩
set_option maxRecDepth 20000 in
set_option maxHeartbeats 1500000 in
theorem madeProof_any (R : List Cm) (S : List St) (rv sv : Value) (w : World) (hR : CsP w rv R) (hS : SsP w sv S) (hl1 : R.length <= 900000000000) (hl2 : S.length <= 900000000000) (hl3 : ∀ s ∈ S, s.vals.length <= 900000000000 /\ s.uses.length <= 900000000000)
  (hrg : ∀ s ∈ S, -9223372036854775808 <= s.rule /\ ∀ n ∈ s.uses, -9223372036854775808 <= n) :
  Calls Tryz.prog 14 #[.agg #[rv, sv]] w (MPP w R S) := by
 have HMA : Hid (∀ X : World, Below w.heap.size w X -> Calls Tryz.prog 11 #[rv] X (MAP X R)) := fun X hX => madeAll_any R rv X (hR.later hX) hl1
 have HS : Hid (SsP w sv S) := hS
 have HRG : Hid (∀ s ∈ S, (-9223372036854775808 <= s.rule /\ ∀ n ∈ s.uses, -9223372036854775808 <= n) /\ s.vals.length <= 900000000000 /\ s.uses.length <= 900000000000) := fun s hs => ⟨hrg s hs, hl3 s hs⟩
 obtain ⟨ra, rc, rfl⟩ := hR.form
 obtain ⟨sa, sc, rfl⟩ := hS.form
 have HP0 : Hid (CBlk ((w.alloc (.cells #[.slice ra R.length rc, .slice sa S.length sc] 35)).alloc (.cells #[.slice none 0 0, .slice none 0 0] 35)) w.heap.size #[.slice ra R.length rc, .slice sa S.length sc] 35) := (CBlk.new _ _ _).later (below1 _ _)
 have HQ0 : Hid (CBlk ((w.alloc (.cells #[.slice ra R.length rc, .slice sa S.length sc] 35)).alloc (.cells #[.slice none 0 0, .slice none 0 0] 35)) (w.heap.size + 1) #[.slice none 0 0, .slice none 0 0] 35) := by
  have := CBlk.new (w.alloc (.cells #[.slice ra R.length rc, .slice sa S.length sc] 35)) #[.slice none 0 0, .slice none 0 0] 35
  rwa [show (w.alloc (.cells #[.slice ra R.length rc, .slice sa S.length sc] 35)).heap.size = w.heap.size + 1 by simp] at this
 clear hR hS hrg hl3
 go_enter Tryz.func14, Tryz.ntmps14
 obtain ⟨p0, p1⟩ := ctwo HP0.out
 go_upto_region 2 with (go_at_call 11; refine (HMA.out _ (below2 _ _ _)).mono ?_; clear HMA; rintro e w1 ⟨mv, R', rfl, hmk, hom, hb⟩; obtain ⟨ma, mc, rfl⟩ := hom.o.form; have HMK : Hid (R'.map Cm.key = R.map (fun c => madeK c.key)) := hmk; have HOM : Hid (OM w.heap.size w1 (.slice ma R'.length mc) R') := ⟨hom.o.mono (by simp; omega), fun c hc => (hom.m c hc).mono (by simp; omega)⟩; have HLO : Hid (∀ c ∈ R', Lo w1.heap.size c) := fun c hc => (hom.m c hc).lo; have HP1 : Hid (CBlk w1 w.heap.size #[.slice ra R.length rc, .slice sa S.length sc] 35) := HP0.out.later hb; have HQ1 : Hid (CBlk w1 (w.heap.size + 1) #[.slice none 0 0, .slice none 0 0] 35) := HQ0.out.later hb; have HW1 : Hid (Below w.heap.size w w1) := below_step (below2 _ _ _) hb; have HO1 : Hid (CBlk (w1.alloc (.cells #[.slice ma R'.length mc, .slice none 0 0] 35)) w1.heap.size #[.slice ma R'.length mc, .slice none 0 0] 35) := CBlk.new _ _ _; clear hb hom hmk p0 p1)
 clear HP0 HQ0
 have HX0 : Hid (Below w1.heap.size w1 (w1.alloc (.cells #[.slice ma R'.length mc, .slice none 0 0] 35))) := below1 _ _
 revert HO1 HX0
 generalize w1.alloc (.cells #[.slice ma R'.length mc, .slice none 0 0] 35) = Y0
 intro HO1 HX0
 go_wp2_with fail
 go_loopg [4] S.length (fun g i wr => ∃ (j : Nat) (S' : List St) (u : Value), j + g = S.length /\ i = .int .i64 j /\ S'.length = j /\ S'.map St.key = (S.take j).map (fun s => madeS s.key) /\ OSt (w1.heap.size + 1) wr u S' /\ CBlk wr w1.heap.size #[.slice ma R'.length mc, u] 35 /\ Below w1.heap.size w1 wr)
 case atStart => exact ⟨0, [], _, by omega, rfl, rfl, rfl, OSt.nil _ _, HO1.out, HX0.out⟩
 case round =>
 obtain ⟨j, S', u, hj, rfl, hsl, hsk, hos, hob, hb⟩ := hrel
 clear HO1 HX0
 have HSK : Hid (S'.map St.key = (S.take j).map (fun s => madeS s.key)) := hsk
 have HSL : Hid (S'.length = j) := hsl
 have HOS : Hid (OSt (w1.heap.size + 1) wr u S') := hos
 have HOB : Hid (CBlk wr w1.heap.size #[.slice ma R'.length mc, u] 35) := hob
 have HB : Hid (Below w1.heap.size w1 wr) := hb
 obtain ⟨ua, uc, rfl⟩ := hos.o.form
 have HP : Hid (CBlk wr w.heap.size #[.slice ra R.length rc, .slice sa S.length sc] 35) := HP1.out.later hb
 have HSX : Hid (SsP wr (.slice sa S.length sc) S) := HS.out.later (below_step HW1.out hb)
 have hsz : w1.heap.size + 1 <= wr.heap.size := hob.lt
 obtain ⟨c0, c1⟩ := ctwo HP.out
 clear hsl hsk hos hob hb
 generalize hX1 : wr = X1 at *
 clear hX1
 cases gk with
 | succ g =>
  have hlt : (j : Int) < (S.length : Int) := by omega
  have j0 : (0 : Int) <= (j : Int) := by omega
  obtain ⟨t, ht⟩ : ∃ t, S[j]? = some t := ⟨_, List.getElem?_eq_getElem (by omega)⟩
  obtain ⟨b, o, rfl, hbs, hr, hok⟩ := HSX.out.at_ ht
  obtain ⟨d0, d1, d2⟩ := hr.three ht
  have hrl := HRG.out t (List.mem_of_getElem? ht)
  have HSJ : Hid ((S.take (j + 1)).map (fun s => madeS s.key) = (S.take j).map (fun s => madeS s.key) ++ [madeS t.key]) := by show _ = _; rw [List.take_add_one, ht]; simp
  obtain ⟨⟨a1, cap1, x1⟩, ⟨a2, cap2, x2⟩, -, -⟩ := hok.shape
  have HTT : Hid (Ts X1 t.vv t.vals) := hok.t
  have HTU : Hid (Ns X1 t.uv t.uses) := hok.u
  obtain ⟨tr, tl, tv, tu, tw⟩ := t
  simp only at d0 d1 d2 x1 x2 HTT HTU hrl
  subst x1 x2
  have HNR : Hid (∀ X : World, Calls Tryz.prog 39 #[.int .i64 tr] X fun e w' => e = .returned (.int .i64 (nat8 tr)) /\ w' = X) := fun X => natural9_any tr hrl.1.1 X
  have HUR : Hid (∀ n ∈ tu, -9223372036854775808 <= n) := hrl.1.2
  have l1 := hrl.2.1
  have l2 := hrl.2.2
  clear hr hok ht hrl
  have HJ0 : Hid (JJ X1 (X1.alloc (.cells #[.int .i64 (nat8 tr), .slice none 0 0, .slice none 0 0] 66)) (nat8 tr) (.slice none 0 0) [] (.slice none 0 0) []) := ⟨below1 _ _, CBlk.new _ _ _, ownT_nil _ _, ownN_nil _ _, by simp⟩
  go_upto_region 6 with (go_at_call 39; refine (HNR.out _).mono ?_; clear HNR; rintro e w2 ⟨rfl, ew⟩; have ew2 := ew.symm; clear ew; subst ew2)
  revert HJ0
  generalize X1.alloc (.cells #[.int .i64 (nat8 tr), .slice none 0 0, .slice none 0 0] 66) = Y1
  intro HJ0
  clear c0 c1 d0
  go_wp2_with fail
  go_loopg [6] tl.length (fun g i wr => ∃ (q : Nat) (v : Value), q + g = tl.length /\ i = .int .i64 q /\ JJ X1 wr (nat8 tr) v ((tl.take q).map mkC) (.slice none 0 0) [])
  case atStart => exact ⟨0, _, by omega, rfl, HJ0.out⟩
  case round =>
  obtain ⟨q, vv, hq, rfl, hjj⟩ := hrel
  have HJ : Hid (JJ X1 wr (nat8 tr) vv ((tl.take q).map mkC) (.slice none 0 0) []) := hjj
  clear HJ0
  obtain ⟨v1, v2, v3, rfl⟩ := ownT_form4 hjj.ow
  obtain ⟨c0, c1⟩ := ctwo (HP.out.later hjj.bw)
  have z1 := cell_step hjj.bw hbs d1
  have z2 := cell_step hjj.bw hbs d2
  clear hjj
  cases gk with
  | succ g2 =>
   have k1 : (q : Int) < (tl.length : Int) := by omega
   have k0 : (0 : Int) <= (q : Int) := by omega
   obtain ⟨x, hx⟩ : ∃ x, tl[q]? = some x := ⟨_, List.getElem?_eq_getElem (by omega)⟩
   have HTJ : Hid ((tl.take q).map mkC ++ [mkC x] = (tl.take (q + 1)).map mkC) := by show _ = _; rw [List.take_add_one, hx]; simp
   have HLJ : Hid (((tl.take q).map mkC).length <= 3900000000000) := by show _ <= _; rw [List.length_map, List.length_take]; omega
   obtain ⟨ad', cap', ex, -, hxx⟩ := HTT.out
   simp only [Value.slice.injEq] at ex
   obtain ⟨rfl, -, rfl⟩ := ex
   obtain ⟨b1, o1, rfl, hb1, hxx⟩ : ∃ b1 o1, a1 = some ⟨b1, o1, none⟩ /\ TRow X1 b1 o1 tl := by
    rcases hxx with hxx | h
    ·rw [hxx] at hx; simp at hx
    ·exact h
   obtain ⟨p0, p1, p2⟩ := hxx q _ hx
   have HMC : Hid (∀ X : World, Calls Tryz.prog 40 #[x.v] X fun e w' => e = .returned (mkC x).v /\ Below X.heap.size X w') := fun X => madeConst_any x X
   generalize mkC x = mx at *
   generalize (tl.take q).map mkC = LJ at *
   obtain ⟨xk, xn, xs⟩ := x
   obtain ⟨yk, yn, ys⟩ := mx
   simp only at p0 p1 p2
   clear hxx hx
   go_wp2_with fail
   clear c0 c1 z1 z2
   have HV0 : Hid (JJ X1 wr.drew (nat8 tr) (.slice v1 v2 v3) LJ (.slice none 0 0) []) := HJ.out.later (Below.refl _ _).drew
   refine wp_region_held_drew (S := fun w' => Below X1.heap.size X1 w') (by kernel_rfl) HJ.out.bw.drew (fun hH => ?_)
   revert hH HV0
   generalize wr.drew = V0
   intro HV0 hH
   refine wpAnyH_take (i := 0) (oi := ⟨_, _, _, _, _, _⟩) (v := .pointer (some ⟨X1.heap.size, 1, none⟩)) rfl (by kernel_rfl) (by kernel_rfl) (by kernel_rfl) (fun _ _ _ h => h) (Or.inl ⟨by rfl, fun w' h => by clear h; go_simp⟩) hH ?_
   simp only [Act.put, List.setIfInBounds_toArray, List.set_cons_zero, List.set_cons_succ]
   refine wpAnyH_take (i := 2) (oi := ⟨_, _, _, _, _, _⟩) (v := .pointer (some ⟨w.heap.size, 1, none⟩)) rfl (by kernel_rfl) (by kernel_rfl) (by kernel_rfl) (fun _ _ _ h => h) (Or.inl ⟨by rfl, fun w' h => by clear h; go_simp⟩) hH ?_
   simp only [Act.put, List.setIfInBounds_toArray, List.set_cons_zero, List.set_cons_succ]
   refine wpAnyH_take (i := 3) (oi := ⟨_, _, _, _, _, _⟩) (v := .slice (some ⟨b, o, none⟩) S.length sc) rfl (by kernel_rfl) (by kernel_rfl) (by kernel_rfl) (fun _ _ _ h => h) (Or.inl ⟨by rfl, fun w' h => by obtain ⟨c0, c1⟩ := ctwo (HP.out.later h); clear h; go_simp⟩) hH ?_
   simp only [Act.put, List.setIfInBounds_toArray, List.set_cons_zero, List.set_cons_succ]
   refine wpAnyH_take (i := 4) (oi := ⟨_, _, _, _, _, _⟩) (v := .int .i64 (j : Int)) rfl (by kernel_rfl) (by kernel_rfl) (by kernel_rfl) (fun _ _ _ h => h) (Or.inl ⟨by rfl, fun w' h => by clear h; go_simp⟩) hH ?_
   simp only [Act.put, List.setIfInBounds_toArray, List.set_cons_zero, List.set_cons_succ]
   refine wpAnyH_take (i := 5) (oi := ⟨_, _, _, _, _, _⟩) (v := .pointer (some ⟨b, o + j * 3, none⟩)) rfl (by kernel_rfl) (by kernel_rfl) (by kernel_rfl) (fun _ _ _ h => h) (Or.inl ⟨by rfl, fun w' h => by clear h; go_simp⟩) hH ?_
   simp only [Act.put, List.setIfInBounds_toArray, List.set_cons_zero, List.set_cons_succ]
   refine wpAnyH_take (i := 6) (oi := ⟨_, _, _, _, _, _⟩) (v := .pointer (some ⟨b, o + j * 3 + 1, none⟩)) rfl (by kernel_rfl) (by kernel_rfl) (by kernel_rfl) (fun _ _ _ h => h) (Or.inl ⟨by rfl, fun w' h => by clear h; go_simp⟩) hH ?_
   simp only [Act.put, List.setIfInBounds_toArray, List.set_cons_zero, List.set_cons_succ]
   refine wpAnyH_take (i := 7) (oi := ⟨_, _, _, _, _, _⟩) (v := .slice (some ⟨b1, o1, none⟩) tl.length cap1) rfl (by kernel_rfl) (by kernel_rfl) (by kernel_rfl) (fun _ _ _ h => h) (Or.inl ⟨by rfl, fun w' h => by have z := cell_step h hbs d1; clear h; go_simp⟩) hH ?_
   simp only [Act.put, List.setIfInBounds_toArray, List.set_cons_zero, List.set_cons_succ]
   refine wpAnyH_take (i := 8) (oi := ⟨_, _, _, _, _, _⟩) (v := .int .i64 (q : Int)) rfl (by kernel_rfl) (by kernel_rfl) (by kernel_rfl) (fun _ _ _ h => h) (Or.inl ⟨by rfl, fun w' h => by clear h; go_simp⟩) hH ?_
   simp only [Act.put, List.setIfInBounds_toArray, List.set_cons_zero, List.set_cons_succ]
   refine wpAnyH_take (i := 9) (oi := ⟨_, _, _, _, _, _⟩) (v := .pointer (some ⟨b1, o1 + q * 3, none⟩)) rfl (by kernel_rfl) (by kernel_rfl) (by kernel_rfl) (fun _ _ _ h => h) (Or.inl ⟨by rfl, fun w' h => by clear h; go_simp⟩) hH ?_
   simp only [Act.put, List.setIfInBounds_toArray, List.set_cons_zero, List.set_cons_succ]
   refine wpAnyH_take (i := 10) (oi := ⟨_, _, _, _, _, _⟩) (v := Tm.v ⟨xk, xn, xs⟩) rfl (by kernel_rfl) (by kernel_rfl) (by kernel_rfl) (fun _ _ _ h => h) (Or.inl ⟨by rfl, fun w' h => by have z1 := cell_step h hb1 p0; have z2 := cell_step h hb1 p1; have z3 := cell_step h hb1 p2; clear h; go_simp⟩) hH ?_
   simp only [Act.put, List.setIfInBounds_toArray, List.set_cons_zero, List.set_cons_succ]
   refine wpAnyH_ready (rs := [1, 11]) (by kernel_rfl) (by simp) ?_
   refine (AllReadyH.cons (o := ⟨_, _, _, _, _, _⟩) rfl (fun K hK => ?_) (AllReadyH.cons (o := ⟨_, _, _, _, _, _⟩) rfl (fun K hK => ?_) AllReadyH.nil))
   ·have c1 := (cthree HV0.out.bs).2.1
    go_simp
    clear c1
    refine hK.out _ _ hH (fun hH => ?_)
    clear hK K
    try simp only [Act.put, List.setIfInBounds_toArray, List.set_cons_zero, List.set_cons_succ]
    refine wpAnyH_ready (rs := [11]) (by kernel_rfl) (by simp) ?_
    refine (AllReadyH.cons (o := ⟨_, _, _, _, _, _⟩) rfl (fun K hK => ?_) AllReadyH.nil)
    go_simp
    refine (HMC.out _).mono ?_
    rintro e V1 ⟨rfl, hb⟩
    have HV1 : Hid (JJ X1 V1 (nat8 tr) (.slice v1 v2 v3) LJ (.slice none 0 0) []) := HV0.out.later hb
    clear HV0
    refine hK.out _ _ (below_step hH hb) (fun hH => ?_)
    clear hK K hb
    try simp only [Act.put, List.setIfInBounds_toArray, List.set_cons_zero, List.set_cons_succ]
    refine wpAnyH_ready (rs := [12]) (by kernel_rfl) (by simp) ?_
    refine (AllReadyH.cons (o := ⟨_, _, _, _, _, _⟩) rfl (fun K hK => ?_) AllReadyH.nil)
    go_simp
    have HV2 : Hid (JJ X1 (V1.alloc (.cells #[.int .i64 yk, .int .i64 yn, .string ys] 23)) (nat8 tr) (.slice v1 v2 v3) LJ (.slice none 0 0) []) := HV1.out.later (below1 _ _)
    have HG : Hid (CBlk (V1.alloc (.cells #[.int .i64 yk, .int .i64 yn, .string ys] 23)) V1.heap.size #[.int .i64 yk, .int .i64 yn, .string ys] 23) := CBlk.new _ _ _
    clear hH HV1
    refine hK.out _ _ HV2.out.bw (fun hH => ?_)
    clear hK K
    revert hH HV2 HG
    generalize V1.alloc (.cells #[.int .i64 yk, .int .i64 yn, .string ys] 23) = V2
    generalize V1.heap.size = GG
    intro HV2 HG hH
    refine wpAnyH_ready (rs := [13]) (by kernel_rfl) (by simp) ?_
    refine (AllReadyH.cons (o := ⟨_, _, _, _, _, _⟩) rfl (fun K hK => ?_) AllReadyH.nil)
    refine step_terms rfl _ _ rfl (X1.heap.size + 1) (.slice v1 v2 v3) LJ (by rfl) HV2.out.ow GG [⟨yk, yn, ys⟩] (by simp) (by rfl) (row_one HG.out) (by have := HLJ.out; simp only [List.length_cons, List.length_nil]; omega) HV2.out.sz ?_
    intro v' w3 hown hb3 hg3
    obtain ⟨va, vn, vc, rfl⟩ := ownT_form4 hown
    have HW3 : Hid (JJ X1 (w3.setCell ⟨X1.heap.size, 1, none⟩ (.slice va vn vc)) (nat8 tr) (.slice va vn vc) (LJ ++ [⟨yk, yn, ys⟩]) (.slice none 0 0) []) := HV2.out.args hown hb3 hg3
    have hB3 : Below X1.heap.size X1 w3 := HV2.out.bw.trans (hb3.mono (by omega))
    have hD : CBlk w3 X1.heap.size _ 66 := (hb3.block _ (by omega)).trans HV2.out.bs
    obtain ⟨e0, e1, e2⟩ := cthree hD
    have f1 : w3.frozen? ⟨X1.heap.size, 1, none⟩ = false := hD.froz
    clear hD hown hb3 hg3 HV2 HG hH
    refine hK.out _ _ hB3 (fun hH => ?_)
    clear hK K hB3
    simp only [Act.put, List.setIfInBounds_toArray, List.set_cons_zero, List.set_cons_succ]
    refine wpAnyH_take (i := 14) (oi := ⟨_, _, _, _, _, _⟩) (v := .pointer (some ⟨X1.heap.size, 1, none⟩)) rfl (by kernel_rfl) (by kernel_rfl) (by kernel_rfl) (fun _ _ _ h => h) (Or.inl ⟨by rfl, fun w' h => by clear h; go_simp⟩) hH ?_
    simp only [Act.put, List.setIfInBounds_toArray, List.set_cons_zero, List.set_cons_succ]
    refine wpAnyH_ready (rs := [15]) (by kernel_rfl) (by simp) ?_
    refine (AllReadyH.cons (o := ⟨_, _, _, _, _, _⟩) rfl (fun K hK => ?_) AllReadyH.nil)
    go_simp
    clear e0 e1 e2 f1 hH
    refine hK.out _ _ HW3.out.bw (fun hH => ?_)
    clear hK K hH
    refine wpAnyH_done (by kernel_rfl) ?_ _
    go_wp2_with fail
    go_roundg g2
    case measure => omega
    case rel => exact ⟨q + 1, _, by omega, by go_num, by rw [<- HTJ.out]; exact HW3.out⟩
   ·go_simp
    refine (HMC.out _).mono ?_
    rintro e V1 ⟨rfl, hb⟩
    have HV1 : Hid (JJ X1 V1 (nat8 tr) (.slice v1 v2 v3) LJ (.slice none 0 0) []) := HV0.out.later hb
    clear HV0
    refine hK.out _ _ (below_step hH hb) (fun hH => ?_)
    clear hK K hb
    try simp only [Act.put, List.setIfInBounds_toArray, List.set_cons_zero, List.set_cons_succ]
    refine wpAnyH_ready (rs := [1, 12]) (by kernel_rfl) (by simp) ?_
    refine (AllReadyH.cons (o := ⟨_, _, _, _, _, _⟩) rfl (fun K hK => ?_) (AllReadyH.cons (o := ⟨_, _, _, _, _, _⟩) rfl (fun K hK => ?_) AllReadyH.nil))
    ·have c1 := (cthree HV1.out.bs).2.1
     go_simp
     clear c1
     refine hK.out _ _ hH (fun hH => ?_)
     clear hK K
     try simp only [Act.put, List.setIfInBounds_toArray, List.set_cons_zero, List.set_cons_succ]
     refine wpAnyH_ready (rs := [12]) (by kernel_rfl) (by simp) ?_
     refine (AllReadyH.cons (o := ⟨_, _, _, _, _, _⟩) rfl (fun K hK => ?_) AllReadyH.nil)
     go_simp
     have HV2 : Hid (JJ X1 (V1.alloc (.cells #[.int .i64 yk, .int .i64 yn, .string ys] 23)) (nat8 tr) (.slice v1 v2 v3) LJ (.slice none 0 0) []) := HV1.out.later (below1 _ _)
     have HG : Hid (CBlk (V1.alloc (.cells #[.int .i64 yk, .int .i64 yn, .string ys] 23)) V1.heap.size #[.int .i64 yk, .int .i64 yn, .string ys] 23) := CBlk.new _ _ _
     clear hH HV1
     refine hK.out _ _ HV2.out.bw (fun hH => ?_)
     clear hK K
     revert hH HV2 HG
     generalize V1.alloc (.cells #[.int .i64 yk, .int .i64 yn, .string ys] 23) = V2
     generalize V1.heap.size = GG
     intro HV2 HG hH
     refine wpAnyH_ready (rs := [13]) (by kernel_rfl) (by simp) ?_
     refine (AllReadyH.cons (o := ⟨_, _, _, _, _, _⟩) rfl (fun K hK => ?_) AllReadyH.nil)
     refine step_terms rfl _ _ rfl (X1.heap.size + 1) (.slice v1 v2 v3) LJ (by rfl) HV2.out.ow GG [⟨yk, yn, ys⟩] (by simp) (by rfl) (row_one HG.out) (by have := HLJ.out; simp only [List.length_cons, List.length_nil]; omega) HV2.out.sz ?_
     intro v' w3 hown hb3 hg3
     obtain ⟨va, vn, vc, rfl⟩ := ownT_form4 hown
     have HW3 : Hid (JJ X1 (w3.setCell ⟨X1.heap.size, 1, none⟩ (.slice va vn vc)) (nat8 tr) (.slice va vn vc) (LJ ++ [⟨yk, yn, ys⟩]) (.slice none 0 0) []) := HV2.out.args hown hb3 hg3
     have hB3 : Below X1.heap.size X1 w3 := HV2.out.bw.trans (hb3.mono (by omega))
     have hD : CBlk w3 X1.heap.size _ 66 := (hb3.block _ (by omega)).trans HV2.out.bs
     obtain ⟨e0, e1, e2⟩ := cthree hD
     have f1 : w3.frozen? ⟨X1.heap.size, 1, none⟩ = false := hD.froz
     clear hD hown hb3 hg3 HV2 HG hH
     refine hK.out _ _ hB3 (fun hH => ?_)
     clear hK K hB3
     simp only [Act.put, List.setIfInBounds_toArray, List.set_cons_zero, List.set_cons_succ]
     refine wpAnyH_take (i := 14) (oi := ⟨_, _, _, _, _, _⟩) (v := .pointer (some ⟨X1.heap.size, 1, none⟩)) rfl (by kernel_rfl) (by kernel_rfl) (by kernel_rfl) (fun _ _ _ h => h) (Or.inl ⟨by rfl, fun w' h => by clear h; go_simp⟩) hH ?_
     simp only [Act.put, List.setIfInBounds_toArray, List.set_cons_zero, List.set_cons_succ]
     refine wpAnyH_ready (rs := [15]) (by kernel_rfl) (by simp) ?_
     refine (AllReadyH.cons (o := ⟨_, _, _, _, _, _⟩) rfl (fun K hK => ?_) AllReadyH.nil)
     go_simp
     clear e0 e1 e2 f1 hH
     refine hK.out _ _ HW3.out.bw (fun hH => ?_)
     clear hK K hH
     refine wpAnyH_done (by kernel_rfl) ?_ _
     go_wp2_with fail
     go_roundg g2
     case measure => omega
     case rel => exact ⟨q + 1, _, by omega, by go_num, by rw [<- HTJ.out]; exact HW3.out⟩
    ·go_simp
     have HV2 : Hid (JJ X1 (V1.alloc (.cells #[.int .i64 yk, .int .i64 yn, .string ys] 23)) (nat8 tr) (.slice v1 v2 v3) LJ (.slice none 0 0) []) := HV1.out.later (below1 _ _)
     have HG : Hid (CBlk (V1.alloc (.cells #[.int .i64 yk, .int .i64 yn, .string ys] 23)) V1.heap.size #[.int .i64 yk, .int .i64 yn, .string ys] 23) := CBlk.new _ _ _
     clear hH HV1
     refine hK.out _ _ HV2.out.bw (fun hH => ?_)
     clear hK K
     revert hH HV2 HG
     generalize V1.alloc (.cells #[.int .i64 yk, .int .i64 yn, .string ys] 23) = V2
     generalize V1.heap.size = GG
     intro HV2 HG hH
     refine wpAnyH_ready (rs := [1]) (by kernel_rfl) (by simp) ?_
     refine (AllReadyH.cons (o := ⟨_, _, _, _, _, _⟩) rfl (fun K hK => ?_) AllReadyH.nil)
     have c1 := (cthree HV2.out.bs).2.1
     go_simp
     clear c1
     refine hK.out _ _ hH (fun hH => ?_)
     clear hK K
     try simp only [Act.put, List.setIfInBounds_toArray, List.set_cons_zero, List.set_cons_succ]
     refine wpAnyH_ready (rs := [13]) (by kernel_rfl) (by simp) ?_
     refine (AllReadyH.cons (o := ⟨_, _, _, _, _, _⟩) rfl (fun K hK => ?_) AllReadyH.nil)
     refine step_terms rfl _ _ rfl (X1.heap.size + 1) (.slice v1 v2 v3) LJ (by rfl) HV2.out.ow GG [⟨yk, yn, ys⟩] (by simp) (by rfl) (row_one HG.out) (by have := HLJ.out; simp only [List.length_cons, List.length_nil]; omega) HV2.out.sz ?_
     intro v' w3 hown hb3 hg3
     obtain ⟨va, vn, vc, rfl⟩ := ownT_form4 hown
     have HW3 : Hid (JJ X1 (w3.setCell ⟨X1.heap.size, 1, none⟩ (.slice va vn vc)) (nat8 tr) (.slice va vn vc) (LJ ++ [⟨yk, yn, ys⟩]) (.slice none 0 0) []) := HV2.out.args hown hb3 hg3
     have hB3 : Below X1.heap.size X1 w3 := HV2.out.bw.trans (hb3.mono (by omega))
     have hD : CBlk w3 X1.heap.size _ 66 := (hb3.block _ (by omega)).trans HV2.out.bs
     obtain ⟨e0, e1, e2⟩ := cthree hD
     have f1 : w3.frozen? ⟨X1.heap.size, 1, none⟩ = false := hD.froz
     clear hD hown hb3 hg3 HV2 HG hH
     refine hK.out _ _ hB3 (fun hH => ?_)
     clear hK K hB3
     simp only [Act.put, List.setIfInBounds_toArray, List.set_cons_zero, List.set_cons_succ]
     refine wpAnyH_take (i := 14) (oi := ⟨_, _, _, _, _, _⟩) (v := .pointer (some ⟨X1.heap.size, 1, none⟩)) rfl (by kernel_rfl) (by kernel_rfl) (by kernel_rfl) (fun _ _ _ h => h) (Or.inl ⟨by rfl, fun w' h => by clear h; go_simp⟩) hH ?_
     simp only [Act.put, List.setIfInBounds_toArray, List.set_cons_zero, List.set_cons_succ]
     refine wpAnyH_ready (rs := [15]) (by kernel_rfl) (by simp) ?_
     refine (AllReadyH.cons (o := ⟨_, _, _, _, _, _⟩) rfl (fun K hK => ?_) AllReadyH.nil)
     go_simp
     clear e0 e1 e2 f1 hH
     refine hK.out _ _ HW3.out.bw (fun hH => ?_)
     clear hK K hH
     refine wpAnyH_done (by kernel_rfl) ?_ _
     go_wp2_with fail
     go_roundg g2
     case measure => omega
     case rel => exact ⟨q + 1, _, by omega, by go_num, by rw [<- HTJ.out]; exact HW3.out⟩
  | zero =>
  obtain rfl : q = tl.length := by omega
  have k1 : ¬ ((tl.length : Int) < (tl.length : Int)) := by omega
  have HJ1 : Hid (JJ X1 wr (nat8 tr) (.slice v1 v2 v3) (tl.map mkC) (.slice none 0 0) []) := by have := HJ.out; rw [List.take_length] at this; exact this
  clear HJ hq
  generalize hV : wr = V at *
  clear hV
  go_wp2_with fail
  clear c0 c1 z1 z2 k1
  go_loopg [7] tu.length (fun g i wr => ∃ (q : Nat) (u : Value), q + g = tu.length /\ i = .int .i64 q /\ JJ X1 wr (nat8 tr) (.slice v1 v2 v3) (tl.map mkC) u ((tu.take q).map nat8))
  case atStart => exact ⟨0, _, by omega, rfl, HJ1.out⟩
  case round =>
  obtain ⟨q, uv, hq, rfl, hjj⟩ := hrel
  have HJ : Hid (JJ X1 wr (nat8 tr) (.slice v1 v2 v3) (tl.map mkC) uv ((tu.take q).map nat8)) := hjj
  clear HJ1
  obtain ⟨u1, u2, u3, rfl⟩ := ownN_form4 hjj.on
  obtain ⟨c0, c1⟩ := ctwo (HP.out.later hjj.bw)
  have z1 := cell_step hjj.bw hbs d1
  have z2 := cell_step hjj.bw hbs d2
  clear hjj
  cases gk with
  | succ g2 =>
   have k1 : (q : Int) < (tu.length : Int) := by omega
   have k0 : (0 : Int) <= (q : Int) := by omega
   obtain ⟨x, hx⟩ : ∃ x, tu[q]? = some x := ⟨_, List.getElem?_eq_getElem (by omega)⟩
   have HTJ : Hid ((tu.take q).map nat8 ++ [nat8 x] = (tu.take (q + 1)).map nat8) := by show _ = _; rw [List.take_add_one, hx]; simp
   have HLJ : Hid (((tu.take q).map nat8).length <= 1000000000000) := by show _ <= _; rw [List.length_map, List.length_take]; omega
   obtain ⟨ad', cap', ex, -, hxx⟩ := HTU.out
   simp only [Value.slice.injEq] at ex
   obtain ⟨rfl, -, rfl⟩ := ex
   obtain ⟨b1, o1, rfl, hb1, hxx⟩ : ∃ b1 o1, a2 = some ⟨b1, o1, none⟩ /\ b1 < X1.heap.size /\ ∀ (i : Nat) (x : Int), tu[i]? = some x -> X1.cell? ⟨b1, o1 + i, none⟩ = some (.int .i64 x) := by
    rcases hxx with hxx | h
    ·rw [hxx] at hx; simp at hx
    ·exact h
   have p0 := hxx q _ hx
   have HMC : Hid (∀ X : World, Calls Tryz.prog 39 #[.int .i64 x] X fun e w' => e = .returned (.int .i64 (nat8 x)) /\ w' = X) := fun X => natural9_any x (HUR.out x (List.mem_of_getElem? hx)) X
   obtain ⟨y, hy⟩ : ∃ y, nat8 x = y := ⟨_, rfl⟩
   rw [hy] at HMC HTJ
   clear hxx hx hy
   generalize (tu.take q).map nat8 = UJ at *
   go_wp2_with fail
   clear c0 c1 z1 z2
   have HV0 : Hid (JJ X1 wr.drew (nat8 tr) (.slice v1 v2 v3) (tl.map mkC) (.slice u1 u2 u3) UJ) := HJ.out.later (Below.refl _ _).drew
   refine wp_region_held_drew (S := fun w' => Below X1.heap.size X1 w') (by kernel_rfl) HJ.out.bw.drew (fun hH => ?_)
   revert hH HV0
   generalize wr.drew = V0
   intro HV0 hH
   refine wpAnyH_take (i := 0) (oi := ⟨_, _, _, _, _, _⟩) (v := .pointer (some ⟨X1.heap.size, 2, none⟩)) rfl (by kernel_rfl) (by kernel_rfl) (by kernel_rfl) (fun _ _ _ h => h) (Or.inl ⟨by rfl, fun w' h => by clear h; go_simp⟩) hH ?_
   simp only [Act.put, List.setIfInBounds_toArray, List.set_cons_zero, List.set_cons_succ]
   refine wpAnyH_take (i := 2) (oi := ⟨_, _, _, _, _, _⟩) (v := .pointer (some ⟨w.heap.size, 1, none⟩)) rfl (by kernel_rfl) (by kernel_rfl) (by kernel_rfl) (fun _ _ _ h => h) (Or.inl ⟨by rfl, fun w' h => by clear h; go_simp⟩) hH ?_
   simp only [Act.put, List.setIfInBounds_toArray, List.set_cons_zero, List.set_cons_succ]
   refine wpAnyH_take (i := 3) (oi := ⟨_, _, _, _, _, _⟩) (v := .slice (some ⟨b, o, none⟩) S.length sc) rfl (by kernel_rfl) (by kernel_rfl) (by kernel_rfl) (fun _ _ _ h => h) (Or.inl ⟨by rfl, fun w' h => by obtain ⟨c0, c1⟩ := ctwo (HP.out.later h); clear h; go_simp⟩) hH ?_
   simp only [Act.put, List.setIfInBounds_toArray, List.set_cons_zero, List.set_cons_succ]
   refine wpAnyH_take (i := 4) (oi := ⟨_, _, _, _, _, _⟩) (v := .int .i64 (j : Int)) rfl (by kernel_rfl) (by kernel_rfl) (by kernel_rfl) (fun _ _ _ h => h) (Or.inl ⟨by rfl, fun w' h => by clear h; go_simp⟩) hH ?_
   simp only [Act.put, List.setIfInBounds_toArray, List.set_cons_zero, List.set_cons_succ]
   refine wpAnyH_take (i := 5) (oi := ⟨_, _, _, _, _, _⟩) (v := .pointer (some ⟨b, o + j * 3, none⟩)) rfl (by kernel_rfl) (by kernel_rfl) (by kernel_rfl) (fun _ _ _ h => h) (Or.inl ⟨by rfl, fun w' h => by clear h; go_simp⟩) hH ?_
   simp only [Act.put, List.setIfInBounds_toArray, List.set_cons_zero, List.set_cons_succ]
   refine wpAnyH_take (i := 6) (oi := ⟨_, _, _, _, _, _⟩) (v := .pointer (some ⟨b, o + j * 3 + 2, none⟩)) rfl (by kernel_rfl) (by kernel_rfl) (by kernel_rfl) (fun _ _ _ h => h) (Or.inl ⟨by rfl, fun w' h => by clear h; go_simp⟩) hH ?_
   simp only [Act.put, List.setIfInBounds_toArray, List.set_cons_zero, List.set_cons_succ]
   refine wpAnyH_take (i := 7) (oi := ⟨_, _, _, _, _, _⟩) (v := .slice (some ⟨b1, o1, none⟩) tu.length cap2) rfl (by kernel_rfl) (by kernel_rfl) (by kernel_rfl) (fun _ _ _ h => h) (Or.inl ⟨by rfl, fun w' h => by have z := cell_step h hbs d2; clear h; go_simp⟩) hH ?_
   simp only [Act.put, List.setIfInBounds_toArray, List.set_cons_zero, List.set_cons_succ]
   refine wpAnyH_take (i := 8) (oi := ⟨_, _, _, _, _, _⟩) (v := .int .i64 (q : Int)) rfl (by kernel_rfl) (by kernel_rfl) (by kernel_rfl) (fun _ _ _ h => h) (Or.inl ⟨by rfl, fun w' h => by clear h; go_simp⟩) hH ?_
   simp only [Act.put, List.setIfInBounds_toArray, List.set_cons_zero, List.set_cons_succ]
   refine wpAnyH_take (i := 9) (oi := ⟨_, _, _, _, _, _⟩) (v := .pointer (some ⟨b1, o1 + q, none⟩)) rfl (by kernel_rfl) (by kernel_rfl) (by kernel_rfl) (fun _ _ _ h => h) (Or.inl ⟨by rfl, fun w' h => by clear h; go_simp⟩) hH ?_
   simp only [Act.put, List.setIfInBounds_toArray, List.set_cons_zero, List.set_cons_succ]
   refine wpAnyH_take (i := 10) (oi := ⟨_, _, _, _, _, _⟩) (v := .int .i64 x) rfl (by kernel_rfl) (by kernel_rfl) (by kernel_rfl) (fun _ _ _ h => h) (Or.inl ⟨by rfl, fun w' h => by have z1 := cell_step h hb1 p0; clear h; go_simp⟩) hH ?_
   simp only [Act.put, List.setIfInBounds_toArray, List.set_cons_zero, List.set_cons_succ]
   refine wpAnyH_ready (rs := [1, 11]) (by kernel_rfl) (by simp) ?_
   refine (AllReadyH.cons (o := ⟨_, _, _, _, _, _⟩) rfl (fun K hK => ?_) (AllReadyH.cons (o := ⟨_, _, _, _, _, _⟩) rfl (fun K hK => ?_) AllReadyH.nil))
   ·have c1 := (cthree HV0.out.bs).2.2
    go_simp
    clear c1
    refine hK.out _ _ hH (fun hH => ?_)
    clear hK K
    try simp only [Act.put, List.setIfInBounds_toArray, List.set_cons_zero, List.set_cons_succ]
    refine wpAnyH_ready (rs := [11]) (by kernel_rfl) (by simp) ?_
    refine (AllReadyH.cons (o := ⟨_, _, _, _, _, _⟩) rfl (fun K hK => ?_) AllReadyH.nil)
    go_simp
    refine (HMC.out _).mono ?_
    rintro e V1 ⟨rfl, ew⟩
    have HV1 : Hid (JJ X1 V1 (nat8 tr) (.slice v1 v2 v3) (tl.map mkC) (.slice u1 u2 u3) UJ) := by rw [ew]; exact HV0.out
    have hH2 : Below X1.heap.size X1 V1 := HV1.out.bw
    clear HV0 hH ew
    refine hK.out _ _ hH2 (fun hH => ?_)
    clear hK K hH2
    try simp only [Act.put, List.setIfInBounds_toArray, List.set_cons_zero, List.set_cons_succ]
    refine wpAnyH_ready (rs := [12]) (by kernel_rfl) (by simp) ?_
    refine (AllReadyH.cons (o := ⟨_, _, _, _, _, _⟩) rfl (fun K hK => ?_) AllReadyH.nil)
    go_simp
    have HV2 : Hid (JJ X1 (V1.alloc (.cells #[.int .i64 y] 3)) (nat8 tr) (.slice v1 v2 v3) (tl.map mkC) (.slice u1 u2 u3) UJ) := HV1.out.later (below1 _ _)
    have HG : Hid (CBlk (V1.alloc (.cells #[.int .i64 y] 3)) V1.heap.size #[.int .i64 y] 3) := CBlk.new _ _ _
    clear hH HV1
    refine hK.out _ _ HV2.out.bw (fun hH => ?_)
    clear hK K
    revert hH HV2 HG
    generalize V1.alloc (.cells #[.int .i64 y] 3) = V2
    generalize V1.heap.size = GG
    intro HV2 HG hH
    refine wpAnyH_ready (rs := [13]) (by kernel_rfl) (by simp) ?_
    refine (AllReadyH.cons (o := ⟨_, _, _, _, _, _⟩) rfl (fun K hK => ?_) AllReadyH.nil)
    refine step_num rfl _ _ rfl (X1.heap.size + 1) (.slice u1 u2 u3) UJ (by rfl) HV2.out.on GG y (by rfl) HG.out (by have := HLJ.out; omega) HV2.out.sz ?_
    intro v' w3 hown hb3 hg3
    obtain ⟨va, vn, vc, rfl⟩ := ownN_form4 hown
    have HW3 : Hid (JJ X1 (w3.setCell ⟨X1.heap.size, 2, none⟩ (.slice va vn vc)) (nat8 tr) (.slice v1 v2 v3) (tl.map mkC) (.slice va vn vc) (UJ ++ [y])) := HV2.out.nums hown hb3 hg3
    have hB3 : Below X1.heap.size X1 w3 := HV2.out.bw.trans (hb3.mono (by omega))
    have hD : CBlk w3 X1.heap.size _ 66 := (hb3.block _ (by omega)).trans HV2.out.bs
    obtain ⟨e0, e1, e2⟩ := cthree hD
    have f1 : w3.frozen? ⟨X1.heap.size, 2, none⟩ = false := hD.froz
    clear hD hown hb3 hg3 HV2 HG hH
    refine hK.out _ _ hB3 (fun hH => ?_)
    clear hK K hB3
    simp only [Act.put, List.setIfInBounds_toArray, List.set_cons_zero, List.set_cons_succ]
    refine wpAnyH_take (i := 14) (oi := ⟨_, _, _, _, _, _⟩) (v := .pointer (some ⟨X1.heap.size, 2, none⟩)) rfl (by kernel_rfl) (by kernel_rfl) (by kernel_rfl) (fun _ _ _ h => h) (Or.inl ⟨by rfl, fun w' h => by clear h; go_simp⟩) hH ?_
    simp only [Act.put, List.setIfInBounds_toArray, List.set_cons_zero, List.set_cons_succ]
    refine wpAnyH_ready (rs := [15]) (by kernel_rfl) (by simp) ?_
    refine (AllReadyH.cons (o := ⟨_, _, _, _, _, _⟩) rfl (fun K hK => ?_) AllReadyH.nil)
    go_simp
    clear e0 e1 e2 f1 hH
    refine hK.out _ _ HW3.out.bw (fun hH => ?_)
    clear hK K hH
    refine wpAnyH_done (by kernel_rfl) ?_ _
    go_wp2_with fail
    go_roundg g2
    case measure => omega
    case rel => exact ⟨q + 1, _, by omega, by go_num, by rw [<- HTJ.out]; exact HW3.out⟩
   ·go_simp
    refine (HMC.out _).mono ?_
    rintro e V1 ⟨rfl, ew⟩
    have HV1 : Hid (JJ X1 V1 (nat8 tr) (.slice v1 v2 v3) (tl.map mkC) (.slice u1 u2 u3) UJ) := by rw [ew]; exact HV0.out
    have hH2 : Below X1.heap.size X1 V1 := HV1.out.bw
    clear HV0 hH ew
    refine hK.out _ _ hH2 (fun hH => ?_)
    clear hK K hH2
    try simp only [Act.put, List.setIfInBounds_toArray, List.set_cons_zero, List.set_cons_succ]
    refine wpAnyH_ready (rs := [1, 12]) (by kernel_rfl) (by simp) ?_
    refine (AllReadyH.cons (o := ⟨_, _, _, _, _, _⟩) rfl (fun K hK => ?_) (AllReadyH.cons (o := ⟨_, _, _, _, _, _⟩) rfl (fun K hK => ?_) AllReadyH.nil))
    ·have c1 := (cthree HV1.out.bs).2.2
     go_simp
     clear c1
     refine hK.out _ _ hH (fun hH => ?_)
     clear hK K
     try simp only [Act.put, List.setIfInBounds_toArray, List.set_cons_zero, List.set_cons_succ]
     refine wpAnyH_ready (rs := [12]) (by kernel_rfl) (by simp) ?_
     refine (AllReadyH.cons (o := ⟨_, _, _, _, _, _⟩) rfl (fun K hK => ?_) AllReadyH.nil)
     go_simp
     have HV2 : Hid (JJ X1 (V1.alloc (.cells #[.int .i64 y] 3)) (nat8 tr) (.slice v1 v2 v3) (tl.map mkC) (.slice u1 u2 u3) UJ) := HV1.out.later (below1 _ _)
     have HG : Hid (CBlk (V1.alloc (.cells #[.int .i64 y] 3)) V1.heap.size #[.int .i64 y] 3) := CBlk.new _ _ _
     clear hH HV1
     refine hK.out _ _ HV2.out.bw (fun hH => ?_)
     clear hK K
     revert hH HV2 HG
     generalize V1.alloc (.cells #[.int .i64 y] 3) = V2
     generalize V1.heap.size = GG
     intro HV2 HG hH
     refine wpAnyH_ready (rs := [13]) (by kernel_rfl) (by simp) ?_
     refine (AllReadyH.cons (o := ⟨_, _, _, _, _, _⟩) rfl (fun K hK => ?_) AllReadyH.nil)
     refine step_num rfl _ _ rfl (X1.heap.size + 1) (.slice u1 u2 u3) UJ (by rfl) HV2.out.on GG y (by rfl) HG.out (by have := HLJ.out; omega) HV2.out.sz ?_
     intro v' w3 hown hb3 hg3
     obtain ⟨va, vn, vc, rfl⟩ := ownN_form4 hown
     have HW3 : Hid (JJ X1 (w3.setCell ⟨X1.heap.size, 2, none⟩ (.slice va vn vc)) (nat8 tr) (.slice v1 v2 v3) (tl.map mkC) (.slice va vn vc) (UJ ++ [y])) := HV2.out.nums hown hb3 hg3
     have hB3 : Below X1.heap.size X1 w3 := HV2.out.bw.trans (hb3.mono (by omega))
     have hD : CBlk w3 X1.heap.size _ 66 := (hb3.block _ (by omega)).trans HV2.out.bs
     obtain ⟨e0, e1, e2⟩ := cthree hD
     have f1 : w3.frozen? ⟨X1.heap.size, 2, none⟩ = false := hD.froz
     clear hD hown hb3 hg3 HV2 HG hH
     refine hK.out _ _ hB3 (fun hH => ?_)
     clear hK K hB3
     simp only [Act.put, List.setIfInBounds_toArray, List.set_cons_zero, List.set_cons_succ]
     refine wpAnyH_take (i := 14) (oi := ⟨_, _, _, _, _, _⟩) (v := .pointer (some ⟨X1.heap.size, 2, none⟩)) rfl (by kernel_rfl) (by kernel_rfl) (by kernel_rfl) (fun _ _ _ h => h) (Or.inl ⟨by rfl, fun w' h => by clear h; go_simp⟩) hH ?_
     simp only [Act.put, List.setIfInBounds_toArray, List.set_cons_zero, List.set_cons_succ]
     refine wpAnyH_ready (rs := [15]) (by kernel_rfl) (by simp) ?_
     refine (AllReadyH.cons (o := ⟨_, _, _, _, _, _⟩) rfl (fun K hK => ?_) AllReadyH.nil)
     go_simp
     clear e0 e1 e2 f1 hH
     refine hK.out _ _ HW3.out.bw (fun hH => ?_)
     clear hK K hH
     refine wpAnyH_done (by kernel_rfl) ?_ _
     go_wp2_with fail
     go_roundg g2
     case measure => omega
     case rel => exact ⟨q + 1, _, by omega, by go_num, by rw [<- HTJ.out]; exact HW3.out⟩
    ·go_simp
     have HV2 : Hid (JJ X1 (V1.alloc (.cells #[.int .i64 y] 3)) (nat8 tr) (.slice v1 v2 v3) (tl.map mkC) (.slice u1 u2 u3) UJ) := HV1.out.later (below1 _ _)
     have HG : Hid (CBlk (V1.alloc (.cells #[.int .i64 y] 3)) V1.heap.size #[.int .i64 y] 3) := CBlk.new _ _ _
     clear hH HV1
     refine hK.out _ _ HV2.out.bw (fun hH => ?_)
     clear hK K
     revert hH HV2 HG
     generalize V1.alloc (.cells #[.int .i64 y] 3) = V2
     generalize V1.heap.size = GG
     intro HV2 HG hH
     refine wpAnyH_ready (rs := [1]) (by kernel_rfl) (by simp) ?_
     refine (AllReadyH.cons (o := ⟨_, _, _, _, _, _⟩) rfl (fun K hK => ?_) AllReadyH.nil)
     have c1 := (cthree HV2.out.bs).2.2
     go_simp
     clear c1
     refine hK.out _ _ hH (fun hH => ?_)
     clear hK K
     try simp only [Act.put, List.setIfInBounds_toArray, List.set_cons_zero, List.set_cons_succ]
     refine wpAnyH_ready (rs := [13]) (by kernel_rfl) (by simp) ?_
     refine (AllReadyH.cons (o := ⟨_, _, _, _, _, _⟩) rfl (fun K hK => ?_) AllReadyH.nil)
     refine step_num rfl _ _ rfl (X1.heap.size + 1) (.slice u1 u2 u3) UJ (by rfl) HV2.out.on GG y (by rfl) HG.out (by have := HLJ.out; omega) HV2.out.sz ?_
     intro v' w3 hown hb3 hg3
     obtain ⟨va, vn, vc, rfl⟩ := ownN_form4 hown
     have HW3 : Hid (JJ X1 (w3.setCell ⟨X1.heap.size, 2, none⟩ (.slice va vn vc)) (nat8 tr) (.slice v1 v2 v3) (tl.map mkC) (.slice va vn vc) (UJ ++ [y])) := HV2.out.nums hown hb3 hg3
     have hB3 : Below X1.heap.size X1 w3 := HV2.out.bw.trans (hb3.mono (by omega))
     have hD : CBlk w3 X1.heap.size _ 66 := (hb3.block _ (by omega)).trans HV2.out.bs
     obtain ⟨e0, e1, e2⟩ := cthree hD
     have f1 : w3.frozen? ⟨X1.heap.size, 2, none⟩ = false := hD.froz
     clear hD hown hb3 hg3 HV2 HG hH
     refine hK.out _ _ hB3 (fun hH => ?_)
     clear hK K hB3
     simp only [Act.put, List.setIfInBounds_toArray, List.set_cons_zero, List.set_cons_succ]
     refine wpAnyH_take (i := 14) (oi := ⟨_, _, _, _, _, _⟩) (v := .pointer (some ⟨X1.heap.size, 2, none⟩)) rfl (by kernel_rfl) (by kernel_rfl) (by kernel_rfl) (fun _ _ _ h => h) (Or.inl ⟨by rfl, fun w' h => by clear h; go_simp⟩) hH ?_
     simp only [Act.put, List.setIfInBounds_toArray, List.set_cons_zero, List.set_cons_succ]
     refine wpAnyH_ready (rs := [15]) (by kernel_rfl) (by simp) ?_
     refine (AllReadyH.cons (o := ⟨_, _, _, _, _, _⟩) rfl (fun K hK => ?_) AllReadyH.nil)
     go_simp
     clear e0 e1 e2 f1 hH
     refine hK.out _ _ HW3.out.bw (fun hH => ?_)
     clear hK K hH
     refine wpAnyH_done (by kernel_rfl) ?_ _
     go_wp2_with fail
     go_roundg g2
     case measure => omega
     case rel => exact ⟨q + 1, _, by omega, by go_num, by rw [<- HTJ.out]; exact HW3.out⟩
  | zero =>
  obtain rfl : q = tu.length := by omega
  have k1 : ¬ ((tu.length : Int) < (tu.length : Int)) := by omega
  have HJ1 : Hid (JJ X1 wr (nat8 tr) (.slice v1 v2 v3) (tl.map mkC) (.slice u1 u2 u3) (tu.map nat8)) := by have := HJ.out; rw [List.take_length] at this; exact this
  clear HJ hq
  obtain ⟨e0, e1⟩ := ctwo (HOB.out.later HJ1.out.bw)
  obtain ⟨s0, s1, s2⟩ := cthree HJ1.out.bs
  have HOW : Hid (OwnS wr (w1.heap.size + 1) (.slice ua S'.length uc) S') := HOS.out.o.later HJ1.out.bw
  have hszr := HJ1.out.sz
  go_wp2_with (at_builtin; refine sapp_one rfl _ _ rfl (w1.heap.size + 1) (.slice ua S'.length uc) S' rfl (HOW.out.later (below1 _ _)) wr.heap.size ⟨nat8 tr, tl.map mkC, .slice v1 v2 v3, tu.map nat8, .slice u1 u2 u3⟩ rfl (CBlk.new _ _ _) (W := wr) (sapp_one9 (s := ⟨nat8 tr, tl.map mkC, .slice v1 v2 v3, tu.map nat8, .slice u1 u2 u3⟩) (row_mono HJ1.out.ow (Nat.zero_le _)) (row_mono HJ1.out.on (Nat.zero_le _)) (by simp only [List.length_map]; omega) (by simp only [List.length_map]; omega)) (by have := HSL.out; omega) (by simp; omega) ?_; intro v5 w5 hown hb5 hg5 hv5; obtain ⟨q1, q2, e5⟩ := hown.form; have e6 : v5 = .slice q1 (S'.length + 1) q2 := (by rw [e5]; simp); clear e5; subst e6; have HG5 : Hid (Kt 66 wr w5) := (Kt.of (below1 _ _)).trans (row_grown (HOW.out.later (below1 _ _)) hg5); have HN5 : Hid (OwnS w5 (w1.heap.size + 1) _ (S' ++ [_])) := hown; have HB5 : Hid (Below (w1.heap.size + 1) wr w5) := ((below1 wr _).mono (by omega)).trans hb5; have HD5 : Hid (CBlk w5 w1.heap.size _ 35) := (HOB.out.later HJ1.out.bw).kt HG5.out (by decide); clear e0 e1; obtain ⟨e0, e1⟩ := ctwo HD5.out; have f1 : w5.frozen? ⟨w1.heap.size, 1, none⟩ = false := HD5.out.froz; clear hown hb5 hg5 hv5 s0 s1 s2)
  go_roundg g
  case measure => omega
  case rel =>
   have hk : Kt 35 w5 (w5.setCell ⟨w1.heap.size, 1, none⟩ (.slice q1 (S'.length + 1) q2)) := Kt.set HD5.out
   have hset := HD5.out.set 1 (.slice q1 (S'.length + 1) q2)
   have hos1 := HOS.out.later HJ1.out.bw
   have hn5 := row_kt HN5.out hk (by decide)
   refine ⟨j + 1, S' ++ [(⟨nat8 tr, tl.map mkC, .slice v1 v2 v3, tu.map nat8, .slice u1 u2 u3⟩ : St)], _, by omega, by go_num, by rw [List.length_append, HSL.out]; rfl, ?_, ⟨hn5, fun s hs => ?_, ?_⟩, by simpa using hset, ((HB.out.trans (HJ1.out.bw.mono (by omega))).trans (HB5.out.mono (by omega))).setCell (Nat.le_refl _) _⟩
   ·rw [List.map_append, HSK.out, HSJ.out]; rfl
   ·rcases List.mem_append.1 hs with hs | hs
    ·exact ⟨row_kt (row_kt (hos1.t s hs).1 HG5.out (by decide)) hk (by decide), row_kt (row_kt (hos1.t s hs).2 HG5.out (by decide)) hk (by decide)⟩
    ·rw [List.mem_singleton] at hs; subst hs
     exact ⟨row_kt (row_kt (row_mono HJ1.out.ow (by omega)) HG5.out (by decide)) hk (by decide), row_kt (row_kt (row_mono HJ1.out.on (by omega)) HG5.out (by decide)) hk (by decide)⟩
   ·refine List.pairwise_append.2 ⟨HOS.out.d, List.pairwise_singleton _ _, fun a ha c hc => ?_⟩
    rw [List.mem_singleton] at hc; subst hc
    have h1 := HOS.out.t a ha
    exact ⟨fun k hk1 hk2 => by have q1 := (World.ownsRow.lt h1.1 k hk1).2; have q2 := (World.ownsRow.lt HJ1.out.ow k hk2).1; omega, fun k hk1 hk2 => by have q1 := (World.ownsRow.lt h1.2 k hk1).2; have q2 := (World.ownsRow.lt HJ1.out.on k hk2).1; omega⟩
 | zero =>
  obtain rfl : j = S.length := by omega
  have hz : ¬ ((S.length : Int) < (S.length : Int)) := by omega
  obtain ⟨e0, e1⟩ := ctwo HOB.out
  have HQ : Hid (CBlk X1 (w.heap.size + 1) #[.slice none 0 0, .slice none 0 0] 35) := HQ1.out.later HB.out
  obtain ⟨r0, r1⟩ := ctwo HQ.out
  have f0 : X1.frozen? ⟨w.heap.size + 1, 0, none⟩ = false := HQ.out.froz
  have f1 : X1.frozen? ⟨w.heap.size + 1, 1, none⟩ = false := HQ.out.froz
  go_wp2_with fail
  have hk1 : Kt 35 X1 (X1.setCell ⟨w.heap.size + 1, 0, none⟩ (.slice ma R'.length mc)) := Kt.set HQ.out
  have hq2 := HQ.out.set 0 (.slice ma R'.length mc)
  have hk2 : Kt 35 (X1.setCell ⟨w.heap.size + 1, 0, none⟩ (.slice ma R'.length mc)) ((X1.setCell ⟨w.heap.size + 1, 0, none⟩ (.slice ma R'.length mc)).setCell ⟨w.heap.size + 1, 1, none⟩ (.slice ua S'.length uc)) := Kt.set hq2
  have hk := hk1.trans hk2
  exact bodyPost_ret (v := .agg #[.slice ma R'.length mc, .slice ua S'.length uc]) (by simp [results, Tryz.results14, go_sem, r0, r1]) rfl ⟨_, _, R', S', w1.heap.size + 1, rfl, HMK.out, by rw [HSK.out, List.take_length], (HOM.out.later HB.out).kt hk (by decide) (by decide) (by decide) (by decide), HOS.out.kt hk (by decide) (by decide) (by decide), fun c hc => ⟨fun k h => Nat.lt_succ_of_lt ((HLO.out c hc).h k h), fun k h => Nat.lt_succ_of_lt ((HLO.out c hc).b k h), fun y hy k h => Nat.lt_succ_of_lt ((HLO.out c hc).x y hy k h), fun k h => Nat.lt_succ_of_lt ((HLO.out c hc).t k h)⟩, Nat.le_succ_of_le HW1.out.size, by simpa [World.setCell] using hsz, ((HW1.out.trans (HB.out.mono HW1.out.size)).setCell (Nat.le_succ _) _).setCell (Nat.le_succ _) _⟩
end Go.Proofs.YtelcoihmiglceaaGreat
