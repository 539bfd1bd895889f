import Derived.Test.YtmbmchbninlhpaaGreatDoorCL1
import Derived.Test.YtmbmchbninlhpaaGreatDoorCV2
import Derived.Test.YtmbmchbninlhpaaGreatDoorCR4
import Derived.Deep.RegionHeld3
namespace Go.Proofs.YtmbmchbninlhpaaGreatDoor
open Go.RowKit

theorem OCQ.kt {t : TypeId} {B : Nat} {X X' : World} {v : Value} {l : List Cm} (h : OCQ X B v l) (hk : Kt t X X') (h0 : 62 ≠ t) (h1 : 56 ≠ t) (h2 : 58 ≠ t) (h3 : 97 ≠ t) : OCQ X' B v l := ⟨row_kt h.o hk h0, fun c hc => ⟨(h.m c hc).1.kt hk h1 h2 h3, (h.m c hc).2⟩⟩
theorem cstep_g {ops : Array Oper} {o : Oper} {a : Act} {K : Act -> World -> Prop} {Q : Exit -> Act -> World -> Prop} {E : Prop} {w : World} (hgd : o.guard = none) (s x : Operand)
  (ho : o.op = .call { callee := .builtin .append, args := #[s, x], argTypes := #[22, 22] }) (base : Nat) (v : Value) (l : List Cm) (hs : a.eval s = v) (hown : OwnC w base v l)
  (b : Nat) (y : Cm) (hx : a.eval x = .slice (some ⟨b, 0, none⟩) 1 1) (hblk : CBlk w b y.cs 62) {W : World} (h1c : y.ok W) (hlen : l.length <= 1000000000000) (hbase : base <= w.heap.size)
  (h : ∀ v' w', OwnC w' base v' (l ++ [y]) -> Below base w w' -> w.grownBy w' v.ownBlock -> K (a.put o.dst v') w') : if Region.wanted o (yielded ops a.tmps) = true then Oper.wp Tryz.prog o a w K Q else E := by
 obtain ⟨i0, hi0, hz0, hz1, hz2⟩ := info_parts Tryz.infoClause
 refine step_append_lies _ hgd s x 22 ho base 62 i0 _ 7 120 Tryz.underlying22 hi0 hz0 hz1 hz2 rfl (by omega) v l.length (ccs l) hs hown ⟨b, 0, none⟩ 1 1 (ccs [y]) hx (by rw [ccs_len]; rfl) ?_ (fun u hu => by obtain ⟨z, hz, hu⟩ := List.mem_flatMap.1 hu; rw [List.mem_singleton] at hz; subst hz; exact csl_one h1c u hu) (by omega) (by unfold maxLen; omega) (by omega) hbase _ rfl ?_
 ·intro j u hj
  have := World.news_of_block (cs := y.cs) (t := 62) (fr := (0, 0)) hblk j u
  exact this (by simpa [ccs, Cm.csl] using hj)
 ·intro g cap w' h1 h2 _ _
  refine h _ w' ?_ (grown_below3 h2 (fun k hk => (World.ownsRow.lt hown k hk).1) hbase) h2
  unfold OwnC
  rw [List.length_append, ccs_app]
  exact h1
theorem sstep_g {ops : Array Oper} {o : Oper} {a : Act} {K : Act -> World -> Prop} {Q : Exit -> Act -> World -> Prop} {E : Prop} {w : World} (hgd : o.guard = none) (s x : Operand)
  (ho : o.op = .call { callee := .builtin .append, args := #[s, x], argTypes := #[23, 23] }) (base : Nat) (v : Value) (l : List St) (hs : a.eval s = v) (hown : OwnS w base v l)
  (b : Nat) (y : St) (hx : a.eval x = .slice (some ⟨b, 0, none⟩) 1 1) (hblk : CBlk w b y.cs 50) {W : World} (h1c : y.ok W) (hlen : l.length <= 1000000000000) (hbase : base <= w.heap.size)
  (h : ∀ v' w', OwnS w' base v' (l ++ [y]) -> Below base w w' -> w.grownBy w' v.ownBlock -> K (a.put o.dst v') w') : if Region.wanted o (yielded ops a.tmps) = true then Oper.wp Tryz.prog o a w K Q else E := by
 obtain ⟨i0, hi0, hz0, hz1, hz2⟩ := info_parts Tryz.infoStep
 refine step_append_lies _ hgd s x 23 ho base 50 i0 _ 3 56 Tryz.underlying23 hi0 hz0 hz1 hz2 rfl (by omega) v l.length (scs l) hs hown ⟨b, 0, none⟩ 1 1 (scs [y]) hx (by rw [scs_len]; rfl) ?_ (fun u hu => by obtain ⟨z, hz, hu⟩ := List.mem_flatMap.1 hu; rw [List.mem_singleton] at hz; subst hz; exact ssl_one h1c u hu) (by omega) (by unfold maxLen; omega) (by omega) hbase _ rfl ?_
 ·intro j u hj
  have := World.news_of_block (cs := y.cs) (t := 50) (fr := (0, 0)) hblk j u
  exact this (by simpa [scs, St.csl] using hj)
 ·intro g cap w' h1 h2 _ _
  refine h _ w' ?_ (grown_below3 h2 (fun k hk => (World.ownsRow.lt hown k hk).1) hbase) h2
  unfold OwnS
  rw [List.length_append, scs_app]
  exact h1
structure PQp (w X : World) (B : List Int) (s : Qs) (rv : Value) (R : List Cm) (sv : Value) (S : List St) : Prop where
 bl : Below w.heap.size w X
 rq : RqS X (w.heap.size + 1) B s
 res : CBlk X w.heap.size #[.slice none 0 0, .slice none 0 0] 25
 box : CBlk X (w.heap.size + 1 + 1) #[rv, sv] 25
 oc : OCQ X (w.heap.size + 3) rv R
 os : OSL X (w.heap.size + 3) sv S
theorem PQp.sz {w X : World} {B : List Int} {s : Qs} {rv sv : Value} {R : List Cm} {S : List St} (h : PQp w X B s rv R sv S) : w.heap.size + 3 <= X.heap.size := by have := h.box.lt; omega
theorem PQp.step {w X X' : World} {B : List Int} {s s' : Qs} {rv sv : Value} {R : List Cm} {S : List St} (h : PQp w X B s rv R sv S) (hs : RqS X' (w.heap.size + 1) B s') (hb : Bv (w.heap.size + 1) X.heap.size X X') : PQp w X' B s' rv R sv S :=
 ⟨h.bl.trans ((hb.mono h.bl.size).below (Nat.le_succ _)), hs, Blk.bl9 h.res hb (by omega), Blk.bl9 h.box hb (by omega), h.oc.blM hb (by omega), h.os.blM hb (by omega)⟩
theorem PQp.below {w X X' : World} {B : List Int} {s : Qs} {rv sv : Value} {R : List Cm} {S : List St} (h : PQp w X B s rv R sv S) (hb : Below X.heap.size X X') : PQp w X' B s rv R sv S := h.step (h.rq.below hb) (Bv.of hb)
theorem PQp.er {w X : World} {B : List Int} {s : Qs} {rv sv : Value} {R : List Cm} {S : List St} (h : PQp w X B s rv R sv S) : X.cell? ⟨w.heap.size + 1, 2, none⟩ = some (.int .i64 s.er) := by
 obtain ⟨a, cap, c0, c1, c2, -⟩ := h.rq.cells
 exact c2
theorem PQp.rules {w X X' : World} {B : List Int} {s : Qs} {rv sv v' : Value} {R : List Cm} {S : List St} {c : Cm} (h : PQp w X B s rv R sv S) (hc : MC8 (w.heap.size + 3) X c /\ SZ c.key) (ho : OwnC X' (w.heap.size + 3) v' (R ++ [c])) (hb : Below (w.heap.size + 3) X X') (hg : X.grownBy X' rv.ownBlock) : PQp w (X'.setCell ⟨w.heap.size + 1 + 1, 0, none⟩ v') B s v' (R ++ [c]) sv S := by
 have hs : CBlk X' (w.heap.size + 1 + 1) #[rv, sv] 25 := (hb.block _ (by omega)).trans h.box
 have hk : Kt 25 X' (X'.setCell ⟨w.heap.size + 1 + 1, 0, none⟩ v') := Kt.set hs
 have hk1 : Kt 62 X X' := row_grown h.oc.o hg
 have hs2 := hs.set 0 v'
 exact ⟨(h.bl.trans (hb.mono (by omega))).setCell (p := ⟨w.heap.size + 1 + 1, 0, none⟩) (show w.heap.size <= w.heap.size + 1 + 1 by omega) _, (h.rq.low hb (by omega)).off (by omega), (heap_setCell_other _ _ _ _ (by show _ ≠ w.heap.size + 1 + 1; omega)).trans ((hb.block _ (by omega)).trans h.res), by simpa using hs2,
  (h.oc.add ho hk1 hc).kt hk (by decide) (by decide) (by decide) (by decide), (h.os.kt hk1 (by decide) (by decide) (by decide)).kt hk (by decide) (by decide) (by decide)⟩
theorem PQp.steps {w X X' : World} {B : List Int} {s : Qs} {rv sv v' : Value} {R : List Cm} {S : List St} {c : St} (h : PQp w X B s rv R sv S) (hc : MS8 (w.heap.size + 3) X c) (ho : OwnS X' (w.heap.size + 3) v' (S ++ [c])) (hb : Below (w.heap.size + 3) X X') (hg : X.grownBy X' sv.ownBlock) : PQp w (X'.setCell ⟨w.heap.size + 1 + 1, 1, none⟩ v') B s rv R v' (S ++ [c]) := by
 have hs : CBlk X' (w.heap.size + 1 + 1) #[rv, sv] 25 := (hb.block _ (by omega)).trans h.box
 have hk : Kt 25 X' (X'.setCell ⟨w.heap.size + 1 + 1, 1, none⟩ v') := Kt.set hs
 have hk1 : Kt 50 X X' := row_grown h.os.o hg
 have hs2 := hs.set 1 v'
 exact ⟨(h.bl.trans (hb.mono (by omega))).setCell (p := ⟨w.heap.size + 1 + 1, 1, none⟩) (show w.heap.size <= w.heap.size + 1 + 1 by omega) _, (h.rq.low hb (by omega)).off (by omega), (heap_setCell_other _ _ _ _ (by show _ ≠ w.heap.size + 1 + 1; omega)).trans ((hb.block _ (by omega)).trans h.res), by simpa using hs2,
  (h.oc.kt hk1 (by decide) (by decide) (by decide) (by decide)).kt hk (by decide) (by decide) (by decide) (by decide), (h.os.add ho hk1 hc).kt hk (by decide) (by decide) (by decide)⟩
theorem OSL.ssp7 {B : Nat} {X : World} {v : Value} {l : List St} (h : OSL X B v l) : SsP X v l := by
 have hok : ∀ c ∈ l, c.ok X := fun c hc => (h.m c hc).ok
 refine ⟨?_, hok⟩
 rcases h.o.2 with ⟨rfl, hn⟩ | ⟨g, cap, cur, hv, -⟩
 ·exact Or.inl ⟨rfl, List.length_eq_zero_iff.1 hn⟩
 ·refine Or.inr ⟨⟨g, 0, none⟩, cap, hv, ?_⟩
  cases l with
  | nil => exact Or.inl rfl
  | cons c l =>
   have ho := h.o
   rw [hv] at ho
   obtain ⟨b, o, e, hr⟩ := ho.adr (j := 0) (c := c) rfl
   exact Or.inr ⟨b, o, Option.some.inj e, hr⟩
theorem PQp.fin {w X : World} {B : List Int} {s : Qs} {rv sv : Value} {R : List Cm} {S : List St} (h : PQp w X B s rv R sv S) (Y : World) (hY : Y = (X.setCell ⟨w.heap.size, 0, none⟩ rv).setCell ⟨w.heap.size, 1, none⟩ sv) : CsP Y rv R /\ SsP Y sv S /\ Below w.heap.size w Y := by
 subst hY
 have k1 : Kt 25 X (X.setCell ⟨w.heap.size, 0, none⟩ rv) := Kt.set h.res
 have k2 : Kt 25 (X.setCell ⟨w.heap.size, 0, none⟩ rv) ((X.setCell ⟨w.heap.size, 0, none⟩ rv).setCell ⟨w.heap.size, 1, none⟩ sv) := Kt.set (h.res.set 0 _)
 have hk := k1.trans k2
 exact ⟨(h.oc.kt hk (by decide) (by decide) (by decide) (by decide)).csp, (h.os.kt hk (by decide) (by decide) (by decide)).ssp7, (h.bl.setCell (p := ⟨w.heap.size, 0, none⟩) (Nat.le_refl _) _).setCell (p := ⟨w.heap.size, 1, none⟩) (Nat.le_refl _) _⟩
def RQP (w : World) (r : Except Int Pk) (e : Ending) (w' : World) : Prop := Below w.heap.size w w' /\ ∃ (rv sv : Value) (R : List Cm) (S : List St) (er : Int), e = .returned (.tuple #[.agg #[rv, sv], .int .i64 er]) /\ CsP w' rv R /\ SsP w' sv S /\ match r with
 | .ok x => (R.map Cm.key, S.map St.key) = x /\ er = 0
 | .error d => (R.map Cm.key, S.map St.key) = ([], []) /\ er = d
set_option maxRecDepth 20000 in
set_option maxHeartbeats 4000000 in
theorem rreadProof_any (v : Value) (B : List Int) (w : World) (h : Br w v B) :
  Calls Tryz.prog 12 #[v] w (RQP w (rWhole rProof B)) := by
 have HYB : Hid (byt B) := h.1
 have HA0 : Hid (PQp w (((w.alloc (.cells #[.slice none 0 0, .slice none 0 0] 25)).alloc (.cells #[v, .int .i64 0, .int .i64 0] 79)).alloc (.cells #[.slice none 0 0, .slice none 0 0] 25)) B ⟨0, 0⟩ (.slice none 0 0) [] (.slice none 0 0) []) := by
  have e1 : (w.alloc (.cells #[.slice none 0 0, .slice none 0 0] 25)).heap.size = w.heap.size + 1 := by simp
  have hr := h.rq (below1 w (.cells #[.slice none 0 0, .slice none 0 0] 25))
  rw [e1] at hr
  have e2 : ((w.alloc (.cells #[.slice none 0 0, .slice none 0 0] 25)).alloc (.cells #[v, .int .i64 0, .int .i64 0] 79)).heap.size = w.heap.size + 1 + 1 := by simp
  have hb := CBlk.new ((w.alloc (.cells #[.slice none 0 0, .slice none 0 0] 25)).alloc (.cells #[v, .int .i64 0, .int .i64 0] 79)) #[.slice none 0 0, .slice none 0 0] 25
  rw [e2] at hb
  exact ⟨below_step (below2 _ _ _) (below1 _ _), hr.below (below1 _ _), ((CBlk.new _ _ _).later (below1 _ _)).later (below1 _ _), hb, OCQ.nil _ _, OSL.nil _ _⟩
 obtain ⟨n, hn, hn4⟩ := qNum4 h.1 ⟨0, 0⟩
 have hN1 := fun (X : World) (hX : RqS X (w.heap.size + 1) B ⟨0, 0⟩) => qnumber_any 4 (by omega) (w.heap.size + 1) B ⟨0, 0⟩ X hX
 rw [hn] at hN1
 have hQ : qProof2 B (qNum B 4 ⟨0, 0⟩).1 (qNum B 4 ⟨0, 0⟩).2 = qProof B ⟨0, 0⟩ := rfl
 rw [hn] at hQ
 obtain ⟨s1, hs1⟩ : ∃ s, (qNum B 4 ⟨0, 0⟩).2 = s := ⟨_, rfl⟩
 rw [hs1] at hN1 hQ
 have HN1 : Hid (∀ X : World, RqS X (w.heap.size + 1) B ⟨0, 0⟩ -> Calls Tryz.prog 41 #[.pointer (some ⟨w.heap.size + 1, 0, none⟩), .int .i64 4] X fun e w' => e = .returned (.int .u64 (n : Int)) /\ RqS w' (w.heap.size + 1) B s1 /\ Bv (w.heap.size + 1) X.heap.size X w') := hN1
 have HQS2 : Hid (qProof2 B (n : Int) s1 = qProof B ⟨0, 0⟩) := hQ
 have HNN : Hid ((n : Int).toNat = n) := by show _ = _; omega
 have hnw : IntKind.i64.wrap (n : Int) = (n : Int) := by rw [IntKind.wrap_i64]; omega
 obtain ⟨a, cap, rfl⟩ : ∃ a cap, v = .slice a B.length cap := by obtain ⟨-, a, cap, e, -⟩ := h; exact ⟨a, cap, e⟩
 clear h hN1 hQ hn hs1
 go_enter Tryz.func12, Tryz.ntmps12
 go_upto_region 4 with (go_at_call 41; refine (HN1.out _ HA0.out.rq).mono ?_; clear HN1; rintro e w2 ⟨rfl, hs, hb⟩; have HA2 : Hid (PQp w w2 B s1 (.slice none 0 0) [] (.slice none 0 0) []) := HA0.out.step hs hb; clear hs hb)
 clear HA0
 go_wp2_with fail
 go_loopg [7] n (fun g9 i wr => ∃ (j : Nat) (av : Value) (sj : Qs) (Rs : List Cm), j + g9 = n /\ i = .int .i64 (j : Int) /\ Rs.length <= j /\ PQp w wr B sj av Rs (.slice none 0 0) [] /\ QM (qClause B) n s1 g9 (Rs.map Cm.key) sj)
 case atStart => exact ⟨0, _, s1, [], by omega, rfl, by simp, HA2.out, QM.start _ _ _⟩
 case round =>
 obtain ⟨j, av, sj, Rs, hj, rfl, hRs, ha, hq⟩ := hrel
 obtain ⟨xa, xc, ex⟩ := ha.oc.o.form
 obtain ⟨xn, hxn⟩ : ∃ n, n = Rs.length := ⟨_, rfl⟩
 rw [<- hxn] at ex
 subst ex
 clear hxn
 have HA : Hid (PQp w wr B sj (.slice xa xn xc) Rs (.slice none 0 0) []) := ha
 have HQ : Hid (QM (qClause B) n s1 gk (Rs.map Cm.key) sj) := hq
 have e2 := ha.er
 clear ha hq HA2
 by_cases hx : (j : Int) < (n : Int) /\ sj.er = 0
 ·obtain ⟨hjK, he⟩ := hx
  cases gk with
  | zero => omega
  | succ g9 =>
   rw [he] at e2
   have HSZ0 : Hid (SZ (qClause B sj).1) := qClause_sz HYB.out sj
   have hTM := fun (X : World) (hX : RqS X (w.heap.size + 1) B sj) => qclause_any (w.heap.size + 1) B sj X hX
   obtain ⟨⟨t9, s9⟩, hq9⟩ : ∃ q, qClause B sj = q := ⟨_, rfl⟩
   rw [hq9] at hTM HSZ0
   simp only at HSZ0
   have HTM : Hid (∀ X : World, RqS X (w.heap.size + 1) B sj -> Calls Tryz.prog 42 #[.pointer (some ⟨w.heap.size + 1, 0, none⟩)] X fun e w' => ∃ c : Cm, e = .returned c.v /\ c.key = t9 /\ RqS w' (w.heap.size + 1) B s9 /\ MC8 X.heap.size w' c /\ Bv (w.heap.size + 1) X.heap.size X w') := hTM
   have HQ9 : Hid (QM (qClause B) n s1 g9 (Rs.map Cm.key ++ [t9]) s9) := HQ.out.next he hq9
   clear hq9 HQ hTM
   go_upto_region 7 with fail
   clear e2
   have HV0 : Hid (PQp w wr.drew B sj (.slice xa xn xc) Rs (.slice none 0 0) []) := HA.out.below (Below.refl _ _).drew
   refine wp_region_held_drew (S := fun _ => True) (by kernel_rfl) trivial (fun hH => ?_)
   revert hH HV0
   generalize wr.drew = V0
   intro HV0 hH
   clear HA
   refine wTk 0 (.pointer (some ⟨w.heap.size + 1 + 1, 0, none⟩)) rfl (by kernel_rfl) (fun _ _ _ h => h) (Or.inl ⟨by rfl, fun w' h => by clear h; go_simp⟩) hH ?_
   simp only [wA8, wB8, wC8, wD8]
   refine wTk 2 (.pointer (some ⟨w.heap.size + 1, 0, none⟩)) rfl (by kernel_rfl) (fun _ _ _ h => h) (Or.inl ⟨by rfl, fun w' h => by clear h; go_simp⟩) hH ?_
   simp only [wA8, wB8, wC8, wD8]
   refine wpAnyH_ready (rs := [1, 3]) (by kernel_rfl) (by simp) ?_
   refine (AllReadyH.cons (o := ⟨_, _, _, _, _, _⟩) rfl (fun K hK => ?_) (AllReadyH.cons (o := ⟨_, _, _, _, _, _⟩) rfl (fun K hK => ?_) AllReadyH.nil))
   ·have c9 := (ctwo HV0.out.box).1
    go_simp
    clear c9
    refine hK.out _ _ trivial (fun hH => ?_)
    clear hK K
    refine wRd 3 (by kernel_rfl) rfl (fun K hK => ?_)
    go_simp
    have HV9 : Hid (w.heap.size + 3 <= V0.heap.size) := HV0.out.sz
    refine (HTM.out _ HV0.out.rq).mono ?_
    rintro e V1 ⟨c, rfl, hck, hs, hmc, hb⟩
    obtain ⟨⟨c1, c2, c3, y1⟩, ⟨c4, c6, y2⟩, ⟨c7, c9, y3⟩, -, -⟩ := (hmc.okS (by rw [hck]; exact HSZ0.out)).shape
    obtain ⟨⟨⟨⟨ck, cn, cs⟩, cm, cl⟩, cv⟩, cb, cbv, ct, ctv⟩ := c
    simp only at y1 y2 y3
    obtain ⟨c5, hc5⟩ : ∃ n, cb.length = n := ⟨_, rfl⟩
    obtain ⟨c8, hc8⟩ : ∃ n, ct.length = n := ⟨_, rfl⟩
    rw [hc5] at y2
    rw [hc8] at y3
    subst y1 y2 y3
    clear hc5 hc8
    have HT9 : Hid ((MC8 (w.heap.size + 3) V1 (⟨(⟨⟨ck, cn, cs⟩, cm, cl⟩, .slice c1 c2 c3), cb, .slice c4 c5 c6, ct, .slice c7 c8 c9⟩ : Cm) /\ SZ (Cm.key (⟨(⟨⟨ck, cn, cs⟩, cm, cl⟩, .slice c1 c2 c3), cb, .slice c4 c5 c6, ct, .slice c7 c8 c9⟩ : Cm))) /\ Cm.key (⟨(⟨⟨ck, cn, cs⟩, cm, cl⟩, .slice c1 c2 c3), cb, .slice c4 c5 c6, ct, .slice c7 c8 c9⟩ : Cm) = t9) := ⟨⟨hmc.mono HV9.out, by rw [hck]; exact HSZ0.out⟩, hck⟩
    have HV1 : Hid (PQp w V1 B s9 (.slice xa xn xc) Rs (.slice none 0 0) []) := HV0.out.step hs hb
    clear hs hb hmc hck HV0 HV9 hH
    refine hK.out _ _ trivial (fun hH => ?_)
    clear hK K
    try simp only [wA8, wB8, wC8, wD8]
    refine wRd 4 (by kernel_rfl) rfl (fun K hK => ?_)
    go_simp
    have HV2 : Hid (PQp w (V1.alloc (.cells #[.int .i64 ck, .int .i64 cn, .string cs, .string cm, .slice c1 c2 c3, .slice c4 c5 c6, .slice c7 c8 c9] 62)) B s9 (.slice xa xn xc) Rs (.slice none 0 0) []) := HV1.out.below (below1 _ _)
    have HG : Hid (CBlk (V1.alloc (.cells #[.int .i64 ck, .int .i64 cn, .string cs, .string cm, .slice c1 c2 c3, .slice c4 c5 c6, .slice c7 c8 c9] 62)) V1.heap.size #[.int .i64 ck, .int .i64 cn, .string cs, .string cm, .slice c1 c2 c3, .slice c4 c5 c6, .slice c7 c8 c9] 62) := CBlk.new _ _ _
    have HT9 : Hid ((MC8 (w.heap.size + 3) (V1.alloc (.cells #[.int .i64 ck, .int .i64 cn, .string cs, .string cm, .slice c1 c2 c3, .slice c4 c5 c6, .slice c7 c8 c9] 62)) (⟨(⟨⟨ck, cn, cs⟩, cm, cl⟩, .slice c1 c2 c3), cb, .slice c4 c5 c6, ct, .slice c7 c8 c9⟩ : Cm) /\ SZ (Cm.key (⟨(⟨⟨ck, cn, cs⟩, cm, cl⟩, .slice c1 c2 c3), cb, .slice c4 c5 c6, ct, .slice c7 c8 c9⟩ : Cm))) /\ Cm.key (⟨(⟨⟨ck, cn, cs⟩, cm, cl⟩, .slice c1 c2 c3), cb, .slice c4 c5 c6, ct, .slice c7 c8 c9⟩ : Cm) = t9) := ⟨⟨HT9.out.1.1.later (below1 _ _), HT9.out.1.2⟩, HT9.out.2⟩
    clear hH HV1
    refine hK.out _ _ trivial (fun hH => ?_)
    clear hK K
    revert hH HV2 HG HT9
    generalize V1.alloc (.cells #[.int .i64 ck, .int .i64 cn, .string cs, .string cm, .slice c1 c2 c3, .slice c4 c5 c6, .slice c7 c8 c9] 62) = V2
    generalize V1.heap.size = GG
    intro HV2 HG HT9 hH
    refine wRd 5 (by kernel_rfl) rfl (fun K hK => ?_)
    refine cstep_g rfl _ _ rfl (w.heap.size + 3) (.slice xa xn xc) Rs (by rfl) HV2.out.oc.o GG (⟨(⟨⟨ck, cn, cs⟩, cm, cl⟩, .slice c1 c2 c3), cb, .slice c4 c5 c6, ct, .slice c7 c8 c9⟩ : Cm) (by rfl) (show CBlk _ _ (Cm.cs (⟨(⟨⟨ck, cn, cs⟩, cm, cl⟩, .slice c1 c2 c3), cb, .slice c4 c5 c6, ct, .slice c7 c8 c9⟩ : Cm)) _ from HG.out) (W := V2) (HT9.out.1.1.okS HT9.out.1.2) (by omega) HV2.out.sz ?_
    intro v' w3 hown hb3 hg3
    obtain ⟨va, vc, evn⟩ := hown.form
    obtain ⟨vn, hvn⟩ : ∃ n, n = (Rs ++ [(⟨(⟨⟨ck, cn, cs⟩, cm, cl⟩, .slice c1 c2 c3), cb, .slice c4 c5 c6, ct, .slice c7 c8 c9⟩ : Cm)]).length := ⟨_, rfl⟩
    rw [<- hvn] at evn
    subst evn
    have HW3 : Hid (PQp w (w3.setCell ⟨w.heap.size + 1 + 1, 0, none⟩ (.slice va vn vc)) B s9 (.slice va vn vc) (Rs ++ [(⟨(⟨⟨ck, cn, cs⟩, cm, cl⟩, .slice c1 c2 c3), cb, .slice c4 c5 c6, ct, .slice c7 c8 c9⟩ : Cm)]) (.slice none 0 0) []) := HV2.out.rules HT9.out.1 hown hb3 hg3
    have HK9 : Hid (Cm.key (⟨(⟨⟨ck, cn, cs⟩, cm, cl⟩, .slice c1 c2 c3), cb, .slice c4 c5 c6, ct, .slice c7 c8 c9⟩ : Cm) = t9) := HT9.out.2
    have hD : CBlk w3 (w.heap.size + 1 + 1) _ 25 := (hb3.block _ (by omega)).trans HV2.out.box
    have d4 := (ctwo hD).1
    have f4 : w3.frozen? ⟨w.heap.size + 1 + 1, 0, none⟩ = false := hD.froz
    clear hD hown hb3 hg3 hvn HV2 HG HT9 hH
    refine hK.out _ _ trivial (fun hH => ?_)
    clear hK K
    simp only [wA8, wB8, wC8, wD8]
    refine wTk 6 (.pointer (some ⟨w.heap.size + 1 + 1, 0, none⟩)) rfl (by kernel_rfl) (fun _ _ _ h => h) (Or.inl ⟨by rfl, fun w' h => by clear h; go_simp⟩) hH ?_
    simp only [wA8, wB8, wC8, wD8]
    refine wRd 7 (by kernel_rfl) rfl (fun K hK => ?_)
    go_simp
    clear d4 f4
    refine hK.out _ _ trivial (fun hH => ?_)
    clear hK K hH
    refine wpAnyH_done (by kernel_rfl) ?_ _
    go_wp2_with fail
    go_roundg g9
    case measure => omega
    case rel => exact ⟨j + 1, (.slice va vn vc), s9, Rs ++ [(⟨(⟨⟨ck, cn, cs⟩, cm, cl⟩, .slice c1 c2 c3), cb, .slice c4 c5 c6, ct, .slice c7 c8 c9⟩ : Cm)], by omega, by go_num, by simp; omega, HW3.out, by rw [List.map_append, List.map_cons, List.map_nil, HK9.out]; exact HQ9.out⟩
   ·go_simp
    have HV9 : Hid (w.heap.size + 3 <= V0.heap.size) := HV0.out.sz
    refine (HTM.out _ HV0.out.rq).mono ?_
    rintro e V1 ⟨c, rfl, hck, hs, hmc, hb⟩
    obtain ⟨⟨c1, c2, c3, y1⟩, ⟨c4, c6, y2⟩, ⟨c7, c9, y3⟩, -, -⟩ := (hmc.okS (by rw [hck]; exact HSZ0.out)).shape
    obtain ⟨⟨⟨⟨ck, cn, cs⟩, cm, cl⟩, cv⟩, cb, cbv, ct, ctv⟩ := c
    simp only at y1 y2 y3
    obtain ⟨c5, hc5⟩ : ∃ n, cb.length = n := ⟨_, rfl⟩
    obtain ⟨c8, hc8⟩ : ∃ n, ct.length = n := ⟨_, rfl⟩
    rw [hc5] at y2
    rw [hc8] at y3
    subst y1 y2 y3
    clear hc5 hc8
    have HT9 : Hid ((MC8 (w.heap.size + 3) V1 (⟨(⟨⟨ck, cn, cs⟩, cm, cl⟩, .slice c1 c2 c3), cb, .slice c4 c5 c6, ct, .slice c7 c8 c9⟩ : Cm) /\ SZ (Cm.key (⟨(⟨⟨ck, cn, cs⟩, cm, cl⟩, .slice c1 c2 c3), cb, .slice c4 c5 c6, ct, .slice c7 c8 c9⟩ : Cm))) /\ Cm.key (⟨(⟨⟨ck, cn, cs⟩, cm, cl⟩, .slice c1 c2 c3), cb, .slice c4 c5 c6, ct, .slice c7 c8 c9⟩ : Cm) = t9) := ⟨⟨hmc.mono HV9.out, by rw [hck]; exact HSZ0.out⟩, hck⟩
    have HV1 : Hid (PQp w V1 B s9 (.slice xa xn xc) Rs (.slice none 0 0) []) := HV0.out.step hs hb
    clear hs hb hmc hck HV0 HV9 hH
    refine hK.out _ _ trivial (fun hH => ?_)
    clear hK K
    try simp only [wA8, wB8, wC8, wD8]
    refine wpAnyH_ready (rs := [1, 4]) (by kernel_rfl) (by simp) ?_
    refine (AllReadyH.cons (o := ⟨_, _, _, _, _, _⟩) rfl (fun K hK => ?_) (AllReadyH.cons (o := ⟨_, _, _, _, _, _⟩) rfl (fun K hK => ?_) AllReadyH.nil))
    ·have c9 := (ctwo HV1.out.box).1
     go_simp
     clear c9
     refine hK.out _ _ trivial (fun hH => ?_)
     clear hK K
     refine wRd 4 (by kernel_rfl) rfl (fun K hK => ?_)
     go_simp
     have HV2 : Hid (PQp w (V1.alloc (.cells #[.int .i64 ck, .int .i64 cn, .string cs, .string cm, .slice c1 c2 c3, .slice c4 c5 c6, .slice c7 c8 c9] 62)) B s9 (.slice xa xn xc) Rs (.slice none 0 0) []) := HV1.out.below (below1 _ _)
     have HG : Hid (CBlk (V1.alloc (.cells #[.int .i64 ck, .int .i64 cn, .string cs, .string cm, .slice c1 c2 c3, .slice c4 c5 c6, .slice c7 c8 c9] 62)) V1.heap.size #[.int .i64 ck, .int .i64 cn, .string cs, .string cm, .slice c1 c2 c3, .slice c4 c5 c6, .slice c7 c8 c9] 62) := CBlk.new _ _ _
     have HT9 : Hid ((MC8 (w.heap.size + 3) (V1.alloc (.cells #[.int .i64 ck, .int .i64 cn, .string cs, .string cm, .slice c1 c2 c3, .slice c4 c5 c6, .slice c7 c8 c9] 62)) (⟨(⟨⟨ck, cn, cs⟩, cm, cl⟩, .slice c1 c2 c3), cb, .slice c4 c5 c6, ct, .slice c7 c8 c9⟩ : Cm) /\ SZ (Cm.key (⟨(⟨⟨ck, cn, cs⟩, cm, cl⟩, .slice c1 c2 c3), cb, .slice c4 c5 c6, ct, .slice c7 c8 c9⟩ : Cm))) /\ Cm.key (⟨(⟨⟨ck, cn, cs⟩, cm, cl⟩, .slice c1 c2 c3), cb, .slice c4 c5 c6, ct, .slice c7 c8 c9⟩ : Cm) = t9) := ⟨⟨HT9.out.1.1.later (below1 _ _), HT9.out.1.2⟩, HT9.out.2⟩
     clear hH HV1
     refine hK.out _ _ trivial (fun hH => ?_)
     clear hK K
     revert hH HV2 HG HT9
     generalize V1.alloc (.cells #[.int .i64 ck, .int .i64 cn, .string cs, .string cm, .slice c1 c2 c3, .slice c4 c5 c6, .slice c7 c8 c9] 62) = V2
     generalize V1.heap.size = GG
     intro HV2 HG HT9 hH
     refine wRd 5 (by kernel_rfl) rfl (fun K hK => ?_)
     refine cstep_g rfl _ _ rfl (w.heap.size + 3) (.slice xa xn xc) Rs (by rfl) HV2.out.oc.o GG (⟨(⟨⟨ck, cn, cs⟩, cm, cl⟩, .slice c1 c2 c3), cb, .slice c4 c5 c6, ct, .slice c7 c8 c9⟩ : Cm) (by rfl) (show CBlk _ _ (Cm.cs (⟨(⟨⟨ck, cn, cs⟩, cm, cl⟩, .slice c1 c2 c3), cb, .slice c4 c5 c6, ct, .slice c7 c8 c9⟩ : Cm)) _ from HG.out) (W := V2) (HT9.out.1.1.okS HT9.out.1.2) (by omega) HV2.out.sz ?_
     intro v' w3 hown hb3 hg3
     obtain ⟨va, vc, evn⟩ := hown.form
     obtain ⟨vn, hvn⟩ : ∃ n, n = (Rs ++ [(⟨(⟨⟨ck, cn, cs⟩, cm, cl⟩, .slice c1 c2 c3), cb, .slice c4 c5 c6, ct, .slice c7 c8 c9⟩ : Cm)]).length := ⟨_, rfl⟩
     rw [<- hvn] at evn
     subst evn
     have HW3 : Hid (PQp w (w3.setCell ⟨w.heap.size + 1 + 1, 0, none⟩ (.slice va vn vc)) B s9 (.slice va vn vc) (Rs ++ [(⟨(⟨⟨ck, cn, cs⟩, cm, cl⟩, .slice c1 c2 c3), cb, .slice c4 c5 c6, ct, .slice c7 c8 c9⟩ : Cm)]) (.slice none 0 0) []) := HV2.out.rules HT9.out.1 hown hb3 hg3
     have HK9 : Hid (Cm.key (⟨(⟨⟨ck, cn, cs⟩, cm, cl⟩, .slice c1 c2 c3), cb, .slice c4 c5 c6, ct, .slice c7 c8 c9⟩ : Cm) = t9) := HT9.out.2
     have hD : CBlk w3 (w.heap.size + 1 + 1) _ 25 := (hb3.block _ (by omega)).trans HV2.out.box
     have d4 := (ctwo hD).1
     have f4 : w3.frozen? ⟨w.heap.size + 1 + 1, 0, none⟩ = false := hD.froz
     clear hD hown hb3 hg3 hvn HV2 HG HT9 hH
     refine hK.out _ _ trivial (fun hH => ?_)
     clear hK K
     simp only [wA8, wB8, wC8, wD8]
     refine wTk 6 (.pointer (some ⟨w.heap.size + 1 + 1, 0, none⟩)) rfl (by kernel_rfl) (fun _ _ _ h => h) (Or.inl ⟨by rfl, fun w' h => by clear h; go_simp⟩) hH ?_
     simp only [wA8, wB8, wC8, wD8]
     refine wRd 7 (by kernel_rfl) rfl (fun K hK => ?_)
     go_simp
     clear d4 f4
     refine hK.out _ _ trivial (fun hH => ?_)
     clear hK K hH
     refine wpAnyH_done (by kernel_rfl) ?_ _
     go_wp2_with fail
     go_roundg g9
     case measure => omega
     case rel => exact ⟨j + 1, (.slice va vn vc), s9, Rs ++ [(⟨(⟨⟨ck, cn, cs⟩, cm, cl⟩, .slice c1 c2 c3), cb, .slice c4 c5 c6, ct, .slice c7 c8 c9⟩ : Cm)], by omega, by go_num, by simp; omega, HW3.out, by rw [List.map_append, List.map_cons, List.map_nil, HK9.out]; exact HQ9.out⟩
    ·go_simp
     have HV2 : Hid (PQp w (V1.alloc (.cells #[.int .i64 ck, .int .i64 cn, .string cs, .string cm, .slice c1 c2 c3, .slice c4 c5 c6, .slice c7 c8 c9] 62)) B s9 (.slice xa xn xc) Rs (.slice none 0 0) []) := HV1.out.below (below1 _ _)
     have HG : Hid (CBlk (V1.alloc (.cells #[.int .i64 ck, .int .i64 cn, .string cs, .string cm, .slice c1 c2 c3, .slice c4 c5 c6, .slice c7 c8 c9] 62)) V1.heap.size #[.int .i64 ck, .int .i64 cn, .string cs, .string cm, .slice c1 c2 c3, .slice c4 c5 c6, .slice c7 c8 c9] 62) := CBlk.new _ _ _
     have HT9 : Hid ((MC8 (w.heap.size + 3) (V1.alloc (.cells #[.int .i64 ck, .int .i64 cn, .string cs, .string cm, .slice c1 c2 c3, .slice c4 c5 c6, .slice c7 c8 c9] 62)) (⟨(⟨⟨ck, cn, cs⟩, cm, cl⟩, .slice c1 c2 c3), cb, .slice c4 c5 c6, ct, .slice c7 c8 c9⟩ : Cm) /\ SZ (Cm.key (⟨(⟨⟨ck, cn, cs⟩, cm, cl⟩, .slice c1 c2 c3), cb, .slice c4 c5 c6, ct, .slice c7 c8 c9⟩ : Cm))) /\ Cm.key (⟨(⟨⟨ck, cn, cs⟩, cm, cl⟩, .slice c1 c2 c3), cb, .slice c4 c5 c6, ct, .slice c7 c8 c9⟩ : Cm) = t9) := ⟨⟨HT9.out.1.1.later (below1 _ _), HT9.out.1.2⟩, HT9.out.2⟩
     clear hH HV1
     refine hK.out _ _ trivial (fun hH => ?_)
     clear hK K
     revert hH HV2 HG HT9
     generalize V1.alloc (.cells #[.int .i64 ck, .int .i64 cn, .string cs, .string cm, .slice c1 c2 c3, .slice c4 c5 c6, .slice c7 c8 c9] 62) = V2
     generalize V1.heap.size = GG
     intro HV2 HG HT9 hH
     refine wRd 1 (by kernel_rfl) rfl (fun K hK => ?_)
     have c9 := (ctwo HV2.out.box).1
     go_simp
     clear c9
     refine hK.out _ _ trivial (fun hH => ?_)
     clear hK K
     refine wRd 5 (by kernel_rfl) rfl (fun K hK => ?_)
     refine cstep_g rfl _ _ rfl (w.heap.size + 3) (.slice xa xn xc) Rs (by rfl) HV2.out.oc.o GG (⟨(⟨⟨ck, cn, cs⟩, cm, cl⟩, .slice c1 c2 c3), cb, .slice c4 c5 c6, ct, .slice c7 c8 c9⟩ : Cm) (by rfl) (show CBlk _ _ (Cm.cs (⟨(⟨⟨ck, cn, cs⟩, cm, cl⟩, .slice c1 c2 c3), cb, .slice c4 c5 c6, ct, .slice c7 c8 c9⟩ : Cm)) _ from HG.out) (W := V2) (HT9.out.1.1.okS HT9.out.1.2) (by omega) HV2.out.sz ?_
     intro v' w3 hown hb3 hg3
     obtain ⟨va, vc, evn⟩ := hown.form
     obtain ⟨vn, hvn⟩ : ∃ n, n = (Rs ++ [(⟨(⟨⟨ck, cn, cs⟩, cm, cl⟩, .slice c1 c2 c3), cb, .slice c4 c5 c6, ct, .slice c7 c8 c9⟩ : Cm)]).length := ⟨_, rfl⟩
     rw [<- hvn] at evn
     subst evn
     have HW3 : Hid (PQp w (w3.setCell ⟨w.heap.size + 1 + 1, 0, none⟩ (.slice va vn vc)) B s9 (.slice va vn vc) (Rs ++ [(⟨(⟨⟨ck, cn, cs⟩, cm, cl⟩, .slice c1 c2 c3), cb, .slice c4 c5 c6, ct, .slice c7 c8 c9⟩ : Cm)]) (.slice none 0 0) []) := HV2.out.rules HT9.out.1 hown hb3 hg3
     have HK9 : Hid (Cm.key (⟨(⟨⟨ck, cn, cs⟩, cm, cl⟩, .slice c1 c2 c3), cb, .slice c4 c5 c6, ct, .slice c7 c8 c9⟩ : Cm) = t9) := HT9.out.2
     have hD : CBlk w3 (w.heap.size + 1 + 1) _ 25 := (hb3.block _ (by omega)).trans HV2.out.box
     have d4 := (ctwo hD).1
     have f4 : w3.frozen? ⟨w.heap.size + 1 + 1, 0, none⟩ = false := hD.froz
     clear hD hown hb3 hg3 hvn HV2 HG HT9 hH
     refine hK.out _ _ trivial (fun hH => ?_)
     clear hK K
     simp only [wA8, wB8, wC8, wD8]
     refine wTk 6 (.pointer (some ⟨w.heap.size + 1 + 1, 0, none⟩)) rfl (by kernel_rfl) (fun _ _ _ h => h) (Or.inl ⟨by rfl, fun w' h => by clear h; go_simp⟩) hH ?_
     simp only [wA8, wB8, wC8, wD8]
     refine wRd 7 (by kernel_rfl) rfl (fun K hK => ?_)
     go_simp
     clear d4 f4
     refine hK.out _ _ trivial (fun hH => ?_)
     clear hK K hH
     refine wpAnyH_done (by kernel_rfl) ?_ _
     go_wp2_with fail
     go_roundg g9
     case measure => omega
     case rel => exact ⟨j + 1, (.slice va vn vc), s9, Rs ++ [(⟨(⟨⟨ck, cn, cs⟩, cm, cl⟩, .slice c1 c2 c3), cb, .slice c4 c5 c6, ct, .slice c7 c8 c9⟩ : Cm)], by omega, by go_num, by simp; omega, HW3.out, by rw [List.map_append, List.map_cons, List.map_nil, HK9.out]; exact HQ9.out⟩
 ·have HE : Hid (qMany (qClause B) n s1 = (Rs.map Cm.key, sj)) := HQ.out.stop (by
   by_cases h0 : sj.er = 0
   ·right; have : ¬ (j : Int) < (n : Int) := fun h => hx ⟨h, h0⟩
    omega
   ·exact Or.inl h0)
  by_cases hjK : (j : Int) < (n : Int)
  ·have hne9 : (sj.er == 0) = false := beq_eq_false_iff_ne.2 (fun h => hx ⟨hjK, h⟩)
   clear hx HQ
   have HQ4 := HQS2.out
   unfold qProof2 at HQ4
   rw [HNN.out, HE.out] at HQ4
   unfold qProof3 at HQ4
   obtain ⟨mm, hm0, hm4⟩ := qNum4 HYB.out sj
   have hN4 := fun (X : World) (hX : RqS X (w.heap.size + 1) B sj) => qnumber_any 4 (by omega) (w.heap.size + 1) B sj X hX
   rw [hm0] at hN4 HQ4
   obtain ⟨s4, hs4⟩ : ∃ s, (qNum B 4 sj).2 = s := ⟨_, rfl⟩
   rw [hs4] at hN4 HQ4
   obtain ⟨m, rfl⟩ : ∃ m, m = mm := ⟨_, rfl⟩
   have HN4 : Hid (∀ X : World, RqS X (w.heap.size + 1) B sj -> Calls Tryz.prog 41 #[.pointer (some ⟨w.heap.size + 1, 0, none⟩), .int .i64 4] X fun e w' => e = .returned (.int .u64 (m : Int)) /\ RqS w' (w.heap.size + 1) B s4 /\ Bv (w.heap.size + 1) X.heap.size X w') := hN4
   have HQS : Hid (qProof4 B (Rs.map Cm.key) (m : Int) s4 = qProof B ⟨0, 0⟩) := HQ4
   have HNM : Hid ((m : Int).toNat = m) := by show _ = _; omega
   have hmw : IntKind.i64.wrap (m : Int) = (m : Int) := by rw [IntKind.wrap_i64]; omega
   clear hm0 hN4 hs4 HQ4 HE
   generalize sj.er = er9 at *
   go_upto_region 9 with (go_at_call 41; refine (HN4.out _ HA.out.rq).mono ?_; rintro e w4 ⟨rfl, hs, hb⟩; have HA4 : Hid (PQp w w4 B s4 (.slice xa xn xc) Rs (.slice none 0 0) []) := HA.out.step hs hb; clear hs hb HA)
   clear HN4 e2
   go_wp2_with fail
   go_loopg [8] m (fun g9 i wr => ∃ (j : Nat) (av : Value) (sj : Qs) (Ss : List St), j + g9 = m /\ i = .int .i64 (j : Int) /\ Ss.length <= j /\ PQp w wr B sj (.slice xa xn xc) Rs av Ss /\ QM (qStep B) m s4 g9 (Ss.map St.key) sj)
   case atStart => exact ⟨0, _, s4, [], by omega, rfl, by simp, HA4.out, QM.start _ _ _⟩
   case round =>
   obtain ⟨j, av, sj, Ss, hj, rfl, hSs, ha, hq⟩ := hrel
   obtain ⟨na, nc, ex⟩ := ha.os.o.form
   obtain ⟨nn, hxn⟩ : ∃ n, n = Ss.length := ⟨_, rfl⟩
   rw [<- hxn] at ex
   subst ex
   clear hxn
   have HA : Hid (PQp w wr B sj (.slice xa xn xc) Rs (.slice na nn nc) Ss) := ha
   have HQ : Hid (QM (qStep B) m s4 gk (Ss.map St.key) sj) := hq
   have e2 := ha.er
   clear ha hq HA4
   by_cases hx : (j : Int) < (m : Int) /\ sj.er = 0
   ·obtain ⟨hjK, he⟩ := hx
    cases gk with
    | zero => omega
    | succ g9 =>
     rw [he] at e2
     have hTM := fun (X : World) (hX : RqS X (w.heap.size + 1) B sj) => rstep_any (w.heap.size + 1) B sj X hX
     obtain ⟨⟨t9, s9⟩, hq9⟩ : ∃ q, qStep B sj = q := ⟨_, rfl⟩
     rw [hq9] at hTM
     have HTM : Hid (∀ X : World, RqS X (w.heap.size + 1) B sj -> Calls Tryz.prog 43 #[.pointer (some ⟨w.heap.size + 1, 0, none⟩)] X fun e w' => ∃ c : St, e = .returned c.v /\ c.key = t9 /\ RqS w' (w.heap.size + 1) B s9 /\ MS8 X.heap.size w' c /\ Bv (w.heap.size + 1) X.heap.size X w') := hTM
     have HQ9 : Hid (QM (qStep B) m s4 g9 (Ss.map St.key ++ [t9]) s9) := HQ.out.next he hq9
     clear hq9 HQ hTM
     go_upto_region 12 with fail
     clear e2
     have HV0 : Hid (PQp w wr.drew B sj (.slice xa xn xc) Rs (.slice na nn nc) Ss) := HA.out.below (Below.refl _ _).drew
     refine wp_region_held_drew (S := fun _ => True) (by kernel_rfl) trivial (fun hH => ?_)
     revert hH HV0
     generalize wr.drew = V0
     intro HV0 hH
     clear HA
     refine wTk 0 (.pointer (some ⟨w.heap.size + 1 + 1, 1, none⟩)) rfl (by kernel_rfl) (fun _ _ _ h => h) (Or.inl ⟨by rfl, fun w' h => by clear h; go_simp⟩) hH ?_
     simp only [wA8, wB8, wC8, wD8]
     refine wTk 2 (.pointer (some ⟨w.heap.size + 1, 0, none⟩)) rfl (by kernel_rfl) (fun _ _ _ h => h) (Or.inl ⟨by rfl, fun w' h => by clear h; go_simp⟩) hH ?_
     simp only [wA8, wB8, wC8, wD8]
     refine wpAnyH_ready (rs := [1, 3]) (by kernel_rfl) (by simp) ?_
     refine (AllReadyH.cons (o := ⟨_, _, _, _, _, _⟩) rfl (fun K hK => ?_) (AllReadyH.cons (o := ⟨_, _, _, _, _, _⟩) rfl (fun K hK => ?_) AllReadyH.nil))
     ·have c9 := (ctwo HV0.out.box).2
      go_simp
      clear c9
      refine hK.out _ _ trivial (fun hH => ?_)
      clear hK K
      refine wRd 3 (by kernel_rfl) rfl (fun K hK => ?_)
      go_simp
      have HV9 : Hid (w.heap.size + 3 <= V0.heap.size) := HV0.out.sz
      refine (HTM.out _ HV0.out.rq).mono ?_
      rintro e V1 ⟨c, rfl, hck, hs, hmc, hb⟩
      obtain ⟨⟨z1, z3, y1⟩, ⟨z4, z6, y2⟩, -, -⟩ := hmc.ok.shape
      obtain ⟨zr, zt9, zv9, zu, zw9⟩ := c
      simp only at y1 y2
      obtain ⟨z2, hz2⟩ : ∃ n, zt9.length = n := ⟨_, rfl⟩
      obtain ⟨z5, hz5⟩ : ∃ n, zu.length = n := ⟨_, rfl⟩
      rw [hz2] at y1
      rw [hz5] at y2
      subst y1 y2
      clear hz2 hz5
      have HT9 : Hid (MS8 (w.heap.size + 3) V1 (⟨zr, zt9, .slice z1 z2 z3, zu, .slice z4 z5 z6⟩ : St) /\ St.key (⟨zr, zt9, .slice z1 z2 z3, zu, .slice z4 z5 z6⟩ : St) = t9) := ⟨hmc.mono HV9.out, hck⟩
      have HV1 : Hid (PQp w V1 B s9 (.slice xa xn xc) Rs (.slice na nn nc) Ss) := HV0.out.step hs hb
      clear hs hb hmc hck HV0 HV9 hH
      refine hK.out _ _ trivial (fun hH => ?_)
      clear hK K
      try simp only [wA8, wB8, wC8, wD8]
      refine wRd 4 (by kernel_rfl) rfl (fun K hK => ?_)
      go_simp
      have HV2 : Hid (PQp w (V1.alloc (.cells #[.int .i64 zr, .slice z1 z2 z3, .slice z4 z5 z6] 50)) B s9 (.slice xa xn xc) Rs (.slice na nn nc) Ss) := HV1.out.below (below1 _ _)
      have HG : Hid (CBlk (V1.alloc (.cells #[.int .i64 zr, .slice z1 z2 z3, .slice z4 z5 z6] 50)) V1.heap.size #[.int .i64 zr, .slice z1 z2 z3, .slice z4 z5 z6] 50) := CBlk.new _ _ _
      have HT9 : Hid (MS8 (w.heap.size + 3) (V1.alloc (.cells #[.int .i64 zr, .slice z1 z2 z3, .slice z4 z5 z6] 50)) (⟨zr, zt9, .slice z1 z2 z3, zu, .slice z4 z5 z6⟩ : St) /\ St.key (⟨zr, zt9, .slice z1 z2 z3, zu, .slice z4 z5 z6⟩ : St) = t9) := ⟨⟨row_kt HT9.out.1.t (Kt.of (t := 25) (below1 _ _)) (by decide), row_kt HT9.out.1.u (Kt.of (t := 25) (below1 _ _)) (by decide), HT9.out.1.l⟩, HT9.out.2⟩
      clear hH HV1
      refine hK.out _ _ trivial (fun hH => ?_)
      clear hK K
      revert hH HV2 HG HT9
      generalize V1.alloc (.cells #[.int .i64 zr, .slice z1 z2 z3, .slice z4 z5 z6] 50) = V2
      generalize V1.heap.size = GG
      intro HV2 HG HT9 hH
      refine wRd 5 (by kernel_rfl) rfl (fun K hK => ?_)
      refine sstep_g rfl _ _ rfl (w.heap.size + 3) (.slice na nn nc) Ss (by rfl) HV2.out.os.o GG (⟨zr, zt9, .slice z1 z2 z3, zu, .slice z4 z5 z6⟩ : St) (by rfl) (show CBlk _ _ (St.cs (⟨zr, zt9, .slice z1 z2 z3, zu, .slice z4 z5 z6⟩ : St)) _ from HG.out) (W := V2) (HT9.out.1.ok) (by omega) HV2.out.sz ?_
      intro v' w3 hown hb3 hg3
      obtain ⟨va, vc, evn⟩ := hown.form
      obtain ⟨vn, hvn⟩ : ∃ n, n = (Ss ++ [(⟨zr, zt9, .slice z1 z2 z3, zu, .slice z4 z5 z6⟩ : St)]).length := ⟨_, rfl⟩
      rw [<- hvn] at evn
      subst evn
      have HW3 : Hid (PQp w (w3.setCell ⟨w.heap.size + 1 + 1, 1, none⟩ (.slice va vn vc)) B s9 (.slice xa xn xc) Rs (.slice va vn vc) (Ss ++ [(⟨zr, zt9, .slice z1 z2 z3, zu, .slice z4 z5 z6⟩ : St)])) := HV2.out.steps HT9.out.1 hown hb3 hg3
      have HK9 : Hid (St.key (⟨zr, zt9, .slice z1 z2 z3, zu, .slice z4 z5 z6⟩ : St) = t9) := HT9.out.2
      have hD : CBlk w3 (w.heap.size + 1 + 1) _ 25 := (hb3.block _ (by omega)).trans HV2.out.box
      have d4 := (ctwo hD).2
      have f4 : w3.frozen? ⟨w.heap.size + 1 + 1, 1, none⟩ = false := hD.froz
      clear hD hown hb3 hg3 hvn HV2 HG HT9 hH
      refine hK.out _ _ trivial (fun hH => ?_)
      clear hK K
      simp only [wA8, wB8, wC8, wD8]
      refine wTk 6 (.pointer (some ⟨w.heap.size + 1 + 1, 1, none⟩)) rfl (by kernel_rfl) (fun _ _ _ h => h) (Or.inl ⟨by rfl, fun w' h => by clear h; go_simp⟩) hH ?_
      simp only [wA8, wB8, wC8, wD8]
      refine wRd 7 (by kernel_rfl) rfl (fun K hK => ?_)
      go_simp
      clear d4 f4
      refine hK.out _ _ trivial (fun hH => ?_)
      clear hK K hH
      refine wpAnyH_done (by kernel_rfl) ?_ _
      go_wp2_with fail
      go_roundg g9
      case measure => omega
      case rel => exact ⟨j + 1, (.slice va vn vc), s9, Ss ++ [(⟨zr, zt9, .slice z1 z2 z3, zu, .slice z4 z5 z6⟩ : St)], by omega, by go_num, by simp; omega, HW3.out, by rw [List.map_append, List.map_cons, List.map_nil, HK9.out]; exact HQ9.out⟩
     ·go_simp
      have HV9 : Hid (w.heap.size + 3 <= V0.heap.size) := HV0.out.sz
      refine (HTM.out _ HV0.out.rq).mono ?_
      rintro e V1 ⟨c, rfl, hck, hs, hmc, hb⟩
      obtain ⟨⟨z1, z3, y1⟩, ⟨z4, z6, y2⟩, -, -⟩ := hmc.ok.shape
      obtain ⟨zr, zt9, zv9, zu, zw9⟩ := c
      simp only at y1 y2
      obtain ⟨z2, hz2⟩ : ∃ n, zt9.length = n := ⟨_, rfl⟩
      obtain ⟨z5, hz5⟩ : ∃ n, zu.length = n := ⟨_, rfl⟩
      rw [hz2] at y1
      rw [hz5] at y2
      subst y1 y2
      clear hz2 hz5
      have HT9 : Hid (MS8 (w.heap.size + 3) V1 (⟨zr, zt9, .slice z1 z2 z3, zu, .slice z4 z5 z6⟩ : St) /\ St.key (⟨zr, zt9, .slice z1 z2 z3, zu, .slice z4 z5 z6⟩ : St) = t9) := ⟨hmc.mono HV9.out, hck⟩
      have HV1 : Hid (PQp w V1 B s9 (.slice xa xn xc) Rs (.slice na nn nc) Ss) := HV0.out.step hs hb
      clear hs hb hmc hck HV0 HV9 hH
      refine hK.out _ _ trivial (fun hH => ?_)
      clear hK K
      try simp only [wA8, wB8, wC8, wD8]
      refine wpAnyH_ready (rs := [1, 4]) (by kernel_rfl) (by simp) ?_
      refine (AllReadyH.cons (o := ⟨_, _, _, _, _, _⟩) rfl (fun K hK => ?_) (AllReadyH.cons (o := ⟨_, _, _, _, _, _⟩) rfl (fun K hK => ?_) AllReadyH.nil))
      ·have c9 := (ctwo HV1.out.box).2
       go_simp
       clear c9
       refine hK.out _ _ trivial (fun hH => ?_)
       clear hK K
       refine wRd 4 (by kernel_rfl) rfl (fun K hK => ?_)
       go_simp
       have HV2 : Hid (PQp w (V1.alloc (.cells #[.int .i64 zr, .slice z1 z2 z3, .slice z4 z5 z6] 50)) B s9 (.slice xa xn xc) Rs (.slice na nn nc) Ss) := HV1.out.below (below1 _ _)
       have HG : Hid (CBlk (V1.alloc (.cells #[.int .i64 zr, .slice z1 z2 z3, .slice z4 z5 z6] 50)) V1.heap.size #[.int .i64 zr, .slice z1 z2 z3, .slice z4 z5 z6] 50) := CBlk.new _ _ _
       have HT9 : Hid (MS8 (w.heap.size + 3) (V1.alloc (.cells #[.int .i64 zr, .slice z1 z2 z3, .slice z4 z5 z6] 50)) (⟨zr, zt9, .slice z1 z2 z3, zu, .slice z4 z5 z6⟩ : St) /\ St.key (⟨zr, zt9, .slice z1 z2 z3, zu, .slice z4 z5 z6⟩ : St) = t9) := ⟨⟨row_kt HT9.out.1.t (Kt.of (t := 25) (below1 _ _)) (by decide), row_kt HT9.out.1.u (Kt.of (t := 25) (below1 _ _)) (by decide), HT9.out.1.l⟩, HT9.out.2⟩
       clear hH HV1
       refine hK.out _ _ trivial (fun hH => ?_)
       clear hK K
       revert hH HV2 HG HT9
       generalize V1.alloc (.cells #[.int .i64 zr, .slice z1 z2 z3, .slice z4 z5 z6] 50) = V2
       generalize V1.heap.size = GG
       intro HV2 HG HT9 hH
       refine wRd 5 (by kernel_rfl) rfl (fun K hK => ?_)
       refine sstep_g rfl _ _ rfl (w.heap.size + 3) (.slice na nn nc) Ss (by rfl) HV2.out.os.o GG (⟨zr, zt9, .slice z1 z2 z3, zu, .slice z4 z5 z6⟩ : St) (by rfl) (show CBlk _ _ (St.cs (⟨zr, zt9, .slice z1 z2 z3, zu, .slice z4 z5 z6⟩ : St)) _ from HG.out) (W := V2) (HT9.out.1.ok) (by omega) HV2.out.sz ?_
       intro v' w3 hown hb3 hg3
       obtain ⟨va, vc, evn⟩ := hown.form
       obtain ⟨vn, hvn⟩ : ∃ n, n = (Ss ++ [(⟨zr, zt9, .slice z1 z2 z3, zu, .slice z4 z5 z6⟩ : St)]).length := ⟨_, rfl⟩
       rw [<- hvn] at evn
       subst evn
       have HW3 : Hid (PQp w (w3.setCell ⟨w.heap.size + 1 + 1, 1, none⟩ (.slice va vn vc)) B s9 (.slice xa xn xc) Rs (.slice va vn vc) (Ss ++ [(⟨zr, zt9, .slice z1 z2 z3, zu, .slice z4 z5 z6⟩ : St)])) := HV2.out.steps HT9.out.1 hown hb3 hg3
       have HK9 : Hid (St.key (⟨zr, zt9, .slice z1 z2 z3, zu, .slice z4 z5 z6⟩ : St) = t9) := HT9.out.2
       have hD : CBlk w3 (w.heap.size + 1 + 1) _ 25 := (hb3.block _ (by omega)).trans HV2.out.box
       have d4 := (ctwo hD).2
       have f4 : w3.frozen? ⟨w.heap.size + 1 + 1, 1, none⟩ = false := hD.froz
       clear hD hown hb3 hg3 hvn HV2 HG HT9 hH
       refine hK.out _ _ trivial (fun hH => ?_)
       clear hK K
       simp only [wA8, wB8, wC8, wD8]
       refine wTk 6 (.pointer (some ⟨w.heap.size + 1 + 1, 1, none⟩)) rfl (by kernel_rfl) (fun _ _ _ h => h) (Or.inl ⟨by rfl, fun w' h => by clear h; go_simp⟩) hH ?_
       simp only [wA8, wB8, wC8, wD8]
       refine wRd 7 (by kernel_rfl) rfl (fun K hK => ?_)
       go_simp
       clear d4 f4
       refine hK.out _ _ trivial (fun hH => ?_)
       clear hK K hH
       refine wpAnyH_done (by kernel_rfl) ?_ _
       go_wp2_with fail
       go_roundg g9
       case measure => omega
       case rel => exact ⟨j + 1, (.slice va vn vc), s9, Ss ++ [(⟨zr, zt9, .slice z1 z2 z3, zu, .slice z4 z5 z6⟩ : St)], by omega, by go_num, by simp; omega, HW3.out, by rw [List.map_append, List.map_cons, List.map_nil, HK9.out]; exact HQ9.out⟩
      ·go_simp
       have HV2 : Hid (PQp w (V1.alloc (.cells #[.int .i64 zr, .slice z1 z2 z3, .slice z4 z5 z6] 50)) B s9 (.slice xa xn xc) Rs (.slice na nn nc) Ss) := HV1.out.below (below1 _ _)
       have HG : Hid (CBlk (V1.alloc (.cells #[.int .i64 zr, .slice z1 z2 z3, .slice z4 z5 z6] 50)) V1.heap.size #[.int .i64 zr, .slice z1 z2 z3, .slice z4 z5 z6] 50) := CBlk.new _ _ _
       have HT9 : Hid (MS8 (w.heap.size + 3) (V1.alloc (.cells #[.int .i64 zr, .slice z1 z2 z3, .slice z4 z5 z6] 50)) (⟨zr, zt9, .slice z1 z2 z3, zu, .slice z4 z5 z6⟩ : St) /\ St.key (⟨zr, zt9, .slice z1 z2 z3, zu, .slice z4 z5 z6⟩ : St) = t9) := ⟨⟨row_kt HT9.out.1.t (Kt.of (t := 25) (below1 _ _)) (by decide), row_kt HT9.out.1.u (Kt.of (t := 25) (below1 _ _)) (by decide), HT9.out.1.l⟩, HT9.out.2⟩
       clear hH HV1
       refine hK.out _ _ trivial (fun hH => ?_)
       clear hK K
       revert hH HV2 HG HT9
       generalize V1.alloc (.cells #[.int .i64 zr, .slice z1 z2 z3, .slice z4 z5 z6] 50) = V2
       generalize V1.heap.size = GG
       intro HV2 HG HT9 hH
       refine wRd 1 (by kernel_rfl) rfl (fun K hK => ?_)
       have c9 := (ctwo HV2.out.box).2
       go_simp
       clear c9
       refine hK.out _ _ trivial (fun hH => ?_)
       clear hK K
       refine wRd 5 (by kernel_rfl) rfl (fun K hK => ?_)
       refine sstep_g rfl _ _ rfl (w.heap.size + 3) (.slice na nn nc) Ss (by rfl) HV2.out.os.o GG (⟨zr, zt9, .slice z1 z2 z3, zu, .slice z4 z5 z6⟩ : St) (by rfl) (show CBlk _ _ (St.cs (⟨zr, zt9, .slice z1 z2 z3, zu, .slice z4 z5 z6⟩ : St)) _ from HG.out) (W := V2) (HT9.out.1.ok) (by omega) HV2.out.sz ?_
       intro v' w3 hown hb3 hg3
       obtain ⟨va, vc, evn⟩ := hown.form
       obtain ⟨vn, hvn⟩ : ∃ n, n = (Ss ++ [(⟨zr, zt9, .slice z1 z2 z3, zu, .slice z4 z5 z6⟩ : St)]).length := ⟨_, rfl⟩
       rw [<- hvn] at evn
       subst evn
       have HW3 : Hid (PQp w (w3.setCell ⟨w.heap.size + 1 + 1, 1, none⟩ (.slice va vn vc)) B s9 (.slice xa xn xc) Rs (.slice va vn vc) (Ss ++ [(⟨zr, zt9, .slice z1 z2 z3, zu, .slice z4 z5 z6⟩ : St)])) := HV2.out.steps HT9.out.1 hown hb3 hg3
       have HK9 : Hid (St.key (⟨zr, zt9, .slice z1 z2 z3, zu, .slice z4 z5 z6⟩ : St) = t9) := HT9.out.2
       have hD : CBlk w3 (w.heap.size + 1 + 1) _ 25 := (hb3.block _ (by omega)).trans HV2.out.box
       have d4 := (ctwo hD).2
       have f4 : w3.frozen? ⟨w.heap.size + 1 + 1, 1, none⟩ = false := hD.froz
       clear hD hown hb3 hg3 hvn HV2 HG HT9 hH
       refine hK.out _ _ trivial (fun hH => ?_)
       clear hK K
       simp only [wA8, wB8, wC8, wD8]
       refine wTk 6 (.pointer (some ⟨w.heap.size + 1 + 1, 1, none⟩)) rfl (by kernel_rfl) (fun _ _ _ h => h) (Or.inl ⟨by rfl, fun w' h => by clear h; go_simp⟩) hH ?_
       simp only [wA8, wB8, wC8, wD8]
       refine wRd 7 (by kernel_rfl) rfl (fun K hK => ?_)
       go_simp
       clear d4 f4
       refine hK.out _ _ trivial (fun hH => ?_)
       clear hK K hH
       refine wpAnyH_done (by kernel_rfl) ?_ _
       go_wp2_with fail
       go_roundg g9
       case measure => omega
       case rel => exact ⟨j + 1, (.slice va vn vc), s9, Ss ++ [(⟨zr, zt9, .slice z1 z2 z3, zu, .slice z4 z5 z6⟩ : St)], by omega, by go_num, by simp; omega, HW3.out, by rw [List.map_append, List.map_cons, List.map_nil, HK9.out]; exact HQ9.out⟩
   ·have HE : Hid (qMany (qStep B) m s4 = (Ss.map St.key, sj)) := HQ.out.stop (by
     by_cases h0 : sj.er = 0
     ·right; have : ¬ (j : Int) < (m : Int) := fun h => hx ⟨h, h0⟩
      omega
     ·exact Or.inl h0)
    by_cases hjK : (j : Int) < (m : Int)
    ·have hne9 : (sj.er == 0) = false := beq_eq_false_iff_ne.2 (fun h => hx ⟨hjK, h⟩)
     clear hx HQ
     have HQ5 := HQS.out
     unfold qProof4 at HQ5
     rw [HNM.out, HE.out] at HQ5
     simp only at HQ5
     have HW := whole_togP HYB.out
     rw [<- HQ5] at HW
     simp only at HW
     clear HQ5 HE HQS
     generalize hes : sj.er = er9 at *
     clear hes
     go_upto_region 14 with (go_at_call 44; refine (qend_any _ B sj _ HA.out.rq).mono ?_; rintro e w6 ⟨rfl, hs, hb⟩; have HA6 : Hid (PQp w w6 B (qEnd B sj) (.slice xa xn xc) Rs (.slice na nn nc) Ss) := HA.out.step hs hb; clear hs hb HA)
     clear e2
     have e2 := HA6.out.er
     generalize hee : (qEnd B sj).er = er at *
     rcases HW with ⟨HW, he⟩ | ⟨HW, he⟩
     ·subst he
      have HWW : Hid (rWhole rProof B = .ok (Rs.map Cm.key, Ss.map St.key)) := HW
      obtain ⟨k0, k1⟩ := ctwo HA6.out.box
      obtain ⟨r0, r1⟩ := ctwo HA6.out.res
      have f0 : w6.frozen? ⟨w.heap.size, 0, none⟩ = false := HA6.out.res.froz
      have f1 : w6.frozen? ⟨w.heap.size, 1, none⟩ = false := HA6.out.res.froz
      have HF' : Hid _ := HA6.out.fin
      clear HW hee
      go_wp2
      refine bodyPost_ret (v := .tuple #[.agg #[.slice xa xn xc, .slice na nn nc], .int .i64 0]) (by simp [results, Tryz.results12, go_sem, r0, r1]) rfl ?_
      rw [HWW.out]
      exact ⟨(HF'.out _ rfl).2.2, _, _, Rs, Ss, 0, rfl, (HF'.out _ rfl).1, (HF'.out _ rfl).2.1, rfl, rfl⟩
     ·have HWW : Hid (rWhole rProof B = .error er) := HW
      have hne : (er != 0) = true := by simpa using he
      clear HW hee
      go_upto_region 15 with fail
      have HBd : Hid (CBlk w6.drew w.heap.size #[.slice none 0 0, .slice none 0 0] 25) := HA6.out.res.later (Below.refl _ _).drew
      have HLd : Hid (Below w.heap.size w w6.drew) := HA6.out.bl.drew
      have e2d : w6.drew.cell? ⟨w.heap.size + 1, 2, none⟩ = some (.int .i64 er) := e2
      clear e2 HA6
      refine wp_region_held_drew (S := fun w' => w'.cell? ⟨w.heap.size + 1, 2, none⟩ = some (.int .i64 er)) (by kernel_rfl) e2d (fun hH => ?_)
      clear e2d
      revert hH HBd HLd
      generalize w6.drew = V0
      intro HBd HLd hH
      refine wTk 0 (.agg #[.slice none 0 0, .slice none 0 0]) rfl (by kernel_rfl) (fun _ _ _ h => h) (Or.inl ⟨by rfl, fun w' h => by clear h; go_simp⟩) hH ?_
      simp only [wA8, wB8, wC8, wD8]
      refine wTk 1 (.pointer (some ⟨w.heap.size + 1, 0, none⟩)) rfl (by kernel_rfl) (fun _ _ _ h => h) (Or.inl ⟨by rfl, fun w' h => by clear h; go_simp⟩) hH ?_
      simp only [wA8, wB8, wC8, wD8]
      refine wTk 2 (.pointer (some ⟨w.heap.size + 1, 0, none⟩)) rfl (by kernel_rfl) (fun _ _ _ h => h) (Or.inl ⟨by rfl, fun w' h => by clear h; go_simp⟩) hH ?_
      simp only [wA8, wB8, wC8, wD8]
      refine wTk 3 (.pointer (some ⟨w.heap.size + 1, 2, none⟩)) rfl (by kernel_rfl) (fun _ _ _ h => h) (Or.inl ⟨by rfl, fun w' h => by clear h; go_simp⟩) hH ?_
      simp only [wA8, wB8, wC8, wD8]
      refine wTk 4 (.int .i64 er) rfl (by kernel_rfl) (fun _ _ _ h => h) (Or.inl ⟨by rfl, fun w' h => by go_simp⟩) hH ?_
      simp only [wA8, wB8, wC8, wD8]
      refine wRd 5 (by kernel_rfl) rfl (fun K hK => ?_)
      have p0 := (ctwo HBd.out).1
      have p1 := (ctwo HBd.out).2
      have f0 : V0.frozen? ⟨w.heap.size, 0, none⟩ = false := HBd.out.froz
      have f1 : V0.frozen? ⟨w.heap.size, 1, none⟩ = false := HBd.out.froz
      have HS9 : ((V0.setCell ⟨w.heap.size, 0, none⟩ (.slice none 0 0)).setCell ⟨w.heap.size, 1, none⟩ (.slice none 0 0)).cell? ⟨w.heap.size + 1, 2, none⟩ = some (.int .i64 er) := cellO (cellO hH (by omega)) (by omega)
      go_simp
      refine hK.out _ _ HS9 (fun hH => ?_)
      clear hK K
      try simp only [wA8, wB8, wC8, wD8]
      refine wTk 6 (.int .i64 er) rfl (by kernel_rfl) (fun _ _ _ h => h) (Or.inl ⟨by rfl, fun w' h => by clear h; go_simp⟩) hH ?_
      simp only [wA8, wB8, wC8, wD8]
      refine wpAnyH_done (by kernel_rfl) ?_ _
      clear hH
      go_wp2_with fail
      refine bodyPost_ret (v := .tuple #[.agg #[.slice none 0 0, .slice none 0 0], .int .i64 er]) (by simp [results, Tryz.results12, go_sem, p0, p1]) rfl ?_
      rw [HWW.out]
      exact ⟨(HLd.out.setCell (p := ⟨w.heap.size, 0, none⟩) (Nat.le_refl _) _).setCell (p := ⟨w.heap.size, 1, none⟩) (Nat.le_refl _) _, _, _, [], [], er, rfl, ⟨Or.inl ⟨rfl, rfl⟩, fun c hc => by cases hc⟩, ⟨Or.inl ⟨rfl, rfl⟩, fun c hc => by cases hc⟩, rfl, rfl⟩
    ·clear hx HQ
     have HQ5 := HQS.out
     unfold qProof4 at HQ5
     rw [HNM.out, HE.out] at HQ5
     simp only at HQ5
     have HW := whole_togP HYB.out
     rw [<- HQ5] at HW
     simp only at HW
     clear HQ5 HE HQS
     generalize hes : sj.er = er9 at *
     clear hes
     go_upto_region 14 with (go_at_call 44; refine (qend_any _ B sj _ HA.out.rq).mono ?_; rintro e w6 ⟨rfl, hs, hb⟩; have HA6 : Hid (PQp w w6 B (qEnd B sj) (.slice xa xn xc) Rs (.slice na nn nc) Ss) := HA.out.step hs hb; clear hs hb HA)
     clear e2
     have e2 := HA6.out.er
     generalize hee : (qEnd B sj).er = er at *
     rcases HW with ⟨HW, he⟩ | ⟨HW, he⟩
     ·subst he
      have HWW : Hid (rWhole rProof B = .ok (Rs.map Cm.key, Ss.map St.key)) := HW
      obtain ⟨k0, k1⟩ := ctwo HA6.out.box
      obtain ⟨r0, r1⟩ := ctwo HA6.out.res
      have f0 : w6.frozen? ⟨w.heap.size, 0, none⟩ = false := HA6.out.res.froz
      have f1 : w6.frozen? ⟨w.heap.size, 1, none⟩ = false := HA6.out.res.froz
      have HF' : Hid _ := HA6.out.fin
      clear HW hee
      go_wp2
      refine bodyPost_ret (v := .tuple #[.agg #[.slice xa xn xc, .slice na nn nc], .int .i64 0]) (by simp [results, Tryz.results12, go_sem, r0, r1]) rfl ?_
      rw [HWW.out]
      exact ⟨(HF'.out _ rfl).2.2, _, _, Rs, Ss, 0, rfl, (HF'.out _ rfl).1, (HF'.out _ rfl).2.1, rfl, rfl⟩
     ·have HWW : Hid (rWhole rProof B = .error er) := HW
      have hne : (er != 0) = true := by simpa using he
      clear HW hee
      go_upto_region 15 with fail
      have HBd : Hid (CBlk w6.drew w.heap.size #[.slice none 0 0, .slice none 0 0] 25) := HA6.out.res.later (Below.refl _ _).drew
      have HLd : Hid (Below w.heap.size w w6.drew) := HA6.out.bl.drew
      have e2d : w6.drew.cell? ⟨w.heap.size + 1, 2, none⟩ = some (.int .i64 er) := e2
      clear e2 HA6
      refine wp_region_held_drew (S := fun w' => w'.cell? ⟨w.heap.size + 1, 2, none⟩ = some (.int .i64 er)) (by kernel_rfl) e2d (fun hH => ?_)
      clear e2d
      revert hH HBd HLd
      generalize w6.drew = V0
      intro HBd HLd hH
      refine wTk 0 (.agg #[.slice none 0 0, .slice none 0 0]) rfl (by kernel_rfl) (fun _ _ _ h => h) (Or.inl ⟨by rfl, fun w' h => by clear h; go_simp⟩) hH ?_
      simp only [wA8, wB8, wC8, wD8]
      refine wTk 1 (.pointer (some ⟨w.heap.size + 1, 0, none⟩)) rfl (by kernel_rfl) (fun _ _ _ h => h) (Or.inl ⟨by rfl, fun w' h => by clear h; go_simp⟩) hH ?_
      simp only [wA8, wB8, wC8, wD8]
      refine wTk 2 (.pointer (some ⟨w.heap.size + 1, 0, none⟩)) rfl (by kernel_rfl) (fun _ _ _ h => h) (Or.inl ⟨by rfl, fun w' h => by clear h; go_simp⟩) hH ?_
      simp only [wA8, wB8, wC8, wD8]
      refine wTk 3 (.pointer (some ⟨w.heap.size + 1, 2, none⟩)) rfl (by kernel_rfl) (fun _ _ _ h => h) (Or.inl ⟨by rfl, fun w' h => by clear h; go_simp⟩) hH ?_
      simp only [wA8, wB8, wC8, wD8]
      refine wTk 4 (.int .i64 er) rfl (by kernel_rfl) (fun _ _ _ h => h) (Or.inl ⟨by rfl, fun w' h => by go_simp⟩) hH ?_
      simp only [wA8, wB8, wC8, wD8]
      refine wRd 5 (by kernel_rfl) rfl (fun K hK => ?_)
      have p0 := (ctwo HBd.out).1
      have p1 := (ctwo HBd.out).2
      have f0 : V0.frozen? ⟨w.heap.size, 0, none⟩ = false := HBd.out.froz
      have f1 : V0.frozen? ⟨w.heap.size, 1, none⟩ = false := HBd.out.froz
      have HS9 : ((V0.setCell ⟨w.heap.size, 0, none⟩ (.slice none 0 0)).setCell ⟨w.heap.size, 1, none⟩ (.slice none 0 0)).cell? ⟨w.heap.size + 1, 2, none⟩ = some (.int .i64 er) := cellO (cellO hH (by omega)) (by omega)
      go_simp
      refine hK.out _ _ HS9 (fun hH => ?_)
      clear hK K
      try simp only [wA8, wB8, wC8, wD8]
      refine wTk 6 (.int .i64 er) rfl (by kernel_rfl) (fun _ _ _ h => h) (Or.inl ⟨by rfl, fun w' h => by clear h; go_simp⟩) hH ?_
      simp only [wA8, wB8, wC8, wD8]
      refine wpAnyH_done (by kernel_rfl) ?_ _
      clear hH
      go_wp2_with fail
      refine bodyPost_ret (v := .tuple #[.agg #[.slice none 0 0, .slice none 0 0], .int .i64 er]) (by simp [results, Tryz.results12, go_sem, p0, p1]) rfl ?_
      rw [HWW.out]
      exact ⟨(HLd.out.setCell (p := ⟨w.heap.size, 0, none⟩) (Nat.le_refl _) _).setCell (p := ⟨w.heap.size, 1, none⟩) (Nat.le_refl _) _, _, _, [], [], er, rfl, ⟨Or.inl ⟨rfl, rfl⟩, fun c hc => by cases hc⟩, ⟨Or.inl ⟨rfl, rfl⟩, fun c hc => by cases hc⟩, rfl, rfl⟩
  ·clear hx HQ
   have HQ4 := HQS2.out
   unfold qProof2 at HQ4
   rw [HNN.out, HE.out] at HQ4
   unfold qProof3 at HQ4
   obtain ⟨mm, hm0, hm4⟩ := qNum4 HYB.out sj
   have hN4 := fun (X : World) (hX : RqS X (w.heap.size + 1) B sj) => qnumber_any 4 (by omega) (w.heap.size + 1) B sj X hX
   rw [hm0] at hN4 HQ4
   obtain ⟨s4, hs4⟩ : ∃ s, (qNum B 4 sj).2 = s := ⟨_, rfl⟩
   rw [hs4] at hN4 HQ4
   obtain ⟨m, rfl⟩ : ∃ m, m = mm := ⟨_, rfl⟩
   have HN4 : Hid (∀ X : World, RqS X (w.heap.size + 1) B sj -> Calls Tryz.prog 41 #[.pointer (some ⟨w.heap.size + 1, 0, none⟩), .int .i64 4] X fun e w' => e = .returned (.int .u64 (m : Int)) /\ RqS w' (w.heap.size + 1) B s4 /\ Bv (w.heap.size + 1) X.heap.size X w') := hN4
   have HQS : Hid (qProof4 B (Rs.map Cm.key) (m : Int) s4 = qProof B ⟨0, 0⟩) := HQ4
   have HNM : Hid ((m : Int).toNat = m) := by show _ = _; omega
   have hmw : IntKind.i64.wrap (m : Int) = (m : Int) := by rw [IntKind.wrap_i64]; omega
   clear hm0 hN4 hs4 HQ4 HE
   generalize sj.er = er9 at *
   go_upto_region 9 with (go_at_call 41; refine (HN4.out _ HA.out.rq).mono ?_; rintro e w4 ⟨rfl, hs, hb⟩; have HA4 : Hid (PQp w w4 B s4 (.slice xa xn xc) Rs (.slice none 0 0) []) := HA.out.step hs hb; clear hs hb HA)
   clear HN4 e2
   go_wp2_with fail
   go_loopg [8] m (fun g9 i wr => ∃ (j : Nat) (av : Value) (sj : Qs) (Ss : List St), j + g9 = m /\ i = .int .i64 (j : Int) /\ Ss.length <= j /\ PQp w wr B sj (.slice xa xn xc) Rs av Ss /\ QM (qStep B) m s4 g9 (Ss.map St.key) sj)
   case atStart => exact ⟨0, _, s4, [], by omega, rfl, by simp, HA4.out, QM.start _ _ _⟩
   case round =>
   obtain ⟨j, av, sj, Ss, hj, rfl, hSs, ha, hq⟩ := hrel
   obtain ⟨na, nc, ex⟩ := ha.os.o.form
   obtain ⟨nn, hxn⟩ : ∃ n, n = Ss.length := ⟨_, rfl⟩
   rw [<- hxn] at ex
   subst ex
   clear hxn
   have HA : Hid (PQp w wr B sj (.slice xa xn xc) Rs (.slice na nn nc) Ss) := ha
   have HQ : Hid (QM (qStep B) m s4 gk (Ss.map St.key) sj) := hq
   have e2 := ha.er
   clear ha hq HA4
   by_cases hx : (j : Int) < (m : Int) /\ sj.er = 0
   ·obtain ⟨hjK, he⟩ := hx
    cases gk with
    | zero => omega
    | succ g9 =>
     rw [he] at e2
     have hTM := fun (X : World) (hX : RqS X (w.heap.size + 1) B sj) => rstep_any (w.heap.size + 1) B sj X hX
     obtain ⟨⟨t9, s9⟩, hq9⟩ : ∃ q, qStep B sj = q := ⟨_, rfl⟩
     rw [hq9] at hTM
     have HTM : Hid (∀ X : World, RqS X (w.heap.size + 1) B sj -> Calls Tryz.prog 43 #[.pointer (some ⟨w.heap.size + 1, 0, none⟩)] X fun e w' => ∃ c : St, e = .returned c.v /\ c.key = t9 /\ RqS w' (w.heap.size + 1) B s9 /\ MS8 X.heap.size w' c /\ Bv (w.heap.size + 1) X.heap.size X w') := hTM
     have HQ9 : Hid (QM (qStep B) m s4 g9 (Ss.map St.key ++ [t9]) s9) := HQ.out.next he hq9
     clear hq9 HQ hTM
     go_upto_region 12 with fail
     clear e2
     have HV0 : Hid (PQp w wr.drew B sj (.slice xa xn xc) Rs (.slice na nn nc) Ss) := HA.out.below (Below.refl _ _).drew
     refine wp_region_held_drew (S := fun _ => True) (by kernel_rfl) trivial (fun hH => ?_)
     revert hH HV0
     generalize wr.drew = V0
     intro HV0 hH
     clear HA
     refine wTk 0 (.pointer (some ⟨w.heap.size + 1 + 1, 1, none⟩)) rfl (by kernel_rfl) (fun _ _ _ h => h) (Or.inl ⟨by rfl, fun w' h => by clear h; go_simp⟩) hH ?_
     simp only [wA8, wB8, wC8, wD8]
     refine wTk 2 (.pointer (some ⟨w.heap.size + 1, 0, none⟩)) rfl (by kernel_rfl) (fun _ _ _ h => h) (Or.inl ⟨by rfl, fun w' h => by clear h; go_simp⟩) hH ?_
     simp only [wA8, wB8, wC8, wD8]
     refine wpAnyH_ready (rs := [1, 3]) (by kernel_rfl) (by simp) ?_
     refine (AllReadyH.cons (o := ⟨_, _, _, _, _, _⟩) rfl (fun K hK => ?_) (AllReadyH.cons (o := ⟨_, _, _, _, _, _⟩) rfl (fun K hK => ?_) AllReadyH.nil))
     ·have c9 := (ctwo HV0.out.box).2
      go_simp
      clear c9
      refine hK.out _ _ trivial (fun hH => ?_)
      clear hK K
      refine wRd 3 (by kernel_rfl) rfl (fun K hK => ?_)
      go_simp
      have HV9 : Hid (w.heap.size + 3 <= V0.heap.size) := HV0.out.sz
      refine (HTM.out _ HV0.out.rq).mono ?_
      rintro e V1 ⟨c, rfl, hck, hs, hmc, hb⟩
      obtain ⟨⟨z1, z3, y1⟩, ⟨z4, z6, y2⟩, -, -⟩ := hmc.ok.shape
      obtain ⟨zr, zt9, zv9, zu, zw9⟩ := c
      simp only at y1 y2
      obtain ⟨z2, hz2⟩ : ∃ n, zt9.length = n := ⟨_, rfl⟩
      obtain ⟨z5, hz5⟩ : ∃ n, zu.length = n := ⟨_, rfl⟩
      rw [hz2] at y1
      rw [hz5] at y2
      subst y1 y2
      clear hz2 hz5
      have HT9 : Hid (MS8 (w.heap.size + 3) V1 (⟨zr, zt9, .slice z1 z2 z3, zu, .slice z4 z5 z6⟩ : St) /\ St.key (⟨zr, zt9, .slice z1 z2 z3, zu, .slice z4 z5 z6⟩ : St) = t9) := ⟨hmc.mono HV9.out, hck⟩
      have HV1 : Hid (PQp w V1 B s9 (.slice xa xn xc) Rs (.slice na nn nc) Ss) := HV0.out.step hs hb
      clear hs hb hmc hck HV0 HV9 hH
      refine hK.out _ _ trivial (fun hH => ?_)
      clear hK K
      try simp only [wA8, wB8, wC8, wD8]
      refine wRd 4 (by kernel_rfl) rfl (fun K hK => ?_)
      go_simp
      have HV2 : Hid (PQp w (V1.alloc (.cells #[.int .i64 zr, .slice z1 z2 z3, .slice z4 z5 z6] 50)) B s9 (.slice xa xn xc) Rs (.slice na nn nc) Ss) := HV1.out.below (below1 _ _)
      have HG : Hid (CBlk (V1.alloc (.cells #[.int .i64 zr, .slice z1 z2 z3, .slice z4 z5 z6] 50)) V1.heap.size #[.int .i64 zr, .slice z1 z2 z3, .slice z4 z5 z6] 50) := CBlk.new _ _ _
      have HT9 : Hid (MS8 (w.heap.size + 3) (V1.alloc (.cells #[.int .i64 zr, .slice z1 z2 z3, .slice z4 z5 z6] 50)) (⟨zr, zt9, .slice z1 z2 z3, zu, .slice z4 z5 z6⟩ : St) /\ St.key (⟨zr, zt9, .slice z1 z2 z3, zu, .slice z4 z5 z6⟩ : St) = t9) := ⟨⟨row_kt HT9.out.1.t (Kt.of (t := 25) (below1 _ _)) (by decide), row_kt HT9.out.1.u (Kt.of (t := 25) (below1 _ _)) (by decide), HT9.out.1.l⟩, HT9.out.2⟩
      clear hH HV1
      refine hK.out _ _ trivial (fun hH => ?_)
      clear hK K
      revert hH HV2 HG HT9
      generalize V1.alloc (.cells #[.int .i64 zr, .slice z1 z2 z3, .slice z4 z5 z6] 50) = V2
      generalize V1.heap.size = GG
      intro HV2 HG HT9 hH
      refine wRd 5 (by kernel_rfl) rfl (fun K hK => ?_)
      refine sstep_g rfl _ _ rfl (w.heap.size + 3) (.slice na nn nc) Ss (by rfl) HV2.out.os.o GG (⟨zr, zt9, .slice z1 z2 z3, zu, .slice z4 z5 z6⟩ : St) (by rfl) (show CBlk _ _ (St.cs (⟨zr, zt9, .slice z1 z2 z3, zu, .slice z4 z5 z6⟩ : St)) _ from HG.out) (W := V2) (HT9.out.1.ok) (by omega) HV2.out.sz ?_
      intro v' w3 hown hb3 hg3
      obtain ⟨va, vc, evn⟩ := hown.form
      obtain ⟨vn, hvn⟩ : ∃ n, n = (Ss ++ [(⟨zr, zt9, .slice z1 z2 z3, zu, .slice z4 z5 z6⟩ : St)]).length := ⟨_, rfl⟩
      rw [<- hvn] at evn
      subst evn
      have HW3 : Hid (PQp w (w3.setCell ⟨w.heap.size + 1 + 1, 1, none⟩ (.slice va vn vc)) B s9 (.slice xa xn xc) Rs (.slice va vn vc) (Ss ++ [(⟨zr, zt9, .slice z1 z2 z3, zu, .slice z4 z5 z6⟩ : St)])) := HV2.out.steps HT9.out.1 hown hb3 hg3
      have HK9 : Hid (St.key (⟨zr, zt9, .slice z1 z2 z3, zu, .slice z4 z5 z6⟩ : St) = t9) := HT9.out.2
      have hD : CBlk w3 (w.heap.size + 1 + 1) _ 25 := (hb3.block _ (by omega)).trans HV2.out.box
      have d4 := (ctwo hD).2
      have f4 : w3.frozen? ⟨w.heap.size + 1 + 1, 1, none⟩ = false := hD.froz
      clear hD hown hb3 hg3 hvn HV2 HG HT9 hH
      refine hK.out _ _ trivial (fun hH => ?_)
      clear hK K
      simp only [wA8, wB8, wC8, wD8]
      refine wTk 6 (.pointer (some ⟨w.heap.size + 1 + 1, 1, none⟩)) rfl (by kernel_rfl) (fun _ _ _ h => h) (Or.inl ⟨by rfl, fun w' h => by clear h; go_simp⟩) hH ?_
      simp only [wA8, wB8, wC8, wD8]
      refine wRd 7 (by kernel_rfl) rfl (fun K hK => ?_)
      go_simp
      clear d4 f4
      refine hK.out _ _ trivial (fun hH => ?_)
      clear hK K hH
      refine wpAnyH_done (by kernel_rfl) ?_ _
      go_wp2_with fail
      go_roundg g9
      case measure => omega
      case rel => exact ⟨j + 1, (.slice va vn vc), s9, Ss ++ [(⟨zr, zt9, .slice z1 z2 z3, zu, .slice z4 z5 z6⟩ : St)], by omega, by go_num, by simp; omega, HW3.out, by rw [List.map_append, List.map_cons, List.map_nil, HK9.out]; exact HQ9.out⟩
     ·go_simp
      have HV9 : Hid (w.heap.size + 3 <= V0.heap.size) := HV0.out.sz
      refine (HTM.out _ HV0.out.rq).mono ?_
      rintro e V1 ⟨c, rfl, hck, hs, hmc, hb⟩
      obtain ⟨⟨z1, z3, y1⟩, ⟨z4, z6, y2⟩, -, -⟩ := hmc.ok.shape
      obtain ⟨zr, zt9, zv9, zu, zw9⟩ := c
      simp only at y1 y2
      obtain ⟨z2, hz2⟩ : ∃ n, zt9.length = n := ⟨_, rfl⟩
      obtain ⟨z5, hz5⟩ : ∃ n, zu.length = n := ⟨_, rfl⟩
      rw [hz2] at y1
      rw [hz5] at y2
      subst y1 y2
      clear hz2 hz5
      have HT9 : Hid (MS8 (w.heap.size + 3) V1 (⟨zr, zt9, .slice z1 z2 z3, zu, .slice z4 z5 z6⟩ : St) /\ St.key (⟨zr, zt9, .slice z1 z2 z3, zu, .slice z4 z5 z6⟩ : St) = t9) := ⟨hmc.mono HV9.out, hck⟩
      have HV1 : Hid (PQp w V1 B s9 (.slice xa xn xc) Rs (.slice na nn nc) Ss) := HV0.out.step hs hb
      clear hs hb hmc hck HV0 HV9 hH
      refine hK.out _ _ trivial (fun hH => ?_)
      clear hK K
      try simp only [wA8, wB8, wC8, wD8]
      refine wpAnyH_ready (rs := [1, 4]) (by kernel_rfl) (by simp) ?_
      refine (AllReadyH.cons (o := ⟨_, _, _, _, _, _⟩) rfl (fun K hK => ?_) (AllReadyH.cons (o := ⟨_, _, _, _, _, _⟩) rfl (fun K hK => ?_) AllReadyH.nil))
      ·have c9 := (ctwo HV1.out.box).2
       go_simp
       clear c9
       refine hK.out _ _ trivial (fun hH => ?_)
       clear hK K
       refine wRd 4 (by kernel_rfl) rfl (fun K hK => ?_)
       go_simp
       have HV2 : Hid (PQp w (V1.alloc (.cells #[.int .i64 zr, .slice z1 z2 z3, .slice z4 z5 z6] 50)) B s9 (.slice xa xn xc) Rs (.slice na nn nc) Ss) := HV1.out.below (below1 _ _)
       have HG : Hid (CBlk (V1.alloc (.cells #[.int .i64 zr, .slice z1 z2 z3, .slice z4 z5 z6] 50)) V1.heap.size #[.int .i64 zr, .slice z1 z2 z3, .slice z4 z5 z6] 50) := CBlk.new _ _ _
       have HT9 : Hid (MS8 (w.heap.size + 3) (V1.alloc (.cells #[.int .i64 zr, .slice z1 z2 z3, .slice z4 z5 z6] 50)) (⟨zr, zt9, .slice z1 z2 z3, zu, .slice z4 z5 z6⟩ : St) /\ St.key (⟨zr, zt9, .slice z1 z2 z3, zu, .slice z4 z5 z6⟩ : St) = t9) := ⟨⟨row_kt HT9.out.1.t (Kt.of (t := 25) (below1 _ _)) (by decide), row_kt HT9.out.1.u (Kt.of (t := 25) (below1 _ _)) (by decide), HT9.out.1.l⟩, HT9.out.2⟩
       clear hH HV1
       refine hK.out _ _ trivial (fun hH => ?_)
       clear hK K
       revert hH HV2 HG HT9
       generalize V1.alloc (.cells #[.int .i64 zr, .slice z1 z2 z3, .slice z4 z5 z6] 50) = V2
       generalize V1.heap.size = GG
       intro HV2 HG HT9 hH
       refine wRd 5 (by kernel_rfl) rfl (fun K hK => ?_)
       refine sstep_g rfl _ _ rfl (w.heap.size + 3) (.slice na nn nc) Ss (by rfl) HV2.out.os.o GG (⟨zr, zt9, .slice z1 z2 z3, zu, .slice z4 z5 z6⟩ : St) (by rfl) (show CBlk _ _ (St.cs (⟨zr, zt9, .slice z1 z2 z3, zu, .slice z4 z5 z6⟩ : St)) _ from HG.out) (W := V2) (HT9.out.1.ok) (by omega) HV2.out.sz ?_
       intro v' w3 hown hb3 hg3
       obtain ⟨va, vc, evn⟩ := hown.form
       obtain ⟨vn, hvn⟩ : ∃ n, n = (Ss ++ [(⟨zr, zt9, .slice z1 z2 z3, zu, .slice z4 z5 z6⟩ : St)]).length := ⟨_, rfl⟩
       rw [<- hvn] at evn
       subst evn
       have HW3 : Hid (PQp w (w3.setCell ⟨w.heap.size + 1 + 1, 1, none⟩ (.slice va vn vc)) B s9 (.slice xa xn xc) Rs (.slice va vn vc) (Ss ++ [(⟨zr, zt9, .slice z1 z2 z3, zu, .slice z4 z5 z6⟩ : St)])) := HV2.out.steps HT9.out.1 hown hb3 hg3
       have HK9 : Hid (St.key (⟨zr, zt9, .slice z1 z2 z3, zu, .slice z4 z5 z6⟩ : St) = t9) := HT9.out.2
       have hD : CBlk w3 (w.heap.size + 1 + 1) _ 25 := (hb3.block _ (by omega)).trans HV2.out.box
       have d4 := (ctwo hD).2
       have f4 : w3.frozen? ⟨w.heap.size + 1 + 1, 1, none⟩ = false := hD.froz
       clear hD hown hb3 hg3 hvn HV2 HG HT9 hH
       refine hK.out _ _ trivial (fun hH => ?_)
       clear hK K
       simp only [wA8, wB8, wC8, wD8]
       refine wTk 6 (.pointer (some ⟨w.heap.size + 1 + 1, 1, none⟩)) rfl (by kernel_rfl) (fun _ _ _ h => h) (Or.inl ⟨by rfl, fun w' h => by clear h; go_simp⟩) hH ?_
       simp only [wA8, wB8, wC8, wD8]
       refine wRd 7 (by kernel_rfl) rfl (fun K hK => ?_)
       go_simp
       clear d4 f4
       refine hK.out _ _ trivial (fun hH => ?_)
       clear hK K hH
       refine wpAnyH_done (by kernel_rfl) ?_ _
       go_wp2_with fail
       go_roundg g9
       case measure => omega
       case rel => exact ⟨j + 1, (.slice va vn vc), s9, Ss ++ [(⟨zr, zt9, .slice z1 z2 z3, zu, .slice z4 z5 z6⟩ : St)], by omega, by go_num, by simp; omega, HW3.out, by rw [List.map_append, List.map_cons, List.map_nil, HK9.out]; exact HQ9.out⟩
      ·go_simp
       have HV2 : Hid (PQp w (V1.alloc (.cells #[.int .i64 zr, .slice z1 z2 z3, .slice z4 z5 z6] 50)) B s9 (.slice xa xn xc) Rs (.slice na nn nc) Ss) := HV1.out.below (below1 _ _)
       have HG : Hid (CBlk (V1.alloc (.cells #[.int .i64 zr, .slice z1 z2 z3, .slice z4 z5 z6] 50)) V1.heap.size #[.int .i64 zr, .slice z1 z2 z3, .slice z4 z5 z6] 50) := CBlk.new _ _ _
       have HT9 : Hid (MS8 (w.heap.size + 3) (V1.alloc (.cells #[.int .i64 zr, .slice z1 z2 z3, .slice z4 z5 z6] 50)) (⟨zr, zt9, .slice z1 z2 z3, zu, .slice z4 z5 z6⟩ : St) /\ St.key (⟨zr, zt9, .slice z1 z2 z3, zu, .slice z4 z5 z6⟩ : St) = t9) := ⟨⟨row_kt HT9.out.1.t (Kt.of (t := 25) (below1 _ _)) (by decide), row_kt HT9.out.1.u (Kt.of (t := 25) (below1 _ _)) (by decide), HT9.out.1.l⟩, HT9.out.2⟩
       clear hH HV1
       refine hK.out _ _ trivial (fun hH => ?_)
       clear hK K
       revert hH HV2 HG HT9
       generalize V1.alloc (.cells #[.int .i64 zr, .slice z1 z2 z3, .slice z4 z5 z6] 50) = V2
       generalize V1.heap.size = GG
       intro HV2 HG HT9 hH
       refine wRd 1 (by kernel_rfl) rfl (fun K hK => ?_)
       have c9 := (ctwo HV2.out.box).2
       go_simp
       clear c9
       refine hK.out _ _ trivial (fun hH => ?_)
       clear hK K
       refine wRd 5 (by kernel_rfl) rfl (fun K hK => ?_)
       refine sstep_g rfl _ _ rfl (w.heap.size + 3) (.slice na nn nc) Ss (by rfl) HV2.out.os.o GG (⟨zr, zt9, .slice z1 z2 z3, zu, .slice z4 z5 z6⟩ : St) (by rfl) (show CBlk _ _ (St.cs (⟨zr, zt9, .slice z1 z2 z3, zu, .slice z4 z5 z6⟩ : St)) _ from HG.out) (W := V2) (HT9.out.1.ok) (by omega) HV2.out.sz ?_
       intro v' w3 hown hb3 hg3
       obtain ⟨va, vc, evn⟩ := hown.form
       obtain ⟨vn, hvn⟩ : ∃ n, n = (Ss ++ [(⟨zr, zt9, .slice z1 z2 z3, zu, .slice z4 z5 z6⟩ : St)]).length := ⟨_, rfl⟩
       rw [<- hvn] at evn
       subst evn
       have HW3 : Hid (PQp w (w3.setCell ⟨w.heap.size + 1 + 1, 1, none⟩ (.slice va vn vc)) B s9 (.slice xa xn xc) Rs (.slice va vn vc) (Ss ++ [(⟨zr, zt9, .slice z1 z2 z3, zu, .slice z4 z5 z6⟩ : St)])) := HV2.out.steps HT9.out.1 hown hb3 hg3
       have HK9 : Hid (St.key (⟨zr, zt9, .slice z1 z2 z3, zu, .slice z4 z5 z6⟩ : St) = t9) := HT9.out.2
       have hD : CBlk w3 (w.heap.size + 1 + 1) _ 25 := (hb3.block _ (by omega)).trans HV2.out.box
       have d4 := (ctwo hD).2
       have f4 : w3.frozen? ⟨w.heap.size + 1 + 1, 1, none⟩ = false := hD.froz
       clear hD hown hb3 hg3 hvn HV2 HG HT9 hH
       refine hK.out _ _ trivial (fun hH => ?_)
       clear hK K
       simp only [wA8, wB8, wC8, wD8]
       refine wTk 6 (.pointer (some ⟨w.heap.size + 1 + 1, 1, none⟩)) rfl (by kernel_rfl) (fun _ _ _ h => h) (Or.inl ⟨by rfl, fun w' h => by clear h; go_simp⟩) hH ?_
       simp only [wA8, wB8, wC8, wD8]
       refine wRd 7 (by kernel_rfl) rfl (fun K hK => ?_)
       go_simp
       clear d4 f4
       refine hK.out _ _ trivial (fun hH => ?_)
       clear hK K hH
       refine wpAnyH_done (by kernel_rfl) ?_ _
       go_wp2_with fail
       go_roundg g9
       case measure => omega
       case rel => exact ⟨j + 1, (.slice va vn vc), s9, Ss ++ [(⟨zr, zt9, .slice z1 z2 z3, zu, .slice z4 z5 z6⟩ : St)], by omega, by go_num, by simp; omega, HW3.out, by rw [List.map_append, List.map_cons, List.map_nil, HK9.out]; exact HQ9.out⟩
   ·have HE : Hid (qMany (qStep B) m s4 = (Ss.map St.key, sj)) := HQ.out.stop (by
     by_cases h0 : sj.er = 0
     ·right; have : ¬ (j : Int) < (m : Int) := fun h => hx ⟨h, h0⟩
      omega
     ·exact Or.inl h0)
    by_cases hjK : (j : Int) < (m : Int)
    ·have hne9 : (sj.er == 0) = false := beq_eq_false_iff_ne.2 (fun h => hx ⟨hjK, h⟩)
     clear hx HQ
     have HQ5 := HQS.out
     unfold qProof4 at HQ5
     rw [HNM.out, HE.out] at HQ5
     simp only at HQ5
     have HW := whole_togP HYB.out
     rw [<- HQ5] at HW
     simp only at HW
     clear HQ5 HE HQS
     generalize hes : sj.er = er9 at *
     clear hes
     go_upto_region 14 with (go_at_call 44; refine (qend_any _ B sj _ HA.out.rq).mono ?_; rintro e w6 ⟨rfl, hs, hb⟩; have HA6 : Hid (PQp w w6 B (qEnd B sj) (.slice xa xn xc) Rs (.slice na nn nc) Ss) := HA.out.step hs hb; clear hs hb HA)
     clear e2
     have e2 := HA6.out.er
     generalize hee : (qEnd B sj).er = er at *
     rcases HW with ⟨HW, he⟩ | ⟨HW, he⟩
     ·subst he
      have HWW : Hid (rWhole rProof B = .ok (Rs.map Cm.key, Ss.map St.key)) := HW
      obtain ⟨k0, k1⟩ := ctwo HA6.out.box
      obtain ⟨r0, r1⟩ := ctwo HA6.out.res
      have f0 : w6.frozen? ⟨w.heap.size, 0, none⟩ = false := HA6.out.res.froz
      have f1 : w6.frozen? ⟨w.heap.size, 1, none⟩ = false := HA6.out.res.froz
      have HF' : Hid _ := HA6.out.fin
      clear HW hee
      go_wp2
      refine bodyPost_ret (v := .tuple #[.agg #[.slice xa xn xc, .slice na nn nc], .int .i64 0]) (by simp [results, Tryz.results12, go_sem, r0, r1]) rfl ?_
      rw [HWW.out]
      exact ⟨(HF'.out _ rfl).2.2, _, _, Rs, Ss, 0, rfl, (HF'.out _ rfl).1, (HF'.out _ rfl).2.1, rfl, rfl⟩
     ·have HWW : Hid (rWhole rProof B = .error er) := HW
      have hne : (er != 0) = true := by simpa using he
      clear HW hee
      go_upto_region 15 with fail
      have HBd : Hid (CBlk w6.drew w.heap.size #[.slice none 0 0, .slice none 0 0] 25) := HA6.out.res.later (Below.refl _ _).drew
      have HLd : Hid (Below w.heap.size w w6.drew) := HA6.out.bl.drew
      have e2d : w6.drew.cell? ⟨w.heap.size + 1, 2, none⟩ = some (.int .i64 er) := e2
      clear e2 HA6
      refine wp_region_held_drew (S := fun w' => w'.cell? ⟨w.heap.size + 1, 2, none⟩ = some (.int .i64 er)) (by kernel_rfl) e2d (fun hH => ?_)
      clear e2d
      revert hH HBd HLd
      generalize w6.drew = V0
      intro HBd HLd hH
      refine wTk 0 (.agg #[.slice none 0 0, .slice none 0 0]) rfl (by kernel_rfl) (fun _ _ _ h => h) (Or.inl ⟨by rfl, fun w' h => by clear h; go_simp⟩) hH ?_
      simp only [wA8, wB8, wC8, wD8]
      refine wTk 1 (.pointer (some ⟨w.heap.size + 1, 0, none⟩)) rfl (by kernel_rfl) (fun _ _ _ h => h) (Or.inl ⟨by rfl, fun w' h => by clear h; go_simp⟩) hH ?_
      simp only [wA8, wB8, wC8, wD8]
      refine wTk 2 (.pointer (some ⟨w.heap.size + 1, 0, none⟩)) rfl (by kernel_rfl) (fun _ _ _ h => h) (Or.inl ⟨by rfl, fun w' h => by clear h; go_simp⟩) hH ?_
      simp only [wA8, wB8, wC8, wD8]
      refine wTk 3 (.pointer (some ⟨w.heap.size + 1, 2, none⟩)) rfl (by kernel_rfl) (fun _ _ _ h => h) (Or.inl ⟨by rfl, fun w' h => by clear h; go_simp⟩) hH ?_
      simp only [wA8, wB8, wC8, wD8]
      refine wTk 4 (.int .i64 er) rfl (by kernel_rfl) (fun _ _ _ h => h) (Or.inl ⟨by rfl, fun w' h => by go_simp⟩) hH ?_
      simp only [wA8, wB8, wC8, wD8]
      refine wRd 5 (by kernel_rfl) rfl (fun K hK => ?_)
      have p0 := (ctwo HBd.out).1
      have p1 := (ctwo HBd.out).2
      have f0 : V0.frozen? ⟨w.heap.size, 0, none⟩ = false := HBd.out.froz
      have f1 : V0.frozen? ⟨w.heap.size, 1, none⟩ = false := HBd.out.froz
      have HS9 : ((V0.setCell ⟨w.heap.size, 0, none⟩ (.slice none 0 0)).setCell ⟨w.heap.size, 1, none⟩ (.slice none 0 0)).cell? ⟨w.heap.size + 1, 2, none⟩ = some (.int .i64 er) := cellO (cellO hH (by omega)) (by omega)
      go_simp
      refine hK.out _ _ HS9 (fun hH => ?_)
      clear hK K
      try simp only [wA8, wB8, wC8, wD8]
      refine wTk 6 (.int .i64 er) rfl (by kernel_rfl) (fun _ _ _ h => h) (Or.inl ⟨by rfl, fun w' h => by clear h; go_simp⟩) hH ?_
      simp only [wA8, wB8, wC8, wD8]
      refine wpAnyH_done (by kernel_rfl) ?_ _
      clear hH
      go_wp2_with fail
      refine bodyPost_ret (v := .tuple #[.agg #[.slice none 0 0, .slice none 0 0], .int .i64 er]) (by simp [results, Tryz.results12, go_sem, p0, p1]) rfl ?_
      rw [HWW.out]
      exact ⟨(HLd.out.setCell (p := ⟨w.heap.size, 0, none⟩) (Nat.le_refl _) _).setCell (p := ⟨w.heap.size, 1, none⟩) (Nat.le_refl _) _, _, _, [], [], er, rfl, ⟨Or.inl ⟨rfl, rfl⟩, fun c hc => by cases hc⟩, ⟨Or.inl ⟨rfl, rfl⟩, fun c hc => by cases hc⟩, rfl, rfl⟩
    ·clear hx HQ
     have HQ5 := HQS.out
     unfold qProof4 at HQ5
     rw [HNM.out, HE.out] at HQ5
     simp only at HQ5
     have HW := whole_togP HYB.out
     rw [<- HQ5] at HW
     simp only at HW
     clear HQ5 HE HQS
     generalize hes : sj.er = er9 at *
     clear hes
     go_upto_region 14 with (go_at_call 44; refine (qend_any _ B sj _ HA.out.rq).mono ?_; rintro e w6 ⟨rfl, hs, hb⟩; have HA6 : Hid (PQp w w6 B (qEnd B sj) (.slice xa xn xc) Rs (.slice na nn nc) Ss) := HA.out.step hs hb; clear hs hb HA)
     clear e2
     have e2 := HA6.out.er
     generalize hee : (qEnd B sj).er = er at *
     rcases HW with ⟨HW, he⟩ | ⟨HW, he⟩
     ·subst he
      have HWW : Hid (rWhole rProof B = .ok (Rs.map Cm.key, Ss.map St.key)) := HW
      obtain ⟨k0, k1⟩ := ctwo HA6.out.box
      obtain ⟨r0, r1⟩ := ctwo HA6.out.res
      have f0 : w6.frozen? ⟨w.heap.size, 0, none⟩ = false := HA6.out.res.froz
      have f1 : w6.frozen? ⟨w.heap.size, 1, none⟩ = false := HA6.out.res.froz
      have HF' : Hid _ := HA6.out.fin
      clear HW hee
      go_wp2
      refine bodyPost_ret (v := .tuple #[.agg #[.slice xa xn xc, .slice na nn nc], .int .i64 0]) (by simp [results, Tryz.results12, go_sem, r0, r1]) rfl ?_
      rw [HWW.out]
      exact ⟨(HF'.out _ rfl).2.2, _, _, Rs, Ss, 0, rfl, (HF'.out _ rfl).1, (HF'.out _ rfl).2.1, rfl, rfl⟩
     ·have HWW : Hid (rWhole rProof B = .error er) := HW
      have hne : (er != 0) = true := by simpa using he
      clear HW hee
      go_upto_region 15 with fail
      have HBd : Hid (CBlk w6.drew w.heap.size #[.slice none 0 0, .slice none 0 0] 25) := HA6.out.res.later (Below.refl _ _).drew
      have HLd : Hid (Below w.heap.size w w6.drew) := HA6.out.bl.drew
      have e2d : w6.drew.cell? ⟨w.heap.size + 1, 2, none⟩ = some (.int .i64 er) := e2
      clear e2 HA6
      refine wp_region_held_drew (S := fun w' => w'.cell? ⟨w.heap.size + 1, 2, none⟩ = some (.int .i64 er)) (by kernel_rfl) e2d (fun hH => ?_)
      clear e2d
      revert hH HBd HLd
      generalize w6.drew = V0
      intro HBd HLd hH
      refine wTk 0 (.agg #[.slice none 0 0, .slice none 0 0]) rfl (by kernel_rfl) (fun _ _ _ h => h) (Or.inl ⟨by rfl, fun w' h => by clear h; go_simp⟩) hH ?_
      simp only [wA8, wB8, wC8, wD8]
      refine wTk 1 (.pointer (some ⟨w.heap.size + 1, 0, none⟩)) rfl (by kernel_rfl) (fun _ _ _ h => h) (Or.inl ⟨by rfl, fun w' h => by clear h; go_simp⟩) hH ?_
      simp only [wA8, wB8, wC8, wD8]
      refine wTk 2 (.pointer (some ⟨w.heap.size + 1, 0, none⟩)) rfl (by kernel_rfl) (fun _ _ _ h => h) (Or.inl ⟨by rfl, fun w' h => by clear h; go_simp⟩) hH ?_
      simp only [wA8, wB8, wC8, wD8]
      refine wTk 3 (.pointer (some ⟨w.heap.size + 1, 2, none⟩)) rfl (by kernel_rfl) (fun _ _ _ h => h) (Or.inl ⟨by rfl, fun w' h => by clear h; go_simp⟩) hH ?_
      simp only [wA8, wB8, wC8, wD8]
      refine wTk 4 (.int .i64 er) rfl (by kernel_rfl) (fun _ _ _ h => h) (Or.inl ⟨by rfl, fun w' h => by go_simp⟩) hH ?_
      simp only [wA8, wB8, wC8, wD8]
      refine wRd 5 (by kernel_rfl) rfl (fun K hK => ?_)
      have p0 := (ctwo HBd.out).1
      have p1 := (ctwo HBd.out).2
      have f0 : V0.frozen? ⟨w.heap.size, 0, none⟩ = false := HBd.out.froz
      have f1 : V0.frozen? ⟨w.heap.size, 1, none⟩ = false := HBd.out.froz
      have HS9 : ((V0.setCell ⟨w.heap.size, 0, none⟩ (.slice none 0 0)).setCell ⟨w.heap.size, 1, none⟩ (.slice none 0 0)).cell? ⟨w.heap.size + 1, 2, none⟩ = some (.int .i64 er) := cellO (cellO hH (by omega)) (by omega)
      go_simp
      refine hK.out _ _ HS9 (fun hH => ?_)
      clear hK K
      try simp only [wA8, wB8, wC8, wD8]
      refine wTk 6 (.int .i64 er) rfl (by kernel_rfl) (fun _ _ _ h => h) (Or.inl ⟨by rfl, fun w' h => by clear h; go_simp⟩) hH ?_
      simp only [wA8, wB8, wC8, wD8]
      refine wpAnyH_done (by kernel_rfl) ?_ _
      clear hH
      go_wp2_with fail
      refine bodyPost_ret (v := .tuple #[.agg #[.slice none 0 0, .slice none 0 0], .int .i64 er]) (by simp [results, Tryz.results12, go_sem, p0, p1]) rfl ?_
      rw [HWW.out]
      exact ⟨(HLd.out.setCell (p := ⟨w.heap.size, 0, none⟩) (Nat.le_refl _) _).setCell (p := ⟨w.heap.size, 1, none⟩) (Nat.le_refl _) _, _, _, [], [], er, rfl, ⟨Or.inl ⟨rfl, rfl⟩, fun c hc => by cases hc⟩, ⟨Or.inl ⟨rfl, rfl⟩, fun c hc => by cases hc⟩, rfl, rfl⟩
end Go.Proofs.YtmbmchbninlhpaaGreatDoor
