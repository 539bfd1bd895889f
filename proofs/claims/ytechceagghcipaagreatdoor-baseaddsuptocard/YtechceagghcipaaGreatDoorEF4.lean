import Derived.Test.YtechceagghcipaaGreatDoorEF3
namespace Go.Proofs.YtechceagghcipaaGreatDoor
open Go.RowKit Go.Shelf
attribute [local go_sem] Oper.semAt_some

theorem pappIn {F : Fence} {fu : Nat} {ops : Array Oper} {rest : List Oper} {o : Oper} {a : Act} {Q : Exit -> Act -> World -> Prop} {w : World} (hgd : o.guard = none) (s x : Operand)
  (ho : o.op = .call { callee := .builtin .append, args := #[s, x], argTypes := #[51, 51] }) (base : Nat) (v : Value) (l : List Pd) (hs : a.eval s = v) (hown : OwnP w base v l)
  (b : Nat) (y : Pd) (hx : a.eval x = .slice (some ⟨b, 0, none⟩) 1 1) (hblk : Bk w b #[.string y.nm, .int .i64 y.ar] 60) (hlen : l.length <= 1800000000000) (hbase : base <= w.heap.size)
  (h : ∀ v' w', OwnP w' base v' (l ++ [y]) -> w.grownBy w' v.ownBlock -> (v'.ownBlock = v.ownBlock ∨ v'.ownBlock = some w.heap.size) -> wpListIn F fu Tryz.prog ops Q rest (a.put o.dst v') w') : wpListIn F fu Tryz.prog ops Q (o :: rest) a w := by
 obtain ⟨i0, hi0, hz0, hz1, hz2⟩ := info_parts Tryz.infoPred
 refine wpListIn_plain hgd fun K hK' => ?_
 obtain ⟨v', w', hrun, r1, r2, -, r3⟩ := run_append_own_at (P := Tryz.prog) w base 51 o.type 60 i0 _ 2 24 Tryz.underlying51 hi0 hz0 hz1 hz2 rfl (by omega) v l.length (pcs l) hown ⟨b, 0, none⟩ 1 1 (pcs [y]) (by simp [pcs, Pd.cs]) (fun j u hj => by
  have := World.news_of_block (cs := #[.string y.nm, .int .i64 y.ar]) (t := 60) (fr := (0, 0)) hblk j u
  exact this (by simpa [pcs, Pd.cs] using hj)) (fun u hu => pcs_mem hu) (by unfold maxLen; omega) (by omega) hbase
 unfold Oper.wpIn
 refine ⟨?_, ?_⟩
 ·simp [Oper.about, ho, resolve, Target.leads, Sem.run_pure]
 ·rw [Oper.semAt_plain F _ _ (by rw [ho]; intro c hc'; cases hc')]
  simp [execOp, ho, resolve, invoke, builtin, hs, hx, hrun, Result.andThen]
  refine hK' _ _ (h v' w' ?_ r2 r3)
  unfold OwnP
  rw [List.length_append, pcs_app]
  exact r1
structure GP8 (Y : World) (K pre : List Pd) (D E : Nat) (V : World) : Prop where
 ex : ∃ v, Bk V Y.heap.size #[v] 51 /\ OwnP V (Y.heap.size + 1) v pre /\ ∀ b, v.ownBlock = some b -> E <= b
 fr : Fr (fun b => Y.heap.size <= b) Y V
 d : Y.heap.size + 3 <= D
 e : D < E
 z : E <= V.heap.size
 l : pre.Nodup /\ ∀ x ∈ pre, x ∈ K
theorem GP8.stay {Y : World} {K pre : List Pd} {D E : Nat} {V V' : World} (h : GP8 Y K pre D E V) (hf : Fr (fun b => Y.heap.size < b /\ b < E) V V') : GP8 Y K pre D E V' := by
 obtain ⟨v, h1, h2, h3⟩ := h.ex
 exact ⟨⟨v, h1.fr hf (by omega), row7_fr h2 hf fun b hb hc => by have := h3 b hb; omega, h3⟩, h.fr.trans hf fun b hl hc => by omega, h.d, h.e, Nat.le_trans h.z hf.size, h.l⟩
theorem GP8.below {Y : World} {K pre : List Pd} {D E : Nat} {V V' : World} (h : GP8 Y K pre D E V) (hb : Below V.heap.size V V') : GP8 Y K pre D E V' := h.stay (Fr.of hb)
set_option maxRecDepth 100000 in
set_option maxHeartbeats 1000000 in
theorem appSeqP8_any (w0 : World) (g : Nat) (tv : Value) (mn mr : Nat) (ga : Pd -> Nat) (B : Pd -> Nat -> Prop) (m : Nat) (T : List Tm) (K : List Pd) (s : Pd -> St7) (bx : Nat) (Y : World) (h : KD8 w0 g tv mn mr ga B m T K s bx Y) (hkl : K.length <= 100000000000) :
  Calls Tryz.prog 104 #[.slice none 0 0, .func (.func 68) #[] #[.pointer (some ⟨bx, 0, none⟩)]] Y fun e Y' => ∃ v l, e = .returned v /\ OwnP Y' Y.heap.size v l /\ l.Perm K /\ Below Y.heap.size Y Y' := by
 obtain ⟨nn, -⟩ : ∃ n : Nat, True := ⟨0, trivial⟩
 refine (callsIn_wide (n := nn)).1 ?_
 obtain ⟨W0, hW0⟩ : ∃ W0, Y.alloc (.cells #[.slice none 0 0] 51) = W0 := ⟨_, rfl⟩
 have hb0 : Below Y.heap.size Y W0 := by rw [<- hW0]; exact below1 _ _
 have hz0 : W0.heap.size = Y.heap.size + 1 := by rw [<- hW0]; simp
 have HFB : Hid (Bk W0 Y.heap.size #[.slice none 0 0] 51) := by show Bk _ _ _ _; rw [<- hW0]; exact Bk.new _ _ _
 have HB0 := hm7 hb0
 have HH := hm7 h
 have hml := h.1.r.lt
 clear h hb0
 refine callsIn_of_wp_marks Tryz.func104 rfl trivial ?_ rfl
 simp only [Tryz.ntmps104, List.size_toArray, List.length_cons, List.length_nil, Nat.reduceAdd, Nat.reduceSub, Array.replicate_succ, Array.replicate_zero, List.push_toArray, List.append_toArray, List.nil_append, List.cons_append]
 gi_wp2
 try rw [hW0]
 clear hW0
 refine wpIn_seqN (gf := 68) (lb := #[.pointer (some ⟨bx, 0, none⟩)]) rfl (enters_of Tryz.func68 (by kernel_rfl) rfl) (keys_seq w0 g tv mn mr ga B m T K s bx) rfl
  (fun D E pre V => GP8 Y K pre D E V) (fun _ _ _ _ _ => False) ?ownI (fun _ _ _ _ _ _ _ h => h) ?start
  (fun D E pre x v act V => ∃ C, v = x.v /\ GP8 Y K pre D E V /\ Bk V C #[.string x.nm, .int .i64 x.ar] 60 /\ E <= C /\ act = { tmps := #[.slice none 0 0, .func (.func 68) #[] #[.pointer (some ⟨bx, 0, none⟩)], .pointer (some ⟨Y.heap.size, 0, none⟩), undef, .slice none 0 0, .pointer (some ⟨C, 0, none⟩), .func (.func 68) #[] #[.pointer (some ⟨bx, 0, none⟩)], v, undef, undef, undef, undef, undef], defers := [] })
  ?ownA ?assign ?body ?done (fun _ _ _ _ _ _ _ h => h.elim)
 case ownI =>
  rintro D E pre V V2 hf h
  have := h.d
  have := h.e
  exact h.stay (hf.mono fun b _ e => by omega)
 case ownA =>
  rintro D E pre x v act V o ⟨C, h1, h2, h3, h4, h5⟩
  have := h2.d
  have := h2.e
  exact ⟨C, h1, h2.stay ((fr_put _ _ _).mono fun b _ e => by omega), (World.putObj_heap_other (by omega)).trans h3, h4, h5⟩
 case start =>
  intro W1 hb1 hz1
  have hbY := below_step HB0.out hb1
  refine ⟨⟨HH.out.1.below hbY, HH.out.2.below hbY⟩, fun D W2 ⟨k1, k2, k3⟩ => ⟨⟨⟨_, (HFB.out.below hb1).below k1, ownP_nil _ _, by intro b hb; cases hb⟩, Fr.of (below_step hbY k1), by omega, by omega, Nat.le_refl _, List.nodup_nil, by intro x hx; cases hx⟩, by omega, k1.block _ (by omega), k1.block _ (by omega)⟩, fun D E pre V h => ⟨?_, by have := h.d; have := h.e; omega⟩, fun _ _ _ _ _ h => h.elim⟩
  show V.heap[mr]? = W1.heap[mr]?
  rw [h.fr.block mr hml (by omega), hbY.block mr hml]
 case assign =>
  rintro l mm D E pre ⟨xn, xa⟩ v V0 V KK ⟨hxK, hxp⟩ h hb hown hle hK
  obtain rfl : v = (⟨xn, xa⟩ : Pd).v := hown
  have hz := h.z
  have hs := hb.size
  gi_wp2
  exact hK _ _ (Uq.below (below1 _ _)) ⟨V.heap.size, (by first | exact trivial | rfl), (h.below hb).below (below1 _ _), Bk.new _ _ _, by omega, rfl⟩
 case body =>
  rintro l mm D E pre ⟨xn, xa⟩ v act V ⟨hxK, hxp⟩ ⟨C, rfl, hg, hC, hCE, rfl⟩ hle
  obtain ⟨v, h1, h2, h3⟩ := hg.ex
  have f0 := h1.cell (i := 0) rfl
  have fl := h1.lt
  have c0 := hC.cell (i := 0) rfl
  have c1 := hC.cell (i := 1) rfl
  have hCl := hC.lt
  have HG := hm7 hg
  have H1 := hm7 h1
  have H2 := hm7 h2
  have H3 := hm7 h3
  have HXP := hm7 (And.intro hxK hxp)
  have hpl : pre.length <= 100000000000 := by
   obtain ⟨r, hr⟩ := sub_perm8 hg.l.1 hg.l.2
   have := hr.length_eq
   rw [List.length_append] at this
   omega
  obtain ⟨fa, fc, efv, -⟩ := row7_form h2
  subst efv
  have hd := hg.d
  have he := hg.e
  have hz := hg.z
  clear hg hC h1 h2 h3 hxK hxp
  gi_wp2_with (gi_at_builtin; (refine pappIn rfl _ _ rfl (Y.heap.size + 1) (.slice fa pre.length fc) pre rfl (row7_below H2.out (below1 _ _)) V.heap.size ⟨xn, xa⟩ rfl (Bk.new _ _ _) (by omega) (by simp; omega) ?_); intro v2 w7 ho7 hg7 hv7; (have hk7 : Bk w7 Y.heap.size #[.slice fa pre.length fc] 51 := (hg7.block _ (by simp; omega) (fun e => by have := H3.out _ e.symm; omega)).trans (H1.out.below (below1 _ _))); have f7 := hk7.cell (i := 0) rfl; have z7 := hk7.froz 0; have l7 := hk7.lt; have HK7 := hm7 hk7; have HH7 := hm7 (And.intro ho7 (And.intro hg7 hv7)); obtain ⟨a7, n7, e7, -⟩ := row7_form ho7; rw [List.length_append, List.length_singleton] at e7; subst e7; clear ho7 hg7 hv7 hk7)
  obtain ⟨ho7, hg7, hv7⟩ := HH7.out
  have hf7 : Fr (fun b => Y.heap.size <= b) V w7 := ((Fr.of (below1 _ _)).trans (Q := fun b => (Value.slice fa pre.length fc).ownBlock = some b) (Fr.grown hg7 fun b e => e) fun b _ e => by have := H3.out b e; omega)
  have hf8 : Fr (fun b => b = Y.heap.size ∨ E <= b) V w7 := ((Fr.of (below1 _ _)).trans (Q := fun b => (Value.slice fa pre.length fc).ownBlock = some b) (Fr.grown hg7 fun b e => e) fun b _ e => Or.inr (H3.out b e))
  have hnew : ∀ b, (Value.slice a7 (pre.length + 1) n7).ownBlock = some b -> E <= b := fun b hb => by
   rcases hv7 with hv | hv
   ·exact H3.out b (hv ▸ hb)
   ·rw [hv] at hb; cases hb; simp; omega
  refine ⟨?_, ⟨⟨_, HK7.out.set 0 _, row7 ho7 fun b hb => heap_setCell_other _ _ _ _ fun e => ?_, hnew⟩, ?_, hd, he, ?_, ?_⟩⟩
  ·have hset : Fr (fun b => b = Y.heap.size ∨ E <= b) V (w7.setCell ⟨Y.heap.size, 0, none⟩ (.slice a7 (pre.length + 1) n7)) := hf8.set (Or.inl (Or.inl rfl))
   exact ⟨hset.size, fun b q1 q2 q3 => hset.block b q3 (by omega)⟩
  ·have e' : b = Y.heap.size := e
   have := hnew b hb
   omega
  ·exact (HG.out.fr.trans hf7 fun b _ h => h).set (Or.inl (Nat.le_refl _))
  ·have q1 := (hf8.set (g := Y.heap.size) (i := 0) (v := .slice a7 (pre.length + 1) n7) (Or.inl (Or.inl rfl))).size
   omega
  ·refine ⟨List.nodup_append.2 ⟨HG.out.l.1, by simp, fun a ha b hb => ?_⟩, fun y hy => ?_⟩
   ·rw [List.mem_singleton] at hb
    subst hb
    exact fun e => HXP.out.2 (e ▸ ha)
   ·rcases List.mem_append.1 hy with hy | hy
    ·exact HG.out.l.2 y hy
    ·rw [List.mem_singleton] at hy; rw [hy]; exact HXP.out.1
 case done =>
  rintro D E D' ss V rfl hfin hg hD
  obtain ⟨v, h1, h2, h3⟩ := hg.ex
  have f0 := h1.cell (i := 0) rfl
  obtain ⟨fa, fc, efv, -⟩ := row7_form h2
  subst efv
  have HG := hm7 hg
  have H2 := hm7 h2
  have H3 := hm7 h3
  have HD := hm7 hD
  have HFIN := hm7 hfin
  have hd := hg.d
  have he := hg.e
  clear hg h1 h2 h3 hD hfin
  gi_wp2
  refine ⟨by simp, .inl ⟨_, _, rfl, run_takeDeferred HD.out, ⟨_, results_tmp rfl _ _ _, .slice fa ss.length fc, ss, rfl, ?_, HFIN.out, ?_⟩⟩⟩
  ·exact OwnP.mono (row7 H2.out fun b hb => World.putObj_heap_other (by have := H3.out b hb; omega)) (Nat.le_succ _)
  ·exact (HG.out.fr.trans (fr_put _ _ _) fun b _ e => by omega).below fun b hl hc => by omega
set_option maxRecDepth 20000 in
theorem keys8_any (mr : Nat) (Y : World) : Calls Tryz.prog 42 #[.map (some mr)] Y fun e Y' => e = .returned (.func (.func 68) #[] #[.pointer (some ⟨Y.heap.size, 0, none⟩)]) /\ Bk Y' Y.heap.size #[.map (some mr)] 80 /\ Below Y.heap.size Y Y' := by
 go_enter Tryz.func42, Tryz.ntmps42
 go_wp2
 go_ret
 exact ⟨rfl, Bk.new _ _ _, below1 _ _⟩
set_option maxRecDepth 20000 in
theorem collP8_any (w0 : World) (g : Nat) (tv : Value) (mn mr : Nat) (ga : Pd -> Nat) (B : Pd -> Nat -> Prop) (m : Nat) (T : List Tm) (K : List Pd) (s : Pd -> St7) (bx : Nat) (Y : World) (h : KD8 w0 g tv mn mr ga B m T K s bx Y) (hkl : K.length <= 100000000000) :
  Calls Tryz.prog 66 #[.func (.func 68) #[] #[.pointer (some ⟨bx, 0, none⟩)]] Y fun e Y' => ∃ v l, e = .returned v /\ OwnP Y' Y.heap.size v l /\ l.Perm K /\ Below Y.heap.size Y Y' := by
 have HA := hm7 (appSeqP8_any w0 g tv mn mr ga B m T K s bx Y h hkl)
 clear h
 go_enter Tryz.func66, Tryz.ntmps66
 go_wp2_with (go_at_call 104; refine HA.out.mono ?_; rintro e w1 ⟨v, l, rfl, h1, h2, h3⟩; have HH := hm7 (And.intro h1 (And.intro h2 h3)); clear h1 h2 h3)
 go_ret
 exact ⟨v, l, rfl, HH.out⟩
def PQ8 (K : List Pd) (Y : World) (e : Ending) (Y' : World) : Prop := ∃ v l, e = .returned v /\ OwnP Y' Y.heap.size v l /\ l.Perm K /\ srt8P l /\ Below Y.heap.size Y Y'
set_option maxRecDepth 20000 in
theorem sortedP8_any (w0 : World) (g : Nat) (tv : Value) (mn mr : Nat) (ga : Pd -> Nat) (B : Pd -> Nat -> Prop) (m : Nat) (T : List Tm) (K : List Pd) (s : Pd -> St7) (bx : Nat) (Y : World) (h : KD8 w0 g tv mn mr ga B m T K s bx Y) (hkl : K.length <= 100000000000) :
  Calls Tryz.prog 41 #[.func (.func 68) #[] #[.pointer (some ⟨bx, 0, none⟩)], .func (.func 43) #[] #[]] Y (PQ8 K Y) := by
 have HA := hm7 (collP8_any w0 g tv mn mr ga B m T K s bx Y h hkl)
 have HKL := hm7 hkl
 clear h
 go_enter Tryz.func41, Tryz.ntmps41
 go_wp2_with (first
  | (go_at_call 66; refine HA.out.mono ?_; rintro e w1 ⟨v, l, rfl, h1, h2, h3⟩; have HH := hm7 (And.intro h1 (And.intro h2 h3)); have HSO := hm7 (sort8P_any l v Y.heap.size w1 h1 (by have := h2.length_eq; have := HKL.out; omega)); obtain ⟨fa, fc, efv, -⟩ := row7_form h1; subst efv; clear h1 h2 h3)
  | (go_at_call 67; refine HSO.out.mono ?_; rintro e w2 ⟨rfl, l', k1, k2, k3, k4⟩; have HQ := hm7 (And.intro k1 (And.intro k2 (And.intro k3 k4))); clear k1 k2 k3 k4))
 go_ret
 exact ⟨_, l', rfl, HQ.out.1, HQ.out.2.1.trans HH.out.2.1, HQ.out.2.2.1, HH.out.2.2.trans HQ.out.2.2.2⟩
set_option maxRecDepth 20000 in
theorem preds8_any (w0 : World) (g : Nat) (tv : Value) (mn mr : Nat) (ga : Pd -> Nat) (B : Pd -> Nat -> Prop) (m : Nat) (T : List Tm) (K : List Pd) (s : Pd -> St7) (Y : World) (h : BS w0 g tv mn mr ga B m T K s Y) (hkl : K.length <= 100000000000) :
  Calls Tryz.prog 18 #[.pointer (some ⟨g, 0, none⟩)] Y (PQ8 K Y) := by
 have c2 := h.t.b.cell (i := 2) rfl
 have HS := hm7 h
 have HKL := hm7 hkl
 clear h
 go_enter Tryz.func18, Tryz.ntmps18
 go_wp2_with (first
  | (go_at_call 42; refine (keys8_any _ _).mono ?_; rintro e w1 ⟨rfl, h1, h2⟩; have HSO := hm7 (sortedP8_any w0 g tv mn mr ga B m T K s Y.heap.size w1 ⟨HS.out.below h2, h1⟩ HKL.out); have HB := hm7 h2; clear h1 h2)
  | (go_at_call 41; refine HSO.out.mono ?_; rintro e w2 ⟨v, l, rfl, k1, k2, k3, k4⟩; have HQ := hm7 (And.intro k1 (And.intro k2 (And.intro k3 k4))); clear k1 k2 k3 k4))
 go_ret
 exact ⟨v, l, rfl, HQ.out.1.mono HB.out.size, HQ.out.2.1, HQ.out.2.2.1, below_step HB.out HQ.out.2.2.2⟩
end Go.Proofs.YtechceagghcipaaGreatDoor
