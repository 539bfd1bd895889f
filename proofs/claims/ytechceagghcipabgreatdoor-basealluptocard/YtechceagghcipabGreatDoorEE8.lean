import Derived.Test.YtechceagghcipabGreatDoorEE7
namespace Go.Proofs.YtechceagghcipabGreatDoor
open Go.RowKit Go.Shelf Go.Maps
attribute [local go_sem] Oper.semAt_some
def fcp8 (T : List Tm) (s : Pd -> St7) (parts : Int) (p : Pd) : List At := (fnd8 (s p) parts [] []).map (at8 T p.nm)
structure LF8 (w0 : World) (g : Nat) (tv : Value) (mn mr : Nat) (ga : Pd -> Nat) (B : Pd -> Nat -> Prop) (m : Nat) (T : List Tm) (K : List Pd) (s : Pd -> St7) (parts : Int) (Y : World) (ss : List Pd) (Es : List Nat) (X : World) : Prop where
 ex : ∃ B' fv Q, BS w0 g tv mn mr ga B' (m + ss.length) T K s X /\ Bk X Y.heap.size #[fv] 56 /\ AL8 X (Y.heap.size + 2) fv Q /\ Q.map Prod.fst = ss.flatMap (fcp8 T s parts) /\ (∀ b, PA8 g tv mn mr B' K b -> PA8 g tv mn mr B K b ∨ Y.heap.size + 2 <= b) /\ (∀ b, (fv.ownBlock = some b ∨ ∃ x ∈ Q, x.2 = b) -> ¬ PA8 g tv mn mr B' K b /\ b ∉ Es) /\ ∀ E ∈ Es, ¬ PA8 g tv mn mr B' K E
 mks : Mk7 X Es
 lo : ∀ E ∈ Es, Y.heap.size + 2 <= E
 fr : Fr (PA8 g tv mn mr B K) Y X
 sz : Y.heap.size + 2 <= X.heap.size
section
variable {w0 : World} {g : Nat} {tv : Value} {mn mr : Nat} {ga : Pd -> Nat} {B : Pd -> Nat -> Prop} {m : Nat} {T : List Tm} {K : List Pd} {s : Pd -> St7} {parts : Int} {Y : World} {ss : List Pd} {Es : List Nat} {X X' : World}
theorem LF8.fr1 (h : LF8 w0 g tv mn mr ga B m T K s parts Y ss Es X) (hY : BS w0 g tv mn mr ga B m T K s Y) (hf : Fr (fun b => b = Y.heap.size + 1) X X') : LF8 w0 g tv mn mr ga B m T K s parts Y ss Es X' := by
 obtain ⟨B', fv, Q, h1, h2, h3, h4, h5, h6, h7⟩ := h.ex
 have hs := h.sz
 have hw := hY.bl.size
 refine ⟨⟨B', fv, Q, h1.fr hf (fun b e _ hb => ?_) (fun b e _ => by omega), h2.fr hf (by omega), h3.same fun b hb => hf.block b (h3.lt hb).2 fun e => ?_, h4, h5, h6, h7⟩, h.mks.same fun E hE => hf.block E (h.mks.lt E hE) fun e => by have := h.lo E hE; omega, h.lo, h.fr.trans hf fun b hl e => by omega, Nat.le_trans h.sz hf.size⟩
 ·rcases h5 b hb with q | q
  ·have := (hY.lt q).2; omega
  ·omega
 ·have := (h3.lt hb).1; omega
theorem LF8.below (h : LF8 w0 g tv mn mr ga B m T K s parts Y ss Es X) (hY : BS w0 g tv mn mr ga B m T K s Y) (hb : Below X.heap.size X X') : LF8 w0 g tv mn mr ga B m T K s parts Y ss Es X' := h.fr1 hY (Fr.of hb)
end
theorem sub_perm8 {α : Type} : ∀ {l K : List α}, l.Nodup -> (∀ x ∈ l, x ∈ K) -> ∃ r, K.Perm (l ++ r)
 | [], K, _, _ => ⟨K, List.Perm.refl _⟩
 | x :: l, K, hn, hs => by
  obtain ⟨a, b, rfl⟩ := List.append_of_mem (hs x (by simp))
  have h1 := List.nodup_cons.1 hn
  obtain ⟨r, hr⟩ := sub_perm8 (l := l) (K := a ++ b) h1.2 fun y hy => by
   have := hs y (by simp [hy])
   simp only [List.mem_append, List.mem_cons] at this ⊢
   rcases this with q | q | q
   ·exact Or.inl q
   ·exact absurd (q ▸ hy) h1.1
   ·exact Or.inr q
  exact ⟨r, List.perm_middle.trans (hr.cons x)⟩
theorem sub_len8 {α β : Type} (f : α -> List β) {l K : List α} (hn : l.Nodup) (hs : ∀ x ∈ l, x ∈ K) : (l.flatMap f).length <= (K.flatMap f).length := by
 obtain ⟨r, hr⟩ := sub_perm8 hn hs
 rw [(hr.flatMap_right f).length_eq, List.flatMap_append, List.length_append]
 omega
theorem leaves8 {F : Fence} {n : Nat} {P : Program} {fn : Func} {tmps : Array Value} {R : Ending -> World -> Prop} (Ez : List Nat) (G : World -> Prop)
  (hG : ∀ X E, G X -> E ∈ Ez -> X.heap[E]? = some (.deferred (some [])) -> G (X.putObj E (.deferred none)))
  (hR : ∀ X, G X -> LeavesIn F n P fn tmps R [] .returning X) : ∀ (Es : List Nat) (X : World), Mk7 X Es -> (∀ E ∈ Es, E ∈ Ez) -> G X -> LeavesInM F n P fn tmps R (mk7 Es) .returning X
 | [], X, _, _, h => hR X h
 | E :: Es, X, hm, hl, h => by
  have hE := hm.bl E (List.mem_cons_self ..)
  refine ⟨by simp, .inl ⟨E, _, rfl, run_takeDeferred hE, ?_⟩⟩
  have hnd := List.nodup_cons.1 hm.nd
  refine leaves8 Ez G hG hR Es _ ⟨hnd.2, fun e he => ?_⟩ (fun e he => hl e (List.mem_cons_of_mem _ he)) (hG X E h (hl E (List.mem_cons_self ..)) hE)
  rw [World.putObj_heap_other (fun e' => by subst e'; exact hnd.1 he)]
  exact hm.bl e (List.mem_cons_of_mem _ he)
set_option maxRecDepth 100000 in
set_option maxHeartbeats 1000000 in
theorem facts8_any (w0 : World) (g : Nat) (tv : Value) (mn mr : Nat) (ga : Pd -> Nat) (B : Pd -> Nat -> Prop) (m : Nat) (T : List Tm) (K : List Pd) (s : Pd -> St7) (parts : Int) (Y : World) (h : BS w0 g tv mn mr ga B m T K s Y) (hkl : K.length <= 10000000) (hm : m <= 10000000000000)
  (hrow : ∀ p ∈ K, ∃ n : Nat, p.ar = (n : Int) /\ n <= 1000000000 /\ ∀ r ∈ (s p).rows, RowOf T p.nm n r) (htot : (K.flatMap (fcp8 T s parts)).length <= 1000000000) :
  Calls Tryz.prog 21 #[.pointer (some ⟨g, 0, none⟩), .int .i64 parts] Y (FQ8 w0 g tv mn mr ga B (m + K.length) T K s (K.flatMap (fcp8 T s parts)) Y) := by
 obtain ⟨nn, -⟩ : ∃ n : Nat, True := ⟨0, trivial⟩
 refine (callsIn_wide (n := nn)).1 ?_
 obtain ⟨D, hD, hsz, hc0, hin⟩ := h.rng
 have HS := hm7 h
 have HM := hm7 hD
 have HC0 := hm7 hc0
 have HIN := hm7 hin
 have HROW := hm7 hrow
 have HTOT := hm7 htot
 obtain ⟨W0, hW0⟩ : ∃ W0, Y.alloc (.cells #[.slice none 0 0] 56) = W0 := ⟨_, rfl⟩
 have hb0 : Below Y.heap.size Y W0 := by rw [<- hW0]; exact below1 _ _
 have hz0 : W0.heap.size = Y.heap.size + 1 := by rw [<- hW0]; simp
 have HFB : Hid (Bk W0 Y.heap.size #[.slice none 0 0] 56) := by show Bk _ _ _ _; rw [<- hW0]; exact Bk.new _ _ _
 have HB0 := hm7 hb0
 have HM0 := hm7 (hD.kept (below_grown hb0) (by simp))
 obtain ⟨W1, hrun1, hrg0, hg1, hs1⟩ := HM0.out.range Tryz.lawPred Tryz.underlying42
 have c2 := (h.t.b.below hb0).cell (i := 2) rfl
 have gl := (h.t.b.below hb0).lt
 have hml := (h.r.below hb0).lt
 clear h hD hc0 hin hrow hb0 htot
 refine callsIn_of_wp_marks Tryz.func21 rfl trivial ?_ rfl
 simp only [Tryz.ntmps21, List.size_toArray, List.length_cons, List.length_nil, Nat.reduceAdd, Nat.reduceSub, Array.replicate_succ, Array.replicate_zero, List.push_toArray, List.append_toArray, List.nil_append, List.cons_append]
 have HRG0 := hm7 hrg0
 have HL0 : Hid (LF8 w0 g tv mn mr ga B m T K s parts Y [] [] W1) := by
  have hf1 : Fr (fun _ => False) W0 W1 := Fr.grown hg1 fun b e => by cases e
  have hb1 : Below W0.heap.size W0 W1 := hf1.below fun _ _ h => h
  have hb2 := below_step HB0.out hb1
  exact ⟨⟨B, _, [], HS.out.below hb2, HFB.out.below hb1, AL8.nil _ _, rfl, fun b hb => Or.inl hb, (fun b hb => by rcases hb with hb | ⟨x, hx, -⟩ <;> first | cases hb | cases hx), (fun E hE => by cases hE)⟩, ⟨List.nodup_nil, (fun E hE => by cases hE)⟩, (fun E hE => by cases hE), Fr.of hb2, by omega⟩
 clear hrg0 hg1 hs1
 gi_wp2
 refine wpIn_loop (fun ac X => ∃ (left : Lit -> Bool) (cnt : Nat) (ss : List Pd) (Es : List Nat), (ac.tmps.size = 29 /\ ac.tmps[0]? = some (.pointer (some ⟨g, 0, none⟩)) /\ ac.tmps[1]? = some (.int .i64 parts) /\ ac.tmps[4]? = some (.slice none 0 0) /\ ac.tmps[5]? = some (.pointer (some ⟨Y.heap.size, 0, none⟩)) /\ ac.tmps[12]? = some (.pointer (some ⟨Y.heap.size + 1, 0, none⟩)) /\ ac.defers = mk7 Es) /\ X.ranges Tryz.prog 72 rawE mr (Y.heap.size + 1) K.length D left cnt /\ ss.length + cnt <= K.length /\ CollQ K left ss /\ LF8 w0 g tv mn mr ga B m T K s parts Y ss Es X) (fun _ X => X.rangeLeft mr (Y.heap.size + 1)) ?_ (fun ac X hI => ?_)
 ·exact ⟨_, _, [], [], ⟨rfl, rfl, rfl, rfl, rfl, rfl, rfl⟩, by have := HRG0.out; rw [hz0] at this; exact this, by simp [hsz], HC0.out, HL0.out⟩
 clear HL0 HRG0 hrun1 W1 c2 hml gl
 obtain ⟨left, cnt, ss, Es, hac, hrg, hcn, hC, hL⟩ := hI
 obtain ⟨tmps, defers⟩ := ac
 obtain ⟨f, hf⟩ : ∃ f : Nat -> Value, tmps = #[.pointer (some ⟨g, 0, none⟩), .int .i64 parts, f 2, f 3, .slice none 0 0, .pointer (some ⟨Y.heap.size, 0, none⟩), f 6, f 7, f 8, f 9, f 10, f 11, .pointer (some ⟨Y.heap.size + 1, 0, none⟩), f 13, f 14, f 15, f 16, f 17, f 18, f 19, f 20, f 21, f 22, f 23, f 24, f 25, f 26, f 27, f 28] := by
  obtain ⟨hn, t0, t1, t4, t5, t12, -⟩ := hac
  obtain ⟨f, hf, hi⟩ := arr_of 29 tmps hn
  refine ⟨f, ?_⟩
  have e : ∀ (i : Nat) (v : Value), i < 29 -> tmps[i]? = some v -> f i = v := fun i v h1 h2 => Option.some.inj ((hi i h1).symm.trans h2)
  rw [hf, show (List.range 29).map f = [f 0, f 1, f 2, f 3, f 4, f 5, f 6, f 7, f 8, f 9, f 10, f 11, f 12, f 13, f 14, f 15, f 16, f 17, f 18, f 19, f 20, f 21, f 22, f 23, f 24, f 25, f 26, f 27, f 28] from rfl, e 0 _ (by decide) t0, e 1 _ (by decide) t1, e 4 _ (by decide) t4, e 5 _ (by decide) t5, e 12 _ (by decide) t12]
 obtain rfl : defers = mk7 Es := by have := hac; simp only at this; exact this.2.2.2.2.2.2
 clear hac
 subst hf
 have HL := hm7 hL
 have HC := hm7 hC
 have HRG := hm7 hrg
 have hPl : ∀ b, PA8 g tv mn mr B K b -> b < Y.heap.size := fun b hb => (HS.out.lt hb).2
 have hw0 := HS.out.bl.size
 rcases hrg.next Tryz.lawPred 0 with ⟨-, hl0, hrun⟩ | ⟨key, v, kl, y, w1, cnt1, hkey, hlk, hv, hat, hrun, hrg1, hlt, hg1, hs1, hen⟩
 ·have HPM := hm7 (hC.done HS.out.nd hl0)
  obtain ⟨B', fv, Q, h1, h2, h3, h4, h5, h6, h7⟩ := hL.ex
  have hqn : Q.length <= 1000000000000 := by
   have e1 : Q.length = (K.flatMap (fcp8 T s parts)).length := by rw [<- (HPM.out.flatMap_right (fcp8 T s parts)).length_eq, <- h4, List.length_map]
   have := HTOT.out
   omega
  have HSO := hm7 (sortA8_any (Y.heap.size + 2) fv Q X h3 hqn)
  have f0 := h2.cell (i := 0) rfl
  have HG := hm7 (And.intro h1 (And.intro h2 (And.intro h3 (And.intro h4 (And.intro h5 (And.intro h6 h7))))))
  obtain ⟨fa, fc, efv, -⟩ := row7_form h3.o
  subst efv
  clear h1 h2 h3 h4 h5 h6 h7 hrg hC hL hl0
  gi_wp2
  refine ⟨trivial, fun h => (by cases h), (callsIn_wide.2 HSO.out).mono ?_⟩
  rintro e V6 ⟨rfl, Q', h1, h2, h3, h4⟩
  have hfbn : (Value.slice fa Q.length fc).ownBlock ≠ some Y.heap.size := fun e => by have := (HG.out.2.2.1.lt (Or.inl e)).1; omega
  have f6 := (HG.out.2.1.fr h4 hfbn).cell (i := 0) rfl
  have HSQ := hm7 (And.intro h1 (And.intro h2 (And.intro h3 h4)))
  clear f0 h1 h2 h3 h4
  gi_wp2
  obtain ⟨q1, q2, q3, q4⟩ := HSQ.out
  obtain ⟨h1, h2, h3, h4, h5, h6, h7⟩ := HG.out
  have hQ : ∀ b, ((Value.slice fa Q.length fc).ownBlock = some b ∨ ∃ x ∈ Q', x.2 = b) -> (Value.slice fa Q.length fc).ownBlock = some b ∨ ∃ x ∈ Q, x.2 = b := fun b hb => hb.imp id fun ⟨x, hx, e⟩ => ⟨x, q2.mem_iff.1 hx, e⟩
  have hlen : ss.length = K.length := HPM.out.length_eq
  have hbs6 : BS w0 g tv mn mr ga B' (m + K.length) T K s V6 := by
   rw [<- hlen]
   exact h1.fr q4 (fun b hb _ hc => (h6 b (Or.inl hb)).1 hc) (fun b hb _ => by have := (h3.lt (Or.inl hb)).1; omega)
  have hmk6 : Mk7 V6 Es := HL.out.mks.same fun E hE => q4.block E (HL.out.mks.lt E hE) fun hb => (h6 E (Or.inl hb)).2 hE
  refine leaves8 Es (fun Z => AL8 Z (Y.heap.size + 2) (.slice fa Q.length fc) Q' /\ BS w0 g tv mn mr ga B' (m + K.length) T K s Z /\ Fr (PA8 g tv mn mr B K) Y Z) ?_ (fun Z hZ => ?_) Es V6 hmk6 (fun _ h => h) ⟨q1, hbs6, HL.out.fr.trans q4 fun b hl hb => by have := (h3.lt (Or.inl hb)).1; omega⟩
  ·rintro Z E ⟨k1, k2, k3⟩ hE -
   have hfp := fr_put Z E (.deferred none)
   have hlo := HL.out.lo E hE
   exact ⟨k1.same fun b hb => World.putObj_heap_other fun e => (h6 b (hQ b hb)).2 (by rw [e]; exact hE), k2.fr hfp (fun b e _ hc => h7 E hE (by rw [<- e]; exact hc)) (fun b e _ => by omega), k3.trans hfp fun b hl e => by omega⟩
  ·refine ⟨_, results_tmp rfl _ _ _, .slice fa Q.length fc, Q', B', rfl, hZ.1.mono (by omega), q3, ?_, hZ.2.1, hZ.2.2, fun b hb => (h5 b hb).imp id fun h => by omega, fun b hb => (h6 b (hQ b hb)).1⟩
   refine (q2.map Prod.fst).trans ?_
   rw [h4]
   exact HPM.out.flatMap_right _
 ·obtain ⟨x, rfl, -⟩ := keyOf_pd_inv hkey
  obtain ⟨hx, rfl, rfl⟩ := HIN.out x v kl y hkey hv hat
  have hnx : x ∉ ss := fun hq => by have := (hC.mem x hx).1 hq; rw [hlk] at this; cases this
  have HC1 := hm7 (hC.step HS.out.kp hx hlk)
  have hfi : Fr (fun b => b = Y.heap.size + 1) X w1 := Fr.grown hg1 fun b e => by cases e; rfl
  have HL1 := hm7 (hL.fr1 HS.out hfi)
  have HR1 := hm7 hrg1
  have hlt' := hlt
  have HLT := hm7 (show w1.rangeLeft mr (Y.heap.size + 1) < X.rangeLeft mr (Y.heap.size + 1) by rw [hrg1.left_eq, hrg.left_eq]; exact hlt)
  obtain ⟨ar, har, hln, hrw⟩ := HROW.out x hx
  have HX := hm7 hx
  have HRW := hm7 hrw
  clear hx hat hlk hkey hrg1 hg1 hs1 hv hC hlt hrg hL HC hfi hnx hrw
  obtain ⟨xn, xa⟩ := x
  simp only at har
  subst har
  obtain ⟨W2, hW2⟩ : ∃ W2, w1.alloc (.cells #[.string xn, .int .i64 (ar : Int)] 72) = W2 := ⟨_, rfl⟩
  have hb2 : Below w1.heap.size w1 W2 := by rw [<- hW2]; exact below1 _ _
  have HB2 := hm7 hb2
  have hz2 : W2.heap.size = w1.heap.size + 1 := by rw [<- hW2]; simp
  have HPB : Hid (Bk W2 w1.heap.size #[.string xn, .int .i64 (ar : Int)] 72) := by show Bk _ _ _ _; rw [<- hW2]; exact Bk.new _ _ _
  have p0 := HPB.out.cell (i := 0) rfl
  have p1 := HPB.out.cell (i := 1) rfl
  clear hb2
  gi_wp2
  try rw [hW2]
  clear hW2
  refine ⟨trivial, fun h => (by cases h), (callsIn_wide.2 (having8_any g xn ar parts none none 0 0 0 0 W2)).mono ?_⟩
  rintro e V5 ⟨rfl, hhv, hb5⟩
  have HHV := hm7 hhv
  have HB5 := hm7 (below_step HB2.out hb5)
  have hz5 := hb5.size
  clear hhv hb5 p0 p1 HPB
  gi_wp2
  have hL5 := HL1.out.below HS.out HB5.out
  obtain ⟨B', fv, Q, h1', h2', h3', h4, h5, h6, h7⟩ := HL1.out.ex
  have hPw : ∀ b, PA8 g tv mn mr B' K b -> b < w1.heap.size := fun b hb => (h1'.lt hb).2
  have hAw : ∀ b, (fv.ownBlock = some b ∨ ∃ x ∈ Q, x.2 = b) -> b < w1.heap.size := fun b hb => (h3'.lt hb).2
  have h1 := h1'.below HB5.out
  have h2 := h2'.below HB5.out
  have h3 := h3'.below HB5.out
  have hfw := h2'.lt
  clear h1' h2' h3'
  obtain ⟨XF, hXF⟩ : ∃ XF : Nat -> Prop, ∀ b, XF b ↔ b = Y.heap.size ∨ fv.ownBlock = some b ∨ ∃ x ∈ Q, x.2 = b := ⟨fun b => b = Y.heap.size ∨ fv.ownBlock = some b ∨ ∃ x ∈ Q, x.2 = b, fun b => Iff.rfl⟩
  have hXb : ∀ b, XF b -> Y.heap.size <= b /\ b ≠ Y.heap.size + 1 /\ b < V5.heap.size /\ ¬ PA8 g tv mn mr B' K b := fun b hb => by
   rcases (hXF b).1 hb with rfl | q
   ·refine ⟨Nat.le_refl _, by omega, h2.lt, fun hc => ?_⟩
    rcases h5 _ hc with q | q
    ·have := hPl _ q; omega
    ·omega
   ·have := h3.lt q
    exact ⟨by omega, by omega, this.2, (h6 b q).1⟩
  have HXB := hm7 hXb
  have HXF := hm7 hXF
  have HG := hm7 (And.intro h1 (And.intro h2 (And.intro h3 (And.intro h4 (And.intro h5 (And.intro h6 h7))))))
  have HL5 := hm7 hL5
  have HPW := hm7 hPw
  have HAW := hm7 hAw
  have HP5 : Hid (∀ b, PA8 g tv mn mr B' K b -> b < V5.heap.size) := fun b hb => (h1.lt hb).2
  rw [hz2] at HHV
  have hL0 : ss.length <= K.length := by omega
  have hz1 : Y.heap.size + 2 <= w1.heap.size := HL1.out.sz
  have HTL : Hid (((ss ++ [(⟨xn, (ar : Int)⟩ : Pd)]).flatMap (fcp8 T s parts)).length <= 1000000000) := Nat.le_trans (sub_len8 _ HC1.out.nd HC1.out.sub) HTOT.out
  clear h1 h2 h3 h4 h5 h6 h7 hXb hXF hL5 HL1 hPw hAw
  have h50 : w1.heap.size + 1 < V5.heap.size := by have := HHV.out.b0.lt; omega
  refine range_having (w0 := w0) (g := g) (tv := tv) (mn := mn) (mr := mr) (ga := ga) (B := B') (m := m + ss.length) (T := T) (K := K) (s := s) (nm := xn) (ar := ar) (parts := parts) (cols := []) (keys := []) (bb := w1.heap.size + 1) (X := XF) (G := Any) (N := Any) rfl rfl HG.out.1 HX.out HHV.out (Li.nil _ _) (Li.nil _ _) (by intro x hx; cases hx) (by intro x hx; cases hx) (by simp) (by omega) hln (fun r hr => HRW.out r hr)
   (fun j hj => ⟨fun hc => ?_, fun hc => ?_⟩) (fun b hb => ⟨by have := (HXB.out b hb).1; omega, (HXB.out b hb).2.2.1, (HXB.out b hb).2.2.2⟩)
   (fun E pre V => GA8 Y.heap.size (Y.heap.size + 2) XF (ss.flatMap (fcp8 T s parts) ++ pre) E V) (fun E pre => GA8.only) (fun E => ⟨fv, Q, HG.out.2.1, HG.out.2.2.1, by rw [List.append_nil]; exact HG.out.2.2.2.1, fun b hb => Or.inl ((HXF.out b).2 (Or.inr hb)), (HXF.out _).2 (Or.inl rfl), by omega⟩)
   (fun v C => { tmps := #[.pointer (some ⟨g, 0, none⟩), .int .i64 parts, f 2, f 3, .slice none 0 0, .pointer (some ⟨Y.heap.size, 0, none⟩), .pointer (some ⟨w1.heap.size, 0, none⟩), .pointer (some ⟨C, 0, none⟩), f 8, f 9, f 10, f 11, .pointer (some ⟨Y.heap.size + 1, 0, none⟩), .tuple #[.bool true, (⟨xn, (ar : Int)⟩ : Pd).v, .pointer (some ⟨ga ⟨xn, (ar : Int)⟩, 0, none⟩)], .bool true, .tuple #[(⟨xn, (ar : Int)⟩ : Pd).v, .pointer (some ⟨ga ⟨xn, (ar : Int)⟩, 0, none⟩)], (⟨xn, (ar : Int)⟩ : Pd).v, .pointer (some ⟨g, 0, none⟩), .agg #[.string xn, .int .i64 (ar : Int)], .int .i64 parts, hav8 (w1.heap.size + 1), v, f 22, f 23, f 24, f 25, f 26, f 27, f 28], defers := [] }) ?assign ?body ?done
  ·have := HPW.out _ hc; omega
  ·rcases (HXF.out _).1 hc with q | q
   ·omega
   ·have := HAW.out _ q; omega
  case assign =>
   rintro l mm ⟨⟨yk, yn, ys⟩, ynm, yl⟩ A V KK hKK
   gi_wp2
   exact hKK
  case body =>
   rintro l mm E pre x A C V hpre ⟨V0, ⟨gv, R, g1, g2, g3, g4, g5, g6⟩, k1, k2, k3⟩ hA hAE hC hCE hE ⟨F, hF, hfr⟩ hEV
   have hQA : ∀ y ∈ R, y.2 ≠ A := fun y hy e => by have := (g2.lt (Or.inr ⟨y, hy, rfl⟩)).2; omega
   have g1 : Bk V Y.heap.size #[gv] 56 := (k3 _ (Or.inl g5) g1.lt).trans g1
   have g2 : AL8 V (Y.heap.size + 2) gv R := g2.same fun b hb => k3 b (g4 b hb) (g2.lt hb).2
   have hxl : x.args.length <= 1000000000 := by
    obtain ⟨r, hr, rfl⟩ := List.mem_map.1 (hpre.subset (by simp : x ∈ pre ++ [x]))
    have := (HRW.out r (fnd8_mem r hr)).at
    omega
   have hqn : R.length <= 1000000000000 := by
    have e1 : R.length = (ss.flatMap (fcp8 T s parts) ++ pre).length := by rw [<- g3, List.length_map]
    have e2 := (List.IsPrefix.length_le hpre)
    have e3 := HTL.out
    rw [List.flatMap_append, List.length_append, List.flatMap_singleton] at e3
    have e4 : fcp8 T s parts (⟨xn, (ar : Int)⟩ : Pd) = (fnd8 (s ⟨xn, (ar : Int)⟩) parts [] []).map (at8 T xn) := rfl
    rw [e4] at e3
    rw [List.length_append] at e1 e2
    omega
   have HGG := hm7 (And.intro g1 (And.intro g2 (And.intro g3 g4)))
   have HA := hm7 hA
   have HC := hm7 hC
   have HXL := hm7 hxl
   have HNA := hm7 hQA
   have f0 := g1.cell (i := 0) rfl
   have fl := g1.lt
   have hCV := hC.lt
   obtain ⟨xm, hxm⟩ : ∃ xm, x.args.length = xm := ⟨_, rfl⟩
   obtain ⟨⟨xk, xi, xz⟩, xnm, xl⟩ := x
   simp only at hxm
   obtain ⟨⟨c0, c1⟩, c2, c3, c4⟩ := five8 (show Bk V C #[.int .i64 xk, .int .i64 xi, .string xz, .string xnm, .slice (some ⟨A, 0, none⟩) xl.length xl.length] 33 from hC)
   rw [hxm] at c4 ⊢
   have HXM := hm7 hxm
   obtain ⟨fa, fc, efv, -⟩ := row7_form g2.o
   subst efv
   have HX5 := hm7 g5
   clear hA hC hxl hfr g1 g2 g3 g4 g5 g6 hxm
   gi_wp2_with (gi_at_builtin; (refine aappIn rfl _ _ rfl (Y.heap.size + 2) (.slice fa R.length fc) (R.map enc8) rfl ((HGG.out.2.1.below (below1 _ _)).o.a) V.heap.size (⟨⟨xk, xi, xz⟩, xnm, xl⟩, .slice (some ⟨A, 0, none⟩) xm xm) rfl (Bk.new _ _ _) (one8 _ _ _ _) (by rw [List.length_map]; omega) (by simp; omega) ?_); intro v2 w7 ho7 hg7 hv7; (have HPUT := hm7 (GA8.put (x := ⟨⟨xk, xi, xz⟩, xnm, xl⟩) HGG.out.1 HGG.out.2.1 HGG.out.2.2.1 HGG.out.2.2.2 HX5.out (by omega) HA.out hAE (by omega) HXL.out HNA.out hEV (below1 _ _) (by simp only [HXM.out]; exact ho7) hg7 hv7)); (have hk7 : Bk w7 Y.heap.size #[.slice fa R.length fc] 56 := (hg7.block _ (by simp; omega) (fun e => by have := (HGG.out.2.1.lt (Or.inl e.symm)).1; omega)).trans (HGG.out.1.below (below1 _ _))); have f7 := hk7.cell (i := 0) rfl; have z7 := hk7.froz 0; have l7 := hk7.lt; obtain ⟨a7, n7, e7⟩ := OwnA.form ho7; rw [List.length_append, List.length_map, List.length_singleton] at e7; subst e7; clear ho7 hg7 hv7 hk7)
   exact ⟨HPUT.out.2, by show GA8 _ _ _ (ss.flatMap (fcp8 T s parts) ++ (pre ++ [(⟨⟨xk, xi, xz⟩, xnm, xl⟩ : At)])) _ _; rw [<- List.append_assoc]; exact HPUT.out.1⟩
  case done =>
   rintro E V ⟨gv, R, g1, g2, g3, g4, g5, g6⟩ ⟨N, hbs, hN⟩ ⟨F, hF, hfr⟩ hE hEV hD
   obtain ⟨h1, h2, h3, h4, h5, h6, h7⟩ := HG.out
   have hFP : ∀ b, F b -> PA8 g tv mn mr B' K b := fun b hb => Or.inr (Or.inr ⟨_, HX.out, hF b hb⟩)
   have hpn : ∀ b, PA8 g tv mn mr (up8 B' ⟨xn, (ar : Int)⟩ N) K b -> PA8 g tv mn mr B' K b ∨ (V5.heap.size + 2 <= b /\ b < E) := fun b hb => by
    rcases PA8.up8 hb with q | q
    ·exact Or.inl q
    ·exact (hN b q).imp (fun q => Or.inr (Or.inr ⟨_, HX.out, q⟩)) id
   have hgb : ∀ b, (gv.ownBlock = some b ∨ ∃ x ∈ R, x.2 = b) -> (((fv.ownBlock = some b ∨ ∃ x ∈ Q, x.2 = b) /\ b < w1.heap.size) ∨ E <= b) := fun b hb => by
    rcases g4 b hb with q | q
    ·rcases (HXF.out b).1 q with q | q
     ·have := (g2.lt hb).1; omega
     ·exact Or.inl ⟨q, HAW.out b q⟩
    ·exact Or.inr q
   have hEs : ∀ E' ∈ Es, E' < V5.heap.size := fun E' hE' => HL5.out.mks.lt E' hE'
   have hkeep : ∀ b, b < V5.heap.size -> ¬ PA8 g tv mn mr B' K b -> ¬ XF b -> V.heap[b]? = V5.heap[b]? := fun b hl hp hx => hfr.block b hl fun hc => hc.elim (fun h => hp (hFP b h)) hx
   have hitP : ¬ PA8 g tv mn mr B' K (Y.heap.size + 1) := fun hc => by
    rcases h5 _ hc with q | q
    ·have := hPl _ q; omega
    ·omega
   have hitX : ¬ XF (Y.heap.size + 1) := fun hc => (HXB.out _ hc).2.1 rfl
   have hmrX : ¬ XF mr := fun hc => (HXB.out _ hc).2.2.2 (Or.inr (Or.inl rfl))
   have hmr : V.heap[mr]? = V5.heap[mr]? := hfr.block mr h1.r.lt fun hc => hc.elim (fun h => (h1.ap _ HX.out mr (hF mr h)).2 rfl) hmrX
   have HRV := hm7 (ranges_same8 (HR1.out.kept (below_grown HB5.out) (by simp) (by simp)) hmr (hkeep _ (by omega) hitP hitX))
   have HLN : Hid (LF8 w0 g tv mn mr ga B m T K s parts Y (ss ++ [(⟨xn, (ar : Int)⟩ : Pd)]) (V5.heap.size :: Es) V) := by
    have hDs : V5.heap.size ∉ Es := fun h => by have := hEs _ h; omega
    refine ⟨⟨up8 B' ⟨xn, (ar : Int)⟩ N, gv, R, by rw [List.length_append, List.length_singleton, <- Nat.add_assoc]; exact hbs, g1, g2, ?_, fun b hb => ?_, fun b hb => ⟨fun hc => ?_, fun hc => ?_⟩, fun E' hE' hc => ?_⟩, (HL5.out.mks.same fun E' hE' => hkeep E' (hEs E' hE') (h7 E' hE') fun hc => ?_).cons hDs hD, fun E' hE' => ?_, HL5.out.fr.trans hfr fun b hl hb => ?_, by omega⟩
    ·rw [List.flatMap_append, List.flatMap_singleton]; exact g3
    ·rcases hpn b hb with q | q
     ·exact h5 b q
     ·exact Or.inr (by omega)
    ·rcases hgb b hb with ⟨q1, q2⟩ | q
     ·rcases hpn b hc with q | q
      ·exact (h6 b q1).1 q
      ·omega
     ·rcases hpn b hc with q' | q'
      ·have := HPW.out b q'; omega
      ·omega
    ·rcases hgb b hb with ⟨q1, q2⟩ | q
     ·rcases List.mem_cons.1 hc with rfl | hc
      ·omega
      ·exact (h6 b q1).2 hc
     ·rcases List.mem_cons.1 hc with rfl | hc
      ·omega
      ·have := hEs b hc; omega
    ·rcases List.mem_cons.1 hE' with rfl | hE'
     ·rcases hpn _ hc with q | q
      ·have := HPW.out _ q; omega
      ·omega
     ·rcases hpn _ hc with q | q
      ·exact h7 E' hE' q
      ·have := hEs E' hE'; omega
    ·rcases (HXF.out _).1 hc with q | q
     ·have := HL5.out.lo E' hE'; omega
     ·exact (h6 E' q).2 hE'
    ·rcases List.mem_cons.1 hE' with rfl | hE'
     ·omega
     ·exact HL5.out.lo E' hE'
    ·rcases hb with hb | hb
     ·rcases h5 b (hFP b hb) with q | q
      ·exact q
      ·omega
     ·have := (HXB.out b hb).1; omega
   have HMU : Hid (V.rangeLeft mr (Y.heap.size + 1) < X.rangeLeft mr (Y.heap.size + 1)) := by
    have e1 : V.rangeLeft mr (Y.heap.size + 1) = w1.rangeLeft mr (Y.heap.size + 1) := by rw [HRV.out.left_eq, HR1.out.left_eq]
    show _ < _
    rw [e1]
    exact HLT.out
   clear g1 g2 g3 g4 g5 g6 hbs hN hfr hD hF h1 h2 h3 h4 h5 h6 h7 hFP hpn hgb hEs hkeep hitP hitX hmrX hmr HXF HXB HG HL5 HPW HAW HP5 HTL
   gi_wp2
   exact ⟨⟨_, cnt1, ss ++ [(⟨xn, (ar : Int)⟩ : Pd)], V5.heap.size :: Es, ⟨rfl, rfl, rfl, rfl, rfl, rfl, rfl⟩, HRV.out, by rw [List.length_append, List.length_singleton]; omega, HC1.out, HLN.out⟩, HMU.out⟩
end Go.Proofs.YtechceagghcipabGreatDoor
