import Derived.Test.YtechceagghcipaaGreatDoorEF6
namespace Go.Proofs.YtechceagghcipaaGreatDoor
open Go.RowKit Go.Shelf
attribute [local go_sem] Oper.semAt_some

structure LI8 (w0 : World) (g : Nat) (tv : Value) (mn mr : Nat) (ga : Pd -> Nat) (B : Pd -> Nat -> Prop) (m : Nat) (T : List Tm) (K : List Pd) (s : Pd -> St7) (L : List At) (lb : Nat) (w : World) (D : List (At × Nat)) (E : Nat) (pre : List (At × Nat)) (V : World) : Prop where
 ex : ∃ lv fv B', Bk V lb #[lv] 28 /\ OwnA8 V E lv pre /\ AL8 V (w.heap.size + 2) fv D /\ (∀ b, (fv.ownBlock = some b ∨ ∃ x ∈ D, x.2 = b) -> b < E) /\ srtC8 D /\ (D.map Prod.fst).Perm L /\ BS w0 g tv mn mr ga B' m T K s V /\ (∀ b, PA8 g tv mn mr B' K b -> PA8 g tv mn mr B K b ∨ (w.heap.size + 2 <= b /\ b < E)) /\ ∀ b, (fv.ownBlock = some b ∨ ∃ x ∈ D, x.2 = b) -> ¬ PA8 g tv mn mr B' K b
 fr : Fr (fun b => PA8 g tv mn mr B K b ∨ b = lb) w V
 e : w.heap.size + 2 <= E
 z : E <= V.heap.size
theorem LI8.stay {w0 : World} {g : Nat} {tv : Value} {mn mr : Nat} {ga : Pd -> Nat} {B : Pd -> Nat -> Prop} {m : Nat} {T : List Tm} {K : List Pd} {s : Pd -> St7} {L : List At} {lb : Nat} {w : World} {D : List (At × Nat)} {E : Nat} {pre : List (At × Nat)} {V V' : World} (h : LI8 w0 g tv mn mr ga B m T K s L lb w D E pre V) (hP : ∀ b, PA8 g tv mn mr B K b -> b < w.heap.size) (hw : w0.heap.size <= w.heap.size) (hlb : lb < w.heap.size) (hf : Fr (fun b => w.heap.size <= b /\ b < w.heap.size + 2) V V') : LI8 w0 g tv mn mr ga B m T K s L lb w D E pre V' := by
 obtain ⟨lv, fv, B', h1, h2, h3, h4, h5, h6, h7, h8, h9⟩ := h.ex
 have he := h.e
 refine ⟨⟨lv, fv, B', h1.fr hf (by omega), row7_fr h2 hf fun b hb hc => by have := (h2.lt b hb).1; omega, h3.same fun b hb => hf.block b (h3.lt hb).2 fun hc => by have := (h3.lt hb).1; omega, h4, h5, h6, h7.fr hf (fun b hc _ hb => ?_) (fun b hc _ => by omega), h8, h9⟩, h.fr.trans hf fun b hl hc => by omega, h.e, Nat.le_trans h.z hf.size⟩
 rcases h8 b hb with q | q
 ·have := hP b q; omega
 ·omega
theorem LI8.below {w0 : World} {g : Nat} {tv : Value} {mn mr : Nat} {ga : Pd -> Nat} {B : Pd -> Nat -> Prop} {m : Nat} {T : List Tm} {K : List Pd} {s : Pd -> St7} {L : List At} {lb : Nat} {w : World} {D : List (At × Nat)} {E : Nat} {pre : List (At × Nat)} {V V' : World} (h : LI8 w0 g tv mn mr ga B m T K s L lb w D E pre V) (hP : ∀ b, PA8 g tv mn mr B K b -> b < w.heap.size) (hw : w0.heap.size <= w.heap.size) (hlb : lb < w.heap.size) (hb : Below V.heap.size V V') : LI8 w0 g tv mn mr ga B m T K s L lb w D E pre V' := h.stay hP hw hlb (Fr.of hb)
set_option maxRecDepth 100000 in
set_option maxHeartbeats 1000000 in
theorem lfound8_go (w0 : World) (g : Nat) (tv : Value) (mn mr : Nat) (ga : Pd -> Nat) (B : Pd -> Nat -> Prop) (m : Nat) (T : List Tm) (K : List Pd) (s : Pd -> St7) (parts : Int) (a : At) (k i : Int) (z nm : ByteArray) (n : Nat) (hk1 : a.by_.k = k) (hk2 : a.by_.n = i) (hk3 : a.by_.s = z) (hk4 : a.name = nm) (hk5 : a.args.length = n) (ax : Option Addr) (cx : Nat) (Y : World) (h : BS w0 g tv mn mr ga B m T K s Y) (hx : TsP Y (.slice ax n cx) a.args) (hk : ∀ t ∈ a.pl, t.var = false -> KeyT t) (hkp : KeyP a.pd8) (hl : a.pl.length <= 1000000000) (hm : m <= 100000000000000)
  (hrow : a.pd8 ∈ K -> ∀ r ∈ (s a.pd8).rows, RowOf T a.name a.args.length r) (hfl : (fo8 T K s parts a).length <= 1000000000000) :
  Calls Tryz.prog 12 #[.pointer (some ⟨g, 0, none⟩), .int .i64 parts, .agg #[.int .i64 k, .int .i64 i, .string z, .string nm, .slice ax n cx]] Y (FQ8 w0 g tv mn mr ga B (m + 1) T K s (fo8 T K s parts a) Y) := by
 have ev : a.v (.slice ax n cx) = .agg #[.int .i64 k, .int .i64 i, .string z, .string nm, .slice ax n cx] := by rw [<- hk1, <- hk2, <- hk3, <- hk4]
 obtain ⟨nn, -⟩ : ∃ n : Nat, True := ⟨0, trivial⟩
 refine (callsIn_wide (n := nn)).1 ?_
 obtain ⟨W2, hW2⟩ : ∃ W2, (Y.alloc (.cells #[.int .i64 k, .int .i64 i, .string z, .string nm, .slice ax n cx] 27)).alloc (.cells #[.slice none 0 0] 28) = W2 := ⟨_, rfl⟩
 have hb2 : Below Y.heap.size Y W2 := by rw [<- hW2]; exact below2 _ _ _
 have hz2 : W2.heap.size = Y.heap.size + 2 := by rw [<- hW2]; simp
 have HLB : Hid (Bk W2 (Y.heap.size + 1) #[.slice none 0 0] 28) := by
  show Bk _ _ _ _
  have := Bk.new (Y.alloc (.cells #[.int .i64 k, .int .i64 i, .string z, .string nm, .slice ax n cx] 27)) #[.slice none 0 0] 28
  rw [World.size_alloc, hW2] at this
  exact this
 have HPB : Hid (Bk W2 Y.heap.size #[.int .i64 k, .int .i64 i, .string z, .string nm, .slice ax n cx] 27) := by show Bk _ _ _ _; rw [<- hW2]; exact (Bk.new _ _ _).below (below1 _ _)
 have HB2 := hm7 hb2
 have HFD : Hid (Calls Tryz.prog 8 #[.pointer (some ⟨g, 0, none⟩), .int .i64 parts, .agg #[.int .i64 k, .int .i64 i, .string z, .string nm, .slice ax n cx]] W2 fun e Y' => e = .returned (.func (.func 28) #[] #[.pointer (some ⟨W2.heap.size, 0, none⟩), .pointer (some ⟨W2.heap.size + 1, 0, none⟩), .pointer (some ⟨W2.heap.size + 2, 0, none⟩)]) /\ FB8 g parts a W2 Y') := by
  have := bfind8_any g parts a (.slice ax n cx) W2 (hx.later hb2) (by have : a.pl.length = a.args.length + 1 := rfl; omega)
  rw [ev] at this
  exact this
 have HSQ : Hid (∀ (x : Value) (bb : Nat), SeqF Tryz.prog 28 #[.pointer (some ⟨bb, 0, none⟩), .pointer (some ⟨bb + 1, 0, none⟩), .pointer (some ⟨bb + 2, 0, none⟩)] (FD8 w0 g tv mn mr ga B m T K s parts a x bb) (FE8 w0 g tv mn mr ga B (m + 1) T K s (fo8 T K s parts a)) (fun _ _ => True)) := fun x bb => find8_seq w0 g tv mn mr ga B m T K s parts a x bb hk hkp hl hm hrow hfl
 have HS := hm7 h
 have HFL := hm7 hfl
 obtain ⟨L, hL⟩ : ∃ L, fo8 T K s parts a = L := ⟨_, rfl⟩
 rw [hL] at HSQ HFL ⊢
 obtain ⟨⟨q0, q1⟩, q2, q3, q4⟩ := five8 HPB.out
 clear h hx hk hkp hl hm hrow hfl hL ev hk1 hk2 hk3 hk4 hk5 hb2
 refine callsIn_of_wp_marks Tryz.func12 rfl trivial ?_ rfl
 simp only [Tryz.ntmps12, List.size_toArray, List.length_cons, List.length_nil, Nat.reduceAdd, Nat.reduceSub, Array.replicate_succ, Array.replicate_zero, List.push_toArray, List.append_toArray, List.nil_append, List.cons_append]
 gi_wp2
 try rw [hW2]
 refine ⟨trivial, fun h => (by cases h), (callsIn_wide.2 HFD.out).mono ?_⟩
 rintro e W3 ⟨rfl, hfb⟩
 have HFB := hm7 hfb
 have hz3 := hfb.b.size
 clear q0 q1 q2 q3 q4 hfb hW2 HFD
 have qF : ∀ (w : World) (b1 b2 b3 : Nat), (binOp .eql 35 (.func (.func 28) #[] #[.pointer (some ⟨b1, 0, none⟩), .pointer (some ⟨b2, 0, none⟩), .pointer (some ⟨b3, 0, none⟩)]) .nilFunc).run Tryz.prog w = .ok (.bool false) w := by intro w b1 b2 b3; rfl
 have qG : ∀ (w : World) (x y : Operand) (b1 b2 b3 : Nat), (eqGuard .eql 35 x y (.func (.func 28) #[] #[.pointer (some ⟨b1, 0, none⟩), .pointer (some ⟨b2, 0, none⟩), .pointer (some ⟨b3, 0, none⟩)]) .nilFunc).run Tryz.prog w = .ok () w := by intro w x y b1 b2 b3; rfl
 gi_wp2
 clear qF qG
 have hb3 := HFB.out.b
 rw [hz2] at hb3
 have HB3 : Hid (Below Y.heap.size Y W3) := below_step HB2.out (by rw [hz2]; exact hb3)
 have HLB3 : Hid (Bk W3 (Y.heap.size + 1) #[.slice none 0 0] 28) := HLB.out.below (by rw [hz2]; exact hb3)
 obtain ⟨pv, hp2, hpo⟩ := HFB.out.b2
 rw [hz2] at hp2 hpo
 have hp0 := HFB.out.b0
 have hp1 := HFB.out.b1
 rw [hz2] at hp0 hp1
 have hPl : ∀ b, PA8 g tv mn mr B K b -> b < Y.heap.size := fun b hb => (HS.out.lt hb).2
 have hw0 := HS.out.bl.size
 have HPP := hm7 (And.intro hp0 (And.intro hp1 (And.intro hp2 hpo)))
 clear hb3 hp0 hp1 hp2 hpo HLB HFB HPB
 have hz4 : Y.heap.size + 2 <= W3.heap.size := by rw [<- hz2]; exact hz3
 have hPw : ∀ b, PA8 g tv mn mr B K b -> b < W3.heap.size := fun b hb => by have := hPl b hb; omega
 refine wpIn_seqF (gf := 28) (lb := #[.pointer (some ⟨Y.heap.size + 2, 0, none⟩), .pointer (some ⟨Y.heap.size + 2 + 1, 0, none⟩), .pointer (some ⟨Y.heap.size + 2 + 2, 0, none⟩)]) rfl (enters_of Tryz.func28 (by kernel_rfl) rfl) (HSQ.out pv (Y.heap.size + 2)) rfl
  (fun D E pre V => LI8 w0 g tv mn mr ga B (m + 1) T K s L (Y.heap.size + 1) W3 D E pre V) (fun _ _ _ _ _ => False) ?ownI (fun _ _ _ _ _ _ h => h) ?start
  (fun D E pre x act V => ∃ C, LI8 w0 g tv mn mr ga B (m + 1) T K s L (Y.heap.size + 1) W3 D E pre V /\ Bk V C (acell (enc8 x)).toArray 27 /\ E <= C /\ act = { tmps := #[.pointer (some ⟨g, 0, none⟩), .int .i64 parts, .agg #[.int .i64 k, .int .i64 i, .string z, .string nm, .slice ax n cx], undef, undef, .pointer (some ⟨Y.heap.size, 0, none⟩), .slice none 0 0, .pointer (some ⟨Y.heap.size + 1, 0, none⟩), .func (.func 28) #[] #[.pointer (some ⟨Y.heap.size + 2, 0, none⟩), .pointer (some ⟨Y.heap.size + 2 + 1, 0, none⟩), .pointer (some ⟨Y.heap.size + 2 + 2, 0, none⟩)], .pointer (some ⟨C, 0, none⟩), .pointer (some ⟨g, 0, none⟩), .int .i64 parts, .agg #[.int .i64 k, .int .i64 i, .string z, .string nm, .slice ax n cx], .func (.func 28) #[] #[.pointer (some ⟨Y.heap.size + 2, 0, none⟩), .pointer (some ⟨Y.heap.size + 2 + 1, 0, none⟩), .pointer (some ⟨Y.heap.size + 2 + 2, 0, none⟩)], .func (.func 28) #[] #[.pointer (some ⟨Y.heap.size + 2, 0, none⟩), .pointer (some ⟨Y.heap.size + 2 + 1, 0, none⟩), .pointer (some ⟨Y.heap.size + 2 + 2, 0, none⟩)], .bool false, undef, undef, undef, .func (.func 28) #[] #[.pointer (some ⟨Y.heap.size + 2, 0, none⟩), .pointer (some ⟨Y.heap.size + 2 + 1, 0, none⟩), .pointer (some ⟨Y.heap.size + 2 + 2, 0, none⟩)], x.1.v (sl8 x), undef, undef, undef, undef, undef], defers := [] })
  ?ownA ?assign ?body ?done (fun _ _ _ _ _ _ _ _ h => h.elim)
 case ownI =>
  rintro D E pre V o h
  exact h.stay hPw (by omega) (by omega) ((fr_put _ _ _).mono fun b _ e => by omega)
 case ownA =>
  rintro D E pre x act V o ⟨C, h1, h2, h3, h4⟩
  have := h1.e
  exact ⟨C, h1.stay hPw (by omega) (by omega) ((fr_put _ _ _).mono fun b _ e => by omega), (World.putObj_heap_other (by omega)).trans h2, h3, h4⟩
 case start =>
  intro V1 hb1 hz1
  have hbY := below_step HB3.out hb1
  obtain ⟨hp0, hp1, hp2, hpo⟩ := HPP.out
  refine ⟨⟨hp0.below hb1, hp1.below hb1, hp2.below hb1, HS.out.below hbY, fun X hX => OwnT.tsP (row7_fr (row7_below hpo hb1) hX fun b hb hc => ?_)⟩, fun D V2 h2 => ?_, fun D E pre V h => ⟨trivial, h.e⟩, fun _ _ _ _ _ h => h.elim⟩
  ·have := hPl b hc
   have := (OwnT.lt hpo b hb).1
   omega
  ·obtain ⟨fv, B', k1, k2, k3, k4, k5, k6, k7⟩ := h2
   have hs5 := k5.size
   have hnP : ∀ b, Y.heap.size <= b -> ¬ PA8 g tv mn mr B K b := fun b hb hc => by have := hPl b hc; omega
   refine ⟨⟨⟨_, fv, B', (HLB3.out.below hb1).fr k5 (hnP _ (by omega)), World.ownsRow_nil _ _ _ _, by rw [hz1] at k1; exact k1, fun b hb => (k1.lt hb).2, k2, k3, k4, fun b hb => ?_, k7⟩, (Fr.of hb1).trans k5 fun b _ h => Or.inl h, by omega, Nat.le_refl _⟩, k5.block _ (by omega) (hnP _ (by omega)), k5.block _ (by omega) (hnP _ (by omega))⟩
   have := (k4.lt hb).2
   exact (k6 b hb).imp id fun h => ⟨by omega, this⟩
 case assign =>
  rintro l mm D E pre ⟨⟨⟨xk, xi, xz⟩, xnm, xl⟩, A⟩ V0 V KK hpre h hb hle hK
  have he := h.z
  have hs := hb.size
  simp only [sl8, At.v]
  gi_wp2
  exact hK _ _ (Uq.below (below1 _ _)) ⟨V.heap.size, (h.below hPw (by omega) (by omega) hb).below hPw (by omega) (by omega) (below1 _ _), Bk.new _ _ _, by omega, rfl⟩
 case body =>
  rintro l mm D E pre x act V hpre ⟨C, hL, hC, hCE, rfl⟩ hle
  obtain ⟨lv, fv, B', h1, h2, h3, h4, h5, h6, h7, h8, h9⟩ := hL.ex
  have f0 := h1.cell (i := 0) rfl
  have fl := h1.lt
  have HLL := hm7 hL
  have HG := hm7 (And.intro h1 (And.intro h2 (And.intro h3 (And.intro h4 (And.intro h5 (And.intro h6 (And.intro h7 (And.intro h8 h9))))))))
  have hpl : pre.length <= 1000000000000 := by
   have e1 := List.IsPrefix.length_le hpre
   rw [List.length_append] at e1
   have e2 := h6.length_eq
   rw [List.length_map] at e2
   have := HFL.out
   omega
  obtain ⟨fa, fc, efv, -⟩ := row7_form h2
  subst efv
  have hE := hL.e
  have hz := hL.z
  have hCl := hC.lt
  have HCC := hm7 hC
  obtain ⟨⟨⟨xk, xi, xz⟩, xnm, xl⟩, A⟩ := x
  obtain ⟨xm, hxm⟩ : ∃ xm, xl.length = xm := ⟨_, rfl⟩
  have hC2 : Bk V C #[.int .i64 xk, .int .i64 xi, .string xz, .string xnm, .slice (some ⟨A, 0, none⟩) xm xm] 27 := by rw [<- hxm]; exact hC
  obtain ⟨⟨c0, c1⟩, c2, c3, c4⟩ := five8 hC2
  have HXM := hm7 hxm
  simp only [sl8, At.v]
  rw [hxm]
  clear hL hC hC2 h1 h2 h3 h4 h5 h6 h7 h8 h9 hxm
  gi_wp2_with (gi_at_builtin; (refine aappIn rfl _ _ rfl E (.slice fa pre.length fc) (pre.map enc8) rfl (OwnA8.a (row7_below HG.out.2.1 (below1 _ _))) V.heap.size (⟨⟨xk, xi, xz⟩, xnm, xl⟩, .slice (some ⟨A, 0, none⟩) xm xm) rfl (Bk.new _ _ _) (one8 _ _ _ _) (by rw [List.length_map]; omega) (by simp; omega) ?_); intro v2 w7 ho7 hg7 hv7; (have hk7 : Bk w7 (Y.heap.size + 1) #[.slice fa pre.length fc] 28 := (hg7.block _ (by simp; omega) (fun e => by have := (HG.out.2.1.lt _ e.symm).1; omega)).trans (HG.out.1.below (below1 _ _))); have f7 := hk7.cell (i := 0) rfl; have z7 := hk7.froz 0; have l7 := hk7.lt; have HK7 := hm7 hk7; have HH7 := hm7 (And.intro ho7 (And.intro hg7 hv7)); obtain ⟨a7, n7, e7⟩ := OwnA.form ho7; rw [List.length_append, List.length_map, List.length_singleton] at e7; subst e7; clear ho7 hg7 hv7 hk7)
  obtain ⟨ho7, hg7, hv7⟩ := HH7.out
  obtain ⟨h1, h2, h3, h4, h5, h6, h7, h8, h9⟩ := HG.out
  have hf8 : Fr (fun b => b = Y.heap.size + 1 ∨ E <= b) V w7 := ((Fr.of (below1 _ _)).trans (Q := fun b => (Value.slice fa pre.length fc).ownBlock = some b) (Fr.grown hg7 fun b e => e) fun b _ e => Or.inr (h2.lt b e).1)
  have hset : Fr (fun b => b = Y.heap.size + 1 ∨ E <= b) V (w7.setCell ⟨Y.heap.size + 1, 0, none⟩ (.slice a7 (pre.length + 1) n7)) := hf8.set (Or.inl (Or.inl rfl))
  have hnew : ∀ b, (Value.slice a7 (pre.length + 1) n7).ownBlock = some b -> E <= b := fun b hb => by
   rcases hv7 with hv | hv
   ·exact (h2.lt b (hv ▸ hb)).1
   ·rw [hv] at hb; cases hb; simp; omega
  have hPE : ∀ b, PA8 g tv mn mr B' K b -> b ≠ Y.heap.size + 1 /\ b < E := fun b hb => by
   rcases h8 b hb with q | q
   ·have := hPl b q; omega
   ·omega
  refine ⟨⟨hset.size, fun b q1 q2 q3 => hset.block b q3 (by omega)⟩, ⟨⟨_, fv, B', HK7.out.set 0 _, ?_, h3.same fun b hb => hset.block b (h3.lt hb).2 fun hc => ?_, h4, h5, h6, h7.fr hset (fun b hc _ hb => ?_) (fun b hc _ => by omega), h8, h9⟩, HLL.out.fr.trans hset fun b hl hc => ?_, hE, ?_⟩⟩
  ·have ho8 : OwnA8 w7 E (.slice a7 (pre.length + 1) n7) (pre ++ [(⟨⟨xk, xi, xz⟩, xnm, xl⟩, A)]) := by
    unfold OwnA at ho7
    unfold OwnA8 acs8
    rw [List.map_append]
    rw [<- HXM.out] at ho7
    simp only [List.length_append, List.length_map] at ho7 ⊢
    exact ho7
   exact row7 ho8 fun b hb => heap_setCell_other _ _ _ _ fun e => by
    have e' : b = Y.heap.size + 1 := e
    have := hnew b hb
    omega
  ·have := (h3.lt hb).1
   have := h4 b hb
   omega
  ·have := hPE b hb
   omega
  ·rcases hc with hc | hc
   ·exact Or.inr hc
   ·omega
  ·have := hset.size; omega
 case done =>
  rintro D E D' V rfl hL hD
  obtain ⟨lv, fv, B', h1, h2, h3, h4, h5, h6, h7, h8, h9⟩ := hL.ex
  have f0 := h1.cell (i := 0) rfl
  obtain ⟨fa, fc, efv, -⟩ := row7_form h2
  subst efv
  have HLL := hm7 hL
  have HG := hm7 (And.intro h2 (And.intro h3 (And.intro h4 (And.intro h5 (And.intro h6 (And.intro h7 (And.intro h8 h9)))))))
  have HD := hm7 hD
  have hE := hL.e
  clear h1 h2 h3 h4 h5 h6 h7 h8 h9 hL hD
  gi_wp2
  obtain ⟨h2, h3, h4, h5, h6, h7, h8, h9⟩ := HG.out
  have hfp := fr_put V W3.heap.size (.deferred none)
  have hPE : ∀ b, PA8 g tv mn mr B' K b -> b ≠ W3.heap.size /\ b < E := fun b hb => by
   rcases h8 b hb with q | q
   ·have := hPl b q; omega
   ·omega
  refine ⟨by simp, .inl ⟨_, _, rfl, run_takeDeferred HD.out, ⟨_, results_tmp rfl _ _ _, .slice fa D.length fc, D, B', rfl, ⟨row7_mono (row7 h2 fun b hb => World.putObj_heap_other (by have := (h2.lt b hb).1; omega)) (by omega), fun x hx => ?_, h3.nd⟩, h5, h6, h7.fr hfp (fun b e _ hb => (hPE b hb).1 e) (fun b e _ => by omega), ?_, fun b hb => (h8 b hb).imp id fun h => by omega, fun b hb hc => ?_⟩⟩⟩
  ·have := h3.lt (Or.inr ⟨x, hx, rfl⟩)
   exact ⟨(h3.t x hx).1.same8 (World.putObj_heap_other (by omega)), by omega, (h3.t x hx).2.2⟩
  ·refine (((Fr.of HB3.out).trans HLL.out.fr fun b hl hb => ?_).trans hfp fun b hl e => by omega)
   rcases hb with hb | hb
   ·exact hb
   ·omega
  ·rcases hb with hb | hb
   ·have := (h2.lt b hb).1
    have := (hPE b hc).2
    omega
   ·exact h9 b (Or.inr hb) hc
theorem lfound8_any (w0 : World) (g : Nat) (tv : Value) (mn mr : Nat) (ga : Pd -> Nat) (B : Pd -> Nat -> Prop) (m : Nat) (T : List Tm) (K : List Pd) (s : Pd -> St7) (parts : Int) (a : At) (x : Value) (Y : World) (h : BS w0 g tv mn mr ga B m T K s Y) (hx : TsP Y x a.args) (hk : ∀ t ∈ a.pl, t.var = false -> KeyT t) (hkp : KeyP a.pd8) (hl : a.pl.length <= 1000000000) (hm : m <= 100000000000000)
  (hrow : a.pd8 ∈ K -> ∀ r ∈ (s a.pd8).rows, RowOf T a.name a.args.length r) (hfl : (fo8 T K s parts a).length <= 1000000000000) :
  Calls Tryz.prog 12 #[.pointer (some ⟨g, 0, none⟩), .int .i64 parts, a.v x] Y (FQ8 w0 g tv mn mr ga B (m + 1) T K s (fo8 T K s parts a) Y) := by
 obtain ⟨ax, cx, rfl⟩ := hx.shape
 exact lfound8_go w0 g tv mn mr ga B m T K s parts a _ _ _ _ _ rfl rfl rfl rfl rfl ax cx Y h hx hk hkp hl hm hrow hfl
end Go.Proofs.YtechceagghcipaaGreatDoor
