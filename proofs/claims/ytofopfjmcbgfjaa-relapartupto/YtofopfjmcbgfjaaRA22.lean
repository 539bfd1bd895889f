/-
  rel: Rows.
-/
import Derived.Test.YtofopfjmcbgfjaaRA21
namespace Go.Proofs.Ytofopfjmcbgfjaa
open Go.RowKit Go.Shelf

/-- append of one, inside a fence. -/
theorem gappIn {T e : TypeId} {z : Value} {by_ : Nat} (hT : Try.prog.underlying T = some (.slice e)) (hI : (Try.prog.info? e).map (fun i => (i.zero, i.size, i.bytes)) = some (some z, 1, by_)) (hz : z.cells.size = 1) (hby : by_ ≤ 100)
    {F : Fence} {fu : Nat} {ops : Array Oper} {rest : List Oper} {o : Oper} {a : Act} {Q : Exit → Act → World → Prop} {w : World} (hgd : o.guard = none) (s x : Operand)
    (ho : o.op = .call { callee := .builtin .append, args := #[s, x], argTypes := #[T, T] }) (base : Nat) (v : Value) (n : Nat) (l : List Value) (hs : a.eval s = v) (hown : w.ownsRow base e 1 v n l)
    (b : Nat) (y : Value) (hx : a.eval x = .slice (some ⟨b, 0, none⟩) 1 1) (hblk : Bk w b #[y] e) (hy : y.oneCell' = true) (hlen : n ≤ 1000000000000) (hbase : base ≤ w.heap.size)
    (h : ∀ g cap w', w'.ownsRow base e 1 (.slice (some ⟨g, 0, none⟩) (n + 1) cap) (n + 1) (l ++ [y]) → w.grownBy w' v.ownBlock → (v.ownBlock = some g ∨ g = w.heap.size) → g < w'.heap.size → wpListIn F fu Try.prog ops Q rest (a.put o.dst (.slice (some ⟨g, 0, none⟩) (n + 1) cap)) w') : wpListIn F fu Try.prog ops Q (o :: rest) a w := by
  obtain ⟨i, hi, h0, h1, h2⟩ := info7 hI
  refine wpListIn_plain hgd fun K hK' => ?_
  obtain ⟨g, cap, w', hrun, r1, r2, r3, r4⟩ := run_append_lies (P := Try.prog) w T o.type base e i z 1 by_ hT hi h0 h1 h2 hz (by omega) v n l hown ⟨b, 0, none⟩ 1 1 [y] rfl (fun j u hj => World.news_of_block (cs := #[y]) (t := e) (fr := (0, 0)) hblk j u (by simpa using hj)) (by simpa using hy) (by omega) (by unfold maxLen; omega) (Nat.le_trans (Nat.mul_le_mul (show n + 1 ≤ 1000000000001 by omega) hby) (by decide)) hbase _ rfl
  unfold Oper.wpIn
  refine ⟨?_, ?_⟩
  · simp [Oper.about, ho, resolve, Target.leads, Sem.run_pure]
  · rw [Oper.semAt_plain F _ _ (by rw [ho]; intro c hc'; cases hc')]
    simp [execOp, ho, resolve, invoke, builtin, hs, hx, hrun, Result.andThen]
    exact hK' _ _ (h g cap w' r1 r2 r3 r4)
/-- How far Rows has come: w0 its own beginning, bx the block of its list. -/
structure RI (w0 : World) (g : Nat) (F S : Nat → Prop) (m : Nat) (s : St7) (H bx E : Nat) (pre : List (List Int)) (W : World) (F' : Nat → Prop) (v : Value) (P : List (List Int × Value)) : Prop where
  r : RM W g F' S (m + 1) s
  a : ∀ b, F b → F' b
  d : ∀ b, F' b → (F b ∨ H ≤ b) ∧ b < E
  f : Fr F w0 W
  x : Bk W bx #[v] 29
  o : W.ownsRow E 23 1 v P.length (P.map Prod.snd)
  p : P.map Prod.fst = pre
  l : ∀ p ∈ P, Li (fun b => E ≤ b ∧ v.ownBlock ≠ some b) W p.2 p.1
  e : H ≤ E
  e2 : E ≤ W.heap.size
theorem RI.below {w0 : World} {g : Nat} {F S : Nat → Prop} {m : Nat} {s : St7} {H bx E : Nat} {pre : List (List Int)} {W W' : World} {F' : Nat → Prop} {v : Value} {P : List (List Int × Value)} (h : RI w0 g F S m s H bx E pre W F' v P) (hb : Below W.heap.size W W') : RI w0 g F S m s H bx E pre W' F' v P :=
  ⟨h.r.below hb, h.a, h.d, h.f.then hb, h.x.below hb, row7_below h.o hb, h.p, fun p hp => (h.l p hp).below hb, h.e, Nat.le_trans h.e2 hb.size⟩
/-- It speaks of no block that is neither the relation's nor from E on. -/
theorem RI.put {w0 : World} {g : Nat} {F S : Nat → Prop} {m : Nat} {s : St7} {H bx E : Nat} {pre : List (List Int)} {W : World} {F' : Nat → Prop} {v : Value} {P : List (List Int × Value)} (h : RI w0 g F S m s H bx E pre W F' v P) (k : Nat) (o : Obj) (h1 : w0.heap.size ≤ k) (h2 : k < H) (h3 : k ≠ bx) (hF : ∀ b, F b ∨ S b → b < w0.heap.size) : RI w0 g F S m s H bx E pre (W.putObj k o) F' v P := by
  have ht : ∀ b, b ≠ k → (W.putObj k o).heap[b]? = W.heap[b]? := fun b hb => World.putObj_heap_other hb
  have he := h.e
  refine ⟨h.r.same (by simp) fun b hb _ => ht b fun e => ?_, h.a, h.d, ⟨h.f.os, h.f.tape, h.f.output, by simpa using h.f.size, fun b hb hn => (ht b (by omega)).trans (h.f.block b hb hn)⟩, (ht bx (Ne.symm h3)).trans h.x, row7 h.o fun g hg => ht g fun e => ?_, h.p, fun p hp => (h.l p hp).same (by simp) fun b hb _ => ht b (by omega), h.e, by simpa using h.e2⟩
  · subst e
    rcases hb with hb | hb
    · rcases (h.d b hb).1 with hq | hq
      · have := hF b (Or.inl hq); omega
      · omega
    · have := hF b (Or.inr hb); omega
  · have := (h.o.lt g hg).1; omega
attribute [local go_sem] Oper.semAt_some
/-- What Rows leaves. -/
def RW (w : World) (g : Nat) (F S : Nat → Prop) (m : Nat) (s : St7) (xs : List (List Int)) (e : Ending) (w' : World) : Prop :=
  ∃ (v : Value) (F' : Nat → Prop) (P : List (List Int × Value)) (B : Nat), e = .returned v ∧ RM w' g F' S (m + 1) s ∧ Fr F w w' ∧ (∀ b, F b → F' b) ∧ (∀ b, F' b → (F b ∨ w.heap.size ≤ b) ∧ b < B) ∧ w.heap.size ≤ B ∧ w'.ownsRow B 23 1 v P.length (P.map Prod.snd) ∧ P.map Prod.fst = xs ∧ ∀ p ∈ P, Li (fun b => B ≤ b ∧ v.ownBlock ≠ some b) w' p.2 p.1
theorem orF (S : Nat → Prop) : (fun b => S b ∨ (fun _ : Nat => False) b) = S := by funext b; simp
set_option maxRecDepth 100000 in
set_option maxHeartbeats 2000000 in
theorem rows7_any (g : Nat) (F S : Nat → Prop) (m : Nat) (s : St7) (parts : Int) (w : World) (h : RM w g F S m s) (hm : m ≤ 100000000000000) (xs : List (List Int)) (hx : srtR xs) (hxp : xs.Perm (sel7 s parts [] [])) (hxl : ∀ x ∈ xs, x.length ≤ 100000000000) (hxn : xs.length ≤ 100000000000) (hxw : ∀ x ∈ xs, w64 x) :
    Calls Try.prog 12 #[.pointer (some ⟨g, 0, none⟩), .int .i64 parts] w (RW w g F S m s xs) := by
  have HR := hm7 h
  have HX := hm7 (And.intro hx hxp)
  have HXL := hm7 hxl
  have HXW := hm7 hxw
  have hat := find0_any g parts (w.alloc (.cells #[.slice none 0 0] 29))
  have HAT := hm7 hat
  clear h hx hxp hxl hxw hat
  obtain ⟨n, -⟩ : ∃ n : Nat, True := ⟨0, trivial⟩
  refine (callsIn_wide (n := n)).1 ?_
  refine callsIn_of_wp_marks Try.func12 rfl trivial ?_ rfl
  simp only [Try.ntmps12, List.size_toArray, List.length_cons, List.length_nil, Nat.reduceAdd, Nat.reduceSub, Array.replicate_succ, Array.replicate_zero, List.push_toArray, List.append_toArray, List.nil_append, List.cons_append]
  gi_wp2
  refine ⟨trivial, fun h => (by cases h), (callsIn_wide.2 HAT.out).mono ?_⟩
  rintro e V ⟨b1, b2, b3, b4, b5, rfl, hfb, hbs, hbV⟩
  clear HAT
  have hz1 : (w.alloc (.cells #[.slice none 0 0] 29)).heap.size = w.heap.size + 1 := by simp
  rw [hz1] at hbs
  have hV1 : w.heap.size + 1 ≤ V.heap.size := by have := hbV.size; omega
  have hbw : Below w.heap.size w V := (below1 w _).trans (hbV.mono (by omega))
  have hbox : Bk V w.heap.size #[.slice none 0 0] 29 := (Bk.new w _ _).below hbV
  have HFB := hm7 hfb
  have HBW := hm7 hbw
  have HBOX := hm7 hbox
  clear hfb hbw hbox hbV
  have HFS : Hid (∀ b, F b ∨ S b → b < w.heap.size) := fun b hb => hb.elim (fun h => (HR.out.q b h).2) (HR.out.q2 b)
  unfold fnd7
  gi_wp2
  refine wpIn_seqX (gf := 32) (lb := #[.pointer (some ⟨b1, 0, none⟩), .pointer (some ⟨b2, 0, none⟩), .pointer (some ⟨b3, 0, none⟩), .pointer (some ⟨b4, 0, none⟩), .pointer (some ⟨b5, 0, none⟩)]) rfl (enters_of Try.func32 (by kernel_rfl) rfl)
    (find_seq g F S (fun _ => False) (fun _ => False) m s parts [] [] (.slice none 0 0) (.slice none 0 0) b1 b2 b3 b4 b5 xs HX.out.1 HX.out.2 HXL.out hxn (by simp) (by simp) (by simp) hm) rfl
    (fun E pre X => ∃ F' v P, RI w g F S m s (V.heap.size + 2) w.heap.size E pre X F' v P)
    (fun _ _ _ _ => False) ?ownI ?ownX ?start
    (fun E pre x u act X => (∃ F' v P, RI w g F S m s (V.heap.size + 2) w.heap.size E pre X F' v P ∧ Li (fun b => E ≤ b ∧ v.ownBlock ≠ some b) X u x) ∧ act = { tmps := #[.pointer (some ⟨g, 0, none⟩), .int .i64 parts, undef, undef, .slice none 0 0, .pointer (some ⟨w.heap.size, 0, none⟩), u, .pointer (some ⟨g, 0, none⟩), .int .i64 parts, .func (.func 32) #[] #[.pointer (some ⟨b1, 0, none⟩), .pointer (some ⟨b2, 0, none⟩), .pointer (some ⟨b3, 0, none⟩), .pointer (some ⟨b4, 0, none⟩), .pointer (some ⟨b5, 0, none⟩)], u, undef, undef, undef, undef, undef], defers := [] })
    ?ownA ?assign ?body ?done ?stop
  case ownI =>
    rintro E pre X o o' ⟨F', v, P, hri⟩ _ _
    exact ⟨F', v, P, hri.put _ _ (by omega) (by omega) (by omega) HFS.out⟩
  case ownX =>
    rintro E c pre X o o' h
    exact h.elim
  case ownA =>
    rintro E pre x u act _ X o o' ⟨⟨F', v, P, hri, hl⟩, ha⟩ _ _
    have he := hri.e
    exact ⟨⟨F', v, P, hri.put _ _ (by omega) (by omega) (by omega) HFS.out, hl.same (by simp) fun b hb _ => World.putObj_heap_other (by omega)⟩, ha⟩
  case start =>
    intro W1 hb1 hz
    have hw1 : Below w.heap.size w W1 := HBW.out.trans (hb1.mono (by omega))
    refine ⟨⟨HFB.out.below hb1, HR.out.below hw1, Li.nil _ _, by simp, Li.nil _ _, by simp⟩, ?_, ?_⟩
    · rintro W2 ⟨F', h1, h2, h3, h4⟩
      rw [orF] at h1
      have hs2 := h2.size
      refine ⟨⟨F', .slice none 0 0, [], h1, h3, fun b hb => ⟨(h4 b hb).1.imp id (by omega), (h4 b hb).2⟩, (Fr.of hw1).tr h2, ?_, World.ownsRow_nil _ _ _ _, rfl, by simp, by omega, Nat.le_refl _⟩, by omega, ?_, ?_⟩
      · exact Bk.fr (HBOX.out.below hb1) h2 fun hF => by have := HFS.out _ (Or.inl hF); omega
      · exact h2.block _ (by omega) fun hF => by have := HFS.out _ (Or.inl hF); omega
      · exact h2.block _ (by omega) fun hF => by have := HFS.out _ (Or.inl hF); omega
    · rintro E pre W2 ⟨F', v, P, hri⟩
      refine ⟨fun b hb => ?_, by have := hri.e; omega⟩
      have hS : S b := hb.elim id fun h => h.elim
      have hlt := HFS.out b (Or.inr hS)
      rw [hri.f.block b hlt fun hF => (HR.out.q b hF).1 hS, hw1.block b hlt]
  case assign =>
    rintro l mm E pre x u W0 X K hpre ⟨F', v, P, hri⟩ hb hown hle hK
    have hli := (OwI.li hown (HXW.out x (hpre.subset (by simp)))).mono (G := fun b => E ≤ b ∧ v.ownBlock ≠ some b) fun b _ hb => ⟨by have := hri.e2; omega, fun e => by have := (hri.o.lt b e).2; omega⟩
    have HRI := hm7 (hri.below hb)
    have HLI := hm7 hli
    clear hli hri hown hb
    gi_wp2
    exact hK _ _ (Uq.refl _ _ _) ⟨⟨F', v, P, HRI.out, HLI.out⟩, rfl⟩
  case body =>
    rintro l mm E pre x u act X hpre ⟨⟨F', v, P, hri, hl⟩, rfl⟩ hle
    obtain ⟨ua, uc, rfl, -⟩ : ∃ a c, u = .slice a x.length c ∧ True := by obtain ⟨a, c, e, -⟩ := hl; exact ⟨a, c, e, trivial⟩
    obtain ⟨va, vc, hv, -⟩ := row7_form hri.o
    have hpl : P.length ≤ 100000000000 := by
      have h1 := congrArg List.length hri.p
      have h2 := hpre.length_le
      simp only [List.length_map, List.length_append, List.length_cons, List.length_nil] at h1 h2
      omega
    obtain ⟨k, hk⟩ : ∃ k, P.length = k := ⟨_, rfl⟩
    rw [hk] at hv hpl
    subst hv
    have c0 := hri.x.cell (i := 0) rfl
    have HRI := hm7 hri
    have HL := hm7 hl
    have HK := hm7 hk
    clear hri hl hk hpre
    have HO : Hid (X.ownsRow E 23 1 (.slice va k vc) k (P.map Prod.snd)) := by have := HRI.out.o; rw [HK.out] at this; exact this
    gi_wp2_with (gi_at_builtin; refine gappIn Try.underlying29 Try.infoInts7 rfl (by omega) rfl _ _ rfl E (.slice va k vc) k (P.map Prod.snd) rfl (row7_below HO.out (below1 _ _)) X.heap.size (.slice ua x.length uc) rfl (Bk.new _ _ _) rfl (by omega) (by have := HRI.out.e2; simp; omega) ?_; intro g2 c2 w5 ho5 hg5 hv5 hl5; have hb5 : Bk w5 w.heap.size #[.slice va k vc] 29 := (hg5.block _ (by simp; omega) (fun e => by have h1 := (HO.out.lt _ e.symm).1; have h2 := HRI.out.e; omega)).trans ((below1 X _).block _ HRI.out.x.lt |>.trans HRI.out.x); have d0 := hb5.cell (i := 0) rfl; have d1 := hb5.froz 0; have HO5 := hm7 ho5; have HG5 := hm7 hg5; have HV5 := hm7 hv5; have HB5 := hm7 hb5; clear ho5 hg5 hv5 hb5)
    have he := HRI.out.e
    have hfr : Fr (fun b => (Value.slice va k vc).ownBlock = some b ∨ b = w.heap.size) X (w5.setCell ⟨w.heap.size, 0, none⟩ (.slice (some ⟨g2, 0, none⟩) (k + 1) c2)) := Fr.set ((Fr.of (below1 _ _)).tr (Fr.grown HG5.out fun b hb => Or.inl hb)) (Or.inl (Or.inr rfl))
    have hown : ∀ b, (Value.slice va k vc).ownBlock = some b → E ≤ b := fun b hb => (HO.out.lt b hb).1
    have hrow : ∀ (z : Value) (y : List Int), Li (fun b => E ≤ b ∧ (Value.slice va k vc).ownBlock ≠ some b) X z y → Li (fun b => E ≤ b ∧ (Value.slice (some ⟨g2, 0, none⟩) (k + 1) c2).ownBlock ≠ some b) (w5.setCell ⟨w.heap.size, 0, none⟩ (.slice (some ⟨g2, 0, none⟩) (k + 1) c2)) z y := fun z y hz => by
      refine (Li.fr (hz.mono (G := fun b => E ≤ b ∧ (Value.slice va k vc).ownBlock ≠ some b ∧ b < X.heap.size) fun b hl hb => ⟨hb.1, hb.2, hl⟩) hfr fun b _ hb hc => hc.elim hb.2.1 fun e => by omega).mono fun b _ hb => ⟨hb.1, fun e => ?_⟩
      have e2 : g2 = b := by simpa [Value.ownBlock] using e
      rcases HV5.out with hv | hv
      · exact hb.2.1 (by rw [← e2]; exact hv)
      · simp at hv; omega
    refine ⟨⟨hfr.size, fun b h1 h2 h3 => hfr.block b h3 fun hc => hc.elim (fun e => by have := hown b e; omega) fun e => by omega⟩, F', .slice (some ⟨g2, 0, none⟩) (k + 1) c2, P ++ [(x, .slice ua x.length uc)], HRI.out.r.fr hfr fun b hb hc => ?_, HRI.out.a, HRI.out.d, HRI.out.f.trans hfr fun b hb hc => ?_, ?_, ?_, ?_, ?_, HRI.out.e, Nat.le_trans HRI.out.e2 hfr.size⟩
    · rcases hb with hb | hb
      · have h1 := HRI.out.d b hb
        rcases hc with hc | hc
        · have := hown b hc; omega
        · rcases h1.1 with h1 | h1
          · have := HFS.out b (Or.inl h1); omega
          · omega
      · have h1 := HFS.out b (Or.inr hb)
        rcases hc with hc | hc
        · have := hown b hc; omega
        · omega
    · rcases hc with hc | hc
      · have := hown b hc; omega
      · omega
    · exact HB5.out.set 0 _
    · rw [List.length_append, List.map_append, HK.out]
      refine row7 HO5.out fun b hb => heap_setCell_other _ _ _ _ fun e => ?_
      have h1 := (HO5.out.lt b hb).1
      have h2 : b = w.heap.size := e
      omega
    · rw [List.map_append, HRI.out.p]; rfl
    · intro p hp
      rcases List.mem_append.1 hp with hp | hp
      · exact hrow _ _ (HRI.out.l p hp)
      · rw [List.mem_singleton] at hp; rw [hp]; exact hrow _ _ HL.out
  case done =>
    rintro E D X rfl ⟨F', v, P, hri⟩ hD
    have c0 := hri.x.cell (i := 0) rfl
    obtain ⟨va, vc, hv, -⟩ := row7_form hri.o
    obtain ⟨k, hk⟩ : ∃ k, P.length = k := ⟨_, rfl⟩
    rw [hk] at hv
    subst hv
    have HRI := hm7 hri
    clear hri
    gi_wp2
    refine ⟨by simp, .inl ⟨_, _, rfl, run_takeDeferred hD, ?_⟩⟩
    have hri := HRI.out.put V.heap.size (.deferred none) (by omega) (by omega) (by omega) HFS.out
    exact ⟨_, results_tmp rfl _ _ _, .slice va k vc, F', P, E, rfl, hri.r, hri.f, hri.a, fun b hb => ⟨(hri.d b hb).1.imp id (by omega), (hri.d b hb).2⟩, by have := hri.e; omega, hri.o, hri.p, hri.l⟩
  case stop =>
    rintro E D c pre X rfl hpre h hD
    exact h.elim
end Go.Proofs.Ytofopfjmcbgfjaa
