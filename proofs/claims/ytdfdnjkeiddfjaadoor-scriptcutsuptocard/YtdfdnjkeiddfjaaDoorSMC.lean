/-
  script (stage 25): the program's Lines.
-/
import Derived.Test.YtdfdnjkeiddfjaaDoorSMC2
namespace Go.Proofs.YtdfdnjkeiddfjaaDoor
open Go.RowKit Go.Shelf
attribute [local go_sem] Oper.semAt_some

/-- append, as one operation inside a fence. -/
theorem opS {F : Fence} {n : Nat} {o : Oper} {a : Act} {w w' : World} {K : Act → World → Prop} {Q : Exit → Act → World → Prop} {s x : Operand} {v xv v' : Value} (ho : o.op = .call { callee := .builtin .append, args := #[s, x], argTypes := #[45, 45] })
    (hs : a.eval s = v) (hx : a.eval x = xv) (hrun : (Builtin.append_ #[45, 45] o.type #[v, xv]).run Tryd.prog w = .ok v' w') (hK : K (a.put o.dst v') w') : Oper.wpIn F n Tryd.prog o a w K Q := by
  unfold Oper.wpIn
  refine ⟨?_, ?_⟩
  · simp [Oper.about, ho, resolve, Target.leads, Sem.run_pure]
  · rw [Oper.semAt_plain F _ _ (by rw [ho]; intro c hc'; cases hc')]
    simp [execOp, ho, resolve, invoke, builtin, hs, hx, hrun, Result.andThen]
    exact hK
set_option maxRecDepth 20000 in
theorem strLines_any (s : ByteArray) (w : World) : Calls Tryd.prog 29 #[.string s] w fun e w' => e = .returned (.func (.func 43) #[] #[.pointer (some ⟨w.heap.size, 0, none⟩)]) ∧ w' = w.alloc (.cells #[.string s] 9) := by
  have hmf : ∀ (fn : Fn) (first cap : Array Value) (w : World), (Instr.makeFunc fn first cap).run Tryd.prog w = .ok (.func fn first cap) w := fun _ _ _ _ => rfl
  go_enter Tryd.func29, Tryd.ntmps29
  go_wp2
  go_ret
  exact ⟨rfl, rfl⟩
/-- How far the gathering has come. -/
structure GaS (w : World) (xs : List ByteArray) (W : World) : Prop where
  ex : ∃ v, BlkK W w.heap.size #[v] 45 ∧ OwS W (w.heap.size + 4) v xs
  b : Below w.heap.size w W
theorem OwS.frA {P : Nat → Prop} {W W' : World} {base : Nat} {v : Value} {l : List ByteArray} (h : OwS W base v l) (hf : Fr P W W') (hp : ∀ x, P x → x < base) : OwS W' base v l := by
  unfold OwS at h ⊢
  exact rowS h fun g hg => hf.block g (h.lt g hg).2 fun q => by have := hp g q; have := (h.lt g hg).1; omega
theorem GaS.fr {P : Nat → Prop} {w W W' : World} {xs : List ByteArray} (h : GaS w xs W) (hf : Fr P W W') (hp : ∀ x, P x → w.heap.size < x ∧ x < w.heap.size + 4) : GaS w xs W' := by
  obtain ⟨v, h1, h2⟩ := h.ex
  exact ⟨⟨v, h1.frL hf fun q => by have := hp _ q; omega, h2.frA hf fun x q => (hp x q).2⟩, h.b.trans (hf.belowL (fun k hk => by have := hp k hk; omega) h.b.size)⟩
theorem OwS.low {W : World} {base base' : Nat} {v : Value} {l : List ByteArray} (h : OwS W base v l) (hb : base' ≤ base) : OwS W base' v l := by
  unfold OwS at h ⊢
  refine ⟨h.1, ?_⟩
  rcases h.2 with hn | ⟨g, cap, cur, rfl, hbb, hg, rest⟩
  · exact Or.inl hn
  · exact Or.inr ⟨g, cap, cur, rfl, Nat.le_trans hb hbb, hg, rest⟩
theorem own_ge {W : World} {base g : Nat} {v : Value} {l : List ByteArray} (h : OwS W base v l) (hg : v.ownBlock = some g) : base ≤ g := by
  unfold OwS at h
  exact (h.lt g hg).1
set_option maxRecDepth 100000 in
set_option maxHeartbeats 2000000 in
theorem aSLines_any (s : ByteArray) (hs : s.size ≤ 9000000) (w : World) : Calls Tryd.prog 15 #[.string s] w fun e w' => ∃ v, e = .returned v ∧ OwS w' w.heap.size v (lnS s) ∧ Below w.heap.size w w' := by
  obtain ⟨nn, -⟩ : ∃ n : Nat, True := ⟨0, trivial⟩
  refine (callsIn_wide (n := nn)).1 ?_
  obtain ⟨W0, hW0⟩ : ∃ W0, w.alloc (.cells #[.slice none 0 0] 45) = W0 := ⟨_, rfl⟩
  have hb0 : Below w.heap.size w W0 := by rw [← hW0]; exact below1K w _
  have hz0 : W0.heap.size = w.heap.size + 1 := by rw [← hW0]; simp
  have hk0 : BlkK W0 w.heap.size #[.slice none 0 0] 45 := by rw [← hW0]; exact BlkK.new w _ _
  refine callsIn_of_wp_marks Tryd.func15 rfl trivial ?_ rfl
  simp only [Tryd.ntmps15, List.size_toArray, List.length_cons, List.length_nil, Nat.reduceAdd, Nat.reduceSub, Array.replicate_succ, Array.replicate_zero, List.push_toArray, List.append_toArray, List.nil_append, List.cons_append]
  gi_wp2
  try rw [hW0]
  refine ⟨trivial, fun h => (by cases h), (callsIn_wide.2 (strLines_any s _)).mono ?_⟩
  rintro e w1 ⟨rfl, e2⟩
  rw [e2]
  clear e2
  have hb1 := below1K W0 (.cells #[.string s] 9)
  have hk1 := BlkK.new W0 #[.string s] 9
  have hz1 : (W0.alloc (.cells #[.string s] 9)).heap.size = w.heap.size + 2 := by simp [hz0]
  rw [hz0] at hk1
  revert hb1 hk1 hz1
  generalize W0.alloc _ = W1
  intro hb1 hk1 hz1
  have HB1 := hm7 (below_stepK hb0 hb1)
  have HK0 := hm7 (hk0.later hb1)
  clear hb0 hb1 hk0 hW0
  gi_wp2
  refine wpIn_seqS (gf := 43) (lb := #[.pointer (some ⟨w.heap.size + 1, 0, none⟩)]) (bx := w.heap.size + 1) (s := s) (by first | rfl | (simp [hz0])) (enters_of Tryd.func43 (by kernel_rfl) rfl) (lines_seq _ s hs) rfl (by omega) hk1
    (fun xs W => GaS w xs W) ?start ?own
    (fun x => { tmps := #[.string s, undef, .slice none 0 0, .pointer (some ⟨w.heap.size, 0, none⟩), .string x, .string s, .func (.func 43) #[] #[.pointer (some ⟨w.heap.size + 1, 0, none⟩)], .string x, undef, undef, undef, undef, undef, undef], defers := [] }) ?assign ?body ?done
  case start =>
    intro W hb hz
    exact ⟨⟨_, HK0.out.later hb, World.ownsRow_nil _ _ _ _⟩, below_stepK HB1.out hb⟩
  case own =>
    intro xs W W2 hf h
    exact h.fr hf fun x hx => by omega
  case assign =>
    intro l m x W K hK
    gi_wp2
    exact hK
  case body =>
    intro l m pre x W hg hpre hx hw
    obtain ⟨v, h1, h2⟩ := hg.ex
    obtain ⟨va, vc, rfl⟩ := h2.fm
    have c0 := cell8 h1 0 _ rfl
    have f0 := froz8 h1 0
    have HG := hm7 hg
    have H1 := hm7 h1
    have H2 := hm7 h2
    have HX := hm7 hx
    have HP := hm7 hpre
    have HW := hm7 hw
    clear hg h1 h2
    gi_wp2
    have hf1 : ∀ i, Fence.wide.fn i := fun _ => trivial
    have hf2 : Fence.wide.depth = none := rfl
    have hbx : Below W.heap.size W (W.alloc (.cells #[.string (trA x)] 9)).drew := below_stepK (below1K W _) ⟨rfl, rfl, rfl, Nat.le_refl _, fun _ _ => rfl⟩
    have hox : OwS ((W.alloc (.cells #[.string (trA x)] 9)).drew) (w.heap.size + 4) (.slice va pre.length vc) pre := rowS_below H2.out hbx
    obtain ⟨v6, w6, hrun, r1, r2, r3⟩ := runS Tryd.underlying45 Tryd.infoStrS rfl (by omega) (W.alloc (.cells #[.string (trA x)] 9)).drew 45 (w.heap.size + 4) (.slice va pre.length vc) pre.length (pre.map Value.string) hox (.slice (some ⟨W.heap.size, 0, none⟩) 1 1) 1 [.string (trA x)] (one_srcS (show BlkK (W.alloc (.cells #[.string (trA x)] 9)).drew W.heap.size #[.string (trA x)] 9 from BlkK.new W _ _)) (by intro u hu; rw [List.mem_singleton] at hu; subst hu; rfl) (by have := HP.out; omega) (by have := HP.out; omega) (by have := HW.out; have := hbx.size; omega)
    have ho6 : OwS w6 (w.heap.size + 4) v6 (pre ++ [trA x]) := by
      unfold OwS
      rw [List.length_append, List.map_append]
      exact r1
    obtain ⟨a6, c6, e6⟩ := ho6.fm
    rw [List.length_append, List.length_singleton] at e6
    subst e6
    have hf6 : Fr (fun b => (Value.slice va pre.length vc).ownBlock = some b) W w6 := (Fr.of hbx).tr (Fr.grown r2 fun k hk => hk)
    have hk6 : BlkK w6 w.heap.size #[.slice va pre.length vc] 45 := H1.out.frL hf6 fun e => by have := own_ge H2.out e; omega
    have q0 := cell8 hk6 0 _ rfl
    have q1 := froz8 hk6 0
    have HK6 := hm7 hk6
    have HO6 := hm7 ho6
    have HF6 := hm7 hf6
    have hlo := H1.out.lt
    have k0x := cell8 (H1.out.later hbx) 0 _ rfl
    have HFIN : Hid (GaS w (pre ++ [trA x]) (w6.setCell ⟨w.heap.size, 0, none⟩ (.slice a6 (pre.length + 1) c6)) ∧ ∀ k, k = w.heap.size + 1 ∨ k = W1.heap.size ∨ k = W1.heap.size + 1 → (w6.setCell ⟨w.heap.size, 0, none⟩ (.slice a6 (pre.length + 1) c6)).heap[k]? = W.heap[k]?) := by
      refine ⟨⟨⟨_, heap_setCell_same _ _ 0 _ _ _ hk6, ho6.frA (P := fun b => b = w.heap.size) ((Fr.refl (fun b => b = w.heap.size) w6).set (Or.inl rfl)) fun k hk => by omega⟩, ?_⟩, fun k hk => ?_⟩
      · exact (HG.out.b.trans (hf6.belowL (fun k hk => by have := own_ge H2.out hk; omega) HG.out.b.size)).setCell (Nat.le_refl _) _
      · rw [heap_setCell_other _ _ _ _ (show k ≠ w.heap.size by omega)]
        exact hf6.block k (by have := HW.out; omega) fun e => by have := own_ge H2.out e; omega
    clear hbx hox hk6 ho6 hf6 r1 r2 r3
    refine wpIn_region_any (by kernel_rfl) ?_
    change wpAnyIn _ _ _ _ _ _ _ _ _ (World.drew _)
    refine wpAnyIn_ready (rs := [0, 1]) (by kernel_rfl) (by simp) (AllReadyIn.cons rfl (fun K hK => ?_) (AllReadyIn.cons rfl (fun K hK => ?_) AllReadyIn.nil))
    · go_simp
      refine hK _ _ ?_
      clear hK K
      refine wpAnyIn_ready (rs := [1]) (by kernel_rfl) (by simp) (AllReadyIn.cons rfl (fun K hK => ?_) AllReadyIn.nil)
      go_simp
      refine hK _ _ ?_
      clear hK K
      refine wpAnyIn_ready (rs := [2]) (by kernel_rfl) (by simp) (AllReadyIn.cons rfl (fun K hK => ?_) AllReadyIn.nil)
      go_simp
      gi_wp2_with (gi_at_call 30; refine (CallsIn.inRound l (callsIn_wide.2 (trimSuf_any x (by have := HX.out; omega) _))).mono ?_; rintro e w3 ⟨rfl, e2⟩; rw [e2]; clear e2)
      refine wpAnyIn_ready (rs := [3]) (by kernel_rfl) (by simp) (AllReadyIn.cons rfl (fun K hK => ?_) AllReadyIn.nil)
      go_simp
      refine hK _ _ ?_
      clear hK K
      refine wpAnyIn_ready (rs := [4]) (by kernel_rfl) (by simp) (AllReadyIn.cons (o := ⟨_, _, _, _, _, _⟩) rfl (fun K hK => ?_) AllReadyIn.nil)
      rw [if_pos (by rfl)]
      refine opS (o := ⟨_, _, _, _, _, _⟩) rfl rfl rfl hrun ?_
      refine hK _ _ ?_
      clear hK K
      refine wpAnyIn_ready (rs := [5]) (by kernel_rfl) (by simp) (AllReadyIn.cons rfl (fun K hK => ?_) AllReadyIn.nil)
      go_simp
      refine hK _ _ ?_
      clear hK K
      refine wpAnyIn_done (by kernel_rfl) ?_ _
      exact HFIN.out
    · go_simp
      refine hK _ _ ?_
      clear hK K
      refine wpAnyIn_ready (rs := [0, 2]) (by kernel_rfl) (by simp) (AllReadyIn.cons rfl (fun K hK => ?_) (AllReadyIn.cons rfl (fun K hK => ?_) AllReadyIn.nil))
      · go_simp
        refine hK _ _ ?_
        clear hK K
        refine wpAnyIn_ready (rs := [2]) (by kernel_rfl) (by simp) (AllReadyIn.cons rfl (fun K hK => ?_) AllReadyIn.nil)
        go_simp
        gi_wp2_with (gi_at_call 30; refine (CallsIn.inRound l (callsIn_wide.2 (trimSuf_any x (by have := HX.out; omega) _))).mono ?_; rintro e w3 ⟨rfl, e2⟩; rw [e2]; clear e2)
        refine wpAnyIn_ready (rs := [3]) (by kernel_rfl) (by simp) (AllReadyIn.cons rfl (fun K hK => ?_) AllReadyIn.nil)
        go_simp
        refine hK _ _ ?_
        clear hK K
        refine wpAnyIn_ready (rs := [4]) (by kernel_rfl) (by simp) (AllReadyIn.cons (o := ⟨_, _, _, _, _, _⟩) rfl (fun K hK => ?_) AllReadyIn.nil)
        rw [if_pos (by rfl)]
        refine opS (o := ⟨_, _, _, _, _, _⟩) rfl rfl rfl hrun ?_
        refine hK _ _ ?_
        clear hK K
        refine wpAnyIn_ready (rs := [5]) (by kernel_rfl) (by simp) (AllReadyIn.cons rfl (fun K hK => ?_) AllReadyIn.nil)
        go_simp
        refine hK _ _ ?_
        clear hK K
        refine wpAnyIn_done (by kernel_rfl) ?_ _
        exact HFIN.out
      · go_simp
        gi_wp2_with (gi_at_call 30; refine (CallsIn.inRound l (callsIn_wide.2 (trimSuf_any x (by have := HX.out; omega) _))).mono ?_; rintro e w3 ⟨rfl, e2⟩; rw [e2]; clear e2)
        refine wpAnyIn_ready (rs := [0, 3]) (by kernel_rfl) (by simp) (AllReadyIn.cons rfl (fun K hK => ?_) (AllReadyIn.cons rfl (fun K hK => ?_) AllReadyIn.nil))
        · go_simp
          refine hK _ _ ?_
          clear hK K
          refine wpAnyIn_ready (rs := [3]) (by kernel_rfl) (by simp) (AllReadyIn.cons rfl (fun K hK => ?_) AllReadyIn.nil)
          go_simp
          refine hK _ _ ?_
          clear hK K
          refine wpAnyIn_ready (rs := [4]) (by kernel_rfl) (by simp) (AllReadyIn.cons (o := ⟨_, _, _, _, _, _⟩) rfl (fun K hK => ?_) AllReadyIn.nil)
          rw [if_pos (by rfl)]
          refine opS (o := ⟨_, _, _, _, _, _⟩) rfl rfl rfl hrun ?_
          refine hK _ _ ?_
          clear hK K
          refine wpAnyIn_ready (rs := [5]) (by kernel_rfl) (by simp) (AllReadyIn.cons rfl (fun K hK => ?_) AllReadyIn.nil)
          go_simp
          refine hK _ _ ?_
          clear hK K
          refine wpAnyIn_done (by kernel_rfl) ?_ _
          exact HFIN.out
        · go_simp
          refine hK _ _ ?_
          clear hK K
          refine wpAnyIn_ready (rs := [0]) (by kernel_rfl) (by simp) (AllReadyIn.cons rfl (fun K hK => ?_) AllReadyIn.nil)
          go_simp
          refine hK _ _ ?_
          clear hK K
          refine wpAnyIn_ready (rs := [4]) (by kernel_rfl) (by simp) (AllReadyIn.cons (o := ⟨_, _, _, _, _, _⟩) rfl (fun K hK => ?_) AllReadyIn.nil)
          rw [if_pos (by rfl)]
          refine opS (o := ⟨_, _, _, _, _, _⟩) rfl rfl rfl hrun ?_
          refine hK _ _ ?_
          clear hK K
          refine wpAnyIn_ready (rs := [5]) (by kernel_rfl) (by simp) (AllReadyIn.cons rfl (fun K hK => ?_) AllReadyIn.nil)
          go_simp
          refine hK _ _ ?_
          clear hK K
          refine wpAnyIn_done (by kernel_rfl) ?_ _
          exact HFIN.out
  case done =>
    intro W hg hD
    obtain ⟨v, h1, h2⟩ := hg.ex
    obtain ⟨va, vc, rfl⟩ := h2.fm
    have c0 := cell8 h1 0 _ rfl
    have HG := hm7 hg
    have H2 := hm7 h2
    have HD := hm7 hD
    clear hg h1 h2 hD
    gi_wp2
    refine ⟨by simp, .inl ⟨_, _, rfl, run_takeDeferred HD.out, ⟨_, results_tmp rfl _ _ _, .slice va (lnS s).length vc, rfl, ?_, ?_⟩⟩⟩
    · have hr : OwS W (w.heap.size + 4) (.slice va (lnS s).length vc) (lnS s) := H2.out
      exact OwS.low (hr.frA (frPut _ _ _) fun k hk => by omega) (by omega)
    · exact HG.out.b.trans ((frPut _ _ _).belowL (fun k hk => by omega) HG.out.b.size)
end Go.Proofs.YtdfdnjkeiddfjaaDoor
