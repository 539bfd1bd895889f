/-
  check.Conclude. (Written by HC3.py.)
-/
import Derived.Test.YtbhdalchnbfohaaHC2
import Derived.Test.YtbhdalchnbfohaaMD8
import Derived.Test.YtbhdalchnbfohaaCP1
import Derived.Test.YtbhdalchnbfohaaCL17
import Derived.Defers
import Derived.Recover
namespace Go.Proofs.Ytbhdalchnbfohaa
open Go.RowKit
attribute [local go_sem ↓] Go.wp_at_zero Go.wp_at_succ

theorem run_assertH (w : World) (v : Value) (x : TypeId) : (Instr.typeAssert (.iface 36 v) x 36 false).run Try.prog w = .ok v w := by
  simp [Instr.typeAssert, run_underlying Try.underlying36]
theorem mk_atoms0 (n : Nat) (hn : n ≤ 1900000000000) (w : World) : (Instr.makeSlice 42 (.int .i64 0) (.int .i64 (n : Int))).run Try.prog w = .ok (.slice (some ⟨w.heap.size, 0, none⟩) 0 n) (w.alloc (.cells (MA n) 30)) := by
  obtain ⟨i, hi, h0, h1, h2⟩ := info_parts Try.infoAtom
  have h := run_make (P := Try.prog) w 42 30 i _ Try.underlying42 hi h0 .i64 .i64 0 n (by omega) (by omega) (by rw [h2]; omega) (by omega)
  rw [h1] at h
  exact h
theorem own_mk0 (n : Nat) (hn : n ≤ 1900000000000) (w : World) (B : Nat) (hB : B ≤ w.heap.size) : OwnA (w.alloc (.cells (MA n) 30)) B (.slice (some ⟨w.heap.size, 0, none⟩) 0 n) [] :=
  ⟨by simp [acs], Or.inr ⟨w.heap.size, n, MA n, rfl, hB, heap_alloc_new _ _, by simp, by unfold maxLen; omega, by simp [MA, madeCells], by simp [acs]⟩⟩
theorem one_set {w : World} {g : Nat} {v u : Value} {t : TypeId} (h : CBlk w g #[v] t) : CBlk (w.setCell ⟨g, 0, none⟩ u) g #[u] t := by have := h.set 0 u; simpa using this
theorem one_off {w : World} {g G i : Nat} {v u : Value} {t : TypeId} (h : CBlk w g #[v] t) (hg : g ≠ G) : CBlk (w.setCell ⟨G, i, none⟩ u) g #[v] t := (heap_setCell_other _ _ _ _ hg).trans h
theorem blk_off {w : World} {g G i : Nat} {c : Array Value} {u : Value} {t : TypeId} (h : CBlk w g c t) (hg : g ≠ G) : CBlk (w.setCell ⟨G, i, none⟩ u) g c t := (heap_setCell_other _ _ _ _ hg).trans h
theorem one_cell {w : World} {g : Nat} {v : Value} {t : TypeId} (h : CBlk w g #[v] t) : w.cell? ⟨g, 0, none⟩ = some v := by rw [cell_of_row _ _ _ _ _ _ h]; rfl
/-- What the deferred function does with what a step gave up with. -/
theorem catchH_panic (P Q : Nat) (x y : Value) (c : Int) (w : World) (hp : CBlk w P #[x] 42) (hq : CBlk w Q #[y] 36) (hne : P ≠ Q) :
    CallsD Try.prog 14 #[.pointer (some ⟨P, 0, none⟩), .pointer (some ⟨Q, 0, none⟩)] (.panicking [pH c]) w fun e u' w' =>
      e = .returned (.tuple #[]) ∧ u' = .panicking [{ v := .iface 36 (.int .i64 c), recovered := true }] ∧ CBlk w' P #[.slice none 0 0] 42 ∧ CBlk w' Q #[.int .i64 c] 36 ∧ ∀ B, B ≤ P → B ≤ Q → Below B w w' := by
  refine callsD_of_wpS Try.func14 rfl fun c₀ cs hu => ?_
  unfold pH at hu
  apply wpS_seq
  apply wpS_region
  simp [wpOpsS, go_sem, recoverD, hu, Try.ntmps14, Exit.thenS]
  have hta := run_assertH
  refine wpS_of_wp ?_
  change Code.wp _ _ _ { tmps := #[.pointer (some ⟨P, 0, none⟩), .pointer (some ⟨Q, 0, none⟩), .iface 36 (.int .i64 c), .iface 36 (.int .i64 c), undef, undef, undef, undef], defers := [] } w
  go_wp2
  have HP : Hid (CBlk w.drew P #[x] 42) := hp.later (Below.refl _ _).drew
  have HQ : Hid (CBlk w.drew Q #[y] 36) := hq.later (Below.refl _ _).drew
  have HB : Hid (∀ B, Below B w w.drew) := fun B => (Below.refl _ _).drew
  refine wp_region_held_drew (S := fun _ => True) (by kernel_rfl) trivial (fun hH => ?_)
  revert HP HQ HB
  generalize w.drew = V
  intro HP HQ HB
  refine wpAnyH_take (i := 0) (oi := ⟨_, _, _, _, _, _⟩) (v := .iface 36 (.int .i64 c)) rfl (by kernel_rfl) (by kernel_rfl) (by kernel_rfl) (fun _ _ _ h => h) (Or.inl ⟨by rfl, fun w' _ => by go_simp⟩) hH ?_
  simp only [Act.put, List.setIfInBounds_toArray, List.set_cons_zero, List.set_cons_succ]
  refine wpAnyH_take (i := 1) (oi := ⟨_, _, _, _, _, _⟩) (v := .int .i64 c) rfl (by kernel_rfl) (by kernel_rfl) (by kernel_rfl) (fun _ _ _ h => h) (Or.inl ⟨by rfl, fun w' _ => by go_simp⟩) hH ?_
  simp only [Act.put, List.setIfInBounds_toArray, List.set_cons_zero, List.set_cons_succ]
  have e0 := one_cell HP.out
  have f0 : V.frozen? ⟨P, 0, none⟩ = false := HP.out.froz
  refine wpAnyH_ready (rs := [2]) (by kernel_rfl) (by simp) ?_
  refine (AllReadyH.cons (o := ⟨_, _, _, _, _, _⟩) rfl (fun K hK => ?_) AllReadyH.nil)
  go_simp
  have HP1 : Hid (CBlk (V.setCell ⟨P, 0, none⟩ (.slice none 0 0)) P #[.slice none 0 0] 42) := one_set HP.out
  have HQ1 : Hid (CBlk (V.setCell ⟨P, 0, none⟩ (.slice none 0 0)) Q #[y] 36) := one_off HQ.out (Ne.symm hne)
  have HB1 : Hid (∀ B, B ≤ P → Below B w (V.setCell ⟨P, 0, none⟩ (.slice none 0 0))) := fun B hB => (HB.out B).setCell (p := ⟨P, 0, none⟩) hB _
  clear e0 f0 HP HQ HB
  refine hK.out _ _ trivial (fun hH => ?_)
  clear hK K
  revert HP1 HQ1 HB1
  generalize V.setCell ⟨P, 0, none⟩ (.slice none 0 0) = V1
  intro HP1 HQ1 HB1
  have e0 := one_cell HQ1.out
  have f0 : V1.frozen? ⟨Q, 0, none⟩ = false := HQ1.out.froz
  refine wpAnyH_ready (rs := [3]) (by kernel_rfl) (by simp) ?_
  refine (AllReadyH.cons (o := ⟨_, _, _, _, _, _⟩) rfl (fun K hK => ?_) AllReadyH.nil)
  go_simp
  refine hK.out _ _ trivial (fun hH => ?_)
  clear hK K e0 f0
  refine wpAnyH_done (by kernel_rfl) ?_ _
  go_wp2_with fail
  exact ⟨rfl, _, rfl, _, by simp [results, Try.results14], rfl, rfl, one_off HP1.out hne, one_set HQ1.out, fun B h1 h2 => (HB1.out B h1).setCell (p := ⟨Q, 0, none⟩) h2 _⟩
theorem catchH_idle (P Q : Nat) (w : World) :
    CallsD Try.prog 14 #[.pointer (some ⟨P, 0, none⟩), .pointer (some ⟨Q, 0, none⟩)] .returning w fun e u' w' => e = .returned (.tuple #[]) ∧ u' = .returning ∧ w' = w := by
  refine callsD_of_wpS Try.func14 rfl fun c₀ cs hu => ?_
  apply wpS_seq
  apply wpS_region
  simp [wpOpsS, go_sem, recoverD, hu, Try.ntmps14, Exit.thenS]
  refine wpS_of_wp ?_
  change Code.wp _ _ _ { tmps := #[.pointer (some ⟨P, 0, none⟩), .pointer (some ⟨Q, 0, none⟩), .nilIface, .nilIface, undef, undef, undef, undef], defers := [] } w
  go_wp2
  exact ⟨rfl, .returning, by rw [← hu], _, by simp [results, Try.results14], rfl, rfl, rfl⟩
/-- What Conclude leaves. -/
def CPH (w : World) (r : Except Int (List At)) (e : Ending) (w' : World) : Prop := Below w.heap.size w w' ∧ match r with
  | .ok F => ∃ v FL, e = .returned (.tuple #[v, .int .i64 0]) ∧ As w' v FL ∧ fsts FL = F
  | .error c => e = .returned (.tuple #[.slice none 0 0, .int .i64 c])
/-- The facts so far: each stays wherever the blocks from B on stay, but for the list's own. -/
structure OFL (B : Nat) (X : World) (v : Value) (FL : List (At × Value)) : Prop where
  o : OwnA X B v FL
  s : ∀ x ∈ FL, ∀ Y : World, X.heap.size ≤ Y.heap.size → (∀ b, B ≤ b → b < X.heap.size → v.ownBlock ≠ some b → Y.heap[b]? = X.heap[b]?) → Ts Y x.2 x.1.args
theorem OFL.later {B : Nat} {X X' : World} {v : Value} {FL : List (At × Value)} (h : OFL B X v FL) (hb : Below X.heap.size X X') : OFL B X' v FL :=
  ⟨h.o.later hb, fun x hx Y hs ha => h.s x hx Y (Nat.le_trans hb.size hs) fun b h1 h2 h3 => (ha b h1 (Nat.lt_of_lt_of_le h2 hb.size) h3).trans (hb.block b h2)⟩
theorem OFL.as {B : Nat} {X : World} {v : Value} {FL : List (At × Value)} (h : OFL B X v FL) (hl : FL.length ≤ 1000000) : As X v FL := by
  obtain ⟨a, cap, rfl⟩ := h.o.form
  refine ⟨a, cap, rfl, by omega, ?_, fun x hx => h.s x hx X (Nat.le_refl _) fun _ _ _ _ => rfl⟩
  rcases h.o.2 with ⟨hn, h0⟩ | ⟨g, cap', cur, hv, hb, hg, -⟩
  · exact Or.inl (List.length_eq_zero_iff.1 h0)
  · simp only [Value.slice.injEq] at hv
    obtain ⟨rfl, -, rfl⟩ := hv
    refine Or.inr ⟨g, 0, rfl, (Array.getElem?_eq_some_iff.1 hg).1, fun i x hx => ?_⟩
    have hc := fun k hk => h.o.cells i x hx k hk
    have h0 := hc 0 (by omega)
    have h1 := hc 1 (by omega)
    have h2 := hc 2 (by omega)
    have h3 := hc 3 (by omega)
    have h4 := hc 4 (by omega)
    simp only [acell] at h0 h1 h2 h3 h4
    simp only [Nat.zero_add]
    exact ⟨by simpa using h0, by simpa using h1, by simpa using h2, by simpa using h3, by simpa using h4⟩
theorem OFL.add {B B0 : Nat} {X X' : World} {v v' : Value} {FL : List (At × Value)} {d : At × Value} (H : OFL B X v FL) (hd : KpT B0 X d.2 d.1.args) (hB : B ≤ B0) (hv : ∀ k, v.ownBlock = some k → k < B0) (hown : OwnA X' B v' (FL ++ [d])) (hg : X.grownBy X' v.ownBlock)
    (ha : ∀ k, v'.ownBlock = some k → v.ownBlock = some k ∨ X.heap.size ≤ k) : OFL B X' v' (FL ++ [d]) :=
  ⟨hown, fun c hc Y hs hY => by
    have key : ∀ b, B ≤ b → b < X.heap.size → v.ownBlock ≠ some b → Y.heap[b]? = X.heap[b]? := fun b h1 h2 h3 =>
      (hY b h1 (Nat.lt_of_lt_of_le h2 hg.size) (fun e => by rcases ha b e with h | h; exact h3 h; omega)).trans (hg.block b h2 (fun e => h3 e.symm))
    rcases List.mem_append.1 hc with hc | hc
    · exact H.s c hc Y (Nat.le_trans hg.size hs) key
    · rw [List.mem_singleton] at hc; subst hc
      exact hd Y (Nat.le_trans hg.size hs) fun b h1 h2 => key b (Nat.le_trans hB h1) h2 (fun e => by have := hv b e; omega)⟩
theorem OFL.set {B G i : Nat} {X : World} {v c : Value} {FL : List (At × Value)} (h : OFL B X v FL) (hG : G < B) : OFL B (X.setCell ⟨G, i, none⟩ c) v FL :=
  ⟨h.o.set hG, fun x hx Y hs ha => h.s x hx Y (by simpa [World.setCell] using hs) fun b h1 h2 h3 => (ha b h1 (by simpa [World.setCell] using h2) h3).trans (heap_setCell_other _ _ _ _ (show b ≠ G by omega))⟩
theorem allH_step {R : List Ck} {S : List Sk} {j : Nat} {s : Sk} {F : List At} (h : S[j]? = some s) : allH R (S.drop j) F = match stepH R s F with | .error c => .error c | .ok a => allH R (S.drop (j + 1)) (F ++ [a]) := by
  obtain ⟨h1, h2⟩ := List.getElem?_eq_some_iff.1 h
  rw [List.drop_eq_getElem_cons h1, h2]
  rfl
set_option maxRecDepth 20000 in
set_option maxHeartbeats 1500000 in
theorem conclude_bad (R : List Cm) (S : List St) (rv sv : Value) (w : World) (hR : CsP w rv R) (hS : SsP w sv S) (hl : S.length = 0 ∨ 5000 < S.length) :
    Calls Try.prog 9 #[.agg #[rv, sv]] w (CPH w (conH (R.map Cm.key) (S.map St.key))) := by
  have HE : Hid (conH (R.map Cm.key) (S.map St.key) = .error 121) := if_pos (by simpa using hl)
  generalize conH (R.map Cm.key) (S.map St.key) = r at HE ⊢
  obtain ⟨ra, rc, rfl⟩ := hR.form
  obtain ⟨sa, sc, rfl⟩ := hS.form
  generalize R.length = rn
  generalize S.length = sn at hl ⊢
  have hmf : ∀ (fn : Fn) (first cap : Array Value) (w : World), (Instr.makeFunc fn first cap).run Try.prog w = .ok (.func fn first cap) w := fun _ _ _ _ => rfl
  clear hR hS
  rcases hl with h0 | h0
  · have z1 : ((sn : Int) == 0) = true := by simp; omega
    clear h0
    go_enter_defers Try.func9, Try.ntmps9
    go_wp2
    refine ⟨.tuple #[.slice none 0 0, .int .i64 121], by simp [results, Try.results9, go_sem], ?_⟩
    exact ⟨below_step (below2 _ _ _) (below1 _ _), by rw [HE.out]⟩
  · have z1 : ((sn : Int) == 0) = false := by simp; omega
    have z2 : (5000 : Int) < (sn : Int) := by omega
    clear h0
    go_enter_defers Try.func9, Try.ntmps9
    go_wp2
    refine ⟨.tuple #[.slice none 0 0, .int .i64 121], by simp [results, Try.results9, go_sem], ?_⟩
    exact ⟨below_step (below2 _ _ _) (below1 _ _), by rw [HE.out]⟩
theorem factOf_all (R : List Cm) (rv : Value) (s : St) (FL : List (At × Value)) (fv : Value) (w : World) (hR : CsP w rv R) (hs : s.ok w) (hF : As w fv FL) (hwf : ∀ c ∈ R, c.wf) :
    Calls Try.prog 15 #[s.v, rv, fv] w (FPH w (stepH (R.map Cm.key) s.key (fsts FL))) := by
  by_cases hp : 0 ≤ s.rule ∧ s.rule < (R.length : Int)
  · obtain ⟨n, hn⟩ := Int.eq_ofNat_of_zero_le hp.1
    have hl : n < R.length := by omega
    have hc : R[n]? = some R[n] := List.getElem?_eq_getElem hl
    have e : stepH (R.map Cm.key) s.key (fsts FL) = ruleH R[n].key s.vals s.uses (fsts FL) := stepH_some hp.1 (by
      show (R.map Cm.key)[s.rule.toNat]? = _
      rw [hn, Int.toNat_natCast, List.getElem?_map, hc]; rfl)
    rw [e]
    exact factOf_go R rv s n _ FL fv w hR hs hF hn hc (hwf _ (List.mem_of_getElem? hc))
  · obtain ⟨ra, rc, rfl⟩ := hR.form
    exact factOf_no (R.map Cm.key) s (fsts FL) ra R.length rc fv w hs (by simp) hp
/-- Conclude at work: its boxes, and the facts so far. -/
structure CLJ (w X : World) (pb : Array Value) (v : Value) (FL : List (At × Value)) : Prop where
  bw : Below w.heap.size w X
  bp : CBlk X w.heap.size pb 25
  ba : CBlk X (w.heap.size + 1) #[v] 42
  be : CBlk X (w.heap.size + 2) #[.int .i64 0] 36
  fl : OFL (w.heap.size + 3) X v FL
theorem CLJ.sz {w X : World} {pb : Array Value} {v : Value} {FL : List (At × Value)} (h : CLJ w X pb v FL) : w.heap.size + 3 ≤ X.heap.size := by have := h.be.lt; omega
theorem CLJ.later {w X X' : World} {pb : Array Value} {v : Value} {FL : List (At × Value)} (h : CLJ w X pb v FL) (hb : Below X.heap.size X X') : CLJ w X' pb v FL := ⟨below_step h.bw hb, h.bp.later hb, h.ba.later hb, h.be.later hb, h.fl.later hb⟩
theorem CLJ.put {w X X' : World} {B0 : Nat} {pb : Array Value} {v v' : Value} {FL : List (At × Value)} {d : At × Value} (h : CLJ w X pb v FL) (hd : KpT B0 X d.2 d.1.args) (hB : w.heap.size + 3 ≤ B0) (hv : ∀ k, v.ownBlock = some k → k < B0) (hown : OwnA X' (w.heap.size + 3) v' (FL ++ [d])) (hb : Below (w.heap.size + 3) X X') (hg : X.grownBy X' v.ownBlock)
    (ha : ∀ k, v'.ownBlock = some k → v.ownBlock = some k ∨ X.heap.size ≤ k) : CLJ w (X'.setCell ⟨w.heap.size + 1, 0, none⟩ v') pb v' (FL ++ [d]) :=
  ⟨(h.bw.trans (hb.mono (by omega))).setCell (show w.heap.size ≤ w.heap.size + 1 by omega) _,
   (heap_setCell_other _ _ _ _ (show w.heap.size ≠ w.heap.size + 1 by omega)).trans ((hb.block _ (by omega)).trans h.bp),
   one_set ((hb.block _ (by omega)).trans h.ba),
   one_off ((hb.block _ (by omega)).trans h.be) (by omega),
   (h.fl.add hd hB hv hown hg ha).set (by omega)⟩
theorem acell_oneH {x : At × Value} {a : Option Addr} {n c : Nat} (h : x.2 = .slice a n c) : ∀ u ∈ acell x, u.oneCell' = true := by
  intro u hu
  simp only [acell, h] at hu
  simp at hu
  rcases hu with rfl | rfl | rfl | rfl | rfl <;> rfl
set_option maxRecDepth 20000 in
set_option maxHeartbeats 1500000 in
theorem conclude_go (R : List Cm) (S : List St) (rv sv : Value) (w : World) (hR : CsP w rv R) (hS : SsP w sv S) (hwf : ∀ c ∈ R, c.wf) (h0 : 0 < S.length) (h1 : S.length ≤ 5000) :
    Calls Try.prog 9 #[.agg #[rv, sv]] w (CPH w (conH (R.map Cm.key) (S.map St.key))) := by
  have hcon : conH (R.map Cm.key) (S.map St.key) = allH (R.map Cm.key) (S.map St.key) [] := if_neg (by rw [List.length_map]; omega)
  rw [hcon]
  have HFO : Hid (∀ (X : World) (s : St) (FL : List (At × Value)) (fv : Value), Below w.heap.size w X → s.ok w → As X fv FL → Calls Try.prog 15 #[s.v, rv, fv] X (FPH X (stepH (R.map Cm.key) s.key (fsts FL)))) := fun X s FL fv hX hs hF => factOf_all R rv s FL fv X (hR.later hX) (hs.later hX) hF hwf
  have HS : Hid (SsP w sv S) := hS
  obtain ⟨ra, rc, rfl⟩ := hR.form
  obtain ⟨sa, sc, rfl⟩ := hS.form
  obtain ⟨r, hr⟩ : ∃ r, allH (R.map Cm.key) (S.map St.key) [] = r := ⟨_, rfl⟩
  rw [hr]
  have HR : Hid (allH (R.map Cm.key) (S.map St.key) [] = r) := hr
  generalize R.map Cm.key = RK at HFO HR
  generalize R.length = rn at HFO ⊢
  obtain ⟨sn, hsn⟩ : ∃ n, n = S.length := ⟨_, rfl⟩
  rw [← hsn] at HS h0 h1 ⊢
  have HSN : Hid (sn = S.length) := hsn
  have hmf : ∀ (fn : Fn) (first cap : Array Value) (w : World), (Instr.makeFunc fn first cap).run Try.prog w = .ok (.func fn first cap) w := fun _ _ _ _ => rfl
  have hmk := mk_atoms0 sn (by omega)
  have HP0 : Hid (CBlk (((w.alloc (.cells #[.slice ra rn rc, .slice sa sn sc] 25)).alloc (.cells #[.slice none 0 0] 42)).alloc (.cells #[.int .i64 0] 36)) w.heap.size #[.slice ra rn rc, .slice sa sn sc] 25) := ((CBlk.new _ _ _).later (below1 _ _)).later (below1 _ _)
  have HA0 : Hid (CBlk (((w.alloc (.cells #[.slice ra rn rc, .slice sa sn sc] 25)).alloc (.cells #[.slice none 0 0] 42)).alloc (.cells #[.int .i64 0] 36)) (w.heap.size + 1) #[.slice none 0 0] 42) := by
    have := (CBlk.new (w.alloc (.cells #[.slice ra rn rc, .slice sa sn sc] 25)) #[.slice none 0 0] 42).later (below1 _ (.cells #[.int .i64 0] 36))
    rwa [show (w.alloc (.cells #[.slice ra rn rc, .slice sa sn sc] 25)).heap.size = w.heap.size + 1 by simp] at this
  have HE0 : Hid (CBlk (((w.alloc (.cells #[.slice ra rn rc, .slice sa sn sc] 25)).alloc (.cells #[.slice none 0 0] 42)).alloc (.cells #[.int .i64 0] 36)) (w.heap.size + 2) #[.int .i64 0] 36) := by
    have := CBlk.new ((w.alloc (.cells #[.slice ra rn rc, .slice sa sn sc] 25)).alloc (.cells #[.slice none 0 0] 42)) #[.int .i64 0] 36
    rwa [show ((w.alloc (.cells #[.slice ra rn rc, .slice sa sn sc] 25)).alloc (.cells #[.slice none 0 0] 42)).heap.size = w.heap.size + 2 by simp] at this
  have HW0 : Hid (Below w.heap.size w (((w.alloc (.cells #[.slice ra rn rc, .slice sa sn sc] 25)).alloc (.cells #[.slice none 0 0] 42)).alloc (.cells #[.int .i64 0] 36))) := below_step (below2 _ _ _) (below1 _ _)
  have z1 : ((sn : Int) == 0) = false := by simp; omega
  have z2 : ¬ ((5000 : Int) < (sn : Int)) := by omega
  clear hR hS hr hcon hsn hwf
  go_enter_defers Try.func9, Try.ntmps9
  go_upto_region 1 with fail
  have hg2 : w.heap.size + 1 + 1 = w.heap.size + 2 := rfl
  rw [hg2]
  revert HP0 HA0 HE0 HW0
  generalize ((w.alloc (.cells #[.slice ra rn rc, .slice sa sn sc] 25)).alloc (.cells #[.slice none 0 0] 42)).alloc (.cells #[.int .i64 0] 36) = W0
  intro HP0 HA0 HE0 HW0
  obtain ⟨p0, p1⟩ := ctwo HP0.out
  have q0 := one_cell HA0.out
  have f0 : W0.frozen? ⟨w.heap.size + 1, 0, none⟩ = false := HA0.out.froz
  have hz0 : w.heap.size + 3 ≤ W0.heap.size := by have := HE0.out.lt; omega
  have hz1 : w.heap.size + 1 < W0.heap.size := by omega
  go_upto_region 5 with fail
  have hsz : (W0.setCell ⟨w.heap.size + 1, 0, none⟩ (.slice (some ⟨W0.heap.size, 0, none⟩) 0 sn)).heap.size = W0.heap.size := by simp [World.setCell]
  have HC1 : Hid (CLJ w ((W0.setCell ⟨w.heap.size + 1, 0, none⟩ (.slice (some ⟨W0.heap.size, 0, none⟩) 0 sn)).alloc (.cells (MA sn) 30)) #[.slice ra rn rc, .slice sa sn sc] (.slice (some ⟨W0.heap.size, 0, none⟩) 0 sn) []) :=
    ⟨below_step (HW0.out.setCell (show w.heap.size ≤ w.heap.size + 1 by omega) _) (below1 _ _), (blk_off HP0.out (show w.heap.size ≠ w.heap.size + 1 by omega)).later (below1 _ _), (one_set HA0.out).later (below1 _ _), (one_off HE0.out (by omega)).later (below1 _ _), ⟨by have := own_mk0 sn (by omega) (W0.setCell ⟨w.heap.size + 1, 0, none⟩ (.slice (some ⟨W0.heap.size, 0, none⟩) 0 sn)) (w.heap.size + 3) (by rw [hsz]; exact hz0); rw [hsz] at this; exact this, fun x hx => by cases hx⟩⟩
  clear hsz
  clear p0 p1 q0 f0 hz0 hz1 HP0 HA0 HE0 HW0 hmk z1 z2 hg2
  revert HC1
  generalize (W0.setCell ⟨w.heap.size + 1, 0, none⟩ (.slice (some ⟨W0.heap.size, 0, none⟩) 0 sn)).alloc (.cells (MA sn) 30) = Y0
  generalize (some ⟨W0.heap.size, 0, none⟩ : Option Addr) = v0
  intro HC1
  obtain ⟨p0, p1⟩ := ctwo HC1.out.bp
  go_wp2_with fail
  clear p0 p1
  go_loopg [25] sn (fun g i wr => ∃ (j : Nat) (FL : List (At × Value)) (v : Value), j + g = sn ∧ i = .int .i64 (j : Int) ∧ FL.length = j ∧ allH RK ((S.map St.key).drop j) (fsts FL) = r ∧ CLJ w wr #[.slice ra rn rc, .slice sa sn sc] v FL)
  case atStart => exact ⟨0, [], _, by omega, rfl, rfl, HR.out, HC1.out⟩
  case round =>
  obtain ⟨j, FL, v, hj, rfl, hfl, hall, hcl⟩ := hrel
  clear HC1 HR
  have HFL : Hid (FL.length = j) := hfl
  have HAL : Hid (allH RK ((S.map St.key).drop j) (fsts FL) = r) := hall
  have HCL : Hid (CLJ w wr #[.slice ra rn rc, .slice sa sn sc] v FL) := hcl
  obtain ⟨v1, v3, rfl⟩ := hcl.fl.o.form
  obtain ⟨v2, hv2⟩ : ∃ k, k = FL.length := ⟨_, rfl⟩
  rw [← hv2] at HCL
  have HV2 : Hid (v2 = FL.length) := hv2
  rw [← hv2] at hcl
  obtain ⟨p0, p1⟩ := ctwo hcl.bp
  have q0 := one_cell hcl.ba
  clear hfl hall hv2
  cases gk with
  | succ g =>
    have i1 : (j : Int) < (sn : Int) := by omega
    have i0 : (0 : Int) ≤ (j : Int) := by omega
    obtain ⟨t, ht⟩ : ∃ t, S[j]? = some t := ⟨_, List.getElem?_eq_getElem (by have := HSN.out; omega)⟩
    obtain ⟨b, o, rfl, hbs, hrow, hok⟩ := HS.out.at_ ht
    obtain ⟨d0, d1, d2⟩ := hrow.three ht
    have c0 := cell_step hcl.bw hbs d0
    have c1 := cell_step hcl.bw hbs d1
    have c2 := cell_step hcl.bw hbs d2
    have hstep := allH_step (R := RK) (S := S.map St.key) (j := j) (s := t.key) (F := fsts FL) (by rw [List.getElem?_map, ht]; rfl)
    rw [HAL.out] at hstep
    have HFT : Hid (∀ X : World, Below wr.heap.size wr X → Calls Try.prog 15 #[t.v, .slice ra rn rc, .slice v1 v2 v3] X (FPH X (stepH RK t.key (fsts FL)))) := fun X hX => HFO.out X t FL _ (below_step HCL.out.bw hX) hok ((HCL.out.later hX).fl.as (by have := HFL.out; omega))
    obtain ⟨q, hq⟩ : ∃ q, stepH RK t.key (fsts FL) = q := ⟨_, rfl⟩
    rw [hq] at hstep HFT
    obtain ⟨⟨a1, cap1, x1⟩, ⟨a2, cap2, x2⟩, -, -⟩ := hok.shape
    clear ht hbs hrow hok d0 d1 d2 hq HAL hcl
    obtain ⟨tr, tl, tv, tu, tw⟩ := t
    simp only at c0 c1 c2 x1 x2
    generalize tl.length = ln at x1
    generalize tu.length = lu at x2
    subst x1 x2
    have HFT : Hid (∀ X : World, Below wr.heap.size wr X → Calls Try.prog 15 #[.agg #[.int .i64 tr, .slice a1 ln cap1, .slice a2 lu cap2], .slice ra rn rc, .slice v1 v2 v3] X (FPH X q)) := HFT
    have HC2 : Hid (CLJ w (wr.alloc (.cells #[.int .i64 tr, .slice a1 ln cap1, .slice a2 lu cap2] 35)) #[.slice ra rn rc, .slice (some ⟨b, o, none⟩) sn sc] (.slice v1 v2 v3) FL) := HCL.out.later (below1 _ _)
    have HB2 : Hid (CBlk (wr.alloc (.cells #[.int .i64 tr, .slice a1 ln cap1, .slice a2 lu cap2] 35)) wr.heap.size #[.int .i64 tr, .slice a1 ln cap1, .slice a2 lu cap2] 35) := CBlk.new _ _ _
    have HFT2 : Hid (∀ Z : World, Below (wr.alloc (.cells #[.int .i64 tr, .slice a1 ln cap1, .slice a2 lu cap2] 35)).heap.size (wr.alloc (.cells #[.int .i64 tr, .slice a1 ln cap1, .slice a2 lu cap2] 35)) Z → Calls Try.prog 15 #[.agg #[.int .i64 tr, .slice a1 ln cap1, .slice a2 lu cap2], .slice ra rn rc, .slice v1 v2 v3] Z (FPH Z q)) := fun Z hZ => HFT.out Z (below_step (below1 _ _) hZ)
    go_upto_region 8 with fail
    clear c0 c1 c2 p0 p1 q0 HFT HCL
    revert HC2 HB2 HFT2
    generalize wr.alloc (.cells #[.int .i64 tr, .slice a1 ln cap1, .slice a2 lu cap2] 35) = X2
    generalize wr.heap.size = GS
    intro HC2 HB2 HFT2
    have HO2 : Hid (∀ k, (Value.slice v1 v2 v3).ownBlock = some k → k < X2.heap.size) := fun k hk => (HC2.out.fl.o.lt k hk).2
    obtain ⟨p0, p1⟩ := ctwo HC2.out.bp
    have q0 := one_cell HC2.out.ba
    obtain ⟨e0, e1, e2⟩ := cthree HB2.out
    cases q with
    | error c =>
      have HE : Hid (r = .error c) := hstep
      clear hstep
      go_wp2_with (go_at_call 15; refine (HFT2.out _ (Below.refl _ _)).mono ?_; rintro e w3 ⟨hb, he⟩; have he : e = .panicked [pH c] := he; subst he; have HC3 : Hid (CLJ w w3 #[.slice ra rn rc, .slice (some ⟨b, o, none⟩) sn sc] (.slice v1 v2 v3) FL) := HC2.out.later hb; clear hb)
      refine leaves_cons (f := 14) (args := #[.pointer (some ⟨w.heap.size + 1, 0, none⟩), .pointer (some ⟨w.heap.size + 2, 0, none⟩)]) (by simp) (by simp [go_sem]) ?_
      refine (catchH_panic (w.heap.size + 1) (w.heap.size + 2) _ _ c _ HC3.out.ba HC3.out.be (by omega)).mono ?_
      rintro e u' w4 ⟨rfl, rfl, hcp, hcq, hbb⟩
      have c0 := one_cell hcp
      have c1 := one_cell hcq
      refine ⟨.tuple #[.slice none 0 0, .int .i64 c], by simp [results, Try.results9, go_sem, c0, c1], HC3.out.bw.trans (hbb w.heap.size (by omega) (by omega)), ?_⟩
      rw [HE.out]
    | ok a =>
      have HE : Hid (allH RK ((S.map St.key).drop (j + 1)) (fsts FL ++ [a]) = r) := hstep.symm
      clear hstep
      obtain ⟨⟨xk, xm, xs⟩, xn, xl⟩ := a
      go_upto_region 9 with (go_at_call 15; refine (HFT2.out _ (Below.refl _ _)).mono ?_; rintro e w3 ⟨hb, y, rfl, hkp⟩; obtain ⟨y1, y3, ey⟩ := hkp.ts.sl; obtain ⟨y2, hy2⟩ : ∃ k, k = xl.length := ⟨_, rfl⟩; simp only at ey; rw [← hy2] at ey; subst ey; have HK3 : Hid (KpT X2.heap.size (w3.alloc (.cells #[.int .i64 xk, .int .i64 xm, .string xs, .string xn, .slice y1 y2 y3] 30)) (.slice y1 y2 y3) xl) := hkp.later (below1 _ _); have HC3 : Hid (CLJ w (w3.alloc (.cells #[.int .i64 xk, .int .i64 xm, .string xs, .string xn, .slice y1 y2 y3] 30)) #[.slice ra rn rc, .slice (some ⟨b, o, none⟩) sn sc] (.slice v1 v2 v3) FL) := (HC2.out.later hb).later (below1 _ _); have HX3 : Hid (CBlk (w3.alloc (.cells #[.int .i64 xk, .int .i64 xm, .string xs, .string xn, .slice y1 y2 y3] 30)) w3.heap.size #[.int .i64 xk, .int .i64 xm, .string xs, .string xn, .slice y1 y2 y3] 30) := CBlk.new _ _ _; clear hb hkp hy2 p0 p1 q0 e0 e1 e2)
      have hB0 : w.heap.size + 3 ≤ X2.heap.size := HC2.out.sz
      clear HC2 HB2 HFT2
      revert HK3 HC3 HX3
      generalize w3.alloc (.cells #[.int .i64 xk, .int .i64 xm, .string xs, .string xn, .slice y1 y2 y3] 30) = X3
      generalize w3.heap.size = G3
      intro HK3 HC3 HX3
      have q0 := one_cell HC3.out.ba
      obtain ⟨e0, e1, e2, e3, e4⟩ := cfive HX3.out
      have HK4 : Hid (KpT X2.heap.size (X3.alloc (.cells #[.int .i64 xk, .int .i64 xm, .string xs, .string xn, .slice y1 y2 y3] 30)) (.slice y1 y2 y3) xl) := HK3.out.later (below1 _ _)
      have HC4 : Hid (CLJ w (X3.alloc (.cells #[.int .i64 xk, .int .i64 xm, .string xs, .string xn, .slice y1 y2 y3] 30)) #[.slice ra rn rc, .slice (some ⟨b, o, none⟩) sn sc] (.slice v1 v2 v3) FL) := HC3.out.later (below1 _ _)
      have HG4 : Hid (CBlk (X3.alloc (.cells #[.int .i64 xk, .int .i64 xm, .string xs, .string xn, .slice y1 y2 y3] 30)) X3.heap.size (acell (⟨⟨xk, xm, xs⟩, xn, xl⟩, .slice y1 y2 y3)).toArray 30) := CBlk.new _ _ _
      have fl0 : FL.length ≤ 5000 := by have := HFL.out; omega
      go_wp2_with (at_builtin; refine aapp_one rfl _ _ rfl (w.heap.size + 3) (.slice v1 v2 v3) FL (by rfl) HC4.out.fl.o X3.heap.size (⟨⟨xk, xm, xs⟩, xn, xl⟩, .slice y1 y2 y3) (by rfl) HG4.out (acell_oneH rfl) (by omega) HC4.out.sz ?_; intro v5 w5 hown hb5 hg5 hv5; obtain ⟨z1, z3, e5⟩ := hown.form; obtain ⟨z2, hz2⟩ : ∃ k, k = (FL ++ [((⟨⟨xk, xm, xs⟩, xn, xl⟩ : At), Value.slice y1 y2 y3)]).length := ⟨_, rfl⟩; rw [← hz2] at e5; subst e5; have HC5 : Hid (CLJ w (w5.setCell ⟨w.heap.size + 1, 0, none⟩ (.slice z1 z2 z3)) #[.slice ra rn rc, .slice (some ⟨b, o, none⟩) sn sc] (.slice z1 z2 z3) (FL ++ [(⟨⟨xk, xm, xs⟩, xn, xl⟩, .slice y1 y2 y3)])) := HC4.out.put (d := (⟨⟨xk, xm, xs⟩, xn, xl⟩, .slice y1 y2 y3)) HK4.out hB0 HO2.out hown hb5 hg5 hv5; have HA5 : Hid (CBlk w5 (w.heap.size + 1) #[.slice v1 v2 v3] 42) := (hb5.block _ (by omega)).trans HC4.out.ba; clear q0 e0 e1 e2 e3 e4; have q0 := one_cell HA5.out; have f0 : w5.frozen? ⟨w.heap.size + 1, 0, none⟩ = false := HA5.out.froz; clear hown hb5 hg5 hv5 hz2)
      go_roundg g
      case measure => omega
      case rel => exact ⟨j + 1, _, _, by omega, by go_num, by rw [List.length_append, HFL.out]; rfl, by rw [← HE.out]; simp only [fsts, List.map_append, List.map_cons, List.map_nil], HC5.out⟩
  | zero =>
    have hjl : j = sn := by omega
    have k1 : ¬ ((j : Int) < (sn : Int)) := by omega
    have HE : Hid (r = .ok (fsts FL)) := by
      show r = _
      rw [← HAL.out, List.drop_eq_nil_of_le (by rw [List.length_map]; have := HSN.out; omega)]
      rfl
    have f0 : wr.frozen? ⟨w.heap.size + 1, 0, none⟩ = false := hcl.ba.froz
    have f1 : wr.frozen? ⟨w.heap.size + 2, 0, none⟩ = false := hcl.be.froz
    have r0 := one_cell hcl.be
    have hzz : w.heap.size + 3 ≤ wr.heap.size := hcl.sz
    have hz1 : w.heap.size + 1 < wr.heap.size := by omega
    have hz2 : w.heap.size + 2 < wr.heap.size := by omega
    have fl0 : FL.length ≤ 5000 := by have := HFL.out; omega
    clear hcl
    go_wp2
    refine leaves_cons (f := 14) (args := #[.pointer (some ⟨w.heap.size + 1, 0, none⟩), .pointer (some ⟨w.heap.size + 2, 0, none⟩)]) (by simp) (by simp [go_sem]) ?_
    refine (catchH_idle (w.heap.size + 1) (w.heap.size + 2) _).mono ?_
    rintro e u' w4 ⟨rfl, rfl, ew⟩
    subst ew
    have hA := ((HCL.out.fl.set (G := w.heap.size + 1) (i := 0) (c := .slice v1 v2 v3) (by omega)).set (G := w.heap.size + 2) (i := 0) (c := .int .i64 0) (by omega)).as (by omega)
    refine ⟨.tuple #[.slice v1 v2 v3, .int .i64 0], by simp [results, Try.results9, go_sem, q0, r0], ?_⟩
    refine ⟨(HCL.out.bw.setCell (p := ⟨w.heap.size + 1, 0, none⟩) (show w.heap.size ≤ w.heap.size + 1 by omega) _).setCell (p := ⟨w.heap.size + 2, 0, none⟩) (show w.heap.size ≤ w.heap.size + 2 by omega) _, ?_⟩
    rw [HE.out]
    exact ⟨_, FL, rfl, hA, rfl⟩
theorem conclude_any (R : List Cm) (S : List St) (rv sv : Value) (w : World) (hR : CsP w rv R) (hS : SsP w sv S) (hwf : ∀ c ∈ R, c.wf) :
    Calls Try.prog 9 #[.agg #[rv, sv]] w (CPH w (conH (R.map Cm.key) (S.map St.key))) := by
  by_cases h : S.length = 0 ∨ 5000 < S.length
  · exact conclude_bad R S rv sv w hR hS h
  · exact conclude_go R S rv sv w hR hS hwf (by omega) (by omega)
end Go.Proofs.Ytbhdalchnbfohaa
