/-
  script (stage 25): the program's parts of a line: a map from numbers, and what it holds.
-/
import Derived.Test.YtdfdnjkeiddfjaaDoorRA1
import Derived.Test.YtdfdnjkeiddfjaaDoorSM2
namespace Go.Proofs.YtdfdnjkeiddfjaaDoor
open Go.RowKit
attribute [local go_sem ↓] Go.wp_at_zero Go.wp_at_succ

theorem run_store_funcA (P : Program) (w : World) (a : Addr) (m : Mode) (fn : Fn) (x y : Array Value) : (store a (.func fn x y) m).run P w = stored P w a (.func fn x y) m := run_store P w a _ m rfl
attribute [local go_sem] run_store_funcA
def wfI (x : Int) : Prop := (Lit.int .i64 x).wf = true
theorem litI_inj {x y : Int} (h : Lit.int .i64 x = Lit.int .i64 y) : x = y := by injection h
/-- A map from numbers, and what it holds. -/
structure MqI (P : Program) (k : TypeId) (w : World) (b n : Nat) (f : Int → Option Value) : Prop where
  ex : ∃ D : DataW Value, w.ownsMap P k rawE b n D ∧ Maps.Tidy D ∧ Maps.size D = n ∧ ∀ x : Int, wfI x → Maps.has D (.int .i64 x) = (f x).isSome ∧ ∀ v, f x = some v → ∀ z, D.atKey (.int .i64 x) z = .held v
section
variable {P : Program} {k : TypeId} {w w' : World} {b n : Nat} {f : Int → Option Value}
theorem MqI.lt (h : MqI P k w b n f) : b < w.heap.size := by
  obtain ⟨D, h1, -⟩ := h.ex
  exact h1.lt
theorem MqI.made (P : Program) (k : TypeId) (w : World) : MqI P k (w.alloc (.map #[] 0)) w.heap.size 0 fun _ => none :=
  ⟨.map [], World.ownsMap_made w P k rawE, Maps.tidy_empty, rfl, fun _ _ => ⟨rfl, fun v hv => by cases hv⟩⟩
theorem MqI.same (h : MqI P k w b n f) (hb : w'.heap[b]? = w.heap[b]?) : MqI P k w' b n f := by
  obtain ⟨D, ⟨es, clock, h1, r⟩, h2⟩ := h.ex
  exact ⟨D, ⟨es, clock, hb.trans h1, r⟩, h2⟩
theorem MqI.later (h : MqI P k w b n f) (hb : Below w.heap.size w w') : MqI P k w' b n f := h.same (hb.block b h.lt)
theorem MqI.at0 {T E : TypeId} (h : MqI P k w b n f) (hk : P.underlying k = some (.int .i64)) (hT : P.underlying T = some (.map k E)) {z : Value} (hz : (zeroValue E).run P w = .ok z w) {x : Int} (hx : wfI x) :
    (Instr.lookup T (.map (some b)) (.int .i64 x) false).run P w = .ok ((f x).getD z) w := by
  obtain ⟨D, h1, h2, h3, h4⟩ := h.ex
  have h5 := h4 x hx
  obtain ⟨v, ps, hr, hv⟩ := h1.lookup (Maps.int_keyed hk) hT hz (show rawE z = some (.held z, []) from rfl) (key := .int .i64 x) (kl := .int .i64 x) (Maps.keyOf_int_mk hk hx)
  have e : DataW.held v = D.atKey (.int .i64 x) (.held z) := by have := congrArg (Option.map Prod.fst) hv; simpa [rawE] using this
  have e2 : v = (f x).getD z := by
    cases hf : f x with
    | some u => rw [h5.2 u hf] at e; injection e
    | none =>
      have hh := h5.1
      rw [hf] at hh
      rw [Maps.atKey_of_not_has hh] at e
      injection e
  rw [hr, e2]
def iput (f : Int → Option Value) (s : Int) (v : Value) : Int → Option Value := fun x => if x = s then some v else f x
theorem MqI.store {T E : TypeId} (h : MqI P k w b n f) (hk : P.underlying k = some (.int .i64)) (hT : P.underlying T = some (.map k E)) (hn : n < maxLen) {s : Int} (hs : wfI s) (hfs : f s = none) (v : Value) :
    ∃ w', (Instr.mapUpdate T (.map (some b)) (.int .i64 s) v).run P w = .ok () w' ∧ MqI P k w' b (n + 1) (iput f s v) ∧ w.grownBy w' (some b) := by
  obtain ⟨D, h1, h2, h3, h4⟩ := h.ex
  obtain ⟨w', hr, ho, ht⟩ := h1.store (Maps.int_keyed hk) hT hn (key := .int .i64 s) (kl := .int .i64 s) (Maps.keyOf_int_mk hk hs) (show rawE v = some (.held v, []) from rfl)
  have hsz : Maps.size (D.put (.int .i64 s) (.held v)) = n + 1 := by rw [Maps.size_put h2, (h4 s hs).1, h3, hfs]; rfl
  have ho' := owns_tight ho
  rw [hsz] at ho'
  have hkey : WideAt.IsKeyLit (Lit.int .i64 s) := by trivial
  refine ⟨w', hr, ⟨_, ho', h2.put hkey _, hsz, fun x hx => ?_⟩, ht.grown⟩
  by_cases e : x = s
  · subst e
    refine ⟨by rw [Maps.has_put_same h2.isMap hkey]; simp [iput], fun u hu z => ?_⟩
    have hu : some v = some u := by simpa [iput] using hu
    cases hu
    exact Maps.atKey_put_same h2.isMap hkey _ _
  · have hne : Lit.int .i64 x ≠ Lit.int .i64 s := fun h => e (litI_inj h)
    refine ⟨by rw [Maps.has_put_other hne, (h4 x hx).1]; simp [iput, e], fun u hu z => ?_⟩
    simp only [iput, if_neg e] at hu
    rw [Maps.atKey_put_other hne]
    exact (h4 x hx).2 u hu z
end
/-- A part: what takes it, what writes it, what asks whether it is zero. -/
def txA : Value := .agg #[.func (.func 51) #[] #[], .func (.func 52) #[] #[], .func (.func 53) #[] #[]]
def byA : Value := .agg #[.func (.func 54) #[] #[], .func (.func 55) #[] #[], .func (.func 56) #[] #[]]
def nmA (g : Nat) : Value := .agg #[.func (.func 69) #[] #[.pointer (some ⟨g, 0, none⟩)], .func (.func 70) #[] #[.pointer (some ⟨g, 0, none⟩)], .func (.func 73) #[] #[.pointer (some ⟨g, 0, none⟩)]]
def nuA (g : Nat) : Value := .agg #[.func (.func 74) #[] #[.pointer (some ⟨g, 0, none⟩)], .func (.func 75) #[] #[.pointer (some ⟨g, 0, none⟩)], .func (.func 76) #[] #[.pointer (some ⟨g, 0, none⟩)]]
def PtA (W : World) (p : Int) (v : Value) : Prop :=
  (p = 3 ∧ v = txA) ∨ (p = 4 ∧ v = byA) ∨
  (∃ g, v = nmA g ∧ ((p = 1 ∧ BlkK W g #[.func (.func 49) #[] #[]] 97) ∨ (p = 2 ∧ BlkK W g #[.func (.func 50) #[] #[]] 97))) ∨
  (∃ g, v = nuA g ∧ ((p = 5 ∧ BlkK W g #[.func (.func 58) #[] #[]] 100) ∨ (p = 6 ∧ BlkK W g #[.func (.func 59) #[] #[]] 100) ∨ (p = 7 ∧ BlkK W g #[.func (.func 60) #[] #[]] 100)))
theorem PtA.later {W W' : World} {p : Int} {v : Value} (h : PtA W p v) (hb : Below W.heap.size W W') : PtA W' p v := by
  rcases h with h | h | ⟨g, e, h⟩ | ⟨g, e, h⟩
  · exact Or.inl h
  · exact Or.inr (Or.inl h)
  · exact Or.inr (Or.inr (Or.inl ⟨g, e, h.imp (fun h => ⟨h.1, h.2.later hb⟩) fun h => ⟨h.1, h.2.later hb⟩⟩))
  · exact Or.inr (Or.inr (Or.inr ⟨g, e, h.imp (fun h => ⟨h.1, h.2.later hb⟩) fun h => h.imp (fun h => ⟨h.1, h.2.later hb⟩) fun h => ⟨h.1, h.2.later hb⟩⟩))
theorem PtA.grown {W W' : World} {p : Int} {v : Value} {b : Nat} (h : PtA W p v) (hg : W.grownBy W' (some b)) (hn : ∀ g, (v = nmA g ∨ v = nuA g) → ∀ c t, BlkK W g c t → g ≠ b) : PtA W' p v := by
  rcases h with h | h | ⟨g, e, h⟩ | ⟨g, e, h⟩
  · exact Or.inl h
  · exact Or.inr (Or.inl h)
  · exact Or.inr (Or.inr (Or.inl ⟨g, e, h.imp (fun h => ⟨h.1, (hg.block g h.2.lt (fun q => hn g (Or.inl e) _ _ h.2 (Option.some.inj q))).trans h.2⟩) fun h => ⟨h.1, (hg.block g h.2.lt (fun q => hn g (Or.inl e) _ _ h.2 (Option.some.inj q))).trans h.2⟩⟩))
  · exact Or.inr (Or.inr (Or.inr ⟨g, e, h.imp (fun h => ⟨h.1, (hg.block g h.2.lt (fun q => hn g (Or.inr e) _ _ h.2 (Option.some.inj q))).trans h.2⟩) fun h => h.imp (fun h => ⟨h.1, (hg.block g h.2.lt (fun q => hn g (Or.inr e) _ _ h.2 (Option.some.inj q))).trans h.2⟩) fun h => ⟨h.1, (hg.block g h.2.lt (fun q => hn g (Or.inr e) _ _ h.2 (Option.some.inj q))).trans h.2⟩⟩))
theorem MqI.notcells {P : Program} {k : TypeId} {w : World} {b n : Nat} {f : Int → Option Value} (h : MqI P k w b n f) {g : Nat} {c : Array Value} {t : TypeId} (hg : BlkK w g c t) : g ≠ b := by
  intro e
  subst e
  obtain ⟨D, ⟨es, clock, h1, -⟩, -⟩ := h.ex
  have := hg.symm.trans h1
  cases this
/-- The map of the parts, as far as it is made. -/
structure PsA (W : World) (B b n : Nat) (f : Int → Option Value) : Prop where
  m : MqI Tryd.prog 3 W b n f
  p : ∀ x v, f x = some v → PtA W x v
  b : B ≤ b
theorem PsA.later {W W' : World} {B b n : Nat} {f : Int → Option Value} (h : PsA W B b n f) (hb : Below W.heap.size W W') : PsA W' B b n f := ⟨h.m.later hb, fun x v e => (h.p x v e).later hb, h.b⟩
theorem PsA.store {W : World} {B b n : Nat} {f : Int → Option Value} (h : PsA W B b n f) (hn : n < 100) {s : Int} (hs : wfI s) (hfs : f s = none) {v : Value} (hv : PtA W s v) (hB : B ≤ W.heap.size) :
    ∃ w', (Instr.mapUpdate 84 (.map (some b)) (.int .i64 s) v).run Tryd.prog W = .ok () w' ∧ PsA w' B b (n + 1) (iput f s v) ∧ Below B W w' := by
  obtain ⟨w', h1, h2, h3⟩ := h.m.store Tryd.underlying3 Tryd.underlying84 (by unfold maxLen; omega) hs hfs v
  have hk : ∀ x u, PtA W x u → PtA w' x u := fun x u hu => hu.grown h3 fun g _ c t hc => h.m.notcells hc
  refine ⟨w', h1, ⟨h2, fun x u e => ?_, h.b⟩, (Below.refl B W).grown h3 hB (fun j hj => by cases hj; exact h.b)⟩
  by_cases hx : x = s
  · subst hx
    have : some v = some u := by simpa [iput] using e
    cases this
    exact hk _ _ hv
  · simp only [iput, if_neg hx] at e
    exact hk _ _ (h.p x u e)
/-- A part is answered. -/
theorem ret_ptA {fn : Func} {i : Nat} (hf : fn.results = #[.cell i 64]) (tmps : Array Value) (w : World) (g : Nat) (a0 a1 a2 : Value)
    (h4 : tmps[i]?.getD undef = .pointer (some ⟨g, 0, none⟩)) (h : BlkK w g #[a0, a1, a2] 64) : (results fn tmps).run Tryd.prog w = .ok (.agg #[a0, a1, a2]) w := by
  have c0 := cell8 h 0 a0 rfl
  have c1 := cell8 h 1 a1 rfl
  have c2 := cell8 h 2 a2 rfl
  simp [results, hf, h4, go_sem, c0, c1, c2]
theorem endPt {fn : Func} {a : Act} {wx : World} {tmps : Array Value} {g : Nat} {a0 a1 a2 : Value} {Q : Ending → World → Prop} (hf : fn.results = #[.cell 2 64]) (ha : a = ⟨tmps, []⟩) (h4 : tmps[2]?.getD undef = .pointer (some ⟨g, 0, none⟩))
    (hd : BlkK wx g #[a0, a1, a2] 64) (hq : Q (.returned (.agg #[a0, a1, a2])) wx) : bodyPost Tryd.prog fn Q .ret a wx := by
  subst ha
  exact bodyPost_ret (ret_ptA hf _ _ g _ _ _ h4 hd) rfl hq
set_option maxHeartbeats 1000000 in
theorem namedA_any (f : Nat) (w : World) : Calls Tryd.prog 48 #[.func (.func f) #[] #[]] w fun e w' => e = .returned (nmA w.heap.size) ∧ BlkK w' w.heap.size #[.func (.func f) #[] #[]] 97 ∧ Below w.heap.size w w' := by
  have hmf : ∀ (fn : Fn) (first cap : Array Value) (w : World), (Instr.makeFunc fn first cap).run Tryd.prog w = .ok (.func fn first cap) w := fun _ _ _ _ => rfl
  go_enter Tryd.func48, Tryd.ntmps48
  go_wp2
  exact endPt (g := w.heap.size + 1) rfl rfl rfl (BlkK.new2 w _ _ _) ⟨rfl, BlkK.old w _ _ _, below2K w _ _⟩
set_option maxHeartbeats 1000000 in
theorem numberedA_any (f : Nat) (w : World) : Calls Tryd.prog 57 #[.func (.func f) #[] #[]] w fun e w' => e = .returned (nuA w.heap.size) ∧ BlkK w' w.heap.size #[.func (.func f) #[] #[]] 100 ∧ Below w.heap.size w w' := by
  have hmf : ∀ (fn : Fn) (first cap : Array Value) (w : World), (Instr.makeFunc fn first cap).run Tryd.prog w = .ok (.func fn first cap) w := fun _ _ _ _ => rfl
  go_enter Tryd.func57, Tryd.ntmps57
  go_wp2
  exact endPt (g := w.heap.size + 1) rfl rfl rfl (BlkK.new2 w _ _ _) ⟨rfl, BlkK.old w _ _ _, below2K w _ _⟩
end Go.Proofs.YtdfdnjkeiddfjaaDoor
