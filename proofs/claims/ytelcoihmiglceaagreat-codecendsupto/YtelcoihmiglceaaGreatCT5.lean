import Derived.Test.YtelcoihmiglceaaGreatCT4
import Derived.Test.YtelcoihmiglceaaGreatRows
import Derived.Deep.CondSized
import Derived.Test.YtelcoihmiglceaaGreatNB4
import Derived.Test.YtelcoihmiglceaaGreatCD1
import Derived.Deep.DeepHandedRow
import Derived.LaidMore
namespace Go.Proofs.YtelcoihmiglceaaGreat
open Go.ChangeShapes Go.WideShapes Go.ChangeAt Go.RowKit Go.Joins Go.Deep

set_option maxRecDepth 100000 in
theorem clause_of_cells9 {H : Type} {enc : TypeId × Value -> H} {W : World} {base : Nat} {spare : Nat -> Bool} {held : Bool} {fuel : Nat} {cs : List Value} {x : DataW H × List MemPlace}
  (hf : DataW.trod enc Tryz.prog W base spare held fuel 30 cs = some x) (hl : cs.length = 7) (hw : ∀ n ∈ x.1.weights Tryz.prog 30, n <= reachBytes) : ∃ c : Cm, cs = c.csl /\ c.ok W /\ ∀ t ∈ Ck.terms c.key, WfT t := by
 obtain ⟨c0, c1, c2, c3, c4, c5, c6, rfl⟩ := clist7 hl
 obtain ⟨y0, y1, y2, n, hd, -, h0, h1, h2⟩ := trod_struct3 Tryz.underlying30 hf
 rw [Tryz.cellsAtom] at h0
 rw [Tryz.cellsAtoms] at h1
 rw [Tryz.cellsTests] at h2
 have hwe : ∀ (j : Nat) (t : TypeId) (y : DataW H), [26, 27, 28][j]? = some t -> [y0.1, y1.1, y2.1][j]? = some y -> ∀ m ∈ y.weights Tryz.prog t, m <= reachBytes := fun j t y ht hy m hm => by
  refine hw m ?_
  rw [hd, DataW.weights, Tryz.underlying30]
  exact DataW.weights_mem_each (j := j) ht hy m hm
 obtain ⟨x, e0, hx, b0, w0⟩ := atom_of_cellsB h0 (by simp) (hwe 0 _ _ rfl rfl)
 obtain ⟨vb, lb, e1, hb, b1, w1⟩ := open_atomsB h1 (hwe 1 _ _ rfl rfl)
 obtain ⟨vt, lt, e2, ht, b2, w2⟩ := open_testsB h2 (hwe 2 _ _ rfl rfl)
 simp at e0 e1 e2
 obtain ⟨rfl, rfl, rfl, rfl, rfl⟩ := e0
 subst e1 e2
 have ek : Ck.terms (Cm.key ⟨x, lb, c5, lt, c6⟩) = x.1.pl ++ ((fsts lb).flatMap At.pl ++ tls lt) := rfl
 refine ⟨⟨x, lb, _, lt, _⟩, rfl, ⟨hx, hb, ht⟩, ?_⟩
 rw [ek]
 intro t hm
 rcases List.mem_append.1 hm with hm | hm
 ·exact w0 t hm
 ·rcases List.mem_append.1 hm with hm | hm
  ·exact w1 t hm
  ·exact w2 t hm
set_option maxRecDepth 100000 in
theorem open_clauses9 {H : Type} {enc : TypeId × Value -> H} {W : World} {base : Nat} {spare : Nat -> Bool} {held : Bool} {fuel : Nat} {cs : List Value} {x : DataW H × List MemPlace}
  (h : DataW.trod enc Tryz.prog W base spare held fuel 31 cs = some x) (hw : ∀ n ∈ x.1.weights Tryz.prog 31, n <= reachBytes) : ∃ v l, cs = [v] /\ CsP W v l /\ l.length <= Rows.uptoBulk x.1 /\ ∀ c ∈ l, ∀ t ∈ Ck.terms c.key, WfT t := by
 rcases open_slice Tryz.underlying31 h with ⟨rfl, -⟩ | ⟨a, len, cap, m, n, D, Pl, rfl, hba, hlc, hcm, hm, hx, hel⟩
 ·exact ⟨_, [], rfl, ⟨Or.inl ⟨rfl, rfl⟩, fun c hc => by cases hc⟩, by simp, fun c hc => by cases hc⟩
 ·rw [Tryz.cellsClause] at hel
  have hlm : len <= m := by rw [hm]; split <;> omega
  have key : ∀ i : Nat, ∃ c : Cm, i < len -> (∀ k u, c.csl[k]? = some u -> W.cell? ((a.add (i * 7)).add k) = some u) /\ c.ok W /\ ∀ t ∈ Ck.terms c.key, WfT t := fun i => by
   by_cases hi : i < len
   ·obtain ⟨cs', h1, h2⟩ := hel i (by omega)
    obtain ⟨-, hl, hc⟩ := World.cells?_some h1
    obtain ⟨c, rfl, hok, hbk⟩ := clause_of_cells9 h2 hl (fun n hn => hw n (by
     rw [hx, DataW.weights, Tryz.underlying31]
     exact List.mem_cons_of_mem _ (List.mem_append.2 (Or.inl (weights_mem_all hn (List.mem_map.2 ⟨i, List.mem_range.2 hi, rfl⟩))))))
    refine ⟨c, fun _ => ⟨fun k u hu => ?_, hok, hbk⟩⟩
    rw [<- hu]
    exact hc k (List.getElem?_eq_some_iff.1 hu).1
   ·exact ⟨cP, fun h => absurd h hi⟩
  obtain ⟨f, hf⟩ := Classical.axiomOfChoice key
  refine ⟨_, (List.range len).map f, rfl, ⟨Or.inr ⟨a, cap, by simp, ?_⟩, fun c hc => ?_⟩, by rw [hx]; simpa using bulkN_slice ((List.range len).map D) _, fun c hc => ?_⟩
  ·rcases Nat.eq_zero_or_pos len with h0 | h0
   ·left; subst h0; rfl
   ·right
    obtain ⟨b, off, spot⟩ := a
    have h00 := (hf 0 h0).1 0 _ rfl
    have hspot : spot = none := by simpa [Addr.add] using World.cell?_spot h00
    subst hspot
    refine ⟨b, off, rfl, ?_, fun i c hc k u hu => ?_⟩
    ·exact World.block_lt_of_cell? W _ (by simpa [Addr.add] using h00)
    ·have hi : i < len := by have := (List.getElem?_eq_some_iff.1 hc).1; simpa using this
     have e : c = f i := by
      rw [List.getElem?_map, List.getElem?_range hi] at hc; simpa using hc.symm
     subst e
     have := (hf i hi).1 k u hu
     rw [add_plain, add_plain] at this
     exact this
  ·obtain ⟨i, hi, rfl⟩ := List.mem_map.1 hc
   exact (hf i (List.mem_range.1 hi)).2.1
  ·obtain ⟨i, hi, rfl⟩ := List.mem_map.1 hc
   exact (hf i (List.mem_range.1 hi)).2.2
theorem rng_of9 {t : Tm} (h : WfT t) : rng t := by
 have e1 : IntKind.i64.min = -9223372036854775808 := by decide
 have e2 : IntKind.i64.max = 9223372036854775807 := by decide
 simp [WfT, Lit.wf] at h
 exact ⟨by omega, by omega⟩
theorem rng_of_wf9 {x : Ck} (h : ∀ t ∈ Ck.terms x, WfT t) : Rng x := by
 have key : ∀ t ∈ Ck.terms x, rng t := fun t ht => by
  have e1 : IntKind.i64.min = -9223372036854775808 := by decide
  have e2 : IntKind.i64.max = 9223372036854775807 := by decide
  have := h t ht
  simp [WfT, Lit.wf] at this
  exact ⟨by omega, by omega⟩
 refine ⟨fun a ha t ht => key t ?_, fun e he => ⟨key e.l ?_, key e.r ?_⟩⟩
 ·unfold Ck.terms
  rcases List.mem_cons.1 ha with rfl | ha
  ·exact List.mem_append_left _ ht
  ·exact List.mem_append_right _ (List.mem_append_left _ (List.mem_flatMap.2 ⟨a, ha, ht⟩))
 ·exact List.mem_append_right _ (List.mem_append_right _ (List.mem_flatMap.2 ⟨e, he, by simp⟩))
 ·exact List.mem_append_right _ (List.mem_append_right _ (List.mem_flatMap.2 ⟨e, he, by simp⟩))
def RgS (s : St) : Prop := Rs s.key
def zS : St := ⟨0, [], .slice none 0 0, [], .slice none 0 0⟩
theorem i64_low {n : Int} (h : (Lit.int .i64 n).wf = true) : -9223372036854775808 <= n /\ n <= 9223372036854775807 := by
 have e1 : IntKind.i64.min = -9223372036854775808 := by decide
 have e2 : IntKind.i64.max = 9223372036854775807 := by decide
 simp [Lit.wf] at h
 omega
theorem wk_sum {H : Type} (g : Nat -> Sk) (D : Nat -> DataW H) : ∀ l : List Nat, (∀ i ∈ l, wk [g i] <= Rows.uptoBulk (D i)) -> wk (l.map g) <= Rows.uptoBulkAll (l.map D)
 | [], _ => by simp [wk]
 | i :: l, h => by
  have h1 := h i (by simp)
  have h2 := wk_sum g D l fun j hj => h j (by simp [hj])
  simp only [List.map_cons, wk, Rows.uptoBulkAll] at h1 h2 ⊢
  omega
theorem Tryz.cellsStep8 : Tryz.prog.cellsOf 66 = 3 := by kernel_rfl
theorem Tryz.cellsInts8 : Tryz.prog.cellsOf 64 = 1 := by kernel_rfl
theorem Tryz.cellsClauses8 : Tryz.prog.cellsOf 31 = 1 := by kernel_rfl
theorem Tryz.cellsSteps8 : Tryz.prog.cellsOf 33 = 1 := by kernel_rfl
theorem Tryz.cellsProof8 : Tryz.prog.cellsOf 35 = 2 := by kernel_rfl
theorem Tryz.bytesInt8 : Tryz.prog.bytesOf 3 = 8 := by kernel_rfl
theorem open_ns8 {H : Type} {enc : TypeId × Value -> H} {W : World} {base fuel : Nat} {spare : Nat -> Bool} {held : Bool} {cs : List Value} {x : DataW H × List MemPlace}
  (h : DataW.trod enc Tryz.prog W base spare held fuel 64 cs = some x) (hw : ∀ n ∈ x.1.weights Tryz.prog 64, n <= reachBytes) : ∃ v l, cs = [v] /\ Ns W v l /\ l.length <= Rows.uptoBulk x.1 /\ ∀ n ∈ l, (Lit.int .i64 n).wf = true := by
 rcases open_ints Tryz.underlying64 Tryz.underlying3 Tryz.cellsInt h with ⟨rfl, -⟩ | ⟨a, n, c, zs, rfl, -, hl, hcm, hzl, hx, hcell, hwf⟩
 ·exact ⟨_, [], rfl, ⟨none, 0, rfl, by simp, Or.inl rfl⟩, by simp, fun n hn => by simp at hn⟩
 ·have hz : n <= zs.length := by rw [hzl]; split <;> omega
  have htl : (zs.take n).length = n := by rw [List.length_take]; omega
  have hlen : n < 1000000000000000000 := by
   have e : x.1 = .slice (lits .i64 (zs.take n)) (lits .i64 (zs.drop n)) := congrArg Prod.fst hx
   have := hw (((lits (H := H) .i64 (zs.take n)).length + (lits (H := H) .i64 (zs.drop n)).length) * Tryz.prog.bytesOf 3) (by rw [e]; simp [DataW.weights, Tryz.underlying64])
   rw [Tryz.bytesInt8] at this
   simp only [lits, List.length_map, reachBytes, htl] at this
   omega
  refine ⟨_, zs.take n, rfl, ⟨some a, c, by rw [htl], by omega, ?_⟩, ?_, fun m hm => hwf m (List.mem_of_mem_take hm)⟩
  ·rcases Nat.eq_zero_or_pos n with h0 | h0
   ·left; rw [h0]; rfl
   ·right
    obtain ⟨b, o, spot⟩ := a
    have c0 := hcell 0 (by omega)
    have hspot : spot = none := by simpa [Addr.add] using World.cell?_spot c0
    subst hspot
    refine ⟨b, o, rfl, World.block_lt_of_cell? W _ c0, fun i x hi => ?_⟩
    have hil : i < n := by have := (List.getElem?_eq_some_iff.1 hi).1; omega
    have hc := hcell i (by omega)
    rw [Addr.add_mid] at hc
    rw [hc]
    rw [List.getElem?_take_of_lt hil] at hi
    simp [List.getD, hi]
  ·have e : x.1 = .slice (lits .i64 (zs.take n)) (lits .i64 (zs.drop n)) := congrArg Prod.fst hx
   rw [e]
   have := bulkN_slice (lits (H := H) .i64 (zs.take n)) (lits .i64 (zs.drop n))
   have hll : (lits (H := H) .i64 (zs.take n)).length = n := by unfold lits; rw [List.length_map]; exact htl
   omega
set_option maxRecDepth 100000 in
theorem step_of_cells8 {H : Type} {enc : TypeId × Value -> H} {W : World} {base : Nat} {spare : Nat -> Bool} {held : Bool} {fuel : Nat} {cs : List Value} {x : DataW H × List MemPlace}
  (hf : DataW.trod enc Tryz.prog W base spare held fuel 66 cs = some x) (hl : cs.length = 3) (hw : ∀ n ∈ x.1.weights Tryz.prog 66, n <= reachBytes) : ∃ c : St, cs = c.csl /\ c.ok W /\ wk [c.key] <= Rows.uptoBulk x.1 /\ RgS c := by
 obtain ⟨c0, c1, c2, rfl⟩ := list3 hl
 obtain ⟨y0, y1, y2, n, hd, -, h0, h1, h2⟩ := trod_struct3 Tryz.underlying66 hf
 rw [Tryz.cellsInt] at h0
 rw [Tryz.cellsTerms] at h1
 rw [Tryz.cellsInts8] at h2
 obtain ⟨k, e0, -, hk⟩ := DataW.trod_int Tryz.underlying3 h0
 obtain ⟨vb, lb, e1, hb, b1, wt⟩ := open_termsB h1 (fun m hm => by
  refine hw m ?_
  rw [hd, DataW.weights, Tryz.underlying66]
  exact DataW.weights_mem_each (j := 1) rfl rfl m hm)
 obtain ⟨vt, lt, e2, ht, b2, hr⟩ := open_ns8 h2 (fun m hm => by
  refine hw m ?_
  rw [hd, DataW.weights, Tryz.underlying66]
  exact DataW.weights_mem_each (j := 2) rfl rfl m hm)
 simp at e0 e1 e2
 subst e0 e1 e2
 refine ⟨⟨k, lb, _, lt, _⟩, rfl, ⟨hb, ht⟩, ?_, ⟨i64_low hk, fun n hn => i64_low (hr n hn), fun t ht => rng_of9 (wt t ht)⟩⟩
 rw [hd]
 have := bulkN_pos y0.1
 simp only [wk, St.key, Rows.uptoBulk, Rows.uptoBulkAll]
 omega
set_option maxRecDepth 100000 in
theorem open_steps8 {H : Type} {enc : TypeId × Value -> H} {W : World} {base : Nat} {spare : Nat -> Bool} {held : Bool} {fuel : Nat} {cs : List Value} {x : DataW H × List MemPlace}
  (h : DataW.trod enc Tryz.prog W base spare held fuel 33 cs = some x) (hw : ∀ n ∈ x.1.weights Tryz.prog 33, n <= reachBytes) : ∃ v l, cs = [v] /\ SsP W v l /\ wk (l.map St.key) <= Rows.uptoBulk x.1 /\ ∀ c ∈ l, RgS c := by
 rcases open_slice Tryz.underlying33 h with ⟨rfl, -⟩ | ⟨a, len, cap, m, n, D, Pl, rfl, hba, hlc, hcm, hm, hx, hel⟩
 ·exact ⟨_, [], rfl, ⟨Or.inl ⟨rfl, rfl⟩, fun c hc => by cases hc⟩, by simp [wk], fun c hc => by cases hc⟩
 ·rw [Tryz.cellsStep8] at hel
  have hlm : len <= m := by rw [hm]; split <;> omega
  have key : ∀ i : Nat, ∃ c : St, i < len -> (∀ k u, c.csl[k]? = some u -> W.cell? ((a.add (i * 3)).add k) = some u) /\ c.ok W /\ wk [c.key] <= Rows.uptoBulk (D i) /\ RgS c := fun i => by
   by_cases hi : i < len
   ·obtain ⟨cs', h1, h2⟩ := hel i (by omega)
    obtain ⟨-, hl, hc⟩ := World.cells?_some h1
    obtain ⟨c, rfl, hok, hbk, hrg⟩ := step_of_cells8 h2 hl (fun n hn => hw n (by
     rw [hx, DataW.weights, Tryz.underlying33]
     exact List.mem_cons_of_mem _ (List.mem_append.2 (Or.inl (weights_mem_all hn (List.mem_map.2 ⟨i, List.mem_range.2 hi, rfl⟩))))))
    refine ⟨c, fun _ => ⟨fun k u hu => ?_, hok, hbk, hrg⟩⟩
    rw [<- hu]
    exact hc k (List.getElem?_eq_some_iff.1 hu).1
   ·exact ⟨zS, fun h => absurd h hi⟩
  obtain ⟨f, hf⟩ := Classical.axiomOfChoice key
  refine ⟨_, (List.range len).map f, rfl, ⟨Or.inr ⟨a, cap, by simp, ?_⟩, fun c hc => ?_⟩, ?_, fun c hc => ?_⟩
  ·rcases Nat.eq_zero_or_pos len with h0 | h0
   ·left; subst h0; rfl
   ·right
    obtain ⟨b, off, spot⟩ := a
    have h00 := (hf 0 h0).1 0 _ rfl
    have hspot : spot = none := by simpa [Addr.add] using World.cell?_spot h00
    subst hspot
    refine ⟨b, off, rfl, ?_, fun i c hc k u hu => ?_⟩
    ·exact World.block_lt_of_cell? W _ (by simpa [Addr.add] using h00)
    ·have hi : i < len := by have := (List.getElem?_eq_some_iff.1 hc).1; simpa using this
     have e : c = f i := by
      rw [List.getElem?_map, List.getElem?_range hi] at hc; simpa using hc.symm
     subst e
     have := (hf i hi).1 k u hu
     rw [add_plain, add_plain] at this
     exact this
  ·obtain ⟨i, hi, rfl⟩ := List.mem_map.1 hc
   exact (hf i (List.mem_range.1 hi)).2.1
  ·rw [hx]
   have h1 := wk_sum (fun i => (f i).key) D (List.range len) fun i hi => (hf i (List.mem_range.1 hi)).2.2.1
   rw [List.map_map]
   simp only [Rows.uptoBulk]
   have e : (St.key ∘ f) = fun i => (f i).key := rfl
   rw [e]; omega
  ·obtain ⟨i, hi, rfl⟩ := List.mem_map.1 hc
   exact (hf i (List.mem_range.1 hi)).2.2.2
set_option maxRecDepth 100000 in
theorem open_proof8 {H : Type} {enc : TypeId × Value -> H} {W : World} {r : Reach} {b0 base : Nat} {spare : Nat -> Bool} {held : Bool} {v : Value} {d : DataW H} {p : List MemPlace}
  (hv : Value.okWide Tryz.prog W r b0 35 v) (h : DataW.Trod enc Tryz.prog W base spare held 35 v d p) (hw : ∀ n ∈ d.weights Tryz.prog 35, n <= reachBytes) : ∃ (rv sv : Value) (R : List Cm) (S : List St), v = .agg #[rv, sv] /\ CsP W rv R /\ SsP W sv S /\ R.length <= Rows.uptoBulk d /\ wk (S.map St.key) <= Rows.uptoBulk d /\ (∀ c ∈ R, Rng c.key) /\ ∀ s ∈ S, Rs s.key := by
 obtain ⟨cs, rfl, hsz⟩ := okWide_struct Tryz.underlying35 hv
 rw [Tryz.cellsProof8] at hsz
 obtain ⟨fuel, hf⟩ := h
 obtain ⟨l⟩ := cs
 obtain ⟨c0, c1, rfl⟩ : ∃ c0 c1, l = [c0, c1] := by
  match l, hsz with
  | [a, b], _ => exact ⟨a, b, rfl⟩
 obtain ⟨y0, y1, n, hd, -, h0, h1⟩ := trod_struct2 Tryz.underlying35 hf
 simp only [Prod.mk.injEq] at hd
 have hd := hd.1
 subst hd
 rw [Tryz.cellsClauses8] at h0
 rw [Tryz.cellsSteps8] at h1
 have hwe : ∀ (j : Nat) (t : TypeId) (y : DataW H), [31, 33][j]? = some t -> [y0.1, y1.1][j]? = some y -> ∀ m ∈ y.weights Tryz.prog t, m <= reachBytes := fun j t y ht hy m hm => by
  refine hw m ?_
  rw [DataW.weights, Tryz.underlying35]
  exact DataW.weights_mem_each (j := j) ht hy m hm
 obtain ⟨vb, lb, e1, hb, b1, wc⟩ := open_clauses9 h0 (hwe 0 _ _ rfl rfl)
 obtain ⟨vt, lt, e2, ht, b2, w2⟩ := open_steps8 h1 (hwe 1 _ _ rfl rfl)
 simp [Value.cells] at e1 e2
 subst e1 e2
 refine ⟨_, _, lb, lt, rfl, hb, ht, ?_, ?_, fun c hc => rng_of_wf9 (wc c hc), w2⟩
 ·simp only [Rows.uptoBulk, Rows.uptoBulkAll]; omega
 ·simp only [Rows.uptoBulk, Rows.uptoBulkAll]; omega
theorem Tryz.cellsU8 : Tryz.prog.cellsOf 5 = 1 := by kernel_rfl
theorem bulk_one {H : Type} (d : DataW H) : 0 < Rows.uptoBulk d := by
 cases d with
 | lit l => cases l <;> simp [Rows.uptoBulk]
 | _ => simp [Rows.uptoBulk]
theorem bulk_many {H : Type} (l : List (DataW H)) : l.length <= Rows.uptoBulkAll l := by
 induction l with
 | nil => simp
 | cons d r ih => have := bulk_one d; simp only [Rows.uptoBulkAll, List.length_cons]; omega
theorem open_bytes8 {H : Type} {enc : TypeId × Value -> H} {W : World} {base fuel : Nat} {spare : Nat -> Bool} {held : Bool} {a0 : Option Addr} {len cap : Nat} {d : DataW H} {p : List MemPlace}
  (h : DataW.trod enc Tryz.prog W base spare held fuel 37 (Value.slice a0 len cap).cells.toList = some (d, p)) (hk : Rows.uptoBulk d <= 1048576) : ∃ l, Br W (.slice a0 len cap) l /\ l.length <= 1048576 := by
 rcases open_ints Tryz.underlying37 Tryz.underlying5 Tryz.cellsU8 h with ⟨hcs, -⟩ | ⟨a, n, c, zs, hcs, -, hl, -, hzl, hx, hcell, hwf⟩
 ·simp [Value.cells] at hcs
  obtain ⟨rfl, rfl, rfl⟩ := hcs
  exact ⟨[], ⟨fun x hx => by simp at hx, none, 0, rfl, Nat.le_refl _, by simp, fun _ => rfl, Or.inl rfl⟩, by simp⟩
 ·simp [Value.cells] at hcs
  obtain ⟨rfl, rfl, rfl⟩ := hcs
  have hz : len <= zs.length := by rw [hzl]; split <;> omega
  have htl : (zs.take len).length = len := by rw [List.length_take]; omega
  have hlb : len <= 1048576 := by
   have e : d = .slice (lits .u8 (zs.take len)) (lits .u8 (zs.drop len)) := congrArg Prod.fst hx
   rw [e] at hk
   have := bulk_many (lits (H := H) .u8 (zs.take len))
   have hll : (lits (H := H) .u8 (zs.take len)).length = len := by unfold lits; rw [List.length_map]; exact htl
   simp only [Rows.uptoBulk] at hk; omega
  refine ⟨zs.take len, ⟨fun x hx => ?_, some a, cap, by rw [htl], by omega, by omega, fun e => (by cases e), ?_⟩, by omega⟩
  ·have := hwf x (List.mem_of_mem_take hx)
   simp [Lit.wf] at this
   have e1 : IntKind.u8.min = 0 := by decide
   have e2 : IntKind.u8.max = 255 := by decide
   omega
  ·rcases Nat.eq_zero_or_pos len with h0 | h0
   ·left; rw [h0]; rfl
   ·right
    obtain ⟨b, o, spot⟩ := a
    have c0 := hcell 0 (by omega)
    have hspot : spot = none := by simpa [Addr.add] using World.cell?_spot c0
    subst hspot
    refine ⟨b, o, rfl, World.block_lt_of_cell? W _ c0, fun i x hi => ?_⟩
    have hil : i < len := by have := (List.getElem?_eq_some_iff.1 hi).1; omega
    have hc := hcell i (by omega)
    rw [Addr.add_mid] at hc
    rw [hc]
    rw [List.getElem?_take_of_lt hil] at hi
    simp [List.getD, hi]
set_option maxRecDepth 100000 in
theorem open_atom9 {H : Type} {enc : TypeId × Value -> H} {W : World} {r : Reach} {b0 base : Nat} {spare : Nat -> Bool} {held : Bool} {v : Value} {d : DataW H} {p : List MemPlace}
  (hv : Value.okWide Tryz.prog W r b0 26 v) (h : DataW.Trod enc Tryz.prog W base spare held 26 v d p) (hw : ∀ n ∈ d.weights Tryz.prog 26, n <= reachBytes) : ∃ (g : At) (gv : Value), v = g.v gv /\ Ts W gv g.args /\ ∀ t ∈ g.pl, rng t := by
 obtain ⟨cs, rfl, hsz⟩ := okWide_struct Tryz.underlying26 hv
 rw [Tryz.cellsAtom] at hsz
 obtain ⟨fuel, hf⟩ := h
 obtain ⟨l⟩ := cs
 obtain ⟨c0, c1, c2, c3, c4, rfl⟩ : ∃ c0 c1 c2 c3 c4, l = [c0, c1, c2, c3, c4] := by
  match l, hsz with
  | [a, b, c, d, e], _ => exact ⟨a, b, c, d, e, rfl⟩
 obtain ⟨x, e0, hx, -, w0⟩ := atom_of_cellsB hf (by simp [Value.cells]) hw
 simp [Value.cells] at e0
 obtain ⟨rfl, rfl, rfl, rfl, rfl⟩ := e0
 exact ⟨x.1, x.2, rfl, hx, fun t ht => rng_of9 (w0 t ht)⟩
set_option maxRecDepth 100000 in
theorem codecEnds_lifted (os : Os) (started : os.Started) (H : Type) (enc : TypeId × Value -> H) (F : Stop.Interp) :
  ReturnsInHanded {} Tryz.checked os 4 .any ((Rows.OpenSpec.upto Rows.codecEndsSpec).pre6 enc Tryz.prog Tryz.f4 Rows.codecEndsUptoRow.domain false) (((Rows.OpenSpec.upto Rows.codecEndsSpec).at F).post enc Tryz.prog Tryz.f4 false true false false) := by
 refine returnsInHanded_of_cond_sized (C := Tryz.checked) (s := Rows.OpenSpec.upto Rows.codecEndsSpec) (k := Rows.uptoSmall) rfl Tryz.own started (by kernel_rfl) Tryz.func4
  (OpenSpec.witness (enc := enc) (C := Tryz.checked) (s := Rows.OpenSpec.upto Rows.codecEndsSpec) (k := Rows.uptoSmall) rfl false ⟨#[], #[.agg #[.slice none 0 0, .slice none 0 0], .agg #[.int .i64 0, .int .i64 0, .string ⟨#[]⟩, .string ⟨#[]⟩, .slice none 0 0], .slice none 0 0], []⟩ 8 (by kernel_rfl) (by kernel_rfl) (by kernel_rfl)
   (x := ([.agg [.nil, .nil], .agg [.agg [.lit (.int .i64 0), .lit (.int .i64 0), .lit (.string [])], .lit (.string []), .nil], .nil], [], [])) (by kernel_rfl) rfl (by kernel_rfl)) ?_
 intro W base args ds gs before hval0 hW hcnd hk hsz0 _
 have hval : ∀ (j : Nat) t v, Tryz.f4.params[j]? = some t -> args[j]? = some v -> Value.okWide Tryz.prog W .any base t v := hval0
 have hsz : (DataW.weightsEach Tryz.prog (Tryz.f4.params.toList ++ Rows.codecEndsSpec.plain.varTypes Tryz.prog) (ds ++ gs)).all (· <= reachBytes) = true := hsz0
 have hW' := hW
 obtain ⟨p, q, hA0, hV, rfl, hfz, hnd⟩ := hW
 have hA : DataW.TrodAll enc Tryz.prog W 0 (fun _ => true) true Tryz.f4.params.toList args.toList ds p := hA0
 rw [Tryz.params4] at hA hval hsz
 obtain ⟨v0, vs0, d0, ds0, p0, q0, hargs, rfl, rfl, h0, r0⟩ := trodAll_cons hA
 obtain ⟨v1, vs1, d1, ds1, p1, q1, rfl, rfl, rfl, h1, r1⟩ := trodAll_cons r0
 obtain ⟨v2, vs2, d2, ds2, p2, q2, rfl, rfl, rfl, h2, r2⟩ := trodAll_cons r1
 obtain ⟨rfl, rfl, rfl⟩ := trodAll_nil r2
 obtain rfl : args = #[v0, v1, v2] := by cases args; simp_all
 obtain ⟨rfl, rfl⟩ := trodVars_none hV
 have k0 := h0
 have lt0 : ∀ x ∈ p0, x.block < W.heap.size := by obtain ⟨m, hm⟩ := k0; exact DataW.trod_lt m _ _ _ hm
 have k1 := h1
 have lt1 : ∀ x ∈ p1, x.block < W.heap.size := by obtain ⟨m, hm⟩ := k1; exact DataW.trod_lt m _ _ _ hm
 have k2 := h2
 have lt2 : ∀ x ∈ p2, x.block < W.heap.size := by obtain ⟨m, hm⟩ := k2; exact DataW.trod_lt m _ _ _ hm
 have sz : ∀ n ∈ DataW.weightsEach Tryz.prog _ _, n <= reachBytes := fun n hn => by simpa using List.all_eq_true.1 hsz n hn
 obtain ⟨rv, sv, R, S, rfl, hR, hS, lR, lS, hrR, hrS⟩ := open_proof8 (hval 0 35 v0 rfl rfl) h0 (fun n hn => sz n (DataW.weights_mem_each (j := 0) rfl rfl n hn))
 obtain ⟨g, gv, rfl, hg, hrg⟩ := open_atom9 (hval 1 26 v1 rfl rfl) h1 (fun n hn => sz n (DataW.weights_mem_each (j := 1) rfl rfl n hn))
 have hbk : Rows.uptoBulkAll ([d0, d1, d2] ++ []) <= 1048576 := of_decide_eq_true hk
 simp only [List.cons_append, List.nil_append, Rows.uptoBulkAll] at hbk
 obtain ⟨a0, len, cap, rfl⟩ := okWide_slice Tryz.underlying37 (hval 2 37 v2 rfl rfl)
 obtain ⟨fuel, hf⟩ := h2
 obtain ⟨B, hB, lB⟩ := open_bytes8 hf (by omega)
 clear hA0 hval0
 refine (codecEnds_any R S rv sv g gv _ B W hR hS hg hB (by omega) (by omega) (by omega) hrR hrS hrg).mono fun e W' ⟨he, bel⟩ => ?_
 subst he
 exact ⟨_, rfl, _, _, _, [], _, [], hW', trodAll_mk1 (shut_bool Tryz.underlying4 _), (trodAll_cons_mk (Below.trod Tryz.laidOut (by kernel_rfl) (of_decide_eq_true (by kernel_rfl)) k0 bel lt0) (trodAll_cons_mk (Below.trod Tryz.laidOut (by kernel_rfl) (of_decide_eq_true (by kernel_rfl)) k1 bel lt1) (trodAll_cons_mk (Below.trod Tryz.laidOut (by kernel_rfl) (of_decide_eq_true (by kernel_rfl)) k2 bel lt2) trodAll_mk0))), rfl, bel.frame _, fun h => by cases h⟩

theorem codecEnds_holds : Rows.CodecEndsUptoSaid :=
 OpenClaim.holds_of_cond 4 Tryz.f4 rfl rfl rfl rfl rfl rfl rfl ⟨rfl, rfl, rfl, rfl, rfl⟩ rfl rfl rfl rfl rfl (by kernel_rfl) Tryz.func4 (by kernel_rfl)
  (of_decide_eq_true (by kernel_rfl)) (by unfold Func.isWrapper; first | (rw [if_pos (by decide +kernel)]; kernel_rfl) | (rw [if_neg (by decide +kernel)]; exact ⟨rfl, rfl⟩))
  (fun os started H enc _ F => codecEnds_lifted os started H enc F)
#print axioms codecEnds_holds
end Go.Proofs.YtelcoihmiglceaaGreat
