import Derived.Test.YtcejljehjhlonaaGreatDoorSD20
import Derived.Test.YtcejljehjhlonaaGreatDoorHC14
import Derived.Test.YtcejljehjhlonaaGreatDoorCV6
import Derived.Test.YtcejljehjhlonaaGreatDoorHC16
import Derived.Test.YtcejljehjhlonaaGreatDoorCards
import Derived.Test.YtcejljehjhlonaaGreatDoorTie
import Derived.SevenTiedAt
import Derived.Deep.DeepHandedRow
import Derived.JoinedCond
namespace Go.Proofs.YtcejljehjhlonaaGreatDoor
open Go.ChangeShapes Go.WideShapes Go.ChangeAt Go.RowKit Go.Joins Go.Deep

def zS : St := ⟨0, [], .slice none 0 0, [], .slice none 0 0⟩
structure SOpen (W : World) (s : St) : Prop where
 ok : s.ok W
 t : TsP W s.vv s.vals
 u : NsP W s.uv s.uses
theorem wk_sum {H : Type} (g : Nat -> Sk) (D : Nat -> DataW H) : ∀ l : List Nat, (∀ i ∈ l, wk [g i] <= Rows.uptoBulk (D i)) -> wk (l.map g) <= Rows.uptoBulkAll (l.map D)
 | [], _ => by simp [wk]
 | i :: l, h => by
  have h1 := h i (by simp)
  have h2 := wk_sum g D l fun j hj => h j (by simp [hj])
  simp only [List.map_cons, wk, Rows.uptoBulkAll] at h1 h2 ⊢
  omega
theorem Tryz.cellsStep8 : Tryz.prog.cellsOf 48 = 3 := by kernel_rfl
theorem Tryz.cellsInts8 : Tryz.prog.cellsOf 46 = 1 := by kernel_rfl
theorem Tryz.cellsClauses8 : Tryz.prog.cellsOf 22 = 1 := by kernel_rfl
theorem Tryz.cellsSteps8 : Tryz.prog.cellsOf 23 = 1 := by kernel_rfl
theorem Tryz.cellsProof8 : Tryz.prog.cellsOf 25 = 2 := by kernel_rfl
theorem Tryz.bytesInt8 : Tryz.prog.bytesOf 3 = 8 := by kernel_rfl
theorem open_nsZ {H : Type} {enc : TypeId × Value -> H} {W : World} {base fuel : Nat} {spare : Nat -> Bool} {held : Bool} {cs : List Value} {x : DataW H × List MemPlace}
  (h : DataW.trod enc Tryz.prog W base spare held fuel 46 cs = some x) (hw : ∀ n ∈ x.1.weights Tryz.prog 46, n <= reachBytes) : ∃ v l, cs = [v] /\ (Ns W v l /\ NsP W v l) /\ l.length <= Rows.uptoBulk x.1 /\ ∀ n ∈ l, (Lit.int .i64 n).wf = true := by
 rcases open_ints Tryz.underlying46 Tryz.underlying3 Tryz.cellsInt h with ⟨rfl, -⟩ | ⟨a, n, c, zs, rfl, -, hl, hcm, hzl, hx, hcell, hwf⟩
 ·exact ⟨_, [], rfl, ⟨⟨none, 0, rfl, by simp, Or.inl rfl⟩, Or.inl ⟨rfl, rfl⟩⟩, by simp, fun n hn => by simp at hn⟩
 ·have hz : n <= zs.length := by rw [hzl]; split <;> omega
  have htl : (zs.take n).length = n := by rw [List.length_take]; omega
  have hlen : n < 1000000000000000000 := by
   have e : x.1 = .slice (lits .i64 (zs.take n)) (lits .i64 (zs.drop n)) := congrArg Prod.fst hx
   have := hw (((lits (H := H) .i64 (zs.take n)).length + (lits (H := H) .i64 (zs.drop n)).length) * Tryz.prog.bytesOf 3) (by rw [e]; simp [DataW.weights, Tryz.underlying46])
   rw [Tryz.bytesInt8] at this
   simp only [lits, List.length_map, reachBytes, htl] at this
   omega
  have hcore : zs.take n = [] ∨ ∃ b o, a = ⟨b, o, none⟩ /\ b < W.heap.size /\ ∀ (i : Nat) (x : Int), (zs.take n)[i]? = some x -> W.cell? ⟨b, o + i, none⟩ = some (.int .i64 x) := by
   rcases Nat.eq_zero_or_pos n with h0 | h0
   ·left; rw [h0]; rfl
   ·right
    obtain ⟨b, o, spot⟩ := a
    have c0 := hcell 0 (by omega)
    have hspot : spot = none := by simpa [Addr.add] using World.cell?_spot c0
    subst hspot
    refine ⟨b, o, rfl, World.block_lt_of_cell? W _ c0, fun i x hi => ?_⟩
    have hil : i < n := by have := (List.getElem?_eq_some_iff.1 hi).1; omega
    have hc := hcell i (by omega)
    rw [Addr.add_mid] at hc
    rw [hc]
    rw [List.getElem?_take_of_lt hil] at hi
    simp [List.getD, hi]
  refine ⟨_, zs.take n, rfl, ⟨⟨some a, c, by rw [htl], by omega, ?_⟩, Or.inr ⟨a, c, by rw [htl], hcore⟩⟩, ?_, fun m hm => hwf m (List.mem_of_mem_take hm)⟩
  ·rcases hcore with h9 | ⟨b, o, rfl, h9⟩
   ·exact Or.inl h9
   ·exact Or.inr ⟨b, o, rfl, h9⟩
  ·have e : x.1 = .slice (lits .i64 (zs.take n)) (lits .i64 (zs.drop n)) := congrArg Prod.fst hx
   rw [e]
   have := bulkN_slice (lits (H := H) .i64 (zs.take n)) (lits .i64 (zs.drop n))
   have hll : (lits (H := H) .i64 (zs.take n)).length = n := by unfold lits; rw [List.length_map]; exact htl
   omega
set_option maxRecDepth 100000 in
theorem step_of_cellsZ {H : Type} {enc : TypeId × Value -> H} {W : World} {base : Nat} {spare : Nat -> Bool} {held : Bool} {fuel : Nat} {cs : List Value} {x : DataW H × List MemPlace}
  (hf : DataW.trod enc Tryz.prog W base spare held fuel 48 cs = some x) (hl : cs.length = 3) (hw : ∀ n ∈ x.1.weights Tryz.prog 48, n <= reachBytes) : ∃ c : St, cs = c.csl /\ SOpen W c /\ wk [c.key] <= Rows.uptoBulk x.1 := by
 obtain ⟨c0, c1, c2, rfl⟩ := list3 hl
 obtain ⟨y0, y1, y2, n, hd, -, h0, h1, h2⟩ := trod_struct3 Tryz.underlying48 hf
 rw [Tryz.cellsInt] at h0
 rw [Tryz.cellsTerms] at h1
 rw [Tryz.cellsInts8] at h2
 obtain ⟨k, e0, -, -⟩ := DataW.trod_int Tryz.underlying3 h0
 obtain ⟨vb, lb, e1, hb, b1, -⟩ := open_termsP h1 (fun m hm => by
  refine hw m ?_
  rw [hd, DataW.weights, Tryz.underlying48]
  exact DataW.weights_mem_each (j := 1) rfl rfl m hm)
 obtain ⟨vt, lt, e2, ht, b2, -⟩ := open_nsZ h2 (fun m hm => by
  refine hw m ?_
  rw [hd, DataW.weights, Tryz.underlying48]
  exact DataW.weights_mem_each (j := 2) rfl rfl m hm)
 simp at e0 e1 e2
 subst e0 e1 e2
 refine ⟨⟨k, lb, _, lt, _⟩, rfl, ⟨⟨hb.1, ht.1⟩, hb.2, ht.2⟩, ?_⟩
 rw [hd]
 have := bulkN_pos y0.1
 simp only [wk, St.key, Rows.uptoBulk, Rows.uptoBulkAll]
 omega
set_option maxRecDepth 100000 in
theorem open_stepsZ {H : Type} {enc : TypeId × Value -> H} {W : World} {base : Nat} {spare : Nat -> Bool} {held : Bool} {fuel : Nat} {cs : List Value} {x : DataW H × List MemPlace}
  (h : DataW.trod enc Tryz.prog W base spare held fuel 23 cs = some x) (hw : ∀ n ∈ x.1.weights Tryz.prog 23, n <= reachBytes) : ∃ v l, cs = [v] /\ SsP W v l /\ wk (l.map St.key) <= Rows.uptoBulk x.1 /\ ∀ c ∈ l, SOpen W c := by
 rcases open_slice Tryz.underlying23 h with ⟨rfl, -⟩ | ⟨a, len, cap, m, n, D, Pl, rfl, hba, hlc, hcm, hm, hx, hel⟩
 ·exact ⟨_, [], rfl, ⟨Or.inl ⟨rfl, rfl⟩, fun c hc => by cases hc⟩, by simp [wk], fun c hc => by cases hc⟩
 ·rw [Tryz.cellsStep8] at hel
  have hlm : len <= m := by rw [hm]; split <;> omega
  have key : ∀ i : Nat, ∃ c : St, i < len -> (∀ k u, c.csl[k]? = some u -> W.cell? ((a.add (i * 3)).add k) = some u) /\ SOpen W c /\ wk [c.key] <= Rows.uptoBulk (D i) := fun i => by
   by_cases hi : i < len
   ·obtain ⟨cs', h1, h2⟩ := hel i (by omega)
    obtain ⟨-, hl, hc⟩ := World.cells?_some h1
    obtain ⟨c, rfl, hok, hbk⟩ := step_of_cellsZ h2 hl (fun n hn => hw n (by
     rw [hx, DataW.weights, Tryz.underlying23]
     exact List.mem_cons_of_mem _ (List.mem_append.2 (Or.inl (weights_mem_all hn (List.mem_map.2 ⟨i, List.mem_range.2 hi, rfl⟩))))))
    refine ⟨c, fun _ => ⟨fun k u hu => ?_, hok, hbk⟩⟩
    rw [<- hu]
    exact hc k (List.getElem?_eq_some_iff.1 hu).1
   ·exact ⟨zS, fun h => absurd h hi⟩
  obtain ⟨f, hf⟩ := Classical.axiomOfChoice key
  refine ⟨_, (List.range len).map f, rfl, ⟨Or.inr ⟨a, cap, by simp, ?_⟩, fun c hc => ?_⟩, ?_, fun c hc => ?_⟩
  ·rcases Nat.eq_zero_or_pos len with h0 | h0
   ·left; subst h0; rfl
   ·right
    obtain ⟨b, off, spot⟩ := a
    have h00 := (hf 0 h0).1 0 _ rfl
    have hspot : spot = none := by simpa [Addr.add] using World.cell?_spot h00
    subst hspot
    refine ⟨b, off, rfl, ?_, fun i c hc k u hu => ?_⟩
    ·exact World.block_lt_of_cell? W _ (by simpa [Addr.add] using h00)
    ·have hi : i < len := by have := (List.getElem?_eq_some_iff.1 hc).1; simpa using this
     have e : c = f i := by
      rw [List.getElem?_map, List.getElem?_range hi] at hc; simpa using hc.symm
     subst e
     have := (hf i hi).1 k u hu
     rw [add_plain, add_plain] at this
     exact this
  ·obtain ⟨i, hi, rfl⟩ := List.mem_map.1 hc
   exact (hf i (List.mem_range.1 hi)).2.1.ok
  ·rw [hx]
   have h1 := wk_sum (fun i => (f i).key) D (List.range len) fun i hi => (hf i (List.mem_range.1 hi)).2.2
   rw [List.map_map]
   simp only [Rows.uptoBulk]
   have e : (St.key ∘ f) = fun i => (f i).key := rfl
   rw [e]; omega
  ·obtain ⟨i, hi, rfl⟩ := List.mem_map.1 hc
   exact (hf i (List.mem_range.1 hi)).2.1
set_option maxRecDepth 100000 in
theorem open_proofZ {H : Type} {enc : TypeId × Value -> H} {W : World} {r : Reach} {b0 base : Nat} {spare : Nat -> Bool} {held : Bool} {v : Value} {d : DataW H} {p : List MemPlace}
  (hv : Value.okWide Tryz.prog W r b0 25 v) (h : DataW.Trod enc Tryz.prog W base spare held 25 v d p) (hw : ∀ n ∈ d.weights Tryz.prog 25, n <= reachBytes) : ∃ (rv sv : Value) (R : List Cm) (S : List St), v = .agg #[rv, sv] /\ CsP W rv R /\ SsP W sv S /\ R.length <= Rows.uptoBulk d /\ wk (S.map St.key) <= Rows.uptoBulk d /\ (∀ c ∈ R, COpen W c /\ (Ck.terms c.key).length <= Rows.uptoBulk d) /\ ∀ s ∈ S, SOpen W s := by
 obtain ⟨cs, rfl, hsz⟩ := okWide_struct Tryz.underlying25 hv
 rw [Tryz.cellsProof8] at hsz
 obtain ⟨fuel, hf⟩ := h
 obtain ⟨l⟩ := cs
 obtain ⟨c0, c1, rfl⟩ : ∃ c0 c1, l = [c0, c1] := by
  match l, hsz with
  | [a, b], _ => exact ⟨a, b, rfl⟩
 obtain ⟨y0, y1, n, hd, -, h0, h1⟩ := trod_struct2 Tryz.underlying25 hf
 simp only [Prod.mk.injEq] at hd
 have hd := hd.1
 subst hd
 rw [Tryz.cellsClauses8] at h0
 rw [Tryz.cellsSteps8] at h1
 have hwe : ∀ (j : Nat) (t : TypeId) (y : DataW H), [22, 23][j]? = some t -> [y0.1, y1.1][j]? = some y -> ∀ m ∈ y.weights Tryz.prog t, m <= reachBytes := fun j t y ht hy m hm => by
  refine hw m ?_
  rw [DataW.weights, Tryz.underlying25]
  exact DataW.weights_mem_each (j := j) ht hy m hm
 obtain ⟨vb, lb, e1, ⟨hb, hco, -⟩, b1, wc⟩ := open_clausesZ h0 (hwe 0 _ _ rfl rfl)
 obtain ⟨vt, lt, e2, ht, b2, w2⟩ := open_stepsZ h1 (hwe 1 _ _ rfl rfl)
 simp [Value.cells] at e1 e2
 subst e1 e2
 refine ⟨_, _, lb, lt, rfl, hb, ht, ?_, ?_, fun c hc => ⟨hco c hc, ?_⟩, w2⟩
 ·simp only [Rows.uptoBulk, Rows.uptoBulkAll]; omega
 ·simp only [Rows.uptoBulk, Rows.uptoBulkAll]; omega
 ·have := wc c hc; simp only [Rows.uptoBulk, Rows.uptoBulkAll]; omega
end Go.Proofs.YtcejljehjhlonaaGreatDoor
namespace Go.Proofs.YtcejljehjhlonaaGreatDoor
open Go.ChangeShapes Go.WideShapes Go.ChangeAt Go.RowKit

set_option maxRecDepth 100000 in
theorem open_atomH {H : Type} {enc : TypeId × Value -> H} {W : World} {r : Reach} {b0 base : Nat} {spare : Nat -> Bool} {held : Bool} {v : Value} {d : DataW H} {p : List MemPlace}
  (hv : Value.okWide Tryz.prog W r b0 39 v) (h : DataW.Trod enc Tryz.prog W base spare held 39 v d p) (hw : ∀ n ∈ d.weights Tryz.prog 39, n <= reachBytes) : ∃ (a : At) (x : Value), v = a.v x /\ Ts W x a.args /\ TsP W x a.args /\ a.args.length <= Rows.uptoBulk d /\ szA a := by
 obtain ⟨cs, rfl, hsz⟩ := okWide_struct Tryz.underlying39 hv
 rw [Tryz.cellsAtom] at hsz
 obtain ⟨fuel, hf⟩ := h
 obtain ⟨l⟩ := cs
 obtain ⟨c0, c1, c2, c3, c4, rfl⟩ := list5 (by simpa using hsz)
 obtain ⟨x, e0, hx, hb, hz, hnm⟩ := atom_of_cellsZ hf (by simp [Value.cells]) hw
 simp [Value.cells] at e0
 obtain ⟨rfl, rfl, rfl, rfl, rfl⟩ := e0
 exact ⟨x.1, x.2, rfl, hx.1, hx.2, by simp only [At.pl, List.length_cons] at hb; omega, fun t ht => (hz t ht).1, hnm⟩
theorem ck_met (os : Os) (args : Array Value) : laidMetH Tryz.prog [("hearsay/hearsayref03.behindTerm", Rows.laid_hearsay_hearsayref03_behindTerm), ("hearsay/hearsayref03.behindTest", Rows.laid_hearsay_hearsayref03_behindTest)] ((World.doorLaid Tryz.prog 400 os).forCall (fun _ _ => 0) ⟨#[], args, []⟩).memory :=
 laidMetH_of_parts3 (fuel := 8) (laidMet_of_run' 8 (by kernel_rfl) (by kernel_rfl)) (by kernel_rfl) (by kernel_rfl)
theorem ck_reads (os : Os) {H : Type} (enc : TypeId × Value -> H) : ∃ places, DataW.whole enc Tryz.prog ((World.doorLaid Tryz.prog 400 os).forCall (fun _ _ => 0) ⟨#[], #[.slice none 0 0, .agg #[.slice none 0 0, .slice none 0 0], .agg #[.int .i64 0, .int .i64 0, .string ⟨#[]⟩, .string ⟨#[]⟩, .slice none 0 0]], []⟩).memory Tryz.f4.params.toList Rows.checkChecksSpec.vars false #[.slice none 0 0, .agg #[.slice none 0 0, .slice none 0 0], .agg #[.int .i64 0, .int .i64 0, .string ⟨#[]⟩, .string ⟨#[]⟩, .slice none 0 0]].toList 8 = some ([.nil, .agg [.nil, .nil], .agg [.agg [.lit (.int .i64 0), .lit (.int .i64 0), .lit (.string [])], .lit (.string []), .nil]], [], places) :=
 ⟨[], by kernel_rfl⟩
set_option maxRecDepth 100000 in
theorem ck_lifted (os : Os) (started : os.Started) (H : Type) (enc : TypeId × Value -> H) (F : Stop.Interp) :
  ReturnsInHanded {} Tryz.checked os 4 .any ((Rows.OpenSpec.upto Rows.checkChecksSpec).preRow enc Tryz.prog Tryz.f4 Rows.checkChecksUptoRow.domain false Rows.checkChecksUptoRow.laid) (((Rows.OpenSpec.upto Rows.checkChecksSpec).at F).post enc Tryz.prog Tryz.f4 false true false false) := by
 obtain ⟨places, hx⟩ := ck_reads os enc
 refine returnsInHanded_of_row (C := Tryz.checked) (s := Rows.OpenSpec.upto Rows.checkChecksSpec) Tryz.own started (by kernel_rfl) Tryz.func4
  (witness_row_at (enc := enc) (C := Tryz.checked) false (World.doorLaid Tryz.prog 400 os) #[.slice none 0 0, .agg #[.slice none 0 0, .slice none 0 0], .agg #[.int .i64 0, .int .i64 0, .string ⟨#[]⟩, .string ⟨#[]⟩, .slice none 0 0]] rfl (by kernel_rfl) (by kernel_rfl) (by kernel_rfl)
   (OpenSpec.preRow_of_cond 8 hx (by kernel_rfl) (fun k hk => by cases hk; kernel_rfl) (by kernel_rfl) (ck_met os _))) ?_
 intro W base args ds gs before hval0 hW _ hcond hsz0 hL0 _ _
 have hk : Rows.uptoSmall H (ds ++ gs) = true := hcond _ rfl
 have hL : laidMetH Tryz.prog [("hearsay/hearsayref03.behindTerm", Rows.laid_hearsay_hearsayref03_behindTerm), ("hearsay/hearsayref03.behindTest", Rows.laid_hearsay_hearsayref03_behindTest)] W := hL0
 have hval : ∀ (j : Nat) t v, Tryz.f4.params[j]? = some t -> args[j]? = some v -> Value.okWide Tryz.prog W .any base t v := hval0
 have hsz : (DataW.weightsEach Tryz.prog (Tryz.f4.params.toList ++ Rows.checkChecksSpec.plain.varTypes Tryz.prog) (ds ++ gs)).all (· <= reachBytes) = true := hsz0
 have hW' := hW
 obtain ⟨p, q, hA0, hV, rfl, hfz, hnd⟩ := hW
 have hA : DataW.TrodAll enc Tryz.prog W 0 (fun _ => true) true Tryz.f4.params.toList args.toList ds p := hA0
 rw [Tryz.params4] at hA hval hsz
 obtain ⟨v0, vs0, d0, ds0, p0, q0, hargs, rfl, rfl, h0, r0⟩ := trodAll_cons hA
 obtain ⟨v1, vs1, d1, ds1, p1, q1, rfl, rfl, rfl, h1, r1⟩ := trodAll_cons r0
 obtain ⟨v2, vs2, d2, ds2, p2, q2, rfl, rfl, rfl, h2, r2⟩ := trodAll_cons r1
 obtain ⟨rfl, rfl, rfl⟩ := trodAll_nil r2
 obtain rfl : args = #[v0, v1, v2] := by cases args; simp_all
 obtain ⟨rfl, rfl⟩ := trodVars_none hV
 have k0 := h0
 have k1 := h1
 have k2 := h2
 have lt2 : ∀ x ∈ p2, x.block < W.heap.size := by obtain ⟨m, hm⟩ := k2; exact DataW.trod_lt m _ _ _ hm
 have lt1 : ∀ x ∈ p1, x.block < W.heap.size := by obtain ⟨m, hm⟩ := k1; exact DataW.trod_lt m _ _ _ hm
 have lt0 : ∀ x ∈ p0, x.block < W.heap.size := by obtain ⟨m, hm⟩ := k0; exact DataW.trod_lt m _ _ _ hm
 have sz : ∀ n ∈ DataW.weightsEach Tryz.prog _ _, n <= reachBytes := fun n hn => by simpa using List.all_eq_true.1 hsz n hn
 obtain ⟨rv, sv, R, S, rfl, hR, hS, lR, lS, hco, hso⟩ := open_proofZ (hval 1 25 v1 rfl rfl) h1 (fun n hn => sz n (DataW.weights_mem_each (j := 1) rfl rfl n hn))
 obtain ⟨a9, len9, cap9, rfl⟩ := okWide_slice Tryz.underlying22 (hval 0 22 v0 rfl rfl)
 obtain ⟨fuel0, hf0⟩ := h0
 obtain ⟨v9, l, e9, ⟨hcs, hlo, -⟩, hll, hlt⟩ := open_clausesZ hf0 (fun n hn => sz n (DataW.weights_mem_each (j := 0) rfl rfl n hn))
 simp [Value.cells] at e9
 subst e9
 simp only at hll hlt
 obtain ⟨f, fv, rfl, hft, hfp, hfl, hfz⟩ := open_atomH (hval 2 39 v2 rfl rfl) h2 (fun n hn => sz n (DataW.weights_mem_each (j := 2) rfl rfl n hn))
 have hbk : Rows.uptoBulkAll ([d0, d1, d2] ++ []) <= 1048576 := of_decide_eq_true hk
 simp only [List.cons_append, List.nil_append, Rows.uptoBulkAll] at hbk
 clear hA0 hval0
 refine (checkChecks_any l R S f _ rv sv fv W hcs hR hS hft hfp hfz hlo (fun c hc => by have := hlt c hc; omega) (by omega) (by omega) (fun c hc => (hco c hc).1) (fun c hc => by have := (hco c hc).2; omega) (fun c hc t ht _ => (hco c hc).1.wf t ht) (by omega) (by omega) (fun s hs => (hso s hs).t) (fun s hs => (hso s hs).u) (beh_of_laid hL)).mono fun e W' ⟨he, bel⟩ => ?_
 subst he
 exact ⟨_, rfl, _, _, _, [], _, [], hW', trodAll_mk1 (shut_bool Tryz.underlying4 _), (trodAll_cons_mk (Below.trod Tryz.laidOut (by kernel_rfl) (of_decide_eq_true (by kernel_rfl)) k0 bel lt0) (trodAll_cons_mk (Below.trod Tryz.laidOut (by kernel_rfl) (of_decide_eq_true (by kernel_rfl)) k1 bel lt1) (trodAll_cons_mk (Below.trod Tryz.laidOut (by kernel_rfl) (of_decide_eq_true (by kernel_rfl)) k2 bel lt2) trodAll_mk0))), rfl, bel.frame _, fun h => by cases h⟩

theorem checkChecks_row : Rows.CheckChecksUptoSaid :=
 OpenClaim.holds_of_cond 4 Tryz.f4 rfl rfl rfl rfl rfl rfl rfl ⟨rfl, rfl, rfl, rfl, rfl⟩ rfl rfl rfl rfl rfl (by kernel_rfl) Tryz.func4 (by kernel_rfl)
  (of_decide_eq_true (by kernel_rfl)) (by unfold Func.isWrapper; first | (rw [if_pos (by decide +kernel)]; kernel_rfl) | (rw [if_neg (by decide +kernel)]; exact ⟨rfl, rfl⟩))
  (fun os started H enc _ F => by rw [OpenClaim.pre_eq_preRow]; exact ck_lifted os started H enc F)
theorem checkChecks_holds : Rows.CheckChecksUptoCardSaid :=
 Claim7.holds_tied_plain_at .later [] _ _ _ _
  checkChecks_row (fun _ h => by cases h) (by kernel_rfl) (fun _ h => by cases h) checkChecksUpto_row_tie rfl ⟨rfl, rfl⟩ (by kernel_rfl) rfl
  (fun f fn hf hfn => by
   obtain rfl : f = 4 := Option.some.inj ((show Tryz.prog.funcNamed "hearsay/hearsaylaw12.CheckChecks" = some 4 by kernel_rfl).symm.trans hf) |>.symm
   obtain rfl : fn = Tryz.f4 := (Option.some.inj (Tryz.func4.symm.trans hfn)).symm
   exact ⟨by kernel_rfl, fun j t ht => by
    rw [Tryz.params4] at ht
    have h3 : t = 22 ∨ t = 25 ∨ t = 39 := by
     rcases j with _ | _ | _ | j
     ·left; simpa using ht.symm
     ·right; left; simpa using ht.symm
     ·right; right; simpa using ht.symm
     ·simp at ht
    rcases h3 with rfl | rfl | rfl
    ·exact (show Tryz.prog.wantsStandIn 22 = false by kernel_rfl)
    ·exact (show Tryz.prog.wantsStandIn 25 = false by kernel_rfl)
    ·exact (show Tryz.prog.wantsStandIn 39 = false by kernel_rfl)⟩)
  (by kernel_rfl)
#print axioms checkChecks_holds
end Go.Proofs.YtcejljehjhlonaaGreatDoor
