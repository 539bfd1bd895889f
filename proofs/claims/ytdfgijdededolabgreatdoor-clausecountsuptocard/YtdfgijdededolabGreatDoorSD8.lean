import Derived.Test.YtdfgijdededolabGreatDoorCL21
import Derived.Test.YtdfgijdededolabGreatDoorCN18
import Derived.Test.YtdfgijdededolabGreatDoorSD18
import Derived.Test.YtdfgijdededolabGreatDoorR1
import Derived.Deep.Slices
import Derived.Deep.Strs
import Derived.SizedLaws
import Derived.Test.YtdfgijdededolabGreatDoorCL1
import Derived.Test.YtdfgijdededolabGreatDoorMD2
import Derived.Test.YtdfgijdededolabGreatDoorRows
import Derived.Test.YtdfgijdededolabGreatDoorRC1
import Derived.Deep.DeepHandedRow
import Derived.LaidMore
import Derived.Test.YtdfgijdededolabGreatDoorSD5
/-
  ClauseCounts: the walk.
-/
namespace Go.Proofs.YtdfgijdededolabGreatDoor
open Go.RowKit
attribute [local go_sem ↓] Go.wp_at_zero Go.wp_at_succ

theorem terms_of (c : Cm) : c.terms = Ck.terms c.key := by
  simp [Cm.terms, Ck.terms, Cm.key, Cm.atoms, fsts, tls, List.flatMap_map, List.append_assoc]
def pdsK (k : Ck) : List Pd := (k.1 :: k.2.1).map fun a => ⟨a.name, (a.args.length : Int)⟩
theorem pds_of (c : Cm) : c.pds = pdsK c.key := by
  simp [Cm.pds, pds, pdsK, Cm.key, Cm.atoms, fsts, pdA, Function.comp_def]
theorem terms_lists {l m : List Cm} (h : l.map Cm.key = m.map Cm.key) : l.flatMap Cm.terms = m.flatMap Cm.terms := by
  have e : ∀ q : List Cm, q.flatMap Cm.terms = (q.map Cm.key).flatMap Ck.terms := fun q => by
    rw [List.flatMap_map]; exact congrArg (fun f => q.flatMap f) (funext terms_of)
  rw [e, e, h]
theorem pds_lists {l m : List Cm} (h : l.map Cm.key = m.map Cm.key) : l.flatMap Cm.pds = m.flatMap Cm.pds := by
  have e : ∀ q : List Cm, q.flatMap Cm.pds = (q.map Cm.key).flatMap pdsK := fun q => by
    rw [List.flatMap_map]; exact congrArg (fun f => q.flatMap f) (funext pds_of)
  rw [e, e, h]
/-- What the law asks of a list of clauses. -/
structure CNL (w : World) (v : Value) (l : List Cm) : Prop where
  c : CsP w v l
  lp : ∀ c ∈ l, LP w c
  okp : ∀ c ∈ l, OKP w c
  sz : ∀ t ∈ l.flatMap Cm.terms, t.s.size ≤ maxLen
  kt : ∀ t ∈ cns (l.flatMap Cm.terms), KeyT t
  kp : ∀ t ∈ l.flatMap Cm.pds, KeyP t
  ar : ∀ p ∈ l.flatMap Cm.pds, ∃ n : Nat, p.ar = (n : Int) ∧ n ≤ 3000000000000
  tl : (l.flatMap Cm.terms).length ≤ 3000000000000
  pl : (l.flatMap Cm.pds).length ≤ 3000000000000
  ll : l.length ≤ 1000000000
set_option maxRecDepth 20000 in
set_option maxHeartbeats 8000000 in
theorem counts_any (l : List Cm) (v : Value) (w : World) (h : CNL w v l) (hB : BehOk w) :
    Calls Tryz.prog 3 #[v] w fun e w' => e = .returned (.bool true) ∧ Below w.heap.size w w' := by
  have HH : Hid (CNL w v l) := h
  have HBH : Hid (BehOk w) := hB
  obtain ⟨va, vc, rfl⟩ := h.c.form
  have HTL : Hid ((l.flatMap Cm.terms).length ≤ 3000000000000) := h.tl
  have HPL : Hid ((l.flatMap Cm.pds).length ≤ 3000000000000) := h.pl
  have HC : Hid (∀ Y : World, Below w.heap.size w Y → Calls Tryz.prog 11 #[.slice va l.length vc] Y (RTS Y (cns (l.flatMap Cm.terms)))) := fun Y hY => rconsts_any l _ Y (h.c.later hY) (fun c hc => (h.okp c hc).later hY) h.sz h.tl (by have := h.ll; omega)
  have HP : Hid (∀ Y : World, Below w.heap.size w Y → Calls Tryz.prog 13 #[.slice va l.length vc] Y (PPost Y (l.flatMap Cm.pds))) := fun Y hY => rpreds_any l _ Y (h.c.later hY) h.pl (by have := h.ll; omega)
  have HN : Hid (∀ Y : World, Below w.heap.size w Y → Calls Tryz.prog 14 #[.slice va l.length vc] Y (BPost Y (l.flatMap Cm.pds) (cns (l.flatMap Cm.terms)))) := fun Y hY => rbound_any l _ Y (h.c.later hY) (fun c hc => (h.okp c hc).later hY) h.sz h.tl h.pl (by have := h.ll; omega) h.ar
  have HLE : Hid (Calls Tryz.prog 6 #[.slice va l.length vc] w fun e w' => ∃ u, e = .returned u ∧ (∃ LB, LB.map Cm.key = l.map Cm.key ∧ LentC w' w.heap.size u LB) ∧ (∀ Y : World, Below w'.heap.size w' Y → Calls Tryz.prog 7 #[u] Y (RTS Y (cns (l.flatMap Cm.terms))) ∧ Calls Tryz.prog 8 #[u] Y (PPost Y (l.flatMap Cm.pds)) ∧ Calls Tryz.prog 9 #[u] Y (BPost Y (l.flatMap Cm.pds) (cns (l.flatMap Cm.terms)))) ∧ Below w.heap.size w w') := by
    refine (lendCs_any l _ w h.c h.lp h.ll hB).mono fun e w' ⟨u, LB, he, hk, hlc, hb⟩ => ⟨u, he, ⟨LB, hk, hlc⟩, fun Y hY => ?_, hb⟩
    have hlen : LB.length = l.length := by have := congrArg List.length hk; simpa using this
    have et := terms_lists hk
    have ep := pds_lists hk
    have hs : ∀ d ∈ LB, (Ck.terms d.key).length ≤ 4000000 := fun d hd => by
      have hm : d.key ∈ LB.map Cm.key := List.mem_map.2 ⟨d, hd, rfl⟩
      rw [hk] at hm
      obtain ⟨c, hc, e⟩ := List.mem_map.1 hm
      rw [← e]; exact (h.lp c hc).hs
    have hcs : CsP Y u LB := (hlc.csp hs).later hY
    have hll : LB.length ≤ 1000000000000 := by have := h.ll; omega
    refine ⟨?_, ?_, ?_⟩
    · refine (consts9_any LB u Y hcs (by rw [et]; exact h.kt) (by rw [et]; exact h.tl) hll).mono fun e w2 ⟨v2, K, he2, h1, h2, h3, h4⟩ => ?_
      rw [et] at h2 h3
      subst he2
      exact rts_mk h1 h3 h2 h4
    · refine (preds9_any LB u Y hcs (by rw [ep]; exact h.kp) (by rw [ep]; exact h.pl) hll).mono fun e w2 ⟨v2, K, he2, h1, h2, h3, h4⟩ => ?_
      rw [ep] at h2 h3
      subst he2
      exact ppost_mk h1 h2 h3 h4
    · have := bound9_any LB u Y hcs (by rw [et]; exact h.kt) (by rw [et]; exact h.tl) (by rw [ep]; exact h.kp) (by rw [ep]; exact h.pl) hll (by rw [ep]; exact h.ar)
      rw [et, ep] at this
      exact this
  have HKE : Hid (∀ (Y : World) (u : Value) (LB : List Cm) (B : Nat), Below w.heap.size w Y → LentC Y B u LB → LB.map Cm.key = l.map Cm.key → Calls Tryz.prog 15 #[u, .slice va l.length vc] Y fun e w' => e = .returned (.bool true) ∧ Below Y.heap.size Y w') := fun Y u LB B hY h1 h2 => keptCs_any l LB u _ B Y (h.c.later hY) (fun c hc => (h.lp c hc).hs) h1 h2 (hB.later hY) h.ll
  obtain ⟨L, hL⟩ : ∃ L, l.flatMap Cm.pds = L := ⟨_, rfl⟩
  obtain ⟨C, hC⟩ : ∃ C, cns (l.flatMap Cm.terms) = C := ⟨_, rfl⟩
  have HCL : Hid (C.length ≤ 3000000000000) := by rw [← hC]; exact Nat.le_trans (cns_len _) HTL.out
  rw [hL] at HP HN HLE HPL
  rw [hC] at HC HN HLE
  clear h hB HTL HH hL hC
  go_enter Tryz.func3, Tryz.ntmps3
  go_wp2_with (first
    | (go_at_call 6; refine HLE.out.mono ?_; clear HLE; rintro e w1 ⟨u, rfl, hlb, hcalls, hb⟩; have HLB : Hid (∃ LB, LB.map Cm.key = l.map Cm.key ∧ LentC w1 w.heap.size u LB) := hlb; have HCA : Hid (∀ Y : World, Below w1.heap.size w1 Y → Calls Tryz.prog 7 #[u] Y (RTS Y C) ∧ Calls Tryz.prog 8 #[u] Y (PPost Y L) ∧ Calls Tryz.prog 9 #[u] Y (BPost Y L C)) := hcalls; have HB1 : Hid (Below w.heap.size w w1) := hb; clear hlb hcalls hb)
    | (go_at_call 7; refine (HCA.out _ (Below.refl _ _)).1.mono ?_; rintro e w2 ⟨v2, K2, rfl, h1, h2, h3, hb⟩; have HK2 : Hid (OwnT w2 w1.heap.size v2 K2) := h1; have HL2 : Hid (K2.length ≤ 3000000000000) := Nat.le_trans h2 HCL.out; have HR2 : Hid (RiseOf Tm.cmp K2 C) := h3; have HB2 : Hid (Below w1.heap.size w1 w2) := hb; clear h1 h2 h3 hb)
    | (go_at_call 8; refine (HCA.out _ HB2.out).2.1.mono ?_; rintro e w3 ⟨v3, P3, rfl, h1, h2, h3, hb⟩; have HP3 : Hid (OwnP w3 w2.heap.size v3 P3) := h1; have HL3 : Hid (P3.length ≤ 3000000000000) := Nat.le_trans h3 HPL.out; have HR3 : Hid (RiseOf cmpP P3 L) := h2; have HB3 : Hid (Below w1.heap.size w1 w3) := below_step HB2.out hb; have HK3 : Hid (TsP w3 v2 K2) := (HK2.out.later hb).tsP; clear h1 h2 h3 hb)
    | (go_at_call 9; refine (HCA.out _ HB3.out).2.2.mono ?_; rintro e w4 ⟨P4, K4, rfl, h1, h2, hb⟩; have HR4 : Hid (RiseOf cmpP P4 L ∧ RiseOf Tm.cmp K4 C) := ⟨h1, h2⟩; have HB4 : Hid (Below w1.heap.size w1 w4) := below_step HB3.out hb; have HK4 : Hid (TsP w4 v2 K2) := HK3.out.later hb; have HP4 : Hid (PsP w4 v3 P3) := (HP3.out.later hb).tsP; clear h1 h2 hb)
    | (go_at_call 11; refine (HC.out _ (below_step HB1.out HB4.out)).mono ?_; rintro e w5 ⟨v5, K5, rfl, h1, h2, h3, hb⟩; have HSM : Hid (Calls Tryz.prog 10 #[v2, v5] w5 fun e w' => e = .returned (.bool true) ∧ Below w5.heap.size w5 w') := (by have h9 := sameTerms_any K2 K5 v2 v5 w5 ((HK4.out.later hb).ts (by have := HL2.out; omega)) (h1.tsP.ts (by have := HCL.out; omega)); rw [decide_eq_true (HR2.out.uniq ord_tm h3 (fun _ => Iff.rfl))] at h9; exact h9); have HB5 : Hid (Below w1.heap.size w1 w5) := below_step HB4.out hb; have HP5 : Hid (PsP w5 v3 P3) := HP4.out.later hb; clear h1 h2 h3 hb)
    | (go_at_call 10; refine HSM.out.mono ?_; clear HSM; rintro e w6 ⟨rfl, hb⟩; have HB6 : Hid (Below w1.heap.size w1 w6) := below_step HB5.out hb; have HP6 : Hid (PsP w6 v3 P3) := HP5.out.later hb; clear hb)
    | (go_at_call 13; refine (HP.out _ (below_step HB1.out HB6.out)).mono ?_; rintro e w7 ⟨v7, P7, rfl, h1, h2, h3, hb⟩; have HSP : Hid (Calls Tryz.prog 12 #[v3, v7] w7 fun e w' => e = .returned (.bool true) ∧ Below w7.heap.size w7 w') := (by have e7 := HR3.out.uniq ord_pd h2 (fun _ => Iff.rfl); subst e7; exact preds_same P3 v3 v7 w7 (HP6.out.later hb) h1.tsP HL3.out); have HB7 : Hid (Below w1.heap.size w1 w7) := below_step HB6.out hb; clear h1 h2 h3 hb)
    | (go_at_call 12; refine HSP.out.mono ?_; clear HSP; rintro e w8 ⟨rfl, hb⟩; have HB8 : Hid (Below w1.heap.size w1 w8) := below_step HB7.out hb; clear hb)
    | (go_at_call 14; refine (HN.out _ (below_step HB1.out HB8.out)).mono ?_; rintro e w9 ⟨P9, K9, rfl, h1, h2, hb⟩; have e9 := HR4.out.1.uniq ord_pd h1 (fun _ => Iff.rfl); have e8 := HR4.out.2.uniq ord_tm h2 (fun _ => Iff.rfl); subst e9 e8; have HB9 : Hid (Below w1.heap.size w1 w9) := below_step HB8.out hb; clear h1 h2 hb)
    | (go_at_call 15; refine (HKE.out w9 u (Classical.choose HLB.out) w.heap.size (below_step HB1.out HB9.out) ((Classical.choose_spec HLB.out).2.later HB9.out) (Classical.choose_spec HLB.out).1).mono ?_; rintro e w10 ⟨rfl, hb⟩; have HB10 : Hid (Below w1.heap.size w1 w10) := below_step HB9.out hb; clear hb)
    | (go_at_call 16; refine (first3_any w10).mono ?_; rintro e w11 ⟨rfl, hb⟩; have HB11 : Hid (Below w1.heap.size w1 w11) := below_step HB10.out hb; clear hb))
  go_ret
  exact ⟨rfl, below_step HB1.out HB11.out⟩
end Go.Proofs.YtdfgijdededolabGreatDoor
/-
  Arguments opened: a list of terms, an atom.
-/
namespace Go.Proofs.YtdfgijdededolabGreatDoor
open Go.ChangeShapes Go.WideShapes Go.ChangeAt Go.RowKit Go.Joins Go.Deep

theorem Tryz.cellsAtom : Tryz.prog.cellsOf 37 = 5 := by kernel_rfl
theorem Tryz.cellsInt : Tryz.prog.cellsOf 3 = 1 := by kernel_rfl
theorem Tryz.cellsString : Tryz.prog.cellsOf 9 = 1 := by kernel_rfl
theorem Tryz.cellsTerms : Tryz.prog.cellsOf 24 = 1 := by kernel_rfl
theorem Tryz.bytesTerm : Tryz.prog.bytesOf 35 = 32 := by kernel_rfl
theorem list3 {α : Type} {l : List α} (h : l.length = 3) : ∃ a b c, l = [a, b, c] := by
  match l, h with
  | [a, b, c], _ => exact ⟨a, b, c, rfl⟩
theorem list5 {α : Type} {l : List α} (h : l.length = 5) : ∃ a b c d e, l = [a, b, c, d, e] := by
  match l, h with
  | [a, b, c, d, e], _ => exact ⟨a, b, c, d, e, rfl⟩
end Go.Proofs.YtdfgijdededolabGreatDoor
/-
  Arguments opened: a clause.
-/
namespace Go.Proofs.YtdfgijdededolabGreatDoor
open Go.ChangeShapes Go.WideShapes Go.ChangeAt Go.RowKit Go.Joins Go.Deep

theorem weights_mem_all {H : Type} {P : Program} {e : TypeId} {d : DataW H} {n : Nat} (hn : n ∈ d.weights P e) : ∀ {ds : List (DataW H)}, d ∈ ds → n ∈ DataW.weightsAll P e ds
  | x :: r, h => by
    rw [DataW.weightsAll, List.mem_append]
    rcases List.mem_cons.1 h with rfl | h
    · exact Or.inl hn
    · exact Or.inr (weights_mem_all hn h)
theorem Tryz.cellsTest3 : Tryz.prog.cellsOf 88 = 7 := by kernel_rfl
theorem Tryz.cellsClause : Tryz.prog.cellsOf 41 = 7 := by kernel_rfl
theorem Tryz.cellsAtoms : Tryz.prog.cellsOf 38 = 1 := by kernel_rfl
theorem Tryz.cellsTests : Tryz.prog.cellsOf 39 = 1 := by kernel_rfl
theorem Tryz.bytesAtom : Tryz.prog.bytesOf 37 = 72 := by kernel_rfl
theorem Tryz.bytesTest : Tryz.prog.bytesOf 88 = 72 := by kernel_rfl
theorem clist7 {α : Type} {l : List α} (h : l.length = 7) : ∃ a b c d e f g, l = [a, b, c, d, e, f, g] := by
  match l, h with
  | [a, b, c, d, e, f, g], _ => exact ⟨a, b, c, d, e, f, g, rfl⟩
end Go.Proofs.YtdfgijdededolabGreatDoor
/-
  A clause opened, with its bulk and with the numbers of its terms. (Written by NB4.py, out of R2 and CL24.)
-/
namespace Go.Proofs.YtdfgijdededolabGreatDoor
open Go.ChangeShapes Go.WideShapes Go.ChangeAt Go.RowKit Go.Joins Go.Deep

def WfT (t : Tm) : Prop := (Lit.int .i64 t.n).wf = true
theorem bulkN_pos {H : Type} (d : DataW H) : 1 ≤ Rows.uptoBulk d := by
  cases d with
  | lit l => cases l <;> simp [Rows.uptoBulk]
  | _ => simp [Rows.uptoBulk]
theorem bulkN_len {H : Type} (l : List (DataW H)) : l.length ≤ Rows.uptoBulkAll l := by
  induction l with
  | nil => simp
  | cons d r ih => have := bulkN_pos d; simp only [Rows.uptoBulkAll, List.length_cons]; omega
theorem bulkN_slice {H : Type} (l r : List (DataW H)) : l.length ≤ Rows.uptoBulk (.slice l r) := by
  have := bulkN_len l; simp only [Rows.uptoBulk]; omega
theorem bulkN_sum {H α : Type} (g : Nat → List α) (D : Nat → DataW H) : ∀ l : List Nat, (∀ i ∈ l, (g i).length ≤ Rows.uptoBulk (D i)) → (l.flatMap g).length ≤ Rows.uptoBulkAll (l.map D)
  | [], _ => by simp
  | i :: l, h => by
    have h1 := h i (by simp)
    have h2 := bulkN_sum g D l fun j hj => h j (by simp [hj])
    rw [List.flatMap_cons, List.length_append, List.map_cons]
    simp only [Rows.uptoBulkAll]
    omega
end Go.Proofs.YtdfgijdededolabGreatDoor
/-
  A clause opened, with all that a copy wants to know of its lists. (Written by CK2.py, out of NB4.)
-/
namespace Go.Proofs.YtdfgijdededolabGreatDoor
open Go.ChangeShapes Go.WideShapes Go.ChangeAt Go.RowKit Go.Joins Go.Deep

theorem Tryz.gBT : Tryz.prog.globalNamed "hearsay/hearsayref03.behindTerm" = some 1 := by kernel_rfl
theorem Tryz.tBT : (Tryz.prog.globals[1]?).map (·.type) = some 35 := by kernel_rfl
theorem Tryz.gBE : Tryz.prog.globalNamed "hearsay/hearsayref03.behindTest" = some 0 := by kernel_rfl
theorem Tryz.tBE : (Tryz.prog.globals[0]?).map (·.type) = some 88 := by kernel_rfl
theorem terms_lits {H : Type} {enc : TypeId × Value → H} {W : World} {base : Nat} {spare : Nat → Bool} {held : Bool} {fuel : Nat} {cs : List Value} {x : DataW H × List MemPlace}
    (h : DataW.trod enc Tryz.prog W base spare held fuel 35 cs = some x) (hl : cs.length = 3) : ∃ t : Tm, cs = [.int .i64 t.k, .int .i64 t.n, .string t.s] ∧ x.1 = .agg [.lit (.int .i64 t.k), .lit (.int .i64 t.n), .lit (.string t.s.data.toList)] := by
  obtain ⟨c0, c1, c2, rfl⟩ := list3 hl
  obtain ⟨y0, y1, y2, n, hd, -, h0, h1, h2⟩ := trod_struct3 Tryz.underlying35 h
  rw [Tryz.cellsInt] at h0 h1
  rw [Tryz.cellsString] at h2
  obtain ⟨k, e0, f0, -⟩ := DataW.trod_int Tryz.underlying3 h0
  obtain ⟨m, e1, f1, -⟩ := DataW.trod_int Tryz.underlying3 h1
  obtain ⟨s, e2, f2, -⟩ := DataW.trod_string Tryz.underlying9 h2
  simp at e0 e1 e2
  subst e0 e1 e2
  refine ⟨⟨k, m, s⟩, rfl, ?_⟩
  rw [hd, f0, f1, f2]
theorem tests_lits {H : Type} {enc : TypeId × Value → H} {W : World} {base : Nat} {spare : Nat → Bool} {held : Bool} {fuel : Nat} {cs : List Value} {x : DataW H × List MemPlace}
    (hf : DataW.trod enc Tryz.prog W base spare held fuel 88 cs = some x) (hl : cs.length = 7) : ∃ t : Te, cs = [.int .i64 t.op, .int .i64 t.l.k, .int .i64 t.l.n, .string t.l.s, .int .i64 t.r.k, .int .i64 t.r.n, .string t.r.s] ∧ x.1 = .agg [.lit (.int .i64 t.op), .agg [.lit (.int .i64 t.l.k), .lit (.int .i64 t.l.n), .lit (.string t.l.s.data.toList)], .agg [.lit (.int .i64 t.r.k), .lit (.int .i64 t.r.n), .lit (.string t.r.s.data.toList)]] := by
  obtain ⟨c0, c1, c2, c3, c4, c5, c6, rfl⟩ := clist7 hl
  obtain ⟨y0, y1, y2, n, hd, -, h0, h1, h2⟩ := trod_struct3 Tryz.underlying88 hf
  rw [Tryz.cellsInt] at h0
  rw [Tryz.cellsTerm] at h1 h2
  obtain ⟨k, e0, f0, -⟩ := DataW.trod_int Tryz.underlying3 h0
  obtain ⟨t, e1, f1⟩ := terms_lits h1 (by simp)
  obtain ⟨u, e2, f2⟩ := terms_lits h2 (by simp)
  simp at e0 e1 e2
  subst e0
  obtain ⟨rfl, rfl, rfl⟩ := e1
  obtain ⟨rfl, rfl, rfl⟩ := e2
  refine ⟨⟨k, t, u⟩, rfl, ?_⟩
  rw [hd, f0, f1, f2]
set_option maxRecDepth 100000 in
theorem beh_of_laid {W : World} (h : laidMetH Tryz.prog [("hearsay/hearsayref03.behindTerm", Rows.laid_hearsay_hearsayref03_behindTerm), ("hearsay/hearsayref03.behindTest", Rows.laid_hearsay_hearsayref03_behindTest)] W) : BehOk W := by
  rw [MakeChecks.laidMetH_plain _ _ _ (by kernel_rfl)] at h
  obtain ⟨ps, ⟨g1, t1, cs1, f1, p1, q1, hg1, ht1, hv1, hd1, ⟨g0, t0, cs0, f0, p0, q0, hg0, ht0, hv0, hd0, _, _⟩, _⟩, _, _⟩ := h
  obtain rfl := Option.some.inj (Tryz.gBE.symm.trans hg0)
  obtain rfl := Option.some.inj (Tryz.tBE.symm.trans ht0)
  obtain rfl := Option.some.inj (Tryz.gBT.symm.trans hg1)
  obtain rfl := Option.some.inj (Tryz.tBT.symm.trans ht1)
  obtain ⟨y0, y1, y2, n, -, hl, -, -, -⟩ := trod_struct3 Tryz.underlying35 hd1
  rw [Tryz.cellsTerm] at hl
  obtain ⟨d, e, hx⟩ := terms_lits hd1 hl
  have hc : ∀ i, W.cell? ⟨1, i, none⟩ = d.cs[i]? := fun i => by
    have := World.var?_cell hg1 hv1 i
    rw [Tm.cs, ← e]; simpa using this
  simp only [Rows.laid_hearsay_hearsayref03_behindTerm, DataW.agg.injEq, List.cons.injEq, DataW.lit.injEq, Lit.int.injEq, Lit.string.injEq, true_and, and_true] at hx
  have hs : d.s = ⟨#[98, 101, 104, 105, 110, 100]⟩ := ByteArray.ext (Array.toList_inj.1 hx.2.2.symm)
  have h0 := hc 0; have h1 := hc 1; have h2 := hc 2
  simp only [Tm.cs, ← hx.1, ← hx.2.1, hs] at h0 h1 h2
  obtain ⟨z0, z1, z2, n', -, hl', -, -, -⟩ := trod_struct3 Tryz.underlying88 hd0
  rw [Tryz.cellsTest3] at hl'
  obtain ⟨d', e', hx'⟩ := tests_lits hd0 hl'
  have hc' : ∀ i, W.cell? ⟨0, i, none⟩ = (ecell d')[i]? := fun i => by
    have := World.var?_cell hg0 hv0 i
    rw [ecell, ← e']; simpa using this
  simp only [Rows.laid_hearsay_hearsayref03_behindTest, DataW.agg.injEq, List.cons.injEq, DataW.lit.injEq, Lit.int.injEq, Lit.string.injEq, true_and, and_true] at hx'
  have hs1 : d'.l.s = ⟨#[]⟩ := ByteArray.ext (Array.toList_inj.1 hx'.2.1.2.2.symm)
  have hs2 : d'.r.s = ⟨#[]⟩ := ByteArray.ext (Array.toList_inj.1 hx'.2.2.2.2.symm)
  have k0 := hc' 0; have k1 := hc' 1; have k2 := hc' 2; have k3 := hc' 3; have k4 := hc' 4; have k5 := hc' 5; have k6 := hc' 6
  simp only [ecell, ← hx'.1, ← hx'.2.1.1, ← hx'.2.1.2.1, ← hx'.2.2.1, ← hx'.2.2.2.1, hs1, hs2] at k0 k1 k2 k3 k4 k5 k6
  exact ⟨World.block_lt_of_cell? W _ h0, World.block_lt_of_cell? W _ k0, h0, h1, h2, k0, k1, k2, k3, k4, k5, k6⟩
end Go.Proofs.YtdfgijdededolabGreatDoor
/-
  A list of clauses opened, with its bulk.
-/
namespace Go.Proofs.YtdfgijdededolabGreatDoor
open Go.ChangeShapes Go.WideShapes Go.ChangeAt Go.RowKit Go.Joins Go.Deep

theorem bulkN_mem {H : Type} {d : DataW H} : ∀ {l : List (DataW H)}, d ∈ l → Rows.uptoBulk d ≤ Rows.uptoBulkAll l
  | x :: r, h => by
    simp only [Rows.uptoBulkAll]
    rcases List.mem_cons.1 h with rfl | h
    · omega
    · have := bulkN_mem h; omega
end Go.Proofs.YtdfgijdededolabGreatDoor
