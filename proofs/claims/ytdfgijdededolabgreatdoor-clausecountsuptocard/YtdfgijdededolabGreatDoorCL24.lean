import Derived.Test.YtdfgijdededolabGreatDoorCL21
import Derived.Test.YtdfgijdededolabGreatDoorCN18
import Derived.Test.YtdfgijdededolabGreatDoorSD18
import Derived.Test.YtdfgijdededolabGreatDoorCL22
import Derived.Deep.Slices
import Derived.Deep.Strs
import Derived.SizedLaws
import Derived.Test.YtdfgijdededolabGreatDoorB7
/-
  ClauseCounts: the walk.
-/
namespace Go.Proofs.YtdfgijdededolabGreatDoor
open Go.RowKit
attribute [local go_sem ↓] Go.wp_at_zero Go.wp_at_succ

theorem terms_of (c : Cm) : c.terms = Ck.terms c.key := by
  simp [Cm.terms, Ck.terms, Cm.key, Cm.atoms, fsts, tls, List.flatMap_map, List.append_assoc]
def pdsK (k : Ck) : List Pd := (k.1 :: k.2.1).map fun a => ⟨a.name, (a.args.length : Int)⟩
theorem pds_of (c : Cm) : c.pds = pdsK c.key := by
  simp [Cm.pds, pds, pdsK, Cm.key, Cm.atoms, fsts, pdA, Function.comp_def]
theorem terms_lists {l m : List Cm} (h : l.map Cm.key = m.map Cm.key) : l.flatMap Cm.terms = m.flatMap Cm.terms := by
  have e : ∀ q : List Cm, q.flatMap Cm.terms = (q.map Cm.key).flatMap Ck.terms := fun q => by
    rw [List.flatMap_map]; exact congrArg (fun f => q.flatMap f) (funext terms_of)
  rw [e, e, h]
theorem pds_lists {l m : List Cm} (h : l.map Cm.key = m.map Cm.key) : l.flatMap Cm.pds = m.flatMap Cm.pds := by
  have e : ∀ q : List Cm, q.flatMap Cm.pds = (q.map Cm.key).flatMap pdsK := fun q => by
    rw [List.flatMap_map]; exact congrArg (fun f => q.flatMap f) (funext pds_of)
  rw [e, e, h]
/-- What the law asks of a list of clauses. -/
structure CNL (w : World) (v : Value) (l : List Cm) : Prop where
  c : CsP w v l
  lp : ∀ c ∈ l, LP w c
  okp : ∀ c ∈ l, OKP w c
  sz : ∀ t ∈ l.flatMap Cm.terms, t.s.size ≤ maxLen
  kt : ∀ t ∈ cns (l.flatMap Cm.terms), KeyT t
  kp : ∀ t ∈ l.flatMap Cm.pds, KeyP t
  ar : ∀ p ∈ l.flatMap Cm.pds, ∃ n : Nat, p.ar = (n : Int) ∧ n ≤ 3000000000000
  tl : (l.flatMap Cm.terms).length ≤ 3000000000000
  pl : (l.flatMap Cm.pds).length ≤ 3000000000000
  ll : l.length ≤ 1000000000
set_option maxRecDepth 20000 in
set_option maxHeartbeats 8000000 in
theorem counts_any (l : List Cm) (v : Value) (w : World) (h : CNL w v l) (hB : BehOk w) :
    Calls Tryz.prog 3 #[v] w fun e w' => e = .returned (.bool true) ∧ Below w.heap.size w w' := by
  have HH : Hid (CNL w v l) := h
  have HBH : Hid (BehOk w) := hB
  obtain ⟨va, vc, rfl⟩ := h.c.form
  have HTL : Hid ((l.flatMap Cm.terms).length ≤ 3000000000000) := h.tl
  have HPL : Hid ((l.flatMap Cm.pds).length ≤ 3000000000000) := h.pl
  have HC : Hid (∀ Y : World, Below w.heap.size w Y → Calls Tryz.prog 11 #[.slice va l.length vc] Y (RTS Y (cns (l.flatMap Cm.terms)))) := fun Y hY => rconsts_any l _ Y (h.c.later hY) (fun c hc => (h.okp c hc).later hY) h.sz h.tl (by have := h.ll; omega)
  have HP : Hid (∀ Y : World, Below w.heap.size w Y → Calls Tryz.prog 13 #[.slice va l.length vc] Y (PPost Y (l.flatMap Cm.pds))) := fun Y hY => rpreds_any l _ Y (h.c.later hY) h.pl (by have := h.ll; omega)
  have HN : Hid (∀ Y : World, Below w.heap.size w Y → Calls Tryz.prog 14 #[.slice va l.length vc] Y (BPost Y (l.flatMap Cm.pds) (cns (l.flatMap Cm.terms)))) := fun Y hY => rbound_any l _ Y (h.c.later hY) (fun c hc => (h.okp c hc).later hY) h.sz h.tl h.pl (by have := h.ll; omega) h.ar
  have HLE : Hid (Calls Tryz.prog 6 #[.slice va l.length vc] w fun e w' => ∃ u, e = .returned u ∧ (∃ LB, LB.map Cm.key = l.map Cm.key ∧ LentC w' w.heap.size u LB) ∧ (∀ Y : World, Below w'.heap.size w' Y → Calls Tryz.prog 7 #[u] Y (RTS Y (cns (l.flatMap Cm.terms))) ∧ Calls Tryz.prog 8 #[u] Y (PPost Y (l.flatMap Cm.pds)) ∧ Calls Tryz.prog 9 #[u] Y (BPost Y (l.flatMap Cm.pds) (cns (l.flatMap Cm.terms)))) ∧ Below w.heap.size w w') := by
    refine (lendCs_any l _ w h.c h.lp h.ll hB).mono fun e w' ⟨u, LB, he, hk, hlc, hb⟩ => ⟨u, he, ⟨LB, hk, hlc⟩, fun Y hY => ?_, hb⟩
    have hlen : LB.length = l.length := by have := congrArg List.length hk; simpa using this
    have et := terms_lists hk
    have ep := pds_lists hk
    have hs : ∀ d ∈ LB, (Ck.terms d.key).length ≤ 4000000 := fun d hd => by
      have hm : d.key ∈ LB.map Cm.key := List.mem_map.2 ⟨d, hd, rfl⟩
      rw [hk] at hm
      obtain ⟨c, hc, e⟩ := List.mem_map.1 hm
      rw [← e]; exact (h.lp c hc).hs
    have hcs : CsP Y u LB := (hlc.csp hs).later hY
    have hll : LB.length ≤ 1000000000000 := by have := h.ll; omega
    refine ⟨?_, ?_, ?_⟩
    · refine (consts9_any LB u Y hcs (by rw [et]; exact h.kt) (by rw [et]; exact h.tl) hll).mono fun e w2 ⟨v2, K, he2, h1, h2, h3, h4⟩ => ?_
      rw [et] at h2 h3
      subst he2
      exact rts_mk h1 h3 h2 h4
    · refine (preds9_any LB u Y hcs (by rw [ep]; exact h.kp) (by rw [ep]; exact h.pl) hll).mono fun e w2 ⟨v2, K, he2, h1, h2, h3, h4⟩ => ?_
      rw [ep] at h2 h3
      subst he2
      exact ppost_mk h1 h2 h3 h4
    · have := bound9_any LB u Y hcs (by rw [et]; exact h.kt) (by rw [et]; exact h.tl) (by rw [ep]; exact h.kp) (by rw [ep]; exact h.pl) hll (by rw [ep]; exact h.ar)
      rw [et, ep] at this
      exact this
  have HKE : Hid (∀ (Y : World) (u : Value) (LB : List Cm) (B : Nat), Below w.heap.size w Y → LentC Y B u LB → LB.map Cm.key = l.map Cm.key → Calls Tryz.prog 15 #[u, .slice va l.length vc] Y fun e w' => e = .returned (.bool true) ∧ Below Y.heap.size Y w') := fun Y u LB B hY h1 h2 => keptCs_any l LB u _ B Y (h.c.later hY) (fun c hc => (h.lp c hc).hs) h1 h2 (hB.later hY) h.ll
  obtain ⟨L, hL⟩ : ∃ L, l.flatMap Cm.pds = L := ⟨_, rfl⟩
  obtain ⟨C, hC⟩ : ∃ C, cns (l.flatMap Cm.terms) = C := ⟨_, rfl⟩
  have HCL : Hid (C.length ≤ 3000000000000) := by rw [← hC]; exact Nat.le_trans (cns_len _) HTL.out
  rw [hL] at HP HN HLE HPL
  rw [hC] at HC HN HLE
  clear h hB HTL HH hL hC
  go_enter Tryz.func3, Tryz.ntmps3
  go_wp2_with (first
    | (go_at_call 6; refine HLE.out.mono ?_; clear HLE; rintro e w1 ⟨u, rfl, hlb, hcalls, hb⟩; have HLB : Hid (∃ LB, LB.map Cm.key = l.map Cm.key ∧ LentC w1 w.heap.size u LB) := hlb; have HCA : Hid (∀ Y : World, Below w1.heap.size w1 Y → Calls Tryz.prog 7 #[u] Y (RTS Y C) ∧ Calls Tryz.prog 8 #[u] Y (PPost Y L) ∧ Calls Tryz.prog 9 #[u] Y (BPost Y L C)) := hcalls; have HB1 : Hid (Below w.heap.size w w1) := hb; clear hlb hcalls hb)
    | (go_at_call 7; refine (HCA.out _ (Below.refl _ _)).1.mono ?_; rintro e w2 ⟨v2, K2, rfl, h1, h2, h3, hb⟩; have HK2 : Hid (OwnT w2 w1.heap.size v2 K2) := h1; have HL2 : Hid (K2.length ≤ 3000000000000) := Nat.le_trans h2 HCL.out; have HR2 : Hid (RiseOf Tm.cmp K2 C) := h3; have HB2 : Hid (Below w1.heap.size w1 w2) := hb; clear h1 h2 h3 hb)
    | (go_at_call 8; refine (HCA.out _ HB2.out).2.1.mono ?_; rintro e w3 ⟨v3, P3, rfl, h1, h2, h3, hb⟩; have HP3 : Hid (OwnP w3 w2.heap.size v3 P3) := h1; have HL3 : Hid (P3.length ≤ 3000000000000) := Nat.le_trans h3 HPL.out; have HR3 : Hid (RiseOf cmpP P3 L) := h2; have HB3 : Hid (Below w1.heap.size w1 w3) := below_step HB2.out hb; have HK3 : Hid (TsP w3 v2 K2) := (HK2.out.later hb).tsP; clear h1 h2 h3 hb)
    | (go_at_call 9; refine (HCA.out _ HB3.out).2.2.mono ?_; rintro e w4 ⟨P4, K4, rfl, h1, h2, hb⟩; have HR4 : Hid (RiseOf cmpP P4 L ∧ RiseOf Tm.cmp K4 C) := ⟨h1, h2⟩; have HB4 : Hid (Below w1.heap.size w1 w4) := below_step HB3.out hb; have HK4 : Hid (TsP w4 v2 K2) := HK3.out.later hb; have HP4 : Hid (PsP w4 v3 P3) := (HP3.out.later hb).tsP; clear h1 h2 hb)
    | (go_at_call 11; refine (HC.out _ (below_step HB1.out HB4.out)).mono ?_; rintro e w5 ⟨v5, K5, rfl, h1, h2, h3, hb⟩; have HSM : Hid (Calls Tryz.prog 10 #[v2, v5] w5 fun e w' => e = .returned (.bool true) ∧ Below w5.heap.size w5 w') := (by have h9 := sameTerms_any K2 K5 v2 v5 w5 ((HK4.out.later hb).ts (by have := HL2.out; omega)) (h1.tsP.ts (by have := HCL.out; omega)); rw [decide_eq_true (HR2.out.uniq ord_tm h3 (fun _ => Iff.rfl))] at h9; exact h9); have HB5 : Hid (Below w1.heap.size w1 w5) := below_step HB4.out hb; have HP5 : Hid (PsP w5 v3 P3) := HP4.out.later hb; clear h1 h2 h3 hb)
    | (go_at_call 10; refine HSM.out.mono ?_; clear HSM; rintro e w6 ⟨rfl, hb⟩; have HB6 : Hid (Below w1.heap.size w1 w6) := below_step HB5.out hb; have HP6 : Hid (PsP w6 v3 P3) := HP5.out.later hb; clear hb)
    | (go_at_call 13; refine (HP.out _ (below_step HB1.out HB6.out)).mono ?_; rintro e w7 ⟨v7, P7, rfl, h1, h2, h3, hb⟩; have HSP : Hid (Calls Tryz.prog 12 #[v3, v7] w7 fun e w' => e = .returned (.bool true) ∧ Below w7.heap.size w7 w') := (by have e7 := HR3.out.uniq ord_pd h2 (fun _ => Iff.rfl); subst e7; exact preds_same P3 v3 v7 w7 (HP6.out.later hb) h1.tsP HL3.out); have HB7 : Hid (Below w1.heap.size w1 w7) := below_step HB6.out hb; clear h1 h2 h3 hb)
    | (go_at_call 12; refine HSP.out.mono ?_; clear HSP; rintro e w8 ⟨rfl, hb⟩; have HB8 : Hid (Below w1.heap.size w1 w8) := below_step HB7.out hb; clear hb)
    | (go_at_call 14; refine (HN.out _ (below_step HB1.out HB8.out)).mono ?_; rintro e w9 ⟨P9, K9, rfl, h1, h2, hb⟩; have e9 := HR4.out.1.uniq ord_pd h1 (fun _ => Iff.rfl); have e8 := HR4.out.2.uniq ord_tm h2 (fun _ => Iff.rfl); subst e9 e8; have HB9 : Hid (Below w1.heap.size w1 w9) := below_step HB8.out hb; clear h1 h2 hb)
    | (go_at_call 15; refine (HKE.out w9 u (Classical.choose HLB.out) w.heap.size (below_step HB1.out HB9.out) ((Classical.choose_spec HLB.out).2.later HB9.out) (Classical.choose_spec HLB.out).1).mono ?_; rintro e w10 ⟨rfl, hb⟩; have HB10 : Hid (Below w1.heap.size w1 w10) := below_step HB9.out hb; clear hb)
    | (go_at_call 16; refine (first3_any w10).mono ?_; rintro e w11 ⟨rfl, hb⟩; have HB11 : Hid (Below w1.heap.size w1 w11) := below_step HB10.out hb; clear hb))
  go_ret
  exact ⟨rfl, below_step HB1.out HB11.out⟩
end Go.Proofs.YtdfgijdededolabGreatDoor
/-
  Arguments opened: a list of terms, an atom.
-/
namespace Go.Proofs.YtdfgijdededolabGreatDoor
open Go.ChangeShapes Go.WideShapes Go.ChangeAt Go.RowKit Go.Joins Go.Deep

theorem Tryz.cellsAtom : Tryz.prog.cellsOf 37 = 5 := by kernel_rfl
theorem Tryz.cellsInt : Tryz.prog.cellsOf 3 = 1 := by kernel_rfl
theorem Tryz.cellsString : Tryz.prog.cellsOf 9 = 1 := by kernel_rfl
theorem Tryz.cellsTerms : Tryz.prog.cellsOf 24 = 1 := by kernel_rfl
theorem Tryz.bytesTerm : Tryz.prog.bytesOf 35 = 32 := by kernel_rfl
theorem list3 {α : Type} {l : List α} (h : l.length = 3) : ∃ a b c, l = [a, b, c] := by
  match l, h with
  | [a, b, c], _ => exact ⟨a, b, c, rfl⟩
theorem list5 {α : Type} {l : List α} (h : l.length = 5) : ∃ a b c d e, l = [a, b, c, d, e] := by
  match l, h with
  | [a, b, c, d, e], _ => exact ⟨a, b, c, d, e, rfl⟩
theorem term_of_cells {H : Type} {enc : TypeId × Value → H} {W : World} {base : Nat} {spare : Nat → Bool} {held : Bool} {fuel : Nat} {cs : List Value} {x : DataW H × List MemPlace}
    (h : DataW.trod enc Tryz.prog W base spare held fuel 35 cs = some x) (hl : cs.length = 3) : ∃ t : Tm, cs = [.int .i64 t.k, .int .i64 t.n, .string t.s] ∧ t.s.size ≤ maxLen := by
  obtain ⟨c0, c1, c2, rfl⟩ := list3 hl
  obtain ⟨y0, y1, y2, n, -, -, h0, h1, h2⟩ := trod_struct3 Tryz.underlying35 h
  rw [Tryz.cellsInt] at h0 h1
  rw [Tryz.cellsString] at h2
  obtain ⟨k, e0, -, -⟩ := DataW.trod_int Tryz.underlying3 h0
  obtain ⟨m, e1, -, -⟩ := DataW.trod_int Tryz.underlying3 h1
  obtain ⟨s, e2, -, hs⟩ := DataW.trod_string Tryz.underlying9 h2
  simp at e0 e1 e2
  subst e0 e1 e2
  exact ⟨⟨k, m, s⟩, rfl, hs⟩
theorem open_terms {H : Type} {enc : TypeId × Value → H} {W : World} {base : Nat} {spare : Nat → Bool} {held : Bool} {fuel : Nat} {cs : List Value} {x : DataW H × List MemPlace}
    (h : DataW.trod enc Tryz.prog W base spare held fuel 24 cs = some x) (hw : ∀ n ∈ x.1.weights Tryz.prog 24, n ≤ reachBytes) : ∃ v l, cs = [v] ∧ Ts W v l := by
  rcases open_slice Tryz.underlying24 h with ⟨rfl, -⟩ | ⟨a, len, cap, m, n, D, Pl, rfl, hba, hlc, hcm, hm, hx, hel⟩
  · exact ⟨_, [], rfl, none, 0, rfl, by simp, Or.inl rfl⟩
  · have hlen : len < 1000000000000000000 := by
      have := hw ((((List.range len).map D).length + ((List.range (m - len)).map fun j => D (len + j)).length) * Tryz.prog.bytesOf 35) (by rw [hx]; simp [DataW.weights, Tryz.underlying24])
      rw [Tryz.bytesTerm] at this
      simp only [List.length_map, List.length_range, reachBytes] at this
      omega
    rw [Tryz.cellsTerm] at hel
    have hlm : len ≤ m := by rw [hm]; split <;> omega
    have key : ∀ i : Nat, ∃ t : Tm, i < len → W.cell? (a.add (i * 3)) = some (.int .i64 t.k) ∧ W.cell? ((a.add (i * 3)).add 1) = some (.int .i64 t.n) ∧ W.cell? ((a.add (i * 3)).add 2) = some (.string t.s) := fun i => by
      by_cases hi : i < len
      · obtain ⟨cs', h1, h2⟩ := hel i (by omega)
        obtain ⟨-, hl, hc⟩ := World.cells?_some h1
        obtain ⟨t, rfl, -⟩ := term_of_cells h2 hl
        exact ⟨t, fun _ => ⟨hc 0 (by omega), hc 1 (by omega), hc 2 (by omega)⟩⟩
      · exact ⟨zt, fun h => absurd h hi⟩
    obtain ⟨f, hf⟩ := Classical.axiomOfChoice key
    refine ⟨_, (List.range len).map f, rfl, some a, cap, by simp, by simpa using hlen, ?_⟩
    rcases Nat.eq_zero_or_pos len with h0 | h0
    · left; subst h0; rfl
    · right
      obtain ⟨b, off, spot⟩ := a
      have hspot : spot = none := by simpa [Addr.add] using World.cell?_spot (hf 0 h0).1
      subst hspot
      refine ⟨b, off, rfl, ?_, fun i t ht => ?_⟩
      · exact World.block_lt_of_cell? W _ (by have := (hf 0 h0).1; simpa [Addr.add] using this)
      · have hi : i < len := by have := (List.getElem?_eq_some_iff.1 ht).1; simpa using this
        have e : t = f i := by
          rw [List.getElem?_map, List.getElem?_range hi] at ht; simpa using ht.symm
        subst e
        have := hf i hi
        rw [add_plain, add_plain, add_plain] at this
        exact this
set_option maxRecDepth 100000 in
theorem open_atom {H : Type} {enc : TypeId × Value → H} {W : World} {r : Reach} {b0 base : Nat} {spare : Nat → Bool} {held : Bool} {v : Value} {d : DataW H} {p : List MemPlace}
    (hv : Value.okWide Tryz.prog W r b0 37 v) (h : DataW.Trod enc Tryz.prog W base spare held 37 v d p) (hw : ∀ n ∈ d.weights Tryz.prog 37, n ≤ reachBytes) : ∃ (a : At) (x : Value), v = a.v x ∧ Ts W x a.args ∧ a.by_.s.size ≤ maxLen ∧ a.name.size ≤ maxLen := by
  obtain ⟨cs, rfl, hsz⟩ := okWide_struct Tryz.underlying37 hv
  rw [Tryz.cellsAtom] at hsz
  obtain ⟨fuel, hf⟩ := h
  obtain ⟨l⟩ := cs
  obtain ⟨c0, c1, c2, c3, c4, rfl⟩ := list5 (by simpa using hsz)
  obtain ⟨y0, y1, y2, n, hd, -, h0, h1, h2⟩ := trod_struct3 Tryz.underlying37 hf
  rw [Tryz.cellsTerm] at h0
  rw [Tryz.cellsString] at h1
  rw [Tryz.cellsTerms] at h2
  obtain ⟨t, e0, ht⟩ := term_of_cells h0 (by simp [Value.cells])
  obtain ⟨s, e1, -, hs⟩ := DataW.trod_string Tryz.underlying9 h1
  obtain ⟨x, l, e2, hx⟩ := open_terms h2 (fun m hm => by
    simp only [Prod.mk.injEq] at hd
    refine hw m ?_
    rw [hd.1, DataW.weights, Tryz.underlying37]
    exact DataW.weights_mem_each (j := 2) rfl rfl m hm)
  simp [Value.cells] at e0 e1 e2
  obtain ⟨rfl, rfl, rfl⟩ := e0
  subst e1 e2
  exact ⟨⟨t, s, l⟩, c4, rfl, hx, ht, hs⟩
end Go.Proofs.YtdfgijdededolabGreatDoor
/-
  Arguments opened: a clause.
-/
namespace Go.Proofs.YtdfgijdededolabGreatDoor
open Go.ChangeShapes Go.WideShapes Go.ChangeAt Go.RowKit Go.Joins Go.Deep

theorem weights_mem_all {H : Type} {P : Program} {e : TypeId} {d : DataW H} {n : Nat} (hn : n ∈ d.weights P e) : ∀ {ds : List (DataW H)}, d ∈ ds → n ∈ DataW.weightsAll P e ds
  | x :: r, h => by
    rw [DataW.weightsAll, List.mem_append]
    rcases List.mem_cons.1 h with rfl | h
    · exact Or.inl hn
    · exact Or.inr (weights_mem_all hn h)
theorem Tryz.cellsTest3 : Tryz.prog.cellsOf 88 = 7 := by kernel_rfl
theorem Tryz.cellsClause : Tryz.prog.cellsOf 41 = 7 := by kernel_rfl
theorem Tryz.cellsAtoms : Tryz.prog.cellsOf 38 = 1 := by kernel_rfl
theorem Tryz.cellsTests : Tryz.prog.cellsOf 39 = 1 := by kernel_rfl
theorem Tryz.bytesAtom : Tryz.prog.bytesOf 37 = 72 := by kernel_rfl
theorem Tryz.bytesTest : Tryz.prog.bytesOf 88 = 72 := by kernel_rfl
theorem clist7 {α : Type} {l : List α} (h : l.length = 7) : ∃ a b c d e f g, l = [a, b, c, d, e, f, g] := by
  match l, h with
  | [a, b, c, d, e, f, g], _ => exact ⟨a, b, c, d, e, f, g, rfl⟩
set_option maxRecDepth 100000 in
theorem atom_of_cells {H : Type} {enc : TypeId × Value → H} {W : World} {base : Nat} {spare : Nat → Bool} {held : Bool} {fuel : Nat} {cs : List Value} {x : DataW H × List MemPlace}
    (hf : DataW.trod enc Tryz.prog W base spare held fuel 37 cs = some x) (hl : cs.length = 5) (hw : ∀ n ∈ x.1.weights Tryz.prog 37, n ≤ reachBytes) : ∃ a : At × Value, cs = [.int .i64 a.1.by_.k, .int .i64 a.1.by_.n, .string a.1.by_.s, .string a.1.name, a.2] ∧ Ts W a.2 a.1.args := by
  obtain ⟨c0, c1, c2, c3, c4, rfl⟩ := list5 hl
  obtain ⟨y0, y1, y2, n, hd, -, h0, h1, h2⟩ := trod_struct3 Tryz.underlying37 hf
  rw [Tryz.cellsTerm] at h0
  rw [Tryz.cellsString] at h1
  rw [Tryz.cellsTerms] at h2
  obtain ⟨t, e0, ht⟩ := term_of_cells h0 (by simp)
  obtain ⟨s, e1, -, hs⟩ := DataW.trod_string Tryz.underlying9 h1
  obtain ⟨v, l, e2, hx⟩ := open_terms h2 (fun m hm => by
    refine hw m ?_
    rw [hd, DataW.weights, Tryz.underlying37]
    exact DataW.weights_mem_each (j := 2) rfl rfl m hm)
  simp at e0 e1 e2
  obtain ⟨rfl, rfl, rfl⟩ := e0
  subst e1 e2
  exact ⟨(⟨t, s, l⟩, c4), rfl, hx⟩
set_option maxRecDepth 100000 in
theorem test_of_cells {H : Type} {enc : TypeId × Value → H} {W : World} {base : Nat} {spare : Nat → Bool} {held : Bool} {fuel : Nat} {cs : List Value} {x : DataW H × List MemPlace}
    (hf : DataW.trod enc Tryz.prog W base spare held fuel 88 cs = some x) (hl : cs.length = 7) : ∃ t : Te, cs = [.int .i64 t.op, .int .i64 t.l.k, .int .i64 t.l.n, .string t.l.s, .int .i64 t.r.k, .int .i64 t.r.n, .string t.r.s] := by
  obtain ⟨c0, c1, c2, c3, c4, c5, c6, rfl⟩ := clist7 hl
  obtain ⟨y0, y1, y2, n, -, -, h0, h1, h2⟩ := trod_struct3 Tryz.underlying88 hf
  rw [Tryz.cellsInt] at h0
  rw [Tryz.cellsTerm] at h1 h2
  obtain ⟨k, e0, -, -⟩ := DataW.trod_int Tryz.underlying3 h0
  obtain ⟨t, e1, -⟩ := term_of_cells h1 (by simp)
  obtain ⟨u, e2, -⟩ := term_of_cells h2 (by simp)
  simp at e0 e1 e2
  subst e0
  obtain ⟨rfl, rfl, rfl⟩ := e1
  obtain ⟨rfl, rfl, rfl⟩ := e2
  exact ⟨⟨k, t, u⟩, rfl⟩
set_option maxRecDepth 100000 in
theorem open_atoms {H : Type} {enc : TypeId × Value → H} {W : World} {base : Nat} {spare : Nat → Bool} {held : Bool} {fuel : Nat} {cs : List Value} {x : DataW H × List MemPlace}
    (h : DataW.trod enc Tryz.prog W base spare held fuel 38 cs = some x) (hw : ∀ n ∈ x.1.weights Tryz.prog 38, n ≤ reachBytes) : ∃ v l, cs = [v] ∧ As W v l := by
  rcases open_slice Tryz.underlying38 h with ⟨rfl, -⟩ | ⟨a, len, cap, m, n, D, Pl, rfl, hba, hlc, hcm, hm, hx, hel⟩
  · exact ⟨_, [], rfl, none, 0, rfl, by simp, Or.inl rfl, fun x hx => by cases hx⟩
  · have hlen : len < 1000000000000000000 := by
      have := hw ((((List.range len).map D).length + ((List.range (m - len)).map fun j => D (len + j)).length) * Tryz.prog.bytesOf 37) (by rw [hx]; simp [DataW.weights, Tryz.underlying38])
      rw [Tryz.bytesAtom] at this
      simp only [List.length_map, List.length_range, reachBytes] at this
      omega
    rw [Tryz.cellsAtom] at hel
    have hlm : len ≤ m := by rw [hm]; split <;> omega
    have key : ∀ i : Nat, ∃ t : At × Value, i < len → (W.cell? (a.add (i * 5)) = some (.int .i64 t.1.by_.k) ∧ W.cell? ((a.add (i * 5)).add 1) = some (.int .i64 t.1.by_.n) ∧ W.cell? ((a.add (i * 5)).add 2) = some (.string t.1.by_.s) ∧ W.cell? ((a.add (i * 5)).add 3) = some (.string t.1.name) ∧ W.cell? ((a.add (i * 5)).add 4) = some t.2) ∧ Ts W t.2 t.1.args := fun i => by
      by_cases hi : i < len
      · obtain ⟨cs', h1, h2⟩ := hel i (by omega)
        obtain ⟨-, hl, hc⟩ := World.cells?_some h1
        obtain ⟨t, rfl, hts⟩ := atom_of_cells h2 hl (fun n hn => hw n (by
          rw [hx, DataW.weights, Tryz.underlying38]
          exact List.mem_cons_of_mem _ (List.mem_append.2 (Or.inl (weights_mem_all hn (List.mem_map.2 ⟨i, List.mem_range.2 hi, rfl⟩))))))
        exact ⟨t, fun _ => ⟨⟨hc 0 (by omega), hc 1 (by omega), hc 2 (by omega), hc 3 (by omega), hc 4 (by omega)⟩, hts⟩⟩
      · exact ⟨(⟨zt, ⟨#[]⟩, []⟩, .slice none 0 0), fun h => absurd h hi⟩
    obtain ⟨f, hf⟩ := Classical.axiomOfChoice key
    refine ⟨_, (List.range len).map f, rfl, some a, cap, by simp, by simpa using hlen, ?_, fun x hx => ?_⟩
    · rcases Nat.eq_zero_or_pos len with h0 | h0
      · left; subst h0; rfl
      · right
        obtain ⟨b, off, spot⟩ := a
        have hspot : spot = none := by simpa [Addr.add] using World.cell?_spot (hf 0 h0).1.1
        subst hspot
        refine ⟨b, off, rfl, ?_, fun i t ht => ?_⟩
        · exact World.block_lt_of_cell? W _ (by have := (hf 0 h0).1.1; simpa [Addr.add] using this)
        · have hi : i < len := by have := (List.getElem?_eq_some_iff.1 ht).1; simpa using this
          have e : t = f i := by
            rw [List.getElem?_map, List.getElem?_range hi] at ht; simpa using ht.symm
          subst e
          have := (hf i hi).1
          rw [add_plain, add_plain, add_plain, add_plain, add_plain] at this
          exact this
    · obtain ⟨i, hi, rfl⟩ := List.mem_map.1 hx
      exact (hf i (List.mem_range.1 hi)).2
set_option maxRecDepth 100000 in
theorem open_tests {H : Type} {enc : TypeId × Value → H} {W : World} {base : Nat} {spare : Nat → Bool} {held : Bool} {fuel : Nat} {cs : List Value} {x : DataW H × List MemPlace}
    (h : DataW.trod enc Tryz.prog W base spare held fuel 39 cs = some x) (hw : ∀ n ∈ x.1.weights Tryz.prog 39, n ≤ reachBytes) : ∃ v l, cs = [v] ∧ Es W v l := by
  rcases open_slice Tryz.underlying39 h with ⟨rfl, -⟩ | ⟨a, len, cap, m, n, D, Pl, rfl, hba, hlc, hcm, hm, hx, hel⟩
  · exact ⟨_, [], rfl, none, 0, rfl, by simp, Or.inl rfl⟩
  · have hlen : len < 1000000000000000000 := by
      have := hw ((((List.range len).map D).length + ((List.range (m - len)).map fun j => D (len + j)).length) * Tryz.prog.bytesOf 88) (by rw [hx]; simp [DataW.weights, Tryz.underlying39])
      rw [Tryz.bytesTest] at this
      simp only [List.length_map, List.length_range, reachBytes] at this
      omega
    rw [Tryz.cellsTest3] at hel
    have hlm : len ≤ m := by rw [hm]; split <;> omega
    have key : ∀ i : Nat, ∃ t : Te, i < len → W.cell? (a.add (i * 7)) = some (.int .i64 t.op) ∧ W.cell? ((a.add (i * 7)).add 1) = some (.int .i64 t.l.k) ∧ W.cell? ((a.add (i * 7)).add 2) = some (.int .i64 t.l.n) ∧ W.cell? ((a.add (i * 7)).add 3) = some (.string t.l.s) ∧ W.cell? ((a.add (i * 7)).add 4) = some (.int .i64 t.r.k) ∧ W.cell? ((a.add (i * 7)).add 5) = some (.int .i64 t.r.n) ∧ W.cell? ((a.add (i * 7)).add 6) = some (.string t.r.s) := fun i => by
      by_cases hi : i < len
      · obtain ⟨cs', h1, h2⟩ := hel i (by omega)
        obtain ⟨-, hl, hc⟩ := World.cells?_some h1
        obtain ⟨t, rfl⟩ := test_of_cells h2 hl
        exact ⟨t, fun _ => ⟨hc 0 (by omega), hc 1 (by omega), hc 2 (by omega), hc 3 (by omega), hc 4 (by omega), hc 5 (by omega), hc 6 (by omega)⟩⟩
      · exact ⟨⟨0, zt, zt⟩, fun h => absurd h hi⟩
    obtain ⟨f, hf⟩ := Classical.axiomOfChoice key
    refine ⟨_, (List.range len).map f, rfl, some a, cap, by simp, by simpa using hlen, ?_⟩
    rcases Nat.eq_zero_or_pos len with h0 | h0
    · left; subst h0; rfl
    · right
      obtain ⟨b, off, spot⟩ := a
      have hspot : spot = none := by simpa [Addr.add] using World.cell?_spot (hf 0 h0).1
      subst hspot
      refine ⟨b, off, rfl, ?_, fun i t ht => ?_⟩
      · exact World.block_lt_of_cell? W _ (by have := (hf 0 h0).1; simpa [Addr.add] using this)
      · have hi : i < len := by have := (List.getElem?_eq_some_iff.1 ht).1; simpa using this
        have e : t = f i := by
          rw [List.getElem?_map, List.getElem?_range hi] at ht; simpa using ht.symm
        subst e
        have := hf i hi
        rw [add_plain, add_plain, add_plain, add_plain, add_plain, add_plain, add_plain] at this
        exact this
set_option maxRecDepth 100000 in
theorem open_clause {H : Type} {enc : TypeId × Value → H} {W : World} {r : Reach} {b0 base : Nat} {spare : Nat → Bool} {held : Bool} {v : Value} {d : DataW H} {p : List MemPlace}
    (hv : Value.okWide Tryz.prog W r b0 41 v) (h : DataW.Trod enc Tryz.prog W base spare held 41 v d p) (hw : ∀ n ∈ d.weights Tryz.prog 41, n ≤ reachBytes) : ∃ c : Cm, v = c.v ∧ c.ok W := by
  obtain ⟨cs, rfl, hsz⟩ := okWide_struct Tryz.underlying41 hv
  rw [Tryz.cellsClause] at hsz
  obtain ⟨fuel, hf⟩ := h
  obtain ⟨l⟩ := cs
  obtain ⟨c0, c1, c2, c3, c4, c5, c6, rfl⟩ := clist7 (by simpa using hsz)
  obtain ⟨y0, y1, y2, n, hd, -, h0, h1, h2⟩ := trod_struct3 Tryz.underlying41 hf
  simp only [Prod.mk.injEq] at hd
  have hd := hd.1
  subst hd
  rw [Tryz.cellsAtom] at h0
  rw [Tryz.cellsAtoms] at h1
  rw [Tryz.cellsTests] at h2
  have hwe : ∀ (j : Nat) (t : TypeId) (y : DataW H), [37, 38, 39][j]? = some t → [y0.1, y1.1, y2.1][j]? = some y → ∀ m ∈ y.weights Tryz.prog t, m ≤ reachBytes := fun j t y ht hy m hm => by
    refine hw m ?_
    rw [DataW.weights, Tryz.underlying41]
    exact DataW.weights_mem_each (j := j) ht hy m hm
  obtain ⟨x, e0, hx⟩ := atom_of_cells h0 (by simp [Value.cells]) (hwe 0 _ _ rfl rfl)
  obtain ⟨vb, lb, e1, hb⟩ := open_atoms h1 (hwe 1 _ _ rfl rfl)
  obtain ⟨vt, lt, e2, ht⟩ := open_tests h2 (hwe 2 _ _ rfl rfl)
  simp [Value.cells] at e0 e1 e2
  obtain ⟨rfl, rfl, rfl, rfl, rfl⟩ := e0
  subst e1 e2
  exact ⟨⟨x, lb, _, lt, _⟩, rfl, hx, hb, ht⟩
end Go.Proofs.YtdfgijdededolabGreatDoor
