import Derived.Test.YtdfgijdededolabGreatDoorCN6
import Derived.Maps.RangeWalk
import Derived.Test.YtdfgijdededolabGreatDoorCL7
import Derived.Test.YtdfgijdededolabGreatDoorShelf2
/-
  sortedKeys: the keys of a set of predicates, in order. (Written by CN8.py.)
-/
namespace Go.Proofs.YtdfgijdededolabGreatDoor
open Go.RowKit Go.Maps

def svPk (l : List Pd) : DataW Unit := Maps.setOf (.agg []) (l.map kP)
theorem svPk_snoc (l : List Pd) (x : Pd) : svPk (l ++ [x]) = (svPk l).put (kP x) (.agg []) := by
  unfold svPk; rw [List.map_append, List.map_cons, List.map_nil, Maps.setOf_snoc]
/-- A map that is the set of l. -/
def SetPk (X : World) (b : Nat) (l : List Pd) : Prop := X.ownsMap Tryz.prog 61 (unitElem (H := Unit)) b l.length (svPk l)
theorem SetPk.grown {X Y : World} {b : Nat} {l : List Pd} {row : Option Nat} (h : SetPk X b l) (hg : X.grownBy Y row) (hr : some b ≠ row) : SetPk Y b l := h.kept hg hr
theorem SetPk.later {X Y : World} {b : Nat} {l : List Pd} (h : SetPk X b l) (hb : Below X.heap.size X Y) : SetPk Y b l := h.grown (below_grown hb) (by simp)
theorem SetPk.lt {X : World} {b : Nat} {l : List Pd} (h : SetPk X b l) : b < X.heap.size := World.ownsMap.lt h
theorem samePk {t u : Pd} (ht : KeyP t) (hu : KeyP u) : (kP t).sameKey (kP u) = true ↔ t = u := by
  constructor
  · intro h
    refine kP_inj ht hu ?_
    simp only [kP, Lit.sameKey, beq_iff_eq] at h ⊢
    rw [h]
  · rintro rfl; simp [kP, Lit.sameKey]
theorem hasPk {l : List Pd} (hk : ∀ t ∈ l, KeyP t) {t : Pd} (ht : KeyP t) : has (svPk l) (kP t) = true ↔ t ∈ l := by
  unfold svPk
  rw [has_setOf _ _ _ (fun x hx => by obtain ⟨u, -, rfl⟩ := List.mem_map.1 hx; trivial), List.any_eq_true]
  constructor
  · rintro ⟨x, hx, h⟩
    obtain ⟨u, hu, rfl⟩ := List.mem_map.1 hx
    rw [← (samePk (hk u hu) ht).1 h]; exact hu
  · intro h
    exact ⟨_, List.mem_map.2 ⟨t, h, rfl⟩, (samePk ht ht).2 rfl⟩
/-- What has come of the keys so far. -/
structure CollPk (l : List Pd) (left : Lit → Bool) (ss : List Pd) : Prop where
  nd : ss.Nodup
  ok : ∀ t ∈ ss, KeyP t
  mem : ∀ t, KeyP t → (t ∈ ss ↔ t ∈ l ∧ left (kP t) = false)
theorem CollPk.start {l : List Pd} (hk : ∀ t ∈ l, KeyP t) : CollPk l (has (svPk l)) [] :=
  ⟨List.nodup_nil, (fun t h => by cases h), fun t ht => ⟨(fun h => by cases h), fun ⟨h1, h2⟩ => by rw [(hasPk hk ht).2 h1] at h2; cases h2⟩⟩
theorem CollPk.step {l ss : List Pd} {left : Lit → Bool} (h : CollPk l left ss) {x : Pd} (hx : KeyP x) (hm : x ∈ l) (hl : left (kP x) = true) : CollPk l (fun z => left z && !z.sameKey (kP x)) (ss ++ [x]) := by
  have hnew : x ∉ ss := fun hx' => by have := ((h.mem x hx).1 hx').2; rw [hl] at this; cases this
  refine ⟨List.nodup_append.2 ⟨h.nd, by simp, fun a ha b hb => by simp at hb; subst hb; exact fun e => hnew (e ▸ ha)⟩, fun t ht => ?_, fun t ht => ?_⟩
  · rcases List.mem_append.1 ht with ht | ht
    · exact h.ok t ht
    · rw [List.mem_singleton] at ht; subst ht; exact hx
  · by_cases e : t = x
    · subst e
      simp [(samePk ht ht).2 rfl, hm]
    · have : (kP t).sameKey (kP x) = false := by
        cases hs : (kP t).sameKey (kP x) with
        | false => rfl
        | true => exact absurd ((samePk ht hx).1 hs) e
      simp [h.mem t ht, this, e]
theorem CollPk.done {l ss K : List Pd} {left : Lit → Bool} (h : CollPk l left ss) (hk : ∀ t ∈ l, KeyP t) (hl : ∀ kl, left kl = false) (hp : K.Perm ss) (hs : srt5P K) : RiseOf cmpP K l := by
  refine ⟨riseG_of ord_pd hs (hp.nodup_iff.2 h.nd), fun t => ?_⟩
  rw [hp.mem_iff]
  constructor
  · intro ht; exact ((h.mem t (h.ok t ht)).1 ht).1
  · intro ht; exact (h.mem t (hk t ht)).2 ⟨ht, hl _⟩
set_option maxRecDepth 20000 in
set_option maxHeartbeats 4000000 in
theorem sortedPk_any (b : Nat) (l : List Pd) (w : World) (h : SetPk w b l) (hk : ∀ t ∈ l, KeyP t) (hl : l.length ≤ 3000000000000) :
    Calls Tryz.prog 35 #[.map (some b), .func (.func 36) #[] #[]] w fun e w' => ∃ v' K, e = .returned v' ∧ OwnP w' w.heap.size v' K ∧ RiseOf cmpP K l ∧ K.length ≤ l.length ∧ Below w.heap.size w w' := by
  have HK : Hid (∀ t ∈ l, KeyP t) := hk
  have HM : Hid (SetPk w b l) := h
  have hbl := h.lt
  have hsz : Maps.size (svPk l) ≤ l.length := World.ownsMap.size_le h
  clear h hk
  go_enter Tryz.func35, Tryz.ntmps35
  go_wp2_with (at_range; refine wpList_range_own _ rfl _ 71 rfl 61 68 Tryz.lawPred Tryz.underlying71 _ b l.length _ rfl HM.out ?_; intro w0 hrg0 hg0 hs0)
  go_frame
  go_loopw [5] (fun v wr => ∃ (left : Lit → Bool) (cnt : Nat) (ss : List Pd), wr.ranges Tryz.prog 61 (unitElem (H := Unit)) b w.heap.size l.length (svPk l) left cnt ∧ ss.length + cnt ≤ Maps.size (svPk l) ∧ OwnP wr (w.heap.size + 1) v ss ∧ CollPk l left ss ∧ Below w.heap.size w wr)
    (fun _ wr => wr.rangeLeft b w.heap.size)
  case atStart => exact ⟨_, _, [], hrg0, by simp, ownP_nil _ _, CollPk.start HK.out, (Below.refl _ _).grown hg0 (Nat.le_refl _) (fun j hj => by cases hj)⟩
  case round =>
    obtain ⟨left, cnt, ss, hrg, hcs, hrow, hC, hnx⟩ := hrel
    have HRG : Hid (wr.ranges Tryz.prog 61 (unitElem (H := Unit)) b w.heap.size l.length (svPk l) left cnt) := hrg
    have HO : Hid (OwnP wr (w.heap.size + 1) u5 ss) := hrow
    have HC : Hid (CollPk l left ss) := hC
    have HB : Hid (Below w.heap.size w wr) := hnx
    clear hrg hrow hC hnx
    go_wp2_with (at_next; refine wpList_next_ranges _ rfl _ rfl 61 Tryz.lawPred (unitElem (H := Unit)) (fun t : Pd => t.v) (fun _ : Unit => Value.agg #[]) (fun key kl hk => by obtain ⟨x, hx, _⟩ := keyOf_pd_inv hk; exact ⟨x, hx⟩) (fun v y hv => by obtain ⟨rfl, _⟩ := unitElem_inv hv; exact ⟨(), rfl⟩) b w.heap.size l.length _ _ _ rfl HRG.out ?_ ?_)
    · intro hc0 hl0
      have HL0 : Hid (∀ kl, left kl = false) := hl0
      clear hc0 hl0
      go_wp2_with (go_at_call 81; refine (sort5P_any ss u5 (w.heap.size + 1) wr HO.out (by omega)).mono ?_; rintro e w2 ⟨rfl, K, ho2, hp2, hs2, hb2⟩; have HO2 : Hid (OwnP w2 (w.heap.size + 1) u5 K) := ho2; have HP2 : Hid (K.Perm ss) := hp2; have HS2 : Hid (srt5P K) := hs2; have HB2 : Hid (Below (w.heap.size + 1) wr w2) := hb2; clear ho2 hp2 hs2 hb2)
      go_ret
      exact ⟨_, K, rfl, HO2.out.mono (by omega), HC.out.done HK.out HL0.out HP2.out HS2.out, by rw [HP2.out.length_eq]; omega, HB.out.trans (HB2.out.mono (by omega))⟩
    · intro x c kl y w1 cnt1 hkey hlk hv hat hrg1 hlt hg1 hs1 hen
      obtain ⟨x', ex, rfl, hkx⟩ := keyOf_pd_inv hkey
      obtain rfl : x = x' := by cases x; cases x'; simpa using ex
      have hm : x ∈ l := (hasPk HK.out hkx).1 (has_true_of_atKey hat)
      have HC1 : Hid (CollPk l (fun z => left z && !z.sameKey (kP x)) (ss ++ [x])) := HC.out.step hkx hm hlk
      have HR1 : Hid (w1.ranges Tryz.prog 61 (unitElem (H := Unit)) b w.heap.size l.length (svPk l) (fun z => left z && !z.sameKey (kP x)) cnt1) := hrg1
      have HO1 : Hid (OwnP w1 (w.heap.size + 1) u5 ss) := World.ownsRow.kept HO.out hg1 (Or.inr (fun e => by have := HO.out.lt w.heap.size e; omega))
      have HB1 : Hid (Below w.heap.size w w1) := HB.out.grown hg1 HB.out.size (fun j hj => by cases hj; exact Nat.le_refl _)
      have hz1 := hrg1.lt
      have HLT : Hid (cnt1 < cnt) := hlt
      clear hm hkx hat hlk hkey hrg1 hg1 hs1 hv ex HC hlt
      have HG : Hid (PsP ((w1.alloc (.cells #[.string x.nm, .int .i64 x.ar] 61)).alloc (.cells #[.string x.nm, .int .i64 x.ar] 61)) (.slice (some ⟨(w1.alloc (.cells #[.string x.nm, .int .i64 x.ar] 61)).heap.size, 0, none⟩) 1 1) [x]) := PsP.one (CBlk.new _ _ _)
      rw [show (w1.alloc (.cells #[.string x.nm, .int .i64 x.ar] 61)).heap.size = w1.heap.size + 1 by simp] at HG
      have HO3 : Hid (OwnP ((w1.alloc (.cells #[.string x.nm, .int .i64 x.ar] 61)).alloc (.cells #[.string x.nm, .int .i64 x.ar] 61)) (w.heap.size + 1) u5 ss) := HO1.out.later (below2 _ _ _)
      have HB3 : Hid (Below w.heap.size w ((w1.alloc (.cells #[.string x.nm, .int .i64 x.ar] 61)).alloc (.cells #[.string x.nm, .int .i64 x.ar] 61))) := below_step HB1.out (below2 _ _ _)
      have HR3 : Hid (((w1.alloc (.cells #[.string x.nm, .int .i64 x.ar] 61)).alloc (.cells #[.string x.nm, .int .i64 x.ar] 61)).ranges Tryz.prog 61 (unitElem (H := Unit)) b w.heap.size l.length (svPk l) (fun z => left z && !z.sameKey (kP x)) cnt1) := (HR1.out.alloc _).alloc _
      have hz3 : w.heap.size + 1 ≤ ((w1.alloc (.cells #[.string x.nm, .int .i64 x.ar] 61)).alloc (.cells #[.string x.nm, .int .i64 x.ar] 61)).heap.size := by simp; omega
      clear HO1 HB1 HR1
      obtain ⟨xn, xa⟩ := x
      simp only at HG HO3 HB3 HR3 hz3 hen
      go_wp2_with (at_builtin; refine app_preds rfl _ _ rfl (w.heap.size + 1) u5 ss (by rfl) HO3.out _ [⟨xn, xa⟩] (by rfl) HG.out (by simp only [List.length_singleton]; omega) hz3 ?_; intro v4 w4 hown hb4 hg4; have HO4 : Hid (OwnP w4 (w.heap.size + 1) v4 (ss ++ [⟨xn, xa⟩])) := hown; have HB4 : Hid (Below w.heap.size w w4) := HB3.out.trans (hb4.mono (by omega)); have HR4 : Hid (w4.ranges Tryz.prog 61 (unitElem (H := Unit)) b w.heap.size l.length (svPk l) (fun z => left z && !z.sameKey (kP ⟨xn, xa⟩)) cnt1) := HR3.out.kept hg4 (fun e => by have := HO.out.lt b e.symm; omega) (fun e => by have := HO.out.lt w.heap.size e.symm; omega); clear hown hb4 hg4 HO3 HB3 HR3 HG)
      go_roundw
      case rel => exact ⟨_, cnt1, _, HR4.out, by have := HLT.out; simp only [List.length_append, List.length_singleton]; omega, HO4.out, HC1.out, HB4.out⟩
      case measure => rw [HR4.out.left_eq, HRG.out.left_eq]; exact HLT.out
end Go.Proofs.YtdfgijdededolabGreatDoor
/-
  Marks: ranges over functions that are behind a loop's round.
-/
namespace Go.Proofs.YtdfgijdededolabGreatDoor
open Go.RowKit Go.Shelf

def mks (Es : List Nat) : List Deferred := Es.map fun E => { target := .collected E, args := #[] }
/-- The marks that a function has laid: each in a block of its own, with no call in it. -/
structure Marks (B : Nat) (X : World) (Es : List Nat) : Prop where
  lo : ∀ E ∈ Es, B ≤ E
  nd : Es.Nodup
  bl : ∀ E ∈ Es, X.heap[E]? = some (.deferred (some []))
theorem Marks.nil (B : Nat) (X : World) : Marks B X [] := ⟨(fun _ h => by cases h), List.nodup_nil, (fun _ h => by cases h)⟩
theorem Marks.lt {B : Nat} {X : World} {Es : List Nat} (h : Marks B X Es) : ∀ E ∈ Es, E < X.heap.size := fun E hE => (Array.getElem?_eq_some_iff.1 (h.bl E hE)).1
theorem Marks.grown {B : Nat} {X Y : World} {Es : List Nat} {row : Option Nat} (h : Marks B X Es) (hg : X.grownBy Y row) (hr : ∀ E ∈ Es, some E ≠ row) : Marks B Y Es :=
  ⟨h.lo, h.nd, fun E hE => (hg.block _ (h.lt E hE) (fun e => hr E hE e)).trans (h.bl E hE)⟩
theorem Marks.later {B : Nat} {X Y : World} {Es : List Nat} (h : Marks B X Es) (hb : Below X.heap.size X Y) : Marks B Y Es := h.grown (below_grown hb) (fun _ _ => by simp)
theorem Marks.cons {B E : Nat} {X : World} {Es : List Nat} (h : Marks B X Es) (hlo : B ≤ E) (hn : E ∉ Es) (hE : X.heap[E]? = some (.deferred (some []))) : Marks B X (E :: Es) :=
  ⟨fun e he => by rcases List.mem_cons.1 he with rfl | he; exact hlo; exact h.lo e he, List.nodup_cons.2 ⟨hn, h.nd⟩, fun e he => by rcases List.mem_cons.1 he with rfl | he; exact hE; exact h.bl e he⟩
theorem marks_own (K B : Nat) (Es : List Nat) (hK : ∀ E ∈ Es, E < K) {α : Type} : OwnFrom K (fun (_ : α) X => Marks B X Es) := fun _ _ _ _ hs hg hr => hs.grown hg (fun E hE e => by have := (hr E e.symm).1; have := hK E hE; omega)
theorem leaves_marks {F : Fence} {n : Nat} {P : Program} {fn : Func} {tmps : Array Value} {R : Ending → World → Prop} {B : Nat} (G : World → Prop)
    (hG : ∀ X E, G X → B ≤ E → X.heap[E]? = some (.deferred (some [])) → G (X.putObj E (.deferred none)))
    (hR : ∀ X, G X → LeavesIn F n P fn tmps R [] .returning X) : ∀ (Es : List Nat) (X : World), Marks B X Es → G X → LeavesInM F n P fn tmps R (mks Es) .returning X
  | [], X, _, h => hR X h
  | E :: Es, X, hm, h => by
    have hE := hm.bl E (List.mem_cons_self ..)
    refine ⟨by simp, .inl ⟨E, _, rfl, run_takeDeferred hE, ?_⟩⟩
    refine leaves_marks G hG hR Es _ ?_ (hG X E h (hm.lo E (List.mem_cons_self ..)) hE)
    have hnd := List.nodup_cons.1 hm.nd
    have hm' : Marks B X Es := ⟨fun e he => hm.lo e (List.mem_cons_of_mem _ he), hnd.2, fun e he => hm.bl e (List.mem_cons_of_mem _ he)⟩
    exact hm'.grown (grownBy_putObj' _ E _) (fun e he h => by cases h; exact hnd.1 he)
end Go.Proofs.YtdfgijdededolabGreatDoor
/-
  clause.Set. (Written by SD4.py.)
-/
namespace Go.Proofs.YtdfgijdededolabGreatDoor
open Go.RowKit

theorem capp_one {ops : Array Oper} {rest : List Oper} {o : Oper} {a : Act} {Q : Exit → Act → World → Prop} {w : World} (hgd : o.guard = none) (s x : Operand)
    (ho : o.op = .call { callee := .builtin .append, args := #[s, x], argTypes := #[22, 22] }) (base : Nat) (v : Value) (l : List Cm) (hs : a.eval s = v) (hown : OwnC w base v l)
    (b : Nat) (y : Cm) (hx : a.eval x = .slice (some ⟨b, 0, none⟩) 1 1) (hblk : CBlk w b y.cs 41) {W : World} (h1c : y.ok W) (hlen : l.length ≤ 1000000000000) (hbase : base ≤ w.heap.size)
    (h : ∀ v' w', OwnC w' base v' (l ++ [y]) → Below base w w' → w.grownBy w' v.ownBlock → (∀ k, v'.ownBlock = some k → v.ownBlock = some k ∨ w.heap.size ≤ k) → wpList Tryz.prog ops Q rest (a.put o.dst v') w') : wpList Tryz.prog ops Q (o :: rest) a w := by
  obtain ⟨i0, hi0, hz0, hz1, hz2⟩ := info_parts Tryz.infoClause
  refine wpList_append_lies _ hgd s x 22 ho base 41 i0 _ 7 120 Tryz.underlying22 hi0 hz0 hz1 hz2 rfl (by omega) v l.length (ccs l) hs hown ⟨b, 0, none⟩ 1 1 (ccs [y]) hx (by rw [ccs_len]; rfl) ?_ (fun u hu => by obtain ⟨z, hz, hu⟩ := List.mem_flatMap.1 hu; rw [List.mem_singleton] at hz; subst hz; exact csl_one h1c u hu) (by omega) (by unfold maxLen; omega) (by omega) hbase _ rfl ?_
  · intro j u hj
    have := World.news_of_block (cs := y.cs) (t := 41) (fr := (0, 0)) hblk j u
    exact this (by simpa [ccs, Cm.csl] using hj)
  · intro g cap w' h1 h2 h3 h4
    refine h _ w' ?_ (grown_below3 h2 (fun k hk => (World.ownsRow.lt hown k hk).1) hbase) h2 (fun k hk => by cases hk; exact h3.imp id (fun e => Nat.le_of_eq e.symm))
    unfold OwnC
    rw [List.length_append, ccs_app]
    exact h1
theorem OwnC.mono {w : World} {b b' : Nat} {v : Value} {l : List Cm} (h : OwnC w b v l) (hb : b' ≤ b) : OwnC w b' v l := by
  refine ⟨h.1, ?_⟩
  rcases h.2 with hn | ⟨g, cap, cur, hv, hbb, hg, rest⟩
  · exact Or.inl hn
  · exact Or.inr ⟨g, cap, cur, hv, Nat.le_trans hb hbb, hg, rest⟩
theorem OwnC.adr {w : World} {base n cap j : Nat} {a : Option Addr} {l : List Cm} {c : Cm} (h : OwnC w base (.slice a n cap) l) (hc : l[j]? = some c) : ∃ b o, a = some ⟨b, o, none⟩ ∧ CRow w b o l := by
  rcases h.2 with ⟨-, hn⟩ | ⟨g', cap', cur, hv, hb, hg, hn, hcc, hs, ht⟩
  · have := (List.getElem?_eq_some_iff.1 hc).1; omega
  · simp only [Value.slice.injEq] at hv
    obtain ⟨rfl, -, rfl⟩ := hv
    refine ⟨g', 0, rfl, (Array.getElem?_eq_some_iff.1 hg).1, fun i d hd k u hu => ?_⟩
    have hk : k < 7 := by have := (List.getElem?_eq_some_iff.1 hu).1; simpa [Cm.csl] using this
    have hi := (List.getElem?_eq_some_iff.1 hd).1
    have h1 : (cur.toList.take (l.length * 7))[i * 7 + k]? = (ccs l)[i * 7 + k]? := by rw [ht]
    rw [List.getElem?_take_of_lt (by omega), ccs_get l i d hd k hk, hu] at h1
    rw [Nat.zero_add, cell_of_row _ _ _ _ _ _ hg]
    simpa using h1
theorem CRow.seven {w : World} {b o j : Nat} {l : List Cm} {c : Cm} (h : CRow w b o l) (hc : l[j]? = some c) :
    w.cell? ⟨b, o + j * 7, none⟩ = some (.int .i64 c.head.1.by_.k) ∧ w.cell? ⟨b, o + j * 7 + 1, none⟩ = some (.int .i64 c.head.1.by_.n) ∧ w.cell? ⟨b, o + j * 7 + 2, none⟩ = some (.string c.head.1.by_.s) ∧ w.cell? ⟨b, o + j * 7 + 3, none⟩ = some (.string c.head.1.name) ∧
      w.cell? ⟨b, o + j * 7 + 4, none⟩ = some c.head.2 ∧ w.cell? ⟨b, o + j * 7 + 5, none⟩ = some c.bv ∧ w.cell? ⟨b, o + j * 7 + 6, none⟩ = some c.tv :=
  ⟨h.2 j c hc 0 _ rfl, h.2 j c hc 1 _ rfl, h.2 j c hc 2 _ rfl, h.2 j c hc 3 _ rfl, h.2 j c hc 4 _ rfl, h.2 j c hc 5 _ rfl, h.2 j c hc 6 _ rfl⟩
theorem CsP.form {w : World} {v : Value} {l : List Cm} (h : CsP w v l) : ∃ a cap, v = .slice a l.length cap := by
  rcases h.m with ⟨rfl, rfl⟩ | ⟨ad, cap, rfl, -⟩
  · exact ⟨none, 0, rfl⟩
  · exact ⟨_, cap, rfl⟩
/-- A clause that lies from block B on. -/
def KpC (B : Nat) (X : World) (d : Cm) : Prop := ∀ Y : World, X.heap.size ≤ Y.heap.size → (∀ b, B ≤ b → b < X.heap.size → Y.heap[b]? = X.heap[b]?) → d.ok Y
theorem KpC.ok {B : Nat} {X : World} {d : Cm} (h : KpC B X d) : d.ok X := h X (Nat.le_refl _) fun _ _ _ => rfl
theorem KpC.gr {B : Nat} {X Y : World} {d : Cm} {o : Obj} {row : Option Nat} (h : KpC B X d) (hr : ∀ k, row = some k → k < B) (hg : (X.alloc o).grownBy Y row) : d.ok Y :=
  h Y (by have := hg.size; rw [show (X.alloc o).heap.size = X.heap.size + 1 by simp] at this; omega) fun b h1 h2 => by
    have := hg.block b (by rw [show (X.alloc o).heap.size = X.heap.size + 1 by simp]; omega) (fun e => by have := hr b e.symm; omega)
    rw [this, heap_alloc_old _ _ h2]
/-- A list of clauses that the call makes; they stay wherever the blocks but the list's own stay. -/
structure OutC (B : Nat) (X : World) (v : Value) (l : List Cm) : Prop where
  o : OwnC X B v l
  s : ∀ c ∈ l, ∀ Y : World, X.grownBy Y v.ownBlock → c.ok Y
theorem OutC.nil (B : Nat) (X : World) : OutC B X (.slice none 0 0) [] := ⟨OwnC.nil _ _, fun c hc => by cases hc⟩
theorem grown_of {X Y : World} (h : Below X.heap.size X Y) (row : Option Nat) : X.grownBy Y row := ⟨h.os, h.tape, h.output, h.size, fun k hk _ => h.block k hk⟩
theorem OutC.later {B : Nat} {X X' : World} {v : Value} {l : List Cm} (h : OutC B X v l) (hb : Below X.heap.size X X') : OutC B X' v l :=
  ⟨h.o.later hb, fun c hc Y hY => h.s c hc Y ((grown_of hb _).trans hY)⟩
theorem OutC.mono {B B' : Nat} {X : World} {v : Value} {l : List Cm} (h : OutC B X v l) (hb : B' ≤ B) : OutC B' X v l := ⟨h.o.mono hb, h.s⟩
theorem OutC.add {B : Nat} {X X' : World} {v v' : Value} {l : List Cm} {d : Cm} (H : OutC B X v l) (hd : ∀ Y, X.grownBy Y v.ownBlock → d.ok Y) (hown : OwnC X' B v' (l ++ [d])) (hg : X.grownBy X' v.ownBlock)
    (ha : ∀ k, v'.ownBlock = some k → v.ownBlock = some k ∨ X.heap.size ≤ k) : OutC B X' v' (l ++ [d]) :=
  ⟨hown, fun c hc Y hY => by
    have hG : X.grownBy Y v.ownBlock := hg.andThen hY fun k hk => (ha k hk).symm
    rcases List.mem_append.1 hc with hc | hc
    · exact H.s c hc Y hG
    · rw [List.mem_singleton] at hc; subst hc; exact hd Y hG⟩
theorem OutC.csp {B : Nat} {X : World} {v : Value} {l : List Cm} (h : OutC B X v l) : CsP X v l := by
  refine ⟨?_, fun c hc => h.s c hc X (World.grownBy.refl _ _)⟩
  have hf := h.o.form
  rcases h.o.2 with ⟨rfl, hn⟩ | ⟨g, cap, cur, hv, -⟩
  · exact Or.inl ⟨rfl, List.length_eq_zero_iff.1 hn⟩
  · refine Or.inr ⟨⟨g, 0, none⟩, cap, hv, ?_⟩
    cases l with
    | nil => exact Or.inl rfl
    | cons c l =>
      have ho := h.o
      rw [hv] at ho
      obtain ⟨b, o, e, hr⟩ := ho.adr (j := 0) (c := c) rfl
      exact Or.inr ⟨b, o, Option.some.inj e, hr⟩
/-- Which clauses of a sorted list Set keeps. -/
def prv (l : List Cm) (j : Nat) : Option Cm := if j = 0 then none else l[j - 1]?
def kpt (l : List Cm) (j : Nat) (c : Cm) : Bool := match prv l j with | none => true | some p => decide (p.cmp c ≠ 0)
def dkN (l : List Cm) : Nat → List Ck
  | 0 => []
  | j + 1 => dkN l j ++ (match l[j]? with | some c => if kpt l j c then [c.key] else [] | none => [])
theorem dkN_yes {l : List Cm} {j : Nat} {c : Cm} (h : l[j]? = some c) (hk : kpt l j c = true) : dkN l (j + 1) = dkN l j ++ [c.key] := by
  conv => lhs; unfold dkN
  rw [h]; simp only; rw [if_pos hk]
theorem dkN_no {l : List Cm} {j : Nat} {c : Cm} (h : l[j]? = some c) (hk : kpt l j c = false) : dkN l (j + 1) = dkN l j := by
  conv => lhs; unfold dkN
  rw [h]; simp only; rw [if_neg (by rw [hk]; simp), List.append_nil]
theorem conj7 {a b c d e f g : Prop} (h1 : a) (h2 : b) (h3 : c) (h4 : d) (h5 : e) (h6 : f) (h7 : g) : Hid (a ∧ b ∧ c ∧ d ∧ e ∧ f ∧ g) := ⟨h1, h2, h3, h4, h5, h6, h7⟩
end Go.Proofs.YtdfgijdededolabGreatDoor
/-
  Lists of clauses looked through, and compared. (Written by SD5.py.)
-/
namespace Go.Proofs.YtdfgijdededolabGreatDoor
open Go.RowKit

theorem CsP.get {w : World} {a : Option Addr} {n cap j : Nat} {l : List Cm} {c : Cm} (h : CsP w (.slice a n cap) l) (hc : l[j]? = some c) : ∃ b o, a = some ⟨b, o, none⟩ ∧ CRow w b o l := by
  rcases h.m with ⟨e, rfl⟩ | ⟨ad, cap', e, h2⟩
  · simp at hc
  · simp only [Value.slice.injEq] at e
    obtain ⟨rfl, -, -⟩ := e
    rcases h2 with rfl | ⟨b, o, rfl, h2⟩
    · simp at hc
    · exact ⟨b, o, rfl, h2⟩
end Go.Proofs.YtdfgijdededolabGreatDoor
