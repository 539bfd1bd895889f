/-
  Consts. (Written by CN10.py.)
-/
import Derived.Test.YtdfgijdededolabGreatDoorCN8
import Derived.Test.YtdfgijdededolabGreatDoorSD5
namespace Go.Proofs.YtdfgijdededolabGreatDoor
open Go.RowKit Go.Shelf
attribute [local go_sem] Oper.semAt_some

/-- The constants of a list of terms. -/
def cns (l : List Tm) : List Tm := l.filter Tm.con
theorem cns_app (l m : List Tm) : cns (l ++ m) = cns l ++ cns m := List.filter_append ..
theorem cns_yes {l : List Tm} {x : Tm} (h : x.con = true) : cns (l ++ [x]) = cns l ++ [x] := by rw [cns_app]; simp [cns, h]
theorem cns_no {l : List Tm} {x : Tm} (h : x.con = false) : cns (l ++ [x]) = cns l := by rw [cns_app]; simp [cns, h]
theorem take_terms {l : List Cm} {q : Nat} {c : Cm} (h : l[q]? = some c) : (l.take (q + 1)).flatMap Cm.terms = (l.take q).flatMap Cm.terms ++ c.terms := by
  rw [List.take_add_one, h]; simp
theorem take_len {l : List Cm} {q : Nat} {c : Cm} (h : l[q]? = some c) : ((l.take q).flatMap Cm.terms).length + c.terms.length ≤ (l.flatMap Cm.terms).length := by
  have : (l.flatMap Cm.terms) = ((l.take (q + 1)).flatMap Cm.terms) ++ ((l.drop (q + 1)).flatMap Cm.terms) := by rw [← List.flatMap_append, List.take_append_drop]
  rw [this, take_terms h]; simp only [List.length_append]; omega
theorem setTk_own (K b : Nat) (pre0 : List Tm) (hb : b < K) : OwnFrom K (fun (l : List Tm) X => SetTk X b (pre0 ++ cns l)) := fun _ _ _ _ hs hg hr => hs.grown hg (fun e => by have := (hr b e.symm).1; omega)
theorem ownT_put {X : World} {B E : Nat} {v : Value} {K : List Tm} {o : Obj} (h : OwnT X B v K) (hE : X.heap[E]? = some (.deferred (some []))) : OwnT (X.putObj E o) B v K := by
  refine World.ownsRow.kept h (grownBy_putObj' _ E _) (Or.inr (fun e => ?_))
  rcases h.2 with ⟨rfl, -⟩ | ⟨g, cap, cur, rfl, hb, hg, -⟩
  · cases e
  · cases e; rw [hE] at hg; cases hg
def mu10 (N : Nat) (a : Act) : Nat := match a.tmps[10]? with | some (Value.int _ k) => N - k.toNat | _ => 0
set_option maxRecDepth 100000 in
set_option maxHeartbeats 8000000 in
theorem consts9_any (l : List Cm) (v : Value) (w : World) (h : CsP w v l) (hk : ∀ t ∈ cns (l.flatMap Cm.terms), KeyT t) (hl : (l.flatMap Cm.terms).length ≤ 3000000000000) (hll : l.length ≤ 1000000000000) :
    Calls Tryz.prog 7 #[v] w fun e w' => ∃ v' K, e = .returned v' ∧ OwnT w' w.heap.size v' K ∧ RiseOf Tm.cmp K (cns (l.flatMap Cm.terms)) ∧ K.length ≤ (cns (l.flatMap Cm.terms)).length ∧ Below w.heap.size w w' := by
  have HP : Hid (CsP w v l) := h
  have HK : Hid (∀ t ∈ cns (l.flatMap Cm.terms), KeyT t) := hk
  have HL : Hid ((l.flatMap Cm.terms).length ≤ 3000000000000) := hl
  obtain ⟨va, vc, rfl⟩ := h.form
  have hmm := @run_makeMap Tryz.prog
  have b0 : SetTk ((w.alloc (.map #[] 0)).alloc (.cells #[.map (some w.heap.size)] 63)) w.heap.size [] := by
    have h : SetTk (w.alloc (.map #[] 0)) w.heap.size [] := World.ownsMap_made w Tryz.prog 35 (unitElem (H := Unit))
    exact h.later (below1 _ _)
  have b1 : CBlk ((w.alloc (.map #[] 0)).alloc (.cells #[.map (some w.heap.size)] 63)) (w.heap.size + 1) #[.map (some w.heap.size)] 63 := by
    have := CBlk.new (w.alloc (.map #[] 0)) #[.map (some w.heap.size)] 63
    rwa [show (w.alloc (.map #[] 0)).heap.size = w.heap.size + 1 by simp] at this
  have hb0 : Below w.heap.size w ((w.alloc (.map #[] 0)).alloc (.cells #[.map (some w.heap.size)] 63)) := below2 _ _ _
  obtain ⟨n, -⟩ : ∃ n : Nat, True := ⟨0, trivial⟩
  refine (callsIn_wide (n := n)).1 ?_
  refine callsIn_of_wp_marks Tryz.func7 rfl trivial ?_ rfl
  simp only [Tryz.ntmps7, List.size_toArray, List.length_cons, List.length_nil, Nat.reduceAdd, Nat.reduceSub, Array.replicate_succ, Array.replicate_zero, List.push_toArray, List.append_toArray, List.nil_append, List.cons_append]
  gi_wp2
  clear h hk hl hmm
  refine wpIn_loop (fun ac X => ∃ (q : Nat) (Es : List Nat) (x5 x6 x11 x12 x13 x14 x15 x16 x17 x18 x19 x20 x21 x22 : Value), ac = { tmps := #[.slice va l.length vc, undef, .slice none 0 0, .pointer (some ⟨w.heap.size + 1, 0, none⟩), undef, x5, x6, .map (some w.heap.size), .slice va l.length vc, .int .i64 (l.length : Int), .int .i64 (q : Int), x11, x12, x13, x14, x15, x16, x17, x18, x19, x20, x21, x22, undef, undef], defers := mks Es } ∧ q ≤ l.length ∧ SetTk X w.heap.size (cns ((l.take q).flatMap Cm.terms)) ∧ CBlk X (w.heap.size + 1) #[.map (some w.heap.size)] 63 ∧ Marks (w.heap.size + 2) X Es ∧ Below w.heap.size w X)
    (fun ac _ => mu10 l.length ac) ?_ (fun ac X hI => ?_)
  · exact ⟨0, [], undef, undef, undef, undef, undef, undef, undef, undef, undef, undef, undef, undef, undef, undef, rfl, Nat.zero_le _, b0, b1, Marks.nil _ _, hb0⟩
  clear b0 b1 hb0
  obtain ⟨q, Es, x5, x6, x11, x12, x13, x14, x15, x16, x17, x18, x19, x20, x21, x22, rfl, hq, hs, hf, hm, hb⟩ := hI
  have HS : Hid (SetTk X w.heap.size (cns ((l.take q).flatMap Cm.terms))) := hs
  have HF : Hid (CBlk X (w.heap.size + 1) #[.map (some w.heap.size)] 63) := hf
  have HM : Hid (Marks (w.heap.size + 2) X Es) := hm
  have HB : Hid (Below w.heap.size w X) := hb
  have hfl := hf.lt
  clear hs hm hb
  have iq : (0 : Int) ≤ (q : Int) := by omega
  by_cases hql : q < l.length
  · have k1 : (q : Int) < (l.length : Int) := by omega
    obtain ⟨c, hc⟩ : ∃ z, l[q]? = some z := ⟨_, List.getElem?_eq_getElem hql⟩
    have HTT : Hid ((l.take (q + 1)).flatMap Cm.terms = (l.take q).flatMap Cm.terms ++ c.terms) := take_terms hc
    have HTL : Hid (((l.take q).flatMap Cm.terms).length + c.terms.length ≤ 3000000000000) := Nat.le_trans (take_len hc) HL.out
    have hcm := List.mem_of_getElem? hc
    have HKC : Hid (∀ t ∈ c.terms, t.con = true → KeyT t) := fun t ht h => HK.out t (List.mem_filter.2 ⟨List.mem_flatMap.2 ⟨c, hcm, ht⟩, h⟩)
    have HCK : Hid (∀ Y : World, Below w.heap.size w Y → c.ok Y) := fun Y hY => (HP.out.ok c hcm).later hY
    obtain ⟨sb, so, rfl, hrw⟩ := (HP.out.later HB.out).get hc
    have hzx := hrw.1
    have hsv := hrw.seven hc
    have hsh := (HP.out.ok c hcm).shape
    have hat := fun (Y : World) (hY : Below w.heap.size w Y) => cterms_any c Y (HCK.out Y hY)
    clear hc hcm hrw
    obtain ⟨⟨⟨⟨k, m, s⟩, nm, ls⟩, hx⟩, body, bv, tests, tv⟩ := c
    simp only at hsv hsh
    obtain ⟨⟨a, hn, cap, e1⟩, ⟨a', cap', e2⟩, ⟨a'', cap'', e3⟩, -, -⟩ := hsh
    obtain ⟨bl, h5⟩ : ∃ n, body.length = n := ⟨_, rfl⟩
    obtain ⟨tl, h8⟩ : ∃ n, tests.length = n := ⟨_, rfl⟩
    rw [h5] at e2
    rw [h8] at e3
    subst e1 e2 e3
    clear h5 h8
    obtain ⟨q0, q1, q2, q3, q4, q5, q6⟩ := hsv
    have HAT : Hid (∀ Y : World, Below w.heap.size w Y → Calls Tryz.prog 30 #[.agg #[.int .i64 k, .int .i64 m, .string s, .string nm, .slice a hn cap, .slice a' bl cap', .slice a'' tl cap'']] Y fun e w' => e = .returned (.func (.func 76) #[] #[.pointer (some ⟨Y.heap.size, 0, none⟩)]) ∧ w' = Y.alloc (.cells #[.int .i64 k, .int .i64 m, .string s, .string nm, .slice a hn cap, .slice a' bl cap', .slice a'' tl cap''] 41)) := hat
    have HBX : Hid (Below w.heap.size w (X.alloc (.cells #[.int .i64 k, .int .i64 m, .string s, .string nm, .slice a hn cap, .slice a' bl cap', .slice a'' tl cap''] 41))) := below_step HB.out (below1 _ _)
    clear hat
    gi_wp2
    refine ⟨trivial, fun h => (by cases h), (callsIn_wide.2 (HAT.out _ HBX.out)).mono ?_⟩
    rintro e w' ⟨rfl, rfl⟩
    clear HAT q0 q1 q2 q3 q4 q5 q6
    gi_wp2
    have hz1 : ((X.alloc (.cells #[.int .i64 k, .int .i64 m, .string s, .string nm, .slice a hn cap, .slice a' bl cap', .slice a'' tl cap''] 41)).alloc (.cells #[.int .i64 k, .int .i64 m, .string s, .string nm, .slice a hn cap, .slice a' bl cap', .slice a'' tl cap''] 41)).heap.size = X.heap.size + 2 := by simp
    have hu2 : Below X.heap.size X ((X.alloc (.cells #[.int .i64 k, .int .i64 m, .string s, .string nm, .slice a hn cap, .slice a' bl cap', .slice a'' tl cap''] 41)).alloc (.cells #[.int .i64 k, .int .i64 m, .string s, .string nm, .slice a hn cap, .slice a' bl cap', .slice a'' tl cap''] 41)) := below2 _ _ _
    have g0 : SetTk ((X.alloc (.cells #[.int .i64 k, .int .i64 m, .string s, .string nm, .slice a hn cap, .slice a' bl cap', .slice a'' tl cap''] 41)).alloc (.cells #[.int .i64 k, .int .i64 m, .string s, .string nm, .slice a hn cap, .slice a' bl cap', .slice a'' tl cap''] 41)) w.heap.size (cns ((l.take q).flatMap Cm.terms) ++ cns []) := by rw [show cns [] = [] from rfl, List.append_nil]; exact HS.out.later hu2
    have g1 : CBlk ((X.alloc (.cells #[.int .i64 k, .int .i64 m, .string s, .string nm, .slice a hn cap, .slice a' bl cap', .slice a'' tl cap''] 41)).alloc (.cells #[.int .i64 k, .int .i64 m, .string s, .string nm, .slice a hn cap, .slice a' bl cap', .slice a'' tl cap''] 41)) (w.heap.size + 1) #[.map (some w.heap.size)] 63 := HF.out.later hu2
    have g2 : CBlk ((X.alloc (.cells #[.int .i64 k, .int .i64 m, .string s, .string nm, .slice a hn cap, .slice a' bl cap', .slice a'' tl cap''] 41)).alloc (.cells #[.int .i64 k, .int .i64 m, .string s, .string nm, .slice a hn cap, .slice a' bl cap', .slice a'' tl cap''] 41)) (X.heap.size + 1) #[.int .i64 k, .int .i64 m, .string s, .string nm, .slice a hn cap, .slice a' bl cap', .slice a'' tl cap''] 41 := by
      have := CBlk.new (X.alloc (.cells #[.int .i64 k, .int .i64 m, .string s, .string nm, .slice a hn cap, .slice a' bl cap', .slice a'' tl cap''] 41)) #[.int .i64 k, .int .i64 m, .string s, .string nm, .slice a hn cap, .slice a' bl cap', .slice a'' tl cap''] 41
      rwa [show (X.alloc (.cells #[.int .i64 k, .int .i64 m, .string s, .string nm, .slice a hn cap, .slice a' bl cap', .slice a'' tl cap''] 41)).heap.size = X.heap.size + 1 by simp] at this
    have g3 : Marks (w.heap.size + 2) ((X.alloc (.cells #[.int .i64 k, .int .i64 m, .string s, .string nm, .slice a hn cap, .slice a' bl cap', .slice a'' tl cap''] 41)).alloc (.cells #[.int .i64 k, .int .i64 m, .string s, .string nm, .slice a hn cap, .slice a' bl cap', .slice a'' tl cap''] 41)) Es := HM.out.later hu2
    have g4 : Below w.heap.size w ((X.alloc (.cells #[.int .i64 k, .int .i64 m, .string s, .string nm, .slice a hn cap, .slice a' bl cap', .slice a'' tl cap''] 41)).alloc (.cells #[.int .i64 k, .int .i64 m, .string s, .string nm, .slice a hn cap, .slice a' bl cap', .slice a'' tl cap''] 41)) := below_step HB.out hu2
    have hEs := HM.out.lt
    clear HBX hu2
    revert hz1 g0 g1 g2 g3 g4
    generalize ((X.alloc (.cells #[.int .i64 k, .int .i64 m, .string s, .string nm, .slice a hn cap, .slice a' bl cap', .slice a'' tl cap''] 41)).alloc (.cells #[.int .i64 k, .int .i64 m, .string s, .string nm, .slice a hn cap, .slice a' bl cap', .slice a'' tl cap''] 41)) = V
    intro hz1 g0 g1 g2 g3 g4
    have HQ : Hid (q < l.length) := hql
    refine wpIn_seq (gf := 76) (lb := #[.pointer (some ⟨X.heap.size + 1, 0, none⟩)]) rfl (enters_of Tryz.func76 (by kernel_rfl) rfl) (terms_seq ⟨(⟨⟨k, m, s⟩, nm, ls⟩, .slice a hn cap), body, .slice a' bl cap', tests, .slice a'' tl cap''⟩ (X.heap.size + 1)) (fun _ => rfl)
      (fun pre Y => SetTk Y w.heap.size (cns ((l.take q).flatMap Cm.terms) ++ cns pre) ∧ CBlk Y (w.heap.size + 1) #[.map (some w.heap.size)] 63 ∧ CBlk Y (X.heap.size + 1) #[.int .i64 k, .int .i64 m, .string s, .string nm, .slice a hn cap, .slice a' bl cap', .slice a'' tl cap''] 41 ∧ Marks (w.heap.size + 2) Y Es ∧ Below w.heap.size w Y)
      (fun _ _ _ => False)
      (OwnFrom.and (setTk_own _ _ _ (by omega)) (OwnFrom.and (cblk_own _ _ _ _) (OwnFrom.and (cblk_own _ _ _ _) (OwnFrom.and (marks_own _ _ _ (fun E hE => by have := hEs E hE; omega)) (ownFrom_below (Nat.le_refl _) (by omega))))))
      (fun cd => ownFrom_pure _ (fun _ => False))
      (fun pre Y h => ⟨h.2.2.1, HCK.out Y h.2.2.2.2⟩)
      ⟨g0, g1, g2, g3, g4⟩
      (fun x act Y => ∃ Bx, X.heap.size + 1 < Bx ∧ CBlk Y Bx #[.int .i64 x.k, .int .i64 x.n, .string x.s] 35 ∧ act = { tmps := #[.slice (some ⟨sb, so, none⟩) l.length vc, undef, .slice none 0 0, .pointer (some ⟨w.heap.size + 1, 0, none⟩), undef, .pointer (some ⟨X.heap.size, 0, none⟩), .pointer (some ⟨Bx, 0, none⟩), .map (some w.heap.size), .slice (some ⟨sb, so, none⟩) l.length vc, .int .i64 (l.length : Int), .int .i64 (q : Int), .bool true, .pointer (some ⟨sb, so + q * 7, none⟩), .agg #[.int .i64 k, .int .i64 m, .string s, .string nm, .slice a hn cap, .slice a' bl cap', .slice a'' tl cap''], .agg #[.int .i64 k, .int .i64 m, .string s, .string nm, .slice a hn cap, .slice a' bl cap', .slice a'' tl cap''], .func (.func 76) #[] #[.pointer (some ⟨X.heap.size + 1, 0, none⟩)], .agg #[.int .i64 x.k, .int .i64 x.n, .string x.s], x17, x18, x19, x20, x21, x22, undef, undef], defers := [] })
      (fun x _ _ X Y row hs hg hr => by obtain ⟨Bx, h1, h2, h3⟩ := hs; exact ⟨Bx, h1, cblk_own (β := Unit) _ _ _ _ () X Y row h2 hg hr, h3⟩)
      ?assign ?body ?done ?stop
    case assign =>
      rintro l' mm pre x Y K hpre ⟨hs, hf, hc, hm, hb⟩ hle hK
      obtain ⟨kx, mx, sx⟩ := x
      gi_wp2
      exact hK _ _ (Up.alloc _ _ _) ⟨hs.later (below1 _ _), hf.later (below1 _ _), hc.later (below1 _ _), hm.later (below1 _ _), below_step hb (below1 _ _)⟩ ⟨Y.heap.size, by omega, CBlk.new _ _ _, rfl⟩
    case body =>
      rintro l' mm pre x act Y hpre ⟨hs, hf, hc, hm, hb⟩ ⟨Bx, hBx, hX, rfl⟩ hle
      have HP : Hid (pre ++ [x] <+: Cm.terms ⟨(⟨⟨k, m, s⟩, nm, ls⟩, .slice a hn cap), body, .slice a' bl cap', tests, .slice a'' tl cap''⟩) := hpre
      have HS : Hid (SetTk Y w.heap.size (cns ((l.take q).flatMap Cm.terms) ++ cns pre)) := hs
      have HF : Hid (CBlk Y (w.heap.size + 1) #[.map (some w.heap.size)] 63) := hf
      have HC : Hid (CBlk Y (X.heap.size + 1) #[.int .i64 k, .int .i64 m, .string s, .string nm, .slice a hn cap, .slice a' bl cap', .slice a'' tl cap''] 41) := hc
      have HM : Hid (Marks (w.heap.size + 2) Y Es) := hm
      have HB : Hid (Below w.heap.size w Y) := hb
      have HX : Hid (CBlk Y Bx #[.int .i64 x.k, .int .i64 x.n, .string x.s] 35) := hX
      have hva := con_any x Y
      obtain ⟨x0, x1, x2⟩ := cthree hX
      have hlt := hX.lt
      cases hv : x.con with
      | true =>
        have HKX : Hid (KeyT x) := HKC.out x (HP.out.subset (by simp)) hv
        have HLN : Hid ((cns ((l.take q).flatMap Cm.terms) ++ cns pre).length < maxLen) := by
          have h1 := HP.out.length_le
          have h2 := HTL.out
          have h3 : (cns ((l.take q).flatMap Cm.terms)).length ≤ ((l.take q).flatMap Cm.terms).length := List.length_filter_le ..
          have h4 : (cns pre).length ≤ pre.length := List.length_filter_le ..
          show _ < _
          simp only [List.length_append, List.length_cons, List.length_nil] at h1 ⊢
          unfold maxLen; omega
        have HV : Hid (x.con = true) := hv
        rw [hv] at hva
        obtain ⟨kx, mx, sx⟩ := x
        simp only at hva x0 x1 x2
        clear hX hf hc hb hs hm hpre hv
        gi_wp2
        refine ⟨trivial, fun h => (by cases h), (CallsIn.inRound l' (callsIn_wide.2 hva)).mono ?_⟩
        clear hva x0 x1 x2
        rintro e w' ⟨rfl, hbw⟩
        have HBw : Hid (Below Y.heap.size Y w') := hbw
        obtain ⟨f0, -⟩ := one (HF.out.later hbw)
        obtain ⟨x0, x1, x2⟩ := cthree (HX.out.later hbw)
        have HS2 : Hid (SetTk w' w.heap.size (cns ((l.take q).flatMap Cm.terms) ++ cns pre)) := HS.out.later hbw
        clear hbw
        gi_wp2_with (gi_at_mapUpdate; refine wpListIn_mapUpdate_own _ rfl _ _ _ 63 rfl 35 68 Tryz.lawTerm Tryz.underlying63 (unitElem (H := Unit)) w.heap.size (cns ((l.take q).flatMap Cm.terms) ++ cns pre).length (svTk (cns ((l.take q).flatMap Cm.terms) ++ cns pre)) rfl HS2.out HLN.out _ _ _ rfl rfl (keyOf_tm HKX.out) _ [] unitElem_mk ?_; intro w1 hown1 hgrow1)
        have hY2 : Below w.heap.size w w1 := (below_step HB.out HBw.out).grown hgrow1 (Nat.le_trans HB.out.size HBw.out.size) (fun q e => by cases e; exact Nat.le_refl _)
        refine ⟨(Up.below HBw.out).trans (Up.grown hgrow1 (fun q e => by cases e; omega)), ?_, ?_, ?_, ?_, hY2⟩
        · rw [cns_yes HV.out, ← List.append_assoc]
          unfold SetTk
          rw [List.length_append, svTk_snoc]
          exact hown1
        · have hh := HF.out.later HBw.out
          exact (hgrow1.block _ hh.lt (fun e => by have := Option.some.inj e; omega)).trans hh
        · have hh := HC.out.later HBw.out
          exact (hgrow1.block _ hh.lt (fun e => by have := Option.some.inj e; omega)).trans hh
        · exact (HM.out.later HBw.out).grown hgrow1 (fun E hE e => by have := HM.out.lo E hE; cases e; omega)
      | false =>
        have HV : Hid (x.con = false) := hv
        rw [hv] at hva
        obtain ⟨kx, mx, sx⟩ := x
        simp only at hva x0 x1 x2
        clear hX hf hc hb hs hm hpre hv
        gi_wp2
        refine ⟨trivial, fun h => (by cases h), (CallsIn.inRound l' (callsIn_wide.2 hva)).mono ?_⟩
        clear hva x0 x1 x2
        rintro e w' ⟨rfl, hbw⟩
        have HBw : Hid (Below Y.heap.size Y w') := hbw
        clear hbw
        gi_wp2
        refine ⟨Up.below HBw.out, ?_, HF.out.later HBw.out, HC.out.later HBw.out, HM.out.later HBw.out, below_step HB.out HBw.out⟩
        rw [cns_no HV.out]
        exact HS.out.later HBw.out
    case done =>
      rintro E Y hE ⟨hs, hf, hc, hm, hb⟩ hD
      have HS : Hid (SetTk Y w.heap.size (cns ((l.take (q + 1)).flatMap Cm.terms))) := by rw [HTT.out, cns_app]; exact hs
      have HF : Hid (CBlk Y (w.heap.size + 1) #[.map (some w.heap.size)] 63) := hf
      have HM : Hid (Marks (w.heap.size + 2) Y (E :: Es)) := hm.cons (by omega) (fun h => by have := hEs E h; omega) hD
      have HB : Hid (Below w.heap.size w Y) := hb
      clear hs hf hc hm hb hD
      gi_wp2
      rw [show ((q : Int) + 1) = ((q + 1 : Nat) : Int) from rfl]
      refine ⟨⟨q + 1, E :: Es, _, _, _, _, _, _, _, _, _, _, _, _, _, _, rfl, by have := HQ.out; omega, HS.out, HF.out, HM.out, HB.out⟩, ?_⟩
      have := HQ.out
      simp [mu10]; omega
    case stop =>
      rintro E cd pre X hE hpre h hD
      exact h.elim
  · have k1 : ¬ (q : Int) < (l.length : Int) := by omega
    obtain rfl : q = l.length := by omega
    rw [List.take_length] at HS
    obtain ⟨f0, -⟩ := one hf
    have hsk := sortedTk_any w.heap.size (cns (l.flatMap Cm.terms)) X HS.out HK.out (Nat.le_trans (List.length_filter_le ..) HL.out)
    clear hf
    gi_wp2
    refine ⟨trivial, fun h => (by cases h), (callsIn_wide.2 hsk).mono ?_⟩
    clear hsk f0
    rintro e w' ⟨v', K, rfl, ho, hr, hkl, hbw⟩
    have HO : Hid (OwnT w' w.heap.size v' K) := ho.mono HB.out.size
    have HR : Hid (RiseOf Tm.cmp K (cns (l.flatMap Cm.terms))) := hr
    have HKL : Hid (K.length ≤ (cns (l.flatMap Cm.terms)).length) := hkl
    have HM2 : Hid (Marks (w.heap.size + 2) w' Es) := HM.out.later hbw
    have HB2 : Hid (Below w.heap.size w w') := below_step HB.out hbw
    clear ho hr hkl hbw
    gi_wp2
    refine leaves_marks (B := w.heap.size + 2) (fun Y => OwnT Y w.heap.size v' K ∧ Below w.heap.size w Y) (fun Y E hY hE hD => ⟨ownT_put hY.1 hD, below_put hY.2 (by omega)⟩) (fun Y hY => ?_) Es w' HM2.out ⟨HO.out, HB2.out⟩
    exact ⟨_, results_tmp rfl _ _ _, v', K, rfl, hY.1, HR.out, HKL.out, hY.2⟩
end Go.Proofs.YtdfgijdededolabGreatDoor
