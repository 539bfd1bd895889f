/-
  Preds. (Written by CN11.py, out of CN10.)
-/
import Derived.Test.YtdfgijdededolabGreatDoorSD5
import Derived.Test.YtdfgijdededolabGreatDoorCN10
namespace Go.Proofs.YtdfgijdededolabGreatDoor
open Go.RowKit Go.Shelf
attribute [local go_sem] Oper.semAt_some

/-- The predicates of a list of atoms. -/
def pdA (x : At × Value) : Pd := ⟨x.1.name, (x.1.args.length : Int)⟩
def pds (l : List (At × Value)) : List Pd := l.map pdA
def Cm.pds (c : Cm) : List Pd := Go.Proofs.YtdfgijdededolabGreatDoor.pds c.atoms
theorem pds_snoc (l : List (At × Value)) (x : At × Value) : pds (l ++ [x]) = pds l ++ [pdA x] := by simp [pds]
theorem take_pds {l : List Cm} {q : Nat} {c : Cm} (h : l[q]? = some c) : (l.take (q + 1)).flatMap Cm.pds = (l.take q).flatMap Cm.pds ++ c.pds := by
  rw [List.take_add_one, h]; simp
theorem takeP_len {l : List Cm} {q : Nat} {c : Cm} (h : l[q]? = some c) : ((l.take q).flatMap Cm.pds).length + c.atoms.length ≤ (l.flatMap Cm.pds).length := by
  have : (l.flatMap Cm.pds) = ((l.take (q + 1)).flatMap Cm.pds) ++ ((l.drop (q + 1)).flatMap Cm.pds) := by rw [← List.flatMap_append, List.take_append_drop]
  have e : c.pds.length = c.atoms.length := by simp [Cm.pds, pds]
  rw [this, take_pds h]; simp only [List.length_append]; omega
theorem setPk_own (K b : Nat) (pre0 : List Pd) (hb : b < K) : OwnFrom K (fun (l : List (At × Value)) X => SetPk X b (pre0 ++ pds l)) := fun _ _ _ _ hs hg hr => hs.grown hg (fun e => by have := (hr b e.symm).1; omega)
theorem ownP_put {X : World} {B E : Nat} {v : Value} {K : List Pd} {o : Obj} (h : OwnP X B v K) (hE : X.heap[E]? = some (.deferred (some []))) : OwnP (X.putObj E o) B v K := by
  refine World.ownsRow.kept h (grownBy_putObj' _ E _) (Or.inr (fun e => ?_))
  rcases h.2 with ⟨rfl, -⟩ | ⟨g, cap, cur, rfl, hb, hg, -⟩
  · cases e
  · cases e; rw [hE] at hg; cases hg
set_option maxRecDepth 100000 in
set_option maxHeartbeats 8000000 in
theorem preds9_any (l : List Cm) (v : Value) (w : World) (h : CsP w v l) (hk : ∀ t ∈ l.flatMap Cm.pds, KeyP t) (hl : (l.flatMap Cm.pds).length ≤ 3000000000000) (hll : l.length ≤ 1000000000000) :
    Calls Tryz.prog 8 #[v] w fun e w' => ∃ v' K, e = .returned v' ∧ OwnP w' w.heap.size v' K ∧ RiseOf cmpP K (l.flatMap Cm.pds) ∧ K.length ≤ (l.flatMap Cm.pds).length ∧ Below w.heap.size w w' := by
  have HP : Hid (CsP w v l) := h
  have HK : Hid (∀ t ∈ l.flatMap Cm.pds, KeyP t) := hk
  have HL : Hid ((l.flatMap Cm.pds).length ≤ 3000000000000) := hl
  obtain ⟨va, vc, rfl⟩ := h.form
  have hmm := @run_makeMap Tryz.prog
  have b0 : SetPk ((w.alloc (.map #[] 0)).alloc (.cells #[.map (some w.heap.size)] 71)) w.heap.size [] := by
    have h : SetPk (w.alloc (.map #[] 0)) w.heap.size [] := World.ownsMap_made w Tryz.prog 61 (unitElem (H := Unit))
    exact h.later (below1 _ _)
  have b1 : CBlk ((w.alloc (.map #[] 0)).alloc (.cells #[.map (some w.heap.size)] 71)) (w.heap.size + 1) #[.map (some w.heap.size)] 71 := by
    have := CBlk.new (w.alloc (.map #[] 0)) #[.map (some w.heap.size)] 71
    rwa [show (w.alloc (.map #[] 0)).heap.size = w.heap.size + 1 by simp] at this
  have hb0 : Below w.heap.size w ((w.alloc (.map #[] 0)).alloc (.cells #[.map (some w.heap.size)] 71)) := below2 _ _ _
  obtain ⟨n, -⟩ : ∃ n : Nat, True := ⟨0, trivial⟩
  refine (callsIn_wide (n := n)).1 ?_
  refine callsIn_of_wp_marks Tryz.func8 rfl trivial ?_ rfl
  simp only [Tryz.ntmps8, List.size_toArray, List.length_cons, List.length_nil, Nat.reduceAdd, Nat.reduceSub, Array.replicate_succ, Array.replicate_zero, List.push_toArray, List.append_toArray, List.nil_append, List.cons_append]
  gi_wp2
  clear h hk hl hmm
  refine wpIn_loop (fun ac X => ∃ (q : Nat) (Es : List Nat) (x5 x6 x11 x12 x13 x14 x15 x16 x17 x18 x19 x20 x21 x22 x23 x24 x25 : Value), ac = { tmps := #[.slice va l.length vc, undef, .slice none 0 0, .pointer (some ⟨w.heap.size + 1, 0, none⟩), undef, x5, x6, .map (some w.heap.size), .slice va l.length vc, .int .i64 (l.length : Int), .int .i64 (q : Int), x11, x12, x13, x14, x15, x16, x17, x18, x19, x20, x21, x22, x23, x24, x25, undef, undef], defers := mks Es } ∧ q ≤ l.length ∧ SetPk X w.heap.size ((l.take q).flatMap Cm.pds) ∧ CBlk X (w.heap.size + 1) #[.map (some w.heap.size)] 71 ∧ Marks (w.heap.size + 2) X Es ∧ Below w.heap.size w X)
    (fun ac _ => mu10 l.length ac) ?_ (fun ac X hI => ?_)
  · exact ⟨0, [], undef, undef, undef, undef, undef, undef, undef, undef, undef, undef, undef, undef, undef, undef, undef, undef, undef, rfl, Nat.zero_le _, b0, b1, Marks.nil _ _, hb0⟩
  clear b0 b1 hb0
  obtain ⟨q, Es, x5, x6, x11, x12, x13, x14, x15, x16, x17, x18, x19, x20, x21, x22, x23, x24, x25, rfl, hq, hs, hf, hm, hb⟩ := hI
  have HS : Hid (SetPk X w.heap.size ((l.take q).flatMap Cm.pds)) := hs
  have HF : Hid (CBlk X (w.heap.size + 1) #[.map (some w.heap.size)] 71) := hf
  have HM : Hid (Marks (w.heap.size + 2) X Es) := hm
  have HB : Hid (Below w.heap.size w X) := hb
  have hfl := hf.lt
  clear hs hm hb
  have iq : (0 : Int) ≤ (q : Int) := by omega
  by_cases hql : q < l.length
  · have k1 : (q : Int) < (l.length : Int) := by omega
    obtain ⟨c, hc⟩ : ∃ z, l[q]? = some z := ⟨_, List.getElem?_eq_getElem hql⟩
    have HTT : Hid ((l.take (q + 1)).flatMap Cm.pds = (l.take q).flatMap Cm.pds ++ c.pds) := take_pds hc
    have HTL : Hid (((l.take q).flatMap Cm.pds).length + c.atoms.length ≤ 3000000000000) := Nat.le_trans (takeP_len hc) HL.out
    have hcm := List.mem_of_getElem? hc
    have HKC : Hid (∀ x ∈ c.atoms, KeyP (pdA x)) := fun x hx => HK.out _ (List.mem_flatMap.2 ⟨c, hcm, List.mem_map.2 ⟨x, hx, rfl⟩⟩)
    have HCK : Hid (∀ Y : World, Below w.heap.size w Y → c.ok Y) := fun Y hY => (HP.out.ok c hcm).later hY
    obtain ⟨sb, so, rfl, hrw⟩ := (HP.out.later HB.out).get hc
    have hzx := hrw.1
    have hsv := hrw.seven hc
    have hsh := (HP.out.ok c hcm).shape
    have hat := fun (Y : World) (hY : Below w.heap.size w Y) => atoms_any c Y (HCK.out Y hY)
    clear hc hcm hrw
    obtain ⟨⟨⟨⟨k, m, s⟩, nm, ls⟩, hx⟩, body, bv, tests, tv⟩ := c
    simp only at hsv hsh
    obtain ⟨⟨a, hn, cap, e1⟩, ⟨a', cap', e2⟩, ⟨a'', cap'', e3⟩, -, -⟩ := hsh
    obtain ⟨bl, h5⟩ : ∃ n, body.length = n := ⟨_, rfl⟩
    obtain ⟨tl, h8⟩ : ∃ n, tests.length = n := ⟨_, rfl⟩
    rw [h5] at e2
    rw [h8] at e3
    subst e1 e2 e3
    clear h5 h8
    obtain ⟨q0, q1, q2, q3, q4, q5, q6⟩ := hsv
    have HAT : Hid (∀ Y : World, Below w.heap.size w Y → Calls Tryz.prog 34 #[.agg #[.int .i64 k, .int .i64 m, .string s, .string nm, .slice a hn cap, .slice a' bl cap', .slice a'' tl cap'']] Y fun e w' => e = .returned (.func (.func 80) #[] #[.pointer (some ⟨Y.heap.size, 0, none⟩)]) ∧ w' = Y.alloc (.cells #[.int .i64 k, .int .i64 m, .string s, .string nm, .slice a hn cap, .slice a' bl cap', .slice a'' tl cap''] 41)) := hat
    have HBX : Hid (Below w.heap.size w (X.alloc (.cells #[.int .i64 k, .int .i64 m, .string s, .string nm, .slice a hn cap, .slice a' bl cap', .slice a'' tl cap''] 41))) := below_step HB.out (below1 _ _)
    clear hat
    gi_wp2
    refine ⟨trivial, fun h => (by cases h), (callsIn_wide.2 (HAT.out _ HBX.out)).mono ?_⟩
    rintro e w' ⟨rfl, rfl⟩
    clear HAT q0 q1 q2 q3 q4 q5 q6
    gi_wp2
    have hz1 : ((X.alloc (.cells #[.int .i64 k, .int .i64 m, .string s, .string nm, .slice a hn cap, .slice a' bl cap', .slice a'' tl cap''] 41)).alloc (.cells #[.int .i64 k, .int .i64 m, .string s, .string nm, .slice a hn cap, .slice a' bl cap', .slice a'' tl cap''] 41)).heap.size = X.heap.size + 2 := by simp
    have hu2 : Below X.heap.size X ((X.alloc (.cells #[.int .i64 k, .int .i64 m, .string s, .string nm, .slice a hn cap, .slice a' bl cap', .slice a'' tl cap''] 41)).alloc (.cells #[.int .i64 k, .int .i64 m, .string s, .string nm, .slice a hn cap, .slice a' bl cap', .slice a'' tl cap''] 41)) := below2 _ _ _
    have g0 : SetPk ((X.alloc (.cells #[.int .i64 k, .int .i64 m, .string s, .string nm, .slice a hn cap, .slice a' bl cap', .slice a'' tl cap''] 41)).alloc (.cells #[.int .i64 k, .int .i64 m, .string s, .string nm, .slice a hn cap, .slice a' bl cap', .slice a'' tl cap''] 41)) w.heap.size ((l.take q).flatMap Cm.pds ++ pds []) := by rw [show pds [] = [] from rfl, List.append_nil]; exact HS.out.later hu2
    have g1 : CBlk ((X.alloc (.cells #[.int .i64 k, .int .i64 m, .string s, .string nm, .slice a hn cap, .slice a' bl cap', .slice a'' tl cap''] 41)).alloc (.cells #[.int .i64 k, .int .i64 m, .string s, .string nm, .slice a hn cap, .slice a' bl cap', .slice a'' tl cap''] 41)) (w.heap.size + 1) #[.map (some w.heap.size)] 71 := HF.out.later hu2
    have g2 : CBlk ((X.alloc (.cells #[.int .i64 k, .int .i64 m, .string s, .string nm, .slice a hn cap, .slice a' bl cap', .slice a'' tl cap''] 41)).alloc (.cells #[.int .i64 k, .int .i64 m, .string s, .string nm, .slice a hn cap, .slice a' bl cap', .slice a'' tl cap''] 41)) (X.heap.size + 1) #[.int .i64 k, .int .i64 m, .string s, .string nm, .slice a hn cap, .slice a' bl cap', .slice a'' tl cap''] 41 := by
      have := CBlk.new (X.alloc (.cells #[.int .i64 k, .int .i64 m, .string s, .string nm, .slice a hn cap, .slice a' bl cap', .slice a'' tl cap''] 41)) #[.int .i64 k, .int .i64 m, .string s, .string nm, .slice a hn cap, .slice a' bl cap', .slice a'' tl cap''] 41
      rwa [show (X.alloc (.cells #[.int .i64 k, .int .i64 m, .string s, .string nm, .slice a hn cap, .slice a' bl cap', .slice a'' tl cap''] 41)).heap.size = X.heap.size + 1 by simp] at this
    have g3 : Marks (w.heap.size + 2) ((X.alloc (.cells #[.int .i64 k, .int .i64 m, .string s, .string nm, .slice a hn cap, .slice a' bl cap', .slice a'' tl cap''] 41)).alloc (.cells #[.int .i64 k, .int .i64 m, .string s, .string nm, .slice a hn cap, .slice a' bl cap', .slice a'' tl cap''] 41)) Es := HM.out.later hu2
    have g4 : Below w.heap.size w ((X.alloc (.cells #[.int .i64 k, .int .i64 m, .string s, .string nm, .slice a hn cap, .slice a' bl cap', .slice a'' tl cap''] 41)).alloc (.cells #[.int .i64 k, .int .i64 m, .string s, .string nm, .slice a hn cap, .slice a' bl cap', .slice a'' tl cap''] 41)) := below_step HB.out hu2
    have hEs := HM.out.lt
    clear HBX hu2
    revert hz1 g0 g1 g2 g3 g4
    generalize ((X.alloc (.cells #[.int .i64 k, .int .i64 m, .string s, .string nm, .slice a hn cap, .slice a' bl cap', .slice a'' tl cap''] 41)).alloc (.cells #[.int .i64 k, .int .i64 m, .string s, .string nm, .slice a hn cap, .slice a' bl cap', .slice a'' tl cap''] 41)) = V
    intro hz1 g0 g1 g2 g3 g4
    have HQ : Hid (q < l.length) := hql
    refine wpIn_seq (gf := 80) (lb := #[.pointer (some ⟨X.heap.size + 1, 0, none⟩)]) rfl (enters_of Tryz.func80 (by kernel_rfl) rfl) (atoms_seq ⟨(⟨⟨k, m, s⟩, nm, ls⟩, .slice a hn cap), body, .slice a' bl cap', tests, .slice a'' tl cap''⟩ (X.heap.size + 1)) (fun _ => rfl)
      (fun pre Y => SetPk Y w.heap.size ((l.take q).flatMap Cm.pds ++ pds pre) ∧ CBlk Y (w.heap.size + 1) #[.map (some w.heap.size)] 71 ∧ CBlk Y (X.heap.size + 1) #[.int .i64 k, .int .i64 m, .string s, .string nm, .slice a hn cap, .slice a' bl cap', .slice a'' tl cap''] 41 ∧ Marks (w.heap.size + 2) Y Es ∧ Below w.heap.size w Y)
      (fun _ _ _ => False)
      (OwnFrom.and (setPk_own _ _ _ (by omega)) (OwnFrom.and (cblk_own _ _ _ _) (OwnFrom.and (cblk_own _ _ _ _) (OwnFrom.and (marks_own _ _ _ (fun E hE => by have := hEs E hE; omega)) (ownFrom_below (Nat.le_refl _) (by omega))))))
      (fun cd => ownFrom_pure _ (fun _ => False))
      (fun pre Y h => ⟨h.2.2.1, HCK.out Y h.2.2.2.2⟩)
      ⟨g0, g1, g2, g3, g4⟩
      (fun x act Y => ∃ Bx, X.heap.size + 1 < Bx ∧ CBlk Y Bx #[.int .i64 x.1.by_.k, .int .i64 x.1.by_.n, .string x.1.by_.s, .string x.1.name, x.2] 37 ∧ act = { tmps := #[.slice (some ⟨sb, so, none⟩) l.length vc, undef, .slice none 0 0, .pointer (some ⟨w.heap.size + 1, 0, none⟩), undef, .pointer (some ⟨X.heap.size, 0, none⟩), .pointer (some ⟨Bx, 0, none⟩), .map (some w.heap.size), .slice (some ⟨sb, so, none⟩) l.length vc, .int .i64 (l.length : Int), .int .i64 (q : Int), .bool true, .pointer (some ⟨sb, so + q * 7, none⟩), .agg #[.int .i64 k, .int .i64 m, .string s, .string nm, .slice a hn cap, .slice a' bl cap', .slice a'' tl cap''], .agg #[.int .i64 k, .int .i64 m, .string s, .string nm, .slice a hn cap, .slice a' bl cap', .slice a'' tl cap''], .func (.func 80) #[] #[.pointer (some ⟨X.heap.size + 1, 0, none⟩)], .agg #[.int .i64 x.1.by_.k, .int .i64 x.1.by_.n, .string x.1.by_.s, .string x.1.name, x.2], x17, x18, x19, x20, x21, x22, x23, x24, x25, undef, undef], defers := [] })
      (fun x _ _ X Y row hs hg hr => by obtain ⟨Bx, h1, h2, h3⟩ := hs; exact ⟨Bx, h1, cblk_own (β := Unit) _ _ _ _ () X Y row h2 hg hr, h3⟩)
      ?assign ?body ?done ?stop
    case assign =>
      rintro l' mm pre x Y K hpre ⟨hs, hf, hc, hm, hb⟩ hle hK
      have hsl := (HCK.out Y hb).mem (x := x) (hpre.subset (by simp))
      obtain ⟨⟨⟨kx, mx, sx⟩, nx, lx⟩, vx⟩ := x
      obtain ⟨ax, cx, ex, -⟩ := hsl
      simp only at ex
      subst ex
      gi_wp2
      exact hK _ _ (Up.alloc _ _ _) ⟨hs.later (below1 _ _), hf.later (below1 _ _), hc.later (below1 _ _), hm.later (below1 _ _), below_step hb (below1 _ _)⟩ ⟨Y.heap.size, by omega, CBlk.new _ _ _, rfl⟩
    case body =>
      rintro l' mm pre x act Y hpre ⟨hs, hf, hc, hm, hb⟩ ⟨Bx, hBx, hX, rfl⟩ hle
      have HP : Hid (pre ++ [x] <+: Cm.atoms ⟨(⟨⟨k, m, s⟩, nm, ls⟩, .slice a hn cap), body, .slice a' bl cap', tests, .slice a'' tl cap''⟩) := hpre
      have HS : Hid (SetPk Y w.heap.size ((l.take q).flatMap Cm.pds ++ pds pre)) := hs
      have HF : Hid (CBlk Y (w.heap.size + 1) #[.map (some w.heap.size)] 71) := hf
      have HC : Hid (CBlk Y (X.heap.size + 1) #[.int .i64 k, .int .i64 m, .string s, .string nm, .slice a hn cap, .slice a' bl cap', .slice a'' tl cap''] 41) := hc
      have HM : Hid (Marks (w.heap.size + 2) Y Es) := hm
      have HB : Hid (Below w.heap.size w Y) := hb
      have HX : Hid (CBlk Y Bx #[.int .i64 x.1.by_.k, .int .i64 x.1.by_.n, .string x.1.by_.s, .string x.1.name, x.2] 37) := hX
      have HMX : Hid (x ∈ Cm.atoms ⟨(⟨⟨k, m, s⟩, nm, ls⟩, .slice a hn cap), body, .slice a' bl cap', tests, .slice a'' tl cap''⟩) := HP.out.subset (by simp)
      have hsl := (HCK.out Y HB.out).mem HMX.out
      have HKX : Hid (KeyP (pdA x)) := HKC.out x HMX.out
      have HLN : Hid (((l.take q).flatMap Cm.pds ++ pds pre).length < maxLen) := by
        have h1 := HP.out.length_le
        have h2 := HTL.out
        have h4 : (pds pre).length = pre.length := by simp [pds]
        show _ < _
        simp only [List.length_append, List.length_cons, List.length_nil] at h1 ⊢
        unfold maxLen; omega
      have hlt := hX.lt
      obtain ⟨⟨⟨kx, mx, sx⟩, nx, lx⟩, vx⟩ := x
      obtain ⟨ax, cx, ex, -⟩ := hsl
      simp only at ex
      subst ex
      obtain ⟨x0, x1, x2, x3, x4⟩ := cfive hX
      obtain ⟨f0, -⟩ := one hf
      have HKY : Hid (KeyP ⟨nx, (lx.length : Int)⟩) := HKX.out
      clear hX hf hc hb hs hm hpre HKX
      gi_wp2_with (gi_at_mapUpdate; refine wpListIn_mapUpdate_own _ rfl _ _ _ 71 rfl 61 68 Tryz.lawPred Tryz.underlying71 (unitElem (H := Unit)) w.heap.size ((l.take q).flatMap Cm.pds ++ pds pre).length (svPk ((l.take q).flatMap Cm.pds ++ pds pre)) rfl HS.out HLN.out _ _ _ rfl rfl (keyOf_pd HKY.out) _ [] unitElem_mk ?_; intro w1 hown1 hgrow1)
      have hY2 : Below w.heap.size w w1 := HB.out.grown hgrow1 HB.out.size (fun q e => by cases e; exact Nat.le_refl _)
      refine ⟨Up.grown hgrow1 (fun q e => by cases e; omega), ?_, ?_, ?_, ?_, hY2⟩
      · rw [pds_snoc, ← List.append_assoc]
        unfold SetPk
        rw [List.length_append, svPk_snoc]
        exact hown1
      · exact (hgrow1.block _ HF.out.lt (fun e => by have := Option.some.inj e; omega)).trans HF.out
      · exact (hgrow1.block _ HC.out.lt (fun e => by have := Option.some.inj e; omega)).trans HC.out
      · exact HM.out.grown hgrow1 (fun E hE e => by have := HM.out.lo E hE; cases e; omega)
    case done =>
      rintro E Y hE ⟨hs, hf, hc, hm, hb⟩ hD
      have HS : Hid (SetPk Y w.heap.size ((l.take (q + 1)).flatMap Cm.pds)) := by rw [HTT.out]; exact hs
      have HF : Hid (CBlk Y (w.heap.size + 1) #[.map (some w.heap.size)] 71) := hf
      have HM : Hid (Marks (w.heap.size + 2) Y (E :: Es)) := hm.cons (by omega) (fun h => by have := hEs E h; omega) hD
      have HB : Hid (Below w.heap.size w Y) := hb
      clear hs hf hc hm hb hD
      gi_wp2
      rw [show ((q : Int) + 1) = ((q + 1 : Nat) : Int) from rfl]
      refine ⟨⟨q + 1, E :: Es, _, _, _, _, _, _, _, _, _, _, _, _, _, _, _, _, _, rfl, by have := HQ.out; omega, HS.out, HF.out, HM.out, HB.out⟩, ?_⟩
      have := HQ.out
      simp [mu10]; omega
    case stop =>
      rintro E cd pre X hE hpre h hD
      exact h.elim
  · have k1 : ¬ (q : Int) < (l.length : Int) := by omega
    obtain rfl : q = l.length := by omega
    rw [List.take_length] at HS
    obtain ⟨f0, -⟩ := one hf
    have hsk := sortedPk_any w.heap.size (l.flatMap Cm.pds) X HS.out HK.out HL.out
    clear hf
    gi_wp2
    refine ⟨trivial, fun h => (by cases h), (callsIn_wide.2 hsk).mono ?_⟩
    clear hsk f0
    rintro e w' ⟨v', K, rfl, ho, hr, hkl, hbw⟩
    have HO : Hid (OwnP w' w.heap.size v' K) := ho.mono HB.out.size
    have HR : Hid (RiseOf cmpP K (l.flatMap Cm.pds)) := hr
    have HKL : Hid (K.length ≤ (l.flatMap Cm.pds).length) := hkl
    have HM2 : Hid (Marks (w.heap.size + 2) w' Es) := HM.out.later hbw
    have HB2 : Hid (Below w.heap.size w w') := below_step HB.out hbw
    clear ho hr hkl hbw
    gi_wp2
    refine leaves_marks (B := w.heap.size + 2) (fun Y => OwnP Y w.heap.size v' K ∧ Below w.heap.size w Y) (fun Y E hY hE hD => ⟨ownP_put hY.1 hD, below_put hY.2 (by omega)⟩) (fun Y hY => ?_) Es w' HM2.out ⟨HO.out, HB2.out⟩
    exact ⟨_, results_tmp rfl _ _ _, v', K, rfl, hY.1, HR.out, HKL.out, hY.2⟩
end Go.Proofs.YtdfgijdededolabGreatDoor
