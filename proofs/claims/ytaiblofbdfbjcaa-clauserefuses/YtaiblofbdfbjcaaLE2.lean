import Derived.Test.YtaiblofbdfbjcaaMD14
import Derived.Test.YtaiblofbdfbjcaaMP2
import Derived.Test.YtaiblofbdfbjcaaCL30
/-
  consts; Instance, Vars of small clauses.
-/
namespace Go.Proofs.Ytaiblofbdfbjcaa
open Go.RowKit
attribute [local go_sem ↓] Go.wp_at_zero Go.wp_at_succ

theorem cst_in {l : List Tm} {i : Nat} {t : Tm} (h : l[i]? = some t) : cst l i = mkC t := by unfold cst; rw [h]
theorem cst_out {l : List Tm} {i : Nat} (h : l.length ≤ i) : cst l i = ⟨1, (i : Int), ⟨#[]⟩⟩ := by unfold cst; rw [List.getElem?_eq_none h]
set_option maxRecDepth 20000 in
set_option maxHeartbeats 4000000 in
theorem consts_any (l : List Tm) (v : Value) (n : Nat) (w : World) (h : Ts w v l) (hn : n ≤ 1000) :
    Calls Try.prog 18 #[v, .int .i64 (n : Int)] w fun e w' => ∃ v', e = .returned v' ∧ OwnT w' w.heap.size v' (csts l n) ∧ Below w.heap.size w w' := by
  obtain ⟨ad, cap, rfl, hl, h⟩ := h
  go_enter Try.func18, Try.ntmps18
  go_wp2
  go_loopg [5, 6] n (fun g u i wr => ∃ j : Nat, j + g = n ∧ i = .int .i64 j ∧ LS w wr u (csts l j))
  case atStart => exact ⟨0, by omega, rfl, ownT_nil _ _, Below.refl _ _⟩
  case round =>
    obtain ⟨j, hj, rfl, hls⟩ := hrel
    have HLS : Hid (LS w wr u5 (csts l j)) := hls
    clear hls
    cases gk with
    | succ g =>
      have hlt : (j : Int) < (n : Int) := by omega
      have j0 : (0 : Int) ≤ (j : Int) := by omega
      have HTJ : Hid (csts l j ++ [cst l j] = csts l (j + 1)) := (csts_succ l j).symm
      have HLJ : Hid ((csts l j).length ≤ 1000) := by show _ ≤ _; rw [csts_len]; omega
      have HG0 : Hid (CBlk (wr.alloc (.cells #[.int .i64 1, .int .i64 (j : Int), .string ⟨#[]⟩] 23)) wr.heap.size #[.int .i64 1, .int .i64 (j : Int), .string ⟨#[]⟩] 23) := CBlk.new _ _ _
      have HL0 : Hid (LS w (wr.alloc (.cells #[.int .i64 1, .int .i64 (j : Int), .string ⟨#[]⟩] 23)) u5 (csts l j)) := HLS.out.later (below1 _ _)
      have HUB : Hid (∀ k, u5.ownBlock = some k → k < wr.heap.size) := fun k hk => (HLS.out.ow.lt k hk).2
      have hsB := HLS.out.bw.size
      have hCI : ∀ t, l[j]? = some t → cst l j = mkC t := fun t ht => cst_in ht
      have hCO : l.length ≤ j → cst l j = ⟨1, (j : Int), ⟨#[]⟩⟩ := cst_out
      obtain ⟨⟨fk, fn, fs⟩, hf⟩ : ∃ x, cst l j = x := ⟨_, rfl⟩
      rw [hf] at HTJ hCI hCO
      have HCI : Hid (∀ t, l[j]? = some t → (⟨fk, fn, fs⟩ : Tm) = mkC t) := hCI
      have HCO : Hid (l.length ≤ j → (⟨fk, fn, fs⟩ : Tm) = ⟨1, (j : Int), ⟨#[]⟩⟩) := hCO
      clear hf HLS hCI hCO
      generalize csts l j = LJ at HL0 HTJ HLJ
      go_upto_if 18 with fail
      revert HG0 HL0
      generalize wr.alloc (.cells #[.int .i64 1, .int .i64 (j : Int), .string ⟨#[]⟩] 23) = Y
      intro HG0 HL0
      generalize wr.heap.size = B at HG0 HUB hsB ⊢
      go_cut [] from 18 to 27 (fun wx => LS w wx u5 LJ ∧ CBlk wx B #[.int .i64 fk, .int .i64 fn, .string fs] 23)
      case first =>
        by_cases hjl : (j : Int) < (l.length : Int)
        · obtain ⟨t, ht⟩ : ∃ t, l[j]? = some t := ⟨_, List.getElem?_eq_getElem (by omega)⟩
          rcases h with h | ⟨b1, o1, rfl, hb1, h⟩
          · subst h; simp at ht
          obtain ⟨p0, p1, p2⟩ := h j t ht
          have q0 := cell_step HL0.out.bw hb1 p0
          have q1 := cell_step HL0.out.bw hb1 p1
          have q2 := cell_step HL0.out.bw hb1 p2
          have HMC : Hid (∀ X : World, Calls Try.prog 40 #[t.v] X fun e w' => e = .returned (mkC t).v ∧ Below X.heap.size X w') := fun X => madeConst_any t X
          rw [← HCI.out t ht] at HMC
          clear h ht p0 p1 p2 HCI HCO
          obtain ⟨tk, tn, ts⟩ := t
          simp only at q0 q1 q2
          go_wp2_with (go_at_call 40; refine (HMC.out _).mono ?_; clear HMC; rintro e w2 ⟨rfl, hb⟩; have HL1 : Hid (LS w w2 u5 LJ) := HL0.out.later hb; have HG1 : Hid (CBlk w2 B _ 23) := HG0.out.later hb; clear hb q0 q1 q2; obtain ⟨c0, c1, c2⟩ := cthree HG1.out; have f0 : w2.frozen? ⟨B, 0, none⟩ = false := HG1.out.froz; have f1 : w2.frozen? ⟨B, 1, none⟩ = false := HG1.out.froz; have f2 : w2.frozen? ⟨B, 2, none⟩ = false := HG1.out.froz)
          go_meet
          case rel =>
            refine ⟨((HL1.out.far hsB HUB.out _).far hsB HUB.out _).far hsB HUB.out _, ?_⟩
            have := ((HG1.out.set 0 (.int .i64 fk)).set 1 (.int .i64 fn)).set 2 (.string fs)
            simpa using this
        · have e := HCO.out (by omega)
          simp only [Tm.mk.injEq] at e
          obtain ⟨rfl, rfl, rfl⟩ := e
          go_wp2
          go_meet
          case rel => exact ⟨HL0.out, HG0.out⟩
      case rest =>
        obtain ⟨hl2, hg2⟩ := hcut
        obtain ⟨c0, c1, c2⟩ := cthree hg2
        have HG3 : Hid (CBlk (wc.alloc (.cells #[.int .i64 fk, .int .i64 fn, .string fs] 23)) wc.heap.size #[.int .i64 fk, .int .i64 fn, .string fs] 23) := CBlk.new _ _ _
        have HL3 : Hid (LS w (wc.alloc (.cells #[.int .i64 fk, .int .i64 fn, .string fs] 23)) u5 LJ) := hl2.later (below1 _ _)
        clear hl2 hg2 HL0 HG0 HCI HCO h
        go_wp2_with (at_builtin; refine app_terms rfl _ _ rfl w.heap.size u5 LJ (by rfl) HL3.out.ow (.slice (some ⟨wc.heap.size, 0, none⟩) 1 1) [⟨fk, fn, fs⟩] (by rfl) (TsP.one HG3.out) (by have := HLJ.out; simp only [List.length_cons, List.length_nil]; omega) HL3.out.bw.size ?_; intro v' w4 hown hb3 hg3; have HL4 : Hid (LS w w4 v' (LJ ++ [⟨fk, fn, fs⟩])) := ⟨hown, HL3.out.bw.trans hb3⟩; clear hown hb3 hg3 HL3 HG3 c0 c1 c2)
        go_roundg g
        case measure => omega
        case rel => exact ⟨j + 1, by omega, by go_num, by rw [← HTJ.out]; exact HL4.out⟩
    | zero =>
      obtain rfl : j = n := by omega
      have hz : ¬ ((j : Int) < (j : Int)) := by omega
      clear h
      go_wp2
      go_ret
      exact ⟨_, rfl, HLS.out.ow, HLS.out.bw⟩
/-- A clause of few and short lists. -/
structure KS (x : Ck) : Prop where
  h : x.1.args.length ≤ 8
  b : x.2.1.length ≤ 8
  t : x.2.2.length ≤ 8
  x : ∀ a ∈ x.2.1, a.args.length ≤ 8
theorem Val0.ks {x : Ck} (h : Val0 x) : KS x := ⟨(err_zero' (h.e _ (by simp))).2.1, h.bl, h.tl, fun a ha => (err_zero' (h.e a (by simp [ha]))).2.1⟩
theorem KS.map {x : Ck} (h : KS x) (f : Tm → Tm) : KS (mapC f x) := ⟨by simpa [mapC, mapA] using h.h, by simpa [mapC] using h.b, by simpa [mapC] using h.t, fun a ha => by obtain ⟨b, hb, rfl⟩ := List.mem_map.1 ha; simpa [mapA] using h.x b hb⟩
theorem KS.len {x : Ck} (h : KS x) : (Ck.terms x).length ≤ 100 := by
  have h1 := h.h; have h2 := h.b; have h3 := h.t
  have := flat_len9 x.2.1 fun a ha => by have := h.x a ha; simp [At.pl]; omega
  unfold Ck.terms
  rw [List.length_append, List.length_append, tls_len]
  simp [At.pl] at this ⊢
  omega
theorem KS.lens {c : Cm} (h : KS c.key) : c.head.1.args.length ≤ 8 ∧ c.body.length ≤ 8 ∧ c.tests.length ≤ 8 ∧ ∀ x ∈ c.body, x.1.args.length ≤ 8 :=
  ⟨h.h, by have := h.b; simpa [Cm.key, fsts] using this, h.t, fun x hx => h.x x.1 (List.mem_map.2 ⟨x, hx, rfl⟩)⟩
theorem MCl.ok8 {B : Nat} {X : World} {d : Cm} (h : MCl B X d) (hs : KS d.key) : d.ok X := by
  obtain ⟨h1, h2, h3, h4⟩ := hs.lens
  exact h.ok (by omega) (by omega) (fun y hy => by have := h4 y hy; omega) (by omega)
theorem inst3_any (c : Cm) (vs : List Tm) (v : Value) (w : World) (h : c.ok w) (hv : Ts w v vs) (hs : KS c.key) :
    Calls Try.prog 17 #[c.v, v] w fun e w' => ∃ d : Cm, e = .returned d.v ∧ d.key = mapC (ins vs) c.key ∧ d.ok w' ∧ Below w.heap.size w w' := by
  obtain ⟨h1, h2, h3, h4⟩ := hs.lens
  refine (inst_any vs v c w hv h (by omega) (by omega) (by omega) (fun x hx => by have := h4 x hx; omega)).mono fun e w' he => ?_
  obtain ⟨M1, M2, M3, lb, rfl, hr, hb⟩ := he
  have hl : lb.length = c.body.length := by have := congrArg List.length hr.f; simpa [fsts] using this
  refine ⟨_, rfl, ?_, ⟨?_, ?_, ?_⟩, hb⟩
  · unfold Cm.key mapC Cm.cpI
    simp only
    rw [hr.f]; rfl
  · have := hr.t1
    rwa [show (c.cpI vs M1 M2 M3 lb).head.1.args = c.head.1.args.map (ins vs) from rfl]
  · exact hr.a.as hl (by omega) fun x hx => (hr.ts x hx).1.1
  · exact hr.e.es (by simp) (by omega)
theorem wf_small {v : Int} (h : 0 ≤ v) (h' : v < 100000) : (Lit.int .i64 v).wf = true := by
  simp only [Lit.wf, IntKind.min, IntKind.max, IntKind.signed, IntKind.bits, Bool.and_eq_true, decide_eq_true_eq, if_true]
  omega
theorem vars3_any (c : Cm) (w : World) (h : c.ok w) (hs : KS c.key) (hn : ∀ t ∈ Ck.terms c.key, t.var = true → t.n < 100000) :
    Calls Try.prog 14 #[c.v] w fun e w' => e = .returned (.int .i64 ((dis (vrs (Ck.terms c.key))).length : Nat)) ∧ Below w.heap.size w w' := by
  have e : c.vars = vrs (Ck.terms c.key) := by rw [← key_terms]; rfl
  rw [← e]
  refine vars_any c w h (fun v hv => ?_) ?_
  · rw [e] at hv
    obtain ⟨t, ht, rfl⟩ := List.mem_map.1 hv
    obtain ⟨ht, hvt⟩ := List.mem_filter.1 ht
    exact wf_small (var_nn hvt) (hn t ht hvt)
  · rw [e]
    have := vrs_len (Ck.terms c.key)
    have := hs.len
    omega
theorem same_of_key {c d : Cm} (h : c.key = d.key) : c.same d = true := by
  unfold Cm.key at h
  simp only [Prod.mk.injEq] at h
  unfold Cm.same
  simp [h.1, h.2.1, h.2.2]
end Go.Proofs.Ytaiblofbdfbjcaa
/-
  Clauses that lie above a block: Instance and Made answer such.
-/
namespace Go.Proofs.Ytaiblofbdfbjcaa
open Go.RowKit

/-- The clause d lies in the blocks of X from B on: wherever these are as in X, it is there. -/
def Kp (B : Nat) (X : World) (d : Cm) : Prop := ∀ X' : World, X.heap.size ≤ X'.heap.size → (∀ b, B ≤ b → b < X.heap.size → X'.heap[b]? = X.heap[b]?) → d.ok X'
theorem Kp.ok {B : Nat} {X : World} {d : Cm} (h : Kp B X d) : d.ok X := h X (Nat.le_refl _) fun _ _ _ => rfl
theorem Kp.later {B : Nat} {X X' : World} {d : Cm} (h : Kp B X d) (hb : Below X.heap.size X X') : Kp B X' d := fun Y hs ha =>
  h Y (Nat.le_trans hb.size hs) fun b h1 h2 => (ha b h1 (Nat.lt_of_lt_of_le h2 hb.size)).trans (hb.block b h2)
theorem Kp.mono {B B' : Nat} {X : World} {d : Cm} (h : Kp B X d) (hB : B' ≤ B) : Kp B' X d := fun Y hs ha => h Y hs fun b h1 h2 => ha b (Nat.le_trans hB h1) h2
theorem Kp.off {B G i : Nat} {X : World} {d : Cm} {c : Value} (h : Kp B X d) (hG : G < B) : Kp B (X.setCell ⟨G, i, none⟩ c) d := fun Y hs ha =>
  h Y (by simpa [World.setCell] using hs) fun b h1 h2 => (ha b h1 (by simpa [World.setCell] using h2)).trans (heap_setCell_other _ _ _ _ (show b ≠ G by omega))
theorem Ts.agree {X X' : World} {v : Value} {l : List Tm} (h : Ts X v l) (hs : X.heap.size ≤ X'.heap.size) (hb : ∀ b, v.ownBlock = some b → b < X.heap.size → X'.heap[b]? = X.heap[b]?) : Ts X' v l := by
  obtain ⟨a, cap, rfl, hl, hm⟩ := h
  refine ⟨a, cap, rfl, hl, ?_⟩
  rcases hm with hm | ⟨b, o, rfl, hlt, hm⟩
  · exact Or.inl hm
  · have hc : ∀ j, X'.cell? ⟨b, j, none⟩ = X.cell? ⟨b, j, none⟩ := fun j => World.cell?_of_block (w := X) (a := ⟨b, j, none⟩) (hb b rfl hlt)
    refine Or.inr ⟨b, o, rfl, Nat.lt_of_lt_of_le hlt hs, fun q t ht => ?_⟩
    simp only [hc]
    exact hm q t ht
theorem RJ.kp {B : Nat} {X : World} {c : Cm} {vs : List Tm} {M1 M2 M3 : Nat} {lb : List (At × Value)} (h : RJ B X c.head.1.args.length c.body.length c.tests.length (c.head.1.args.map (ins vs)) ((fsts c.body).map (insA vs)) (c.tests.map (insE vs)) M1 M2 M3 lb)
    (h2 : c.body.length < 1000000000000000000) (h3 : c.tests.length < 1000000000000000000) : Kp B X (c.cpI vs M1 M2 M3 lb) := fun Y hs ha => by
  have hl : lb.length = c.body.length := by have := congrArg List.length h.f; simpa [fsts] using this
  have hA : ABlk Y M2 c.body.length lb := by
    obtain ⟨C, e1, e2, e3⟩ := h.a
    exact ⟨C, (ha M2 h.b2 h.a.lt).trans e1, e2, e3⟩
  have hE : EBlk Y M3 c.tests.length (c.tests.map (insE vs)) := by
    obtain ⟨C, e1, e2, e3⟩ := h.e
    exact ⟨C, (ha M3 (by have := h.b2; have := h.b3; omega) h.e.lt).trans e1, e2, e3⟩
  refine ⟨?_, hA.as hl h2 fun x hx => (h.ts x hx).1.1.agree hs fun b e hlt => ha b ((h.ts x hx).2 b e) hlt, hE.es (by simp) h3⟩
  exact h.t1.agree hs fun b e hlt => by obtain rfl : M1 = b := Option.some.inj e; exact ha M1 h.b1 hlt
theorem OwnT.agree {X X' : World} {B : Nat} {v : Value} {l : List Tm} (h : OwnT X B v l) (hb : ∀ b, B ≤ b → b < X.heap.size → X'.heap[b]? = X.heap[b]?) : OwnT X' B v l := by
  refine ⟨h.1, ?_⟩
  rcases h.2 with hn | ⟨g, cap, cur, hv, hbb, hg, rest⟩
  · exact Or.inl hn
  · exact Or.inr ⟨g, cap, cur, hv, hbb, (hb g hbb (Array.getElem?_eq_some_iff.1 hg).1).trans hg, rest⟩
theorem OwnA.agree {X X' : World} {B : Nat} {v : Value} {l : List (At × Value)} (h : OwnA X B v l) (hb : ∀ b, B ≤ b → b < X.heap.size → X'.heap[b]? = X.heap[b]?) : OwnA X' B v l := by
  refine ⟨h.1, ?_⟩
  rcases h.2 with hn | ⟨g, cap, cur, hv, hbb, hg, rest⟩
  · exact Or.inl hn
  · exact Or.inr ⟨g, cap, cur, hv, hbb, (hb g hbb (Array.getElem?_eq_some_iff.1 hg).1).trans hg, rest⟩
theorem OwnE.agree {X X' : World} {B : Nat} {v : Value} {l : List Te} (h : OwnE X B v l) (hb : ∀ b, B ≤ b → b < X.heap.size → X'.heap[b]? = X.heap[b]?) : OwnE X' B v l := by
  refine ⟨h.1, ?_⟩
  rcases h.2 with hn | ⟨g, cap, cur, hv, hbb, hg, rest⟩
  · exact Or.inl hn
  · exact Or.inr ⟨g, cap, cur, hv, hbb, (hb g hbb (Array.getElem?_eq_some_iff.1 hg).1).trans hg, rest⟩
theorem MCl.kp {B : Nat} {X : World} {d : Cm} (h : MCl B X d) (hs : KS d.key) : Kp B X d := fun Y _ ha =>
  (show MCl B Y d from ⟨h.h.agree ha, h.b.agree ha, fun y hy => (h.x y hy).agree ha, h.t.agree ha, h.s⟩).ok8 hs
theorem inst4_any (c : Cm) (vs : List Tm) (v : Value) (w : World) (h : c.ok w) (hv : Ts w v vs) (hs : KS c.key) :
    Calls Try.prog 17 #[c.v, v] w fun e w' => ∃ d : Cm, e = .returned d.v ∧ d.key = mapC (ins vs) c.key ∧ Kp w.heap.size w' d ∧ Below w.heap.size w w' := by
  obtain ⟨h1, h2, h3, h4⟩ := hs.lens
  refine (inst_any vs v c w hv h (by omega) (by omega) (by omega) (fun x hx => by have := h4 x hx; omega)).mono fun e w' he => ?_
  obtain ⟨M1, M2, M3, lb, rfl, hr, hb⟩ := he
  refine ⟨_, rfl, ?_, hr.kp (by omega) (by omega), hb⟩
  unfold Cm.key mapC Cm.cpI
  simp only
  rw [hr.f]; rfl
/-- A clause in its box. -/
structure Bx (X : World) (G : Nat) (d : Cm) : Prop where
  b : CBlk X G d.cs 30
  o : d.ok X
theorem Bx.later {X X' : World} {G : Nat} {d : Cm} (h : Bx X G d) (hb : Below X.heap.size X X') : Bx X' G d := ⟨h.b.later hb, h.o.later hb⟩
theorem Bx.new {X : World} {d : Cm} (h : d.ok X) : Bx (X.alloc (.cells d.cs 30)) X.heap.size d := ⟨CBlk.new _ _ _, h.later (below1 _ _)⟩
abbrev Cput (X : World) (G : Nat) (a b c d e f g : Value) : World := ((((((X.setCell ⟨G, 0, none⟩ a).setCell ⟨G, 1, none⟩ b).setCell ⟨G, 2, none⟩ c).setCell ⟨G, 3, none⟩ d).setCell ⟨G, 4, none⟩ e).setCell ⟨G, 5, none⟩ f).setCell ⟨G, 6, none⟩ g
theorem CBlk.put7 {X : World} {G : Nat} {t : TypeId} (h : CBlk X G zcs t) (a b c d e f g : Value) : CBlk (Cput X G a b c d e f g) G #[a, b, c, d, e, f, g] t := by
  have := ((((((h.set 0 a).set 1 b).set 2 c).set 3 d).set 4 e).set 5 f).set 6 g
  simpa [zcs] using this
theorem bput7 {W X : World} {B G : Nat} (h : Below B W X) (hG : B ≤ G) (a b c d e f g : Value) : Below B W (Cput X G a b c d e f g) := ((((((h.setCell (show B ≤ G from hG) _).setCell (show B ≤ G from hG) _).setCell (show B ≤ G from hG) _).setCell (show B ≤ G from hG) _).setCell (show B ≤ G from hG) _).setCell (show B ≤ G from hG) _).setCell (show B ≤ G from hG) _
theorem Kp.put7 {B G : Nat} {X : World} {d : Cm} (h : Kp B X d) (hG : G < B) (a b c d' e f g : Value) : Kp B (Cput X G a b c d' e f g) d := ((((((h.off hG).off hG).off hG).off hG).off hG).off hG).off hG
end Go.Proofs.Ytaiblofbdfbjcaa
