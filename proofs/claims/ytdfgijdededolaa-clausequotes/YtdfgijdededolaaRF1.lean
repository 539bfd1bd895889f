import Derived.Test.YtdfgijdededolaaLE1
/-
  Clauses that lie above a block: Instance and Made answer such.
-/
namespace Go.Proofs.Ytdfgijdededolaa
open Go.RowKit

/-- The clause d lies in the blocks of X from B on: wherever these are as in X, it is there. -/
def Kp (B : Nat) (X : World) (d : Cm) : Prop := ∀ X' : World, X.heap.size ≤ X'.heap.size → (∀ b, B ≤ b → b < X.heap.size → X'.heap[b]? = X.heap[b]?) → d.ok X'
theorem Kp.ok {B : Nat} {X : World} {d : Cm} (h : Kp B X d) : d.ok X := h X (Nat.le_refl _) fun _ _ _ => rfl
theorem Kp.later {B : Nat} {X X' : World} {d : Cm} (h : Kp B X d) (hb : Below X.heap.size X X') : Kp B X' d := fun Y hs ha =>
  h Y (Nat.le_trans hb.size hs) fun b h1 h2 => (ha b h1 (Nat.lt_of_lt_of_le h2 hb.size)).trans (hb.block b h2)
theorem Kp.mono {B B' : Nat} {X : World} {d : Cm} (h : Kp B X d) (hB : B' ≤ B) : Kp B' X d := fun Y hs ha => h Y hs fun b h1 h2 => ha b (Nat.le_trans hB h1) h2
theorem Kp.off {B G i : Nat} {X : World} {d : Cm} {c : Value} (h : Kp B X d) (hG : G < B) : Kp B (X.setCell ⟨G, i, none⟩ c) d := fun Y hs ha =>
  h Y (by simpa [World.setCell] using hs) fun b h1 h2 => (ha b h1 (by simpa [World.setCell] using h2)).trans (heap_setCell_other _ _ _ _ (show b ≠ G by omega))
theorem Ts.agree {X X' : World} {v : Value} {l : List Tm} (h : Ts X v l) (hs : X.heap.size ≤ X'.heap.size) (hb : ∀ b, v.ownBlock = some b → b < X.heap.size → X'.heap[b]? = X.heap[b]?) : Ts X' v l := by
  obtain ⟨a, cap, rfl, hl, hm⟩ := h
  refine ⟨a, cap, rfl, hl, ?_⟩
  rcases hm with hm | ⟨b, o, rfl, hlt, hm⟩
  · exact Or.inl hm
  · have hc : ∀ j, X'.cell? ⟨b, j, none⟩ = X.cell? ⟨b, j, none⟩ := fun j => World.cell?_of_block (w := X) (a := ⟨b, j, none⟩) (hb b rfl hlt)
    refine Or.inr ⟨b, o, rfl, Nat.lt_of_lt_of_le hlt hs, fun q t ht => ?_⟩
    simp only [hc]
    exact hm q t ht
theorem RJ.kp {B : Nat} {X : World} {c : Cm} {vs : List Tm} {M1 M2 M3 : Nat} {lb : List (At × Value)} (h : RJ B X c.head.1.args.length c.body.length c.tests.length (c.head.1.args.map (ins vs)) ((fsts c.body).map (insA vs)) (c.tests.map (insE vs)) M1 M2 M3 lb)
    (h2 : c.body.length < 1000000000000000000) (h3 : c.tests.length < 1000000000000000000) : Kp B X (c.cpI vs M1 M2 M3 lb) := fun Y hs ha => by
  have hl : lb.length = c.body.length := by have := congrArg List.length h.f; simpa [fsts] using this
  have hA : ABlk Y M2 c.body.length lb := by
    obtain ⟨C, e1, e2, e3⟩ := h.a
    exact ⟨C, (ha M2 h.b2 h.a.lt).trans e1, e2, e3⟩
  have hE : EBlk Y M3 c.tests.length (c.tests.map (insE vs)) := by
    obtain ⟨C, e1, e2, e3⟩ := h.e
    exact ⟨C, (ha M3 (by have := h.b2; have := h.b3; omega) h.e.lt).trans e1, e2, e3⟩
  refine ⟨?_, hA.as hl h2 fun x hx => (h.ts x hx).1.1.agree hs fun b e hlt => ha b ((h.ts x hx).2 b e) hlt, hE.es (by simp) h3⟩
  exact h.t1.agree hs fun b e hlt => by obtain rfl : M1 = b := Option.some.inj e; exact ha M1 h.b1 hlt
theorem OwnT.agree {X X' : World} {B : Nat} {v : Value} {l : List Tm} (h : OwnT X B v l) (hb : ∀ b, B ≤ b → b < X.heap.size → X'.heap[b]? = X.heap[b]?) : OwnT X' B v l := by
  refine ⟨h.1, ?_⟩
  rcases h.2 with hn | ⟨g, cap, cur, hv, hbb, hg, rest⟩
  · exact Or.inl hn
  · exact Or.inr ⟨g, cap, cur, hv, hbb, (hb g hbb (Array.getElem?_eq_some_iff.1 hg).1).trans hg, rest⟩
theorem OwnA.agree {X X' : World} {B : Nat} {v : Value} {l : List (At × Value)} (h : OwnA X B v l) (hb : ∀ b, B ≤ b → b < X.heap.size → X'.heap[b]? = X.heap[b]?) : OwnA X' B v l := by
  refine ⟨h.1, ?_⟩
  rcases h.2 with hn | ⟨g, cap, cur, hv, hbb, hg, rest⟩
  · exact Or.inl hn
  · exact Or.inr ⟨g, cap, cur, hv, hbb, (hb g hbb (Array.getElem?_eq_some_iff.1 hg).1).trans hg, rest⟩
theorem OwnE.agree {X X' : World} {B : Nat} {v : Value} {l : List Te} (h : OwnE X B v l) (hb : ∀ b, B ≤ b → b < X.heap.size → X'.heap[b]? = X.heap[b]?) : OwnE X' B v l := by
  refine ⟨h.1, ?_⟩
  rcases h.2 with hn | ⟨g, cap, cur, hv, hbb, hg, rest⟩
  · exact Or.inl hn
  · exact Or.inr ⟨g, cap, cur, hv, hbb, (hb g hbb (Array.getElem?_eq_some_iff.1 hg).1).trans hg, rest⟩
theorem MCl.kp {B : Nat} {X : World} {d : Cm} (h : MCl B X d) (hs : KS d.key) : Kp B X d := fun Y _ ha =>
  (show MCl B Y d from ⟨h.h.agree ha, h.b.agree ha, fun y hy => (h.x y hy).agree ha, h.t.agree ha, h.s⟩).ok8 hs
theorem inst4_any (c : Cm) (vs : List Tm) (v : Value) (w : World) (h : c.ok w) (hv : Ts w v vs) (hs : KS c.key) :
    Calls Try.prog 17 #[c.v, v] w fun e w' => ∃ d : Cm, e = .returned d.v ∧ d.key = mapC (ins vs) c.key ∧ Kp w.heap.size w' d ∧ Below w.heap.size w w' := by
  obtain ⟨h1, h2, h3, h4⟩ := hs.lens
  refine (inst_any vs v c w hv h (by omega) (by omega) (by omega) (fun x hx => by have := h4 x hx; omega)).mono fun e w' he => ?_
  obtain ⟨M1, M2, M3, lb, rfl, hr, hb⟩ := he
  refine ⟨_, rfl, ?_, hr.kp (by omega) (by omega), hb⟩
  unfold Cm.key mapC Cm.cpI
  simp only
  rw [hr.f]; rfl
/-- A clause in its box. -/
structure Bx (X : World) (G : Nat) (d : Cm) : Prop where
  b : CBlk X G d.cs 30
  o : d.ok X
theorem Bx.later {X X' : World} {G : Nat} {d : Cm} (h : Bx X G d) (hb : Below X.heap.size X X') : Bx X' G d := ⟨h.b.later hb, h.o.later hb⟩
theorem Bx.new {X : World} {d : Cm} (h : d.ok X) : Bx (X.alloc (.cells d.cs 30)) X.heap.size d := ⟨CBlk.new _ _ _, h.later (below1 _ _)⟩
abbrev Cput (X : World) (G : Nat) (a b c d e f g : Value) : World := ((((((X.setCell ⟨G, 0, none⟩ a).setCell ⟨G, 1, none⟩ b).setCell ⟨G, 2, none⟩ c).setCell ⟨G, 3, none⟩ d).setCell ⟨G, 4, none⟩ e).setCell ⟨G, 5, none⟩ f).setCell ⟨G, 6, none⟩ g
theorem CBlk.put7 {X : World} {G : Nat} {t : TypeId} (h : CBlk X G zcs t) (a b c d e f g : Value) : CBlk (Cput X G a b c d e f g) G #[a, b, c, d, e, f, g] t := by
  have := ((((((h.set 0 a).set 1 b).set 2 c).set 3 d).set 4 e).set 5 f).set 6 g
  simpa [zcs] using this
theorem bput7 {W X : World} {B G : Nat} (h : Below B W X) (hG : B ≤ G) (a b c d e f g : Value) : Below B W (Cput X G a b c d e f g) := ((((((h.setCell (show B ≤ G from hG) _).setCell (show B ≤ G from hG) _).setCell (show B ≤ G from hG) _).setCell (show B ≤ G from hG) _).setCell (show B ≤ G from hG) _).setCell (show B ≤ G from hG) _).setCell (show B ≤ G from hG) _
theorem Kp.put7 {B G : Nat} {X : World} {d : Cm} (h : Kp B X d) (hG : G < B) (a b c d' e f g : Value) : Kp B (Cput X G a b c d' e f g) d := ((((((h.off hG).off hG).off hG).off hG).off hG).off hG).off hG
end Go.Proofs.Ytdfgijdededolaa
/-
  What Check answers to clauses broken in one way. (Plain.)
-/
namespace Go.Proofs.Ytdfgijdededolaa
open Go.RowKit

/-- What Check answers, one by one. -/
theorem key_len (c : Cm) : c.body.length = c.key.2.1.length ∧ c.tests.length = c.key.2.2.length := by simp [Cm.key, fsts]
theorem chk_long {c : Cm} (h : 8 < c.key.2.1.length) : c.chk = 31 := by
  have h1 : long c = true := by unfold long; rw [(key_len c).1, decide_eq_true h]; rfl
  simp [Cm.chk, Cm.rs, chkL, h1]
theorem short_no {c : Cm} (h : c.key.2.1.length ≤ 8) (h' : c.key.2.2.length ≤ 8) : long c = false := by
  unfold long; rw [(key_len c).1, (key_len c).2]; simp; omega
theorem aErr_head {c : Cm} (h : c.key.1.err ≠ 0) : aErr c.atoms = c.key.1.err := by
  have h' : ¬ c.head.1.err = 0 := h
  unfold Cm.atoms aErr; rw [if_neg h']; rfl
theorem aErr_ok {c : Cm} (h : ∀ a ∈ c.key.1 :: c.key.2.1, a.err = 0) : aErr c.atoms = 0 := aErr_zero fun y hy => by
  rcases List.mem_cons.1 hy with rfl | hy
  · exact h _ (by simp [Cm.key])
  · exact h _ (by simp only [Cm.key, fsts, List.mem_cons, List.mem_map]; exact Or.inr ⟨y, hy, rfl⟩)
theorem badTk_no {c : Cm} (h : ∀ a ∈ c.key.2.2, a.ok = true) : badT c = false := by
  unfold badT; rw [List.any_eq_false]; intro t ht; rw [h t ht]; simp
theorem unb_key {c : Cm} : unb c = (vrs (c.key.1.pl ++ tls c.key.2.2)).any fun v => !decide (v ∈ vrs (c.key.2.1.flatMap At.pl)) := by
  have e1 : c.restC.vars = vrs c.restC.terms := rfl
  have e2 : c.bodyC.vars = vrs c.bodyC.terms := rfl
  have e3 : flt c.body = c.key.2.1.flatMap At.pl := by simp [flt, Cm.key, fsts, List.flatMap_map]
  unfold unb
  rw [e1, e2, restC_terms, bodyC_terms, e3]
  have e4 : vrs (⟨0, 0, ⟨#[]⟩⟩ :: c.key.2.1.flatMap At.pl) = vrs (c.key.2.1.flatMap At.pl) := by unfold vrs; rw [List.filter_cons_of_neg (by rw [zt_var]; simp)]
  rw [e4]; rfl
theorem unb_no2 {c : Cm} (h : ∀ t ∈ c.key.1.pl ++ tls c.key.2.2, t.var = true → t ∈ c.key.2.1.flatMap At.pl) : unb c = false := by
  rw [unb_key, List.any_eq_false]
  intro v hv
  obtain ⟨t, ht, rfl⟩ := List.mem_map.1 hv
  obtain ⟨ht, hvt⟩ := List.mem_filter.1 ht
  have : t.n ∈ vrs (c.key.2.1.flatMap At.pl) := List.mem_map.2 ⟨t, List.mem_filter.2 ⟨h t ht hvt, hvt⟩, rfl⟩
  simp [this]
theorem mis_key {c : Cm} : mis 0 c.vars = mis 0 (vrs (Ck.terms c.key)) := by
  have : c.vars = vrs c.terms := rfl
  rw [this, key_terms]
theorem mis_far : ∀ (l : List Int) (n v : Int) (r : List Int), n + l.length < v → mis n (l ++ v :: r) = true
  | [], n, v, r, h => by rw [List.nil_append, mis, if_pos (by simpa using h)]
  | a :: l, n, v, r, h => by
    rw [List.cons_append, mis]
    by_cases h1 : n < a
    · rw [if_pos h1]
    · rw [if_neg h1]
      refine mis_far l _ v r ?_
      simp only [List.length_cons] at h
      split <;> omega
def saysN : ByteArray := ⟨#[115, 97, 121, 115]⟩
def num0 : Tm := ⟨1, 0, ⟨#[]⟩⟩
def pAt : At := ⟨zt, nmP, []⟩
def pAt2 : At := ⟨zt, nmP, [⟨3, 2000, ⟨#[]⟩⟩]⟩
theorem br2 {x : Ck} {c : Cm} (hv : Val0 x) (hs : nameOk saysN = false) (h : c.key = (⟨x.1.by_, saysN, x.1.args⟩, x.2.1, x.2.2)) : c.chk = 21 := by
  have a1 := short_no (c := c) (by rw [h]; exact hv.bl) (by rw [h]; exact hv.tl)
  have e : c.key.1.err = 21 := by rw [h]; unfold At.err; rw [if_pos hs]
  have a2 := aErr_head (c := c) (by rw [e]; omega)
  rw [e] at a2
  simp [Cm.chk, Cm.rs, chkL, a1, a2]
theorem br3 {x : Ck} {c : Cm} (hv : Val0 x) (h : c.key = (x.1, x.2.1, [⟨5, num0, num0⟩])) : c.chk = 32 := by
  have a1 := short_no (c := c) (by rw [h]; exact hv.bl) (by rw [h]; simp)
  have a2 := aErr_ok (c := c) (by rw [h]; exact hv.e)
  have a3 : badT c = true := by
    have : c.tests = [⟨5, num0, num0⟩] := by have := congrArg (·.2.2) h; exact this
    unfold badT; rw [this]; simp [Te.ok]
  simp [Cm.chk, Cm.rs, chkL, a1, a2, a3]
theorem br4 {x : Ck} {c : Cm} {n : Int} (hv : Val0 x) (hn : 0 ≤ n) (h : c.key = (⟨⟨3, n, ⟨#[]⟩⟩, x.1.name, x.1.args⟩, x.2.1, x.2.2)) : c.chk = 33 := by
  have a1 := short_no (c := c) (by rw [h]; exact hv.bl) (by rw [h]; exact hv.tl)
  have hvar : Tm.var ⟨3, n, ⟨#[]⟩⟩ = true := by simp [Tm.var, hn]
  have a2 := aErr_ok (c := c) (by
    rw [h]
    intro a ha
    rcases List.mem_cons.1 ha with rfl | ha
    · obtain ⟨h1, h2, h3, h4⟩ := err_zero' (hv.e x.1 (by simp))
      exact err_zero h1 h2 (by simp [qualOk, hvar]) h4
    · exact hv.e a (by simp [ha]))
  have a3 := badTk_no (c := c) (by rw [h]; exact hv.t)
  have a4 : c.head.1.by_.var = true := by have : c.head.1.by_ = ⟨3, n, ⟨#[]⟩⟩ := by have := congrArg (·.1.by_) h; exact this
                                          rw [this]; exact hvar
  simp [Cm.chk, Cm.rs, chkL, a1, a2, a3, a4]
theorem br5 {x : Ck} {c : Cm} (hv : Val0 x) (hn : ∀ t ∈ Ck.terms x, t.var = true → t.n < 73) (h : c.key = (x.1, x.2.1, [⟨1, ⟨3, 100, ⟨#[]⟩⟩, num0⟩])) : c.chk = 34 := by
  have hvar : Tm.var ⟨3, 100, ⟨#[]⟩⟩ = true := by simp [Tm.var]
  have a1 := short_no (c := c) (by rw [h]; exact hv.bl) (by rw [h]; simp)
  have a2 := aErr_ok (c := c) (by rw [h]; exact hv.e)
  have a3 := badTk_no (c := c) (by rw [h]; intro a ha; simp at ha; subst ha; simp [Te.ok, Tm.cov, hvar, num0, Tm.con])
  have a4 : c.head.1.by_.var = false := by have : c.head.1 = x.1 := by have := congrArg (·.1) h; exact this
                                           rw [this]; exact hv.h
  have a5 : unb c = true := by
    rw [unb_key, h, List.any_eq_true]
    refine ⟨100, List.mem_map.2 ⟨⟨3, 100, ⟨#[]⟩⟩, List.mem_filter.2 ⟨by simp [tls], hvar⟩, rfl⟩, ?_⟩
    have : ¬ (100 : Int) ∈ vrs (x.2.1.flatMap At.pl) := fun hm => by
      obtain ⟨t, ht, e⟩ := List.mem_map.1 hm
      obtain ⟨ht, hvt⟩ := List.mem_filter.1 ht
      have := hn t (by unfold Ck.terms; simp [ht]) hvt
      omega
    simp [this]
  simp [Cm.chk, Cm.rs, chkL, a1, a2, a3, a4, a5]
theorem p2_err (hp : nameOk nmP = true) : pAt2.err = 0 := err_zero hp (by simp [pAt2]) qual_zt (by intro t ht; simp [pAt2] at ht; subst ht; simp [Tm.cov, Tm.var])
theorem vrs_app (a b : List Tm) : vrs (a ++ b) = vrs a ++ vrs b := by simp [vrs]
theorem vrs_le (l : List Tm) : (vrs l).length ≤ l.length := by unfold vrs; rw [List.length_map]; exact List.length_filter_le _ _
theorem br6 {x : Ck} {c : Cm} (hp : nameOk nmP = true) (hv : Val0 x) (hl : x.2.1.length + 1 ≤ 8) (h : c.key = (x.1, pAt2 :: x.2.1, x.2.2)) : c.chk = 35 := by
  have a1 := short_no (c := c) (by rw [h]; exact hl) (by rw [h]; exact hv.tl)
  have a2 := aErr_ok (c := c) (by
    rw [h]
    intro a ha
    simp only [List.mem_cons] at ha
    rcases ha with rfl | rfl | ha
    · exact hv.e _ (by simp)
    · exact p2_err hp
    · exact hv.e a (by simp [ha]))
  have a3 := badTk_no (c := c) (by rw [h]; exact hv.t)
  have a4 : c.head.1.by_.var = false := by have : c.head.1 = x.1 := by have := congrArg (·.1) h; exact this
                                           rw [this]; exact hv.h
  have a5 := unb_no2 (c := c) (by rw [h]; intro t ht hvt; rw [List.flatMap_cons]; exact List.mem_append_right _ (hv.s t ht hvt))
  have a6 : mis 0 c.vars = true := by
    rw [mis_key, h]
    have e : vrs (Ck.terms (x.1, pAt2 :: x.2.1, x.2.2)) = vrs x.1.pl ++ (2000 : Int) :: vrs (x.2.1.flatMap At.pl ++ tls x.2.2) := by
      unfold Ck.terms
      rw [vrs_app]
      congr 1
    rw [e]
    refine mis_far _ _ _ _ ?_
    have h1 := vrs_le x.1.pl
    have h2 := (err_zero' (hv.e x.1 (by simp))).2.1
    have e9 : x.1.pl.length = x.1.args.length + 1 := by simp [At.pl]
    omega
  simp [Cm.chk, Cm.rs, chkL, a1, a2, a3, a4, a5, a6]
theorem br7 {x : Ck} {c : Cm} (hp : nameOk nmP = true) (hv : Val0 x) (h : c.key = (⟨x.1.by_, x.1.name, []⟩, [pAt2], [])) : c.chk = 35 := by
  have a1 := short_no (c := c) (by rw [h]; simp) (by rw [h]; simp)
  have a2 := aErr_ok (c := c) (by
    rw [h]
    intro a ha
    simp only [List.mem_cons, List.not_mem_nil, or_false] at ha
    rcases ha with rfl | rfl
    · obtain ⟨h1, h2, h3, h4⟩ := err_zero' (hv.e x.1 (by simp))
      exact err_zero h1 (by simp) h3 (by simp)
    · exact p2_err hp)
  have a3 := badTk_no (c := c) (by rw [h]; simp)
  have a4 : c.head.1.by_.var = false := by have : c.head.1.by_ = x.1.by_ := by have := congrArg (·.1.by_) h; exact this
                                           rw [this]; exact hv.h
  have a5 := unb_no2 (c := c) (by rw [h]; intro t ht hvt; simp [At.pl, tls] at ht; subst ht; rw [hv.h] at hvt; cases hvt)
  have a6 : mis 0 c.vars = true := by
    rw [mis_key, h]
    have e : vrs (Ck.terms ((⟨x.1.by_, x.1.name, []⟩ : At), [pAt2], ([] : List Te))) = [] ++ (2000 : Int) :: [] := by
      have hh := hv.h
      have z : zt.var = false := by simp [Tm.var, zt]
      show vrs (x.1.by_ :: zt :: [⟨3, 2000, ⟨#[]⟩⟩]) = _
      unfold vrs
      rw [List.filter_cons_of_neg (by rw [hh]; simp), List.filter_cons_of_neg (by rw [z]; simp), List.filter_cons_of_pos (by simp [Tm.var])]
      rfl
    rw [e]
    exact mis_far _ _ _ _ (by simp)
  simp [Cm.chk, Cm.rs, chkL, a1, a2, a3, a4, a5, a6]
theorem wf_of {c : Cm} (h : ∀ t ∈ Ck.terms c.key, t.var = true → t.n < 100000) (hl : (Ck.terms c.key).length ≤ 1000) : c.wf :=
  ⟨fun t ht hv => wf_small (var_nn hv) (h t (by rw [← key_terms]; exact ht) hv), by rw [key_terms]; omega⟩
theorem saysN_no : nameOk saysN = false := by decide
end Go.Proofs.Ytdfgijdededolaa
