/-
  Quote, of a clause that may be quoted. (Written by CL20.py.)
-/
import Derived.Test.YtdfgijdededolabGreatDoorCL7
import Derived.Test.YtdfgijdededolabGreatDoorCL12
namespace Go.Proofs.YtdfgijdededolabGreatDoor
open Go.RowKit
attribute [local go_sem ↓] Go.wp_at_zero Go.wp_at_succ

/-- An atom quoted. -/
def qa (u : ByteArray) (x : At) : At := if x.by_ = zt then ⟨⟨2, 0, u⟩, x.name, x.args⟩ else x
theorem qa_yes {u : ByteArray} {x : At} (h : x.by_ = zt) : qa u x = ⟨⟨2, 0, u⟩, x.name, x.args⟩ := if_pos h
theorem qa_no {u : ByteArray} {x : At} (h : ¬ x.by_ = zt) : qa u x = x := if_neg h
def mix (q : At → At) (l : List At) (j : Nat) : List At := l.mapIdx fun i x => if i < j then q x else x
theorem mix_at (q : At → At) (l : List At) (j i : Nat) : (mix q l j)[i]? = l[i]?.map fun x => if i < j then q x else x := by simp [mix, List.getElem?_mapIdx]
theorem mix_len (q : At → At) (l : List At) (j : Nat) : (mix q l j).length = l.length := by simp [mix]
theorem mix_zero (q : At → At) (l : List At) : mix q l 0 = l := List.ext_getElem? fun i => by rw [mix_at]; cases l[i]? <;> simp
theorem mix_all (q : At → At) (l : List At) : mix q l l.length = l.map q := List.ext_getElem? fun i => by
  rw [mix_at, List.getElem?_map]
  cases h : l[i]? with
  | none => rfl
  | some x => have := (List.getElem?_eq_some_iff.1 h).1; simp [this]
theorem mix_set {q : At → At} {l : List At} {j : Nat} {x : At} (hx : l[j]? = some x) : (mix q l j).set j (q x) = mix q l (j + 1) := List.ext_getElem? fun i => by
  by_cases h : i = j
  · subst h
    rw [List.getElem?_set_self (by rw [mix_len]; exact (List.getElem?_eq_some_iff.1 hx).1), mix_at, hx]
    simp
  · rw [List.getElem?_set_ne (fun e => h e.symm), mix_at, mix_at]; congr 1; funext y; by_cases hij : i < j; · rw [if_pos hij, if_pos (by omega)]
    · rw [if_neg hij, if_neg (by omega)]
theorem mix_same {q : At → At} {l : List At} {j : Nat} {x : At} (hx : l[j]? = some x) (hq : q x = x) : mix q l (j + 1) = mix q l j := List.ext_getElem? fun i => by
  by_cases h : i = j
  · subst h; rw [mix_at, mix_at, hx]; simp [hq]
  · rw [mix_at, mix_at]; congr 1; funext y; by_cases hij : i < j; · rw [if_pos hij, if_pos (by omega)]
    · rw [if_neg hij, if_neg (by omega)]
theorem mix_get {q : At → At} {l : List At} {j : Nat} : (mix q l j)[j]? = l[j]? := by rw [mix_at]; cases l[j]? <;> simp
theorem fsts_set (l : List (At × Value)) (j : Nat) (y : At × Value) : fsts (l.set j y) = (fsts l).set j y.1 := by simp [fsts, List.map_set]
theorem ABlk.get {w : World} {g n i : Nat} {l : List (At × Value)} {x : At × Value} (h : ABlk w g n l) (hx : l[i]? = some x) :
    w.cell? ⟨g, i * 5, none⟩ = some (.int .i64 x.1.by_.k) ∧ w.cell? ⟨g, i * 5 + 1, none⟩ = some (.int .i64 x.1.by_.n) ∧ w.cell? ⟨g, i * 5 + 2, none⟩ = some (.string x.1.by_.s) ∧ w.cell? ⟨g, i * 5 + 3, none⟩ = some (.string x.1.name) ∧ w.cell? ⟨g, i * 5 + 4, none⟩ = some x.2 := by
  obtain ⟨C, h1, h2, h3⟩ := h
  rw [cell_of_row _ _ _ _ _ _ h1, cell_of_row _ _ _ _ _ _ h1, cell_of_row _ _ _ _ _ _ h1, cell_of_row _ _ _ _ _ _ h1, cell_of_row _ _ _ _ _ _ h1]
  exact h3 i x hx
theorem ABlk.froz {w : World} {g n i : Nat} {l : List (At × Value)} (h : ABlk w g n l) : w.frozen? ⟨g, i, none⟩ = false := by
  obtain ⟨C, h1, -⟩ := h
  exact frozen_of_row _ _ _ _ _ h1
theorem CBlk.froz {w : World} {g i : Nat} {c : Array Value} {t : TypeId} (h : CBlk w g c t) : w.frozen? ⟨g, i, none⟩ = false := frozen_of_row _ _ _ _ _ h

/-- Quote's boxes. -/
structure QB (w X : World) (c : Cm) (u : ByteArray) : Prop where
  bc : CBlk X w.heap.size c.cs 41
  br : CBlk X (w.heap.size + 1) zcs 41
  bb : CBlk X (w.heap.size + 1 + 1) #[.int .i64 2, .int .i64 0, .string u] 35
  ok : c.ok X
  bw : Below w.heap.size w X
  sz : w.heap.size + 3 ≤ X.heap.size
theorem QB.later {w X X' : World} {c : Cm} {u : ByteArray} (h : QB w X c u) (hb : Below X.heap.size X X') : QB w X' c u :=
  ⟨h.bc.later hb, h.br.later hb, h.bb.later hb, h.ok.later hb, below_step h.bw hb, Nat.le_trans h.sz hb.size⟩
theorem QB.start (w : World) (c : Cm) (u : ByteArray) (h : c.ok w) : QB w (((w.alloc (.cells c.cs 41)).alloc (.cells zcs 41)).alloc (.cells #[.int .i64 2, .int .i64 0, .string u] 35)) c u := by
  have b3 := below_step (below2 w (.cells c.cs 41) (.cells zcs 41)) (below1 _ (.cells #[.int .i64 2, .int .i64 0, .string u] 35))
  have x1 := (CBlk.new w c.cs 41).later (below2 (w.alloc (.cells c.cs 41)) (.cells zcs 41) (.cells #[.int .i64 2, .int .i64 0, .string u] 35))
  have x2 := (CBlk.new (w.alloc (.cells c.cs 41)) zcs 41).later (below1 _ (.cells #[.int .i64 2, .int .i64 0, .string u] 35))
  have x3 := CBlk.new ((w.alloc (.cells c.cs 41)).alloc (.cells zcs 41)) #[.int .i64 2, .int .i64 0, .string u] 35
  rw [show (w.alloc (.cells c.cs 41)).heap.size = w.heap.size + 1 by simp] at x2
  rw [show ((w.alloc (.cells c.cs 41)).alloc (.cells zcs 41)).heap.size = w.heap.size + 1 + 1 by simp] at x3
  exact ⟨x1, x2, x3, h.later b3, b3, by simp⟩
/-- .. and its loop. -/
structure QU (w X : World) (c : Cm) (u : ByteArray) (Bo M1 M2 M3 : Nat) (L : List (At × Value)) : Prop where
  br : CBlk X (w.heap.size + 1) zcs 41
  bb : CBlk X (w.heap.size + 1 + 1) #[.int .i64 2, .int .i64 0, .string u] 35
  bo : CBlk X Bo #[.int .i64 2, .int .i64 0, .string u, .string c.head.1.name, .slice (some ⟨M1, 0, none⟩) c.head.1.args.length c.head.1.args.length, .slice (some ⟨M2, 0, none⟩) c.body.length c.body.length, .slice (some ⟨M3, 0, none⟩) c.tests.length c.tests.length] 41
  a : ABlk X M2 c.body.length L
  t1 : Ts X (.slice (some ⟨M1, 0, none⟩) c.head.1.args.length c.head.1.args.length) c.head.1.args
  n1 : M1 ≠ M2
  ts : ∀ x ∈ L, TsN X M2 x.2 x.1.args ∧ ∀ b, x.2.ownBlock = some b → w.heap.size + 3 ≤ b
  e : EBlk X M3 c.tests.length c.tests
  bw : Below w.heap.size w X
  b1 : w.heap.size + 3 ≤ M1
  b2 : w.heap.size + 3 ≤ M2
  b3 : M2 < M3
  b4 : M3 < Bo
theorem QU.later {w X X' : World} {c : Cm} {u : ByteArray} {Bo M1 M2 M3 : Nat} {L : List (At × Value)} (h : QU w X c u Bo M1 M2 M3 L) (hb : Below X.heap.size X X') : QU w X' c u Bo M1 M2 M3 L :=
  ⟨h.br.later hb, h.bb.later hb, h.bo.later hb, h.a.later hb, h.t1.later hb, h.n1, fun x hx => ⟨(h.ts x hx).1.later hb, (h.ts x hx).2⟩, h.e.later hb, below_step h.bw hb, h.b1, h.b2, h.b3, h.b4⟩
theorem QU.by_ {w X : World} {c : Cm} {u : ByteArray} {Bo M1 M2 M3 j : Nat} {L : List (At × Value)} {x : At × Value} (h : QU w X c u Bo M1 M2 M3 L) (hx : L[j]? = some x) (hj : j < c.body.length) (t : Tm) :
    QU w (Aby X M2 j t) c u Bo M1 M2 M3 (L.set j (⟨t, x.1.name, x.1.args⟩, x.2)) := by
  have b2 := h.b2
  have b3 := h.b3
  have b4 := h.b4
  have n1 : w.heap.size + 1 ≠ M2 := by omega
  have n2 : w.heap.size + 1 + 1 ≠ M2 := by omega
  have n3 : Bo ≠ M2 := by omega
  have n4 : M3 ≠ M2 := by omega
  have nw : w.heap.size ≤ M2 := by omega
  have hm1 : (Value.slice (some ⟨M1, 0, none⟩) c.head.1.args.length c.head.1.args.length).ownBlock ≠ some M2 := fun e => h.n1 (Option.some.inj e)
  refine ⟨((h.br.off n1).off n1).off n1, ((h.bb.off n2).off n2).off n2, ((h.bo.off n3).off n3).off n3, h.a.by_ hx hj t, ((h.t1.off hm1).off hm1).off hm1, h.n1, fun y hy => ?_, ((h.e.other n4).other n4).other n4, ((h.bw.setCell nw _).setCell nw _).setCell nw _, h.b1, b2, b3, b4⟩
  rcases List.mem_or_eq_of_mem_set hy with hy | rfl
  · exact ⟨(((h.ts y hy).1.off).off).off, (h.ts y hy).2⟩
  · have hm := List.mem_of_getElem? hx
    exact ⟨(((h.ts x hm).1.off).off).off, (h.ts x hm).2⟩
/-- The clause that is quoted. -/
def Cm.quo (c : Cm) (u : ByteArray) : Cm := ⟨(⟨⟨2, 0, u⟩, c.head.1.name, c.head.1.args⟩, c.head.2), c.body.map fun x => (qa u x.1, x.2), c.bv, c.tests, c.tv⟩
theorem fsts_quo (c : Cm) (u : ByteArray) : fsts (c.quo u).body = (fsts c.body).map (qa u) := by simp [fsts, Cm.quo]
def QPost (w : World) (c : Cm) (u : ByteArray) (e : Ending) (w' : World) : Prop :=
  ∃ (M1 M2 M3 : Nat) (lb : List (At × Value)), e = .returned (.tuple #[((c.quo u).cp M1 M2 M3 lb).v, .int .i64 0]) ∧ RP w.heap.size w' (c.quo u) M1 M2 M3 lb ∧ Below w.heap.size w w'

set_option maxRecDepth 20000 in
set_option maxHeartbeats 8000000 in
theorem quote_ok (c : Cm) (u : ByteArray) (w : World) (h : c.ok w) (hwf : c.wf) (hp : Tm.prin ⟨2, 0, u⟩ = true) (hk : c.chk = 0) (hu : c.head.1.by_ = zt) (hl1 : c.head.1.args.length ≤ 1900000000000) (hl2 : c.body.length ≤ 1900000000000) (hl3 : c.tests.length ≤ 1900000000000) (hl4 : ∀ x ∈ c.body, x.1.args.length ≤ 1900000000000) :
    Calls Tryz.prog 43 #[.string u, c.v] w (QPost w c u) := by
  have HB0 : Hid (QB w (((w.alloc (.cells c.cs 41)).alloc (.cells zcs 41)).alloc (.cells #[.int .i64 2, .int .i64 0, .string u] 35)) c u) := QB.start w c u h
  have HCK : Hid (∀ X : World, c.ok X → Calls Tryz.prog 89 #[c.v] X fun e w' => e = .returned (.int .i64 0) ∧ Below X.heap.size X w') := fun X hX => by have := check9_any c X hX hwf; rw [hk] at this; exact this
  have HCP : Hid (∀ X : World, c.ok X → Calls Tryz.prog 56 #[c.v] X (RPost X c)) := fun X hX => copied_any c X hX hl1 hl2 hl3 hl4
  have HUQ : Hid (∀ X : World, (∃ a n cap, c.head.2 = .slice a n cap) → Calls Tryz.prog 90 #[c.head.1.v c.head.2] X fun e w' => e = .returned (.bool true) ∧ Below X.heap.size X w') := fun X hX => by have := unqualified_any c.head.1 c.head.2 X hX; rw [hu] at this; exact this
  have HPR : Hid (∀ X : World, Calls Tryz.prog 88 #[Tm.v ⟨2, 0, u⟩] X fun e w' => e = .returned (.bool true) ∧ Below X.heap.size X w') := fun X => by have := prin_any ⟨2, 0, u⟩ X; rw [hp] at this; exact this
  obtain ⟨⟨a, hn, cap, h1⟩, ⟨a', cap', h2⟩, ⟨a'', cap'', h3⟩, hbl, htl⟩ := h.shape
  clear h hwf hp hk hu hl1 hl2 hl3 hl4
  obtain ⟨⟨⟨⟨k, m, s⟩, nm, ls⟩, hx⟩, body, bv, tests, tv⟩ := c
  simp only at h1 h2 h3 hbl htl
  subst h1 h2 h3
  go_enter Tryz.func43, Tryz.ntmps43
  go_upto_region 9 with (first
    | (go_at_call 88; refine (HPR.out _).mono ?_; clear HPR; rintro e w1 ⟨rfl, hb⟩; have HB1 : Hid (QB w w1 ⟨(⟨⟨k, m, s⟩, nm, ls⟩, .slice a hn cap), body, .slice a' body.length cap', tests, .slice a'' tests.length cap''⟩ u) := HB0.out.later hb; obtain ⟨c0, c1, c2, c3, c4, c5, c6⟩ := cseven HB1.out.bc; clear HB0 hb)
    | (go_at_call 89; refine (HCK.out _ HB1.out.ok).mono ?_; clear HCK; rintro e w2 ⟨rfl, hb⟩; have HB2 : Hid (QB w w2 ⟨(⟨⟨k, m, s⟩, nm, ls⟩, .slice a hn cap), body, .slice a' body.length cap', tests, .slice a'' tests.length cap''⟩ u) := HB1.out.later hb; clear c0 c1 c2 c3 c4 c5 c6; obtain ⟨c0, c1, c2, c3, c4, c5, c6⟩ := cseven HB2.out.bc; clear HB1 hb)
    | (go_at_call 90; refine (HUQ.out _ ⟨_, _, _, rfl⟩).mono ?_; clear HUQ; rintro e w3 ⟨rfl, hb⟩; have HB3 : Hid (QB w w3 ⟨(⟨⟨k, m, s⟩, nm, ls⟩, .slice a hn cap), body, .slice a' body.length cap', tests, .slice a'' tests.length cap''⟩ u) := HB2.out.later hb; clear c0 c1 c2 c3 c4 c5 c6; obtain ⟨c0, c1, c2, c3, c4, c5, c6⟩ := cseven HB3.out.bc; clear HB2 hb))
  go_upto_region 10 with (go_at_call 56; refine (HCP.out _ HB3.out.ok).mono ?_; clear HCP; rintro e w4 ⟨M1, M2, M3, lb, rfl, hrp, hb⟩; have HB4 : Hid (QB w w4 ⟨(⟨⟨k, m, s⟩, nm, ls⟩, .slice a hn cap), body, .slice a' body.length cap', tests, .slice a'' tests.length cap''⟩ u) := HB3.out.later hb; have HRP : Hid (RP w3.heap.size w4 ⟨(⟨⟨k, m, s⟩, nm, ls⟩, .slice a hn cap), body, .slice a' body.length cap', tests, .slice a'' tests.length cap''⟩ M1 M2 M3 lb) := hrp; have HSZ := HB3.out.sz; clear c0 c1 c2 c3 c4 c5 c6 HB3 hb hrp; simp only [Cm.cp])
  have hbX := below1 w4 (.cells #[.int .i64 k, .int .i64 m, .string s, .string nm, .slice (some ⟨M1, 0, none⟩) ls.length ls.length, .slice (some ⟨M2, 0, none⟩) body.length body.length, .slice (some ⟨M3, 0, none⟩) tests.length tests.length] 41)
  have g2 := CBlk.new w4 #[.int .i64 k, .int .i64 m, .string s, .string nm, .slice (some ⟨M1, 0, none⟩) ls.length ls.length, .slice (some ⟨M2, 0, none⟩) body.length body.length, .slice (some ⟨M3, 0, none⟩) tests.length tests.length] 41
  have hM := HRP.out.e.lt
  have r1 := HRP.out.b1
  have r2 := HRP.out.b2
  have r3 := HRP.out.b3
  have HSZ4 := HB4.out.sz
  obtain ⟨Bo, hBo⟩ : ∃ B, w4.heap.size = B := ⟨_, rfl⟩
  have HBo : Hid (w4.heap.size = Bo) := hBo
  have d3 := cthree (HB4.out.bb.later hbX)
  revert hbX g2 d3
  rw [hBo] at hM HSZ4 ⊢
  generalize w4.alloc (.cells #[.int .i64 k, .int .i64 m, .string s, .string nm, .slice (some ⟨M1, 0, none⟩) ls.length ls.length, .slice (some ⟨M2, 0, none⟩) body.length body.length, .slice (some ⟨M3, 0, none⟩) tests.length tests.length] 41) = X
  intro hbX g2 d3
  clear hBo
  have HbX : Hid (Below Bo w4 X) := hbX
  obtain ⟨d0, d1, d2⟩ := d3
  obtain ⟨p0, p1, p2, p3, p4, p5, p6⟩ := cseven g2
  have f0 : X.frozen? ⟨Bo, 0, none⟩ = false := g2.froz
  have f1 : X.frozen? ⟨Bo, 1, none⟩ = false := g2.froz
  have f2 : X.frozen? ⟨Bo, 2, none⟩ = false := g2.froz
  have HQ0 : Hid (QU w (((X.setCell ⟨Bo, 0, none⟩ (.int .i64 2)).setCell ⟨Bo, 1, none⟩ (.int .i64 0)).setCell ⟨Bo, 2, none⟩ (.string u)) ⟨(⟨⟨k, m, s⟩, nm, ls⟩, .slice a hn cap), body, .slice a' body.length cap', tests, .slice a'' tests.length cap''⟩ u Bo M1 M2 M3 lb) := by
    have hb : Below w4.heap.size w4 (((X.setCell ⟨Bo, 0, none⟩ (.int .i64 2)).setCell ⟨Bo, 1, none⟩ (.int .i64 0)).setCell ⟨Bo, 2, none⟩ (.string u)) := by
      rw [HBo.out]
      exact ((hbX.setCell (Nat.le_refl _) _).setCell (Nat.le_refl _) _).setCell (Nat.le_refl _) _
    have h1 := HB4.out.later hb
    have h2 := HRP.out.later hb
    exact ⟨h1.br, h1.bb, ((g2.set 0 _).set 1 _).set 2 _, h2.a, h2.t1, h2.n1, fun x hx => ⟨(h2.ts x hx).1, fun b e => Nat.le_trans HSZ ((h2.ts x hx).2 b e)⟩, h2.e, h1.bw, by omega, by omega, h2.b3, hM⟩
  have HF0 : Hid (fsts lb = fsts body) := HRP.out.f
  clear HB4 HRP hbX HbX HBo g2
  go_upto_region 11 with fail
  revert HQ0
  generalize ((X.setCell ⟨Bo, 0, none⟩ (.int .i64 2)).setCell ⟨Bo, 1, none⟩ (.int .i64 0)).setCell ⟨Bo, 2, none⟩ (.string u) = Y
  intro HQ0
  clear d0 d1 d2 p0 p1 p2 p3 p4 p5 p6 f0 f1 f2
  obtain ⟨p0, p1, p2, p3, p4, p5, p6⟩ := cseven HQ0.out.bo
  simp only at p0 p1 p2 p3 p4 p5 p6
  go_wp2
  clear p0 p1 p2 p3 p4 p5 p6
  go_loopg [36] body.length (fun g i wr => ∃ (j : Nat) (L : List (At × Value)), j + g = body.length ∧ i = .int .i64 (j : Int) ∧ fsts L = mix (qa u) (fsts body) j ∧ QU w wr ⟨(⟨⟨k, m, s⟩, nm, ls⟩, .slice a hn cap), body, .slice a' body.length cap', tests, .slice a'' tests.length cap''⟩ u Bo M1 M2 M3 L)
  case atStart => exact ⟨0, lb, by omega, rfl, by rw [mix_zero]; exact HF0.out, HQ0.out⟩
  case round =>
    obtain ⟨j, L, hj, rfl, hfl, hqu⟩ := hrel
    have HQ : Hid (QU w wr ⟨(⟨⟨k, m, s⟩, nm, ls⟩, .slice a hn cap), body, .slice a' body.length cap', tests, .slice a'' tests.length cap''⟩ u Bo M1 M2 M3 L) := hqu
    have HF : Hid (fsts L = mix (qa u) (fsts body) j) := hfl
    have hLl : L.length = body.length := by rw [← fsts_len L, hfl, mix_len, fsts_len]
    have HLL : Hid (L.length = body.length) := hLl
    clear hfl HQ0 HF0
    cases gk with
    | succ g =>
      have hlt : j < body.length := by omega
      have i0 : (0 : Int) ≤ (j : Int) := by omega
      have i1 : (j : Int) < (body.length : Int) := by omega
      obtain ⟨x, hx⟩ : ∃ x, L[j]? = some x := ⟨_, List.getElem?_eq_getElem (by omega)⟩
      obtain ⟨e0, e1, e2, e3, e4⟩ := hqu.a.get hx
      have HX : Hid (L[j]? = some x) := hx
      have HXB : Hid ((fsts body)[j]? = some x.1) := by show _ = _; rw [← mix_get (q := qa u) (l := fsts body), ← HF.out]; exact fsts_get hx
      obtain ⟨ax, cx, hax, -⟩ := ((hqu.ts x (List.mem_of_getElem? hx)).1).1
      have hM2 := hqu.a.lt
      have hbq : ∀ X : World, Calls Tryz.prog 90 #[x.1.v x.2] X fun e w' => e = .returned (.bool (decide (x.1.by_ = zt))) ∧ Below X.heap.size X w' := fun X => unqualified_any x.1 x.2 X ⟨_, _, _, hax⟩
      obtain ⟨bq, hb1⟩ : ∃ b, decide (x.1.by_ = zt) = b := ⟨_, rfl⟩
      rw [hb1] at hbq
      have HBQ : Hid (decide (x.1.by_ = zt) = bq) := hb1
      have HCQ : Hid (∀ X : World, Calls Tryz.prog 90 #[x.1.v x.2] X fun e w' => e = .returned (.bool bq) ∧ Below X.heap.size X w') := hbq
      clear hbq hb1 hqu hx hLl
      obtain ⟨⟨⟨kx, mx, sx⟩, nx, lx⟩, vx⟩ := x
      simp only at e0 e1 e2 e3 e4 hax
      subst hax
      cases bq
      · go_wp2_with (go_at_call 90; refine (HCQ.out _).mono ?_; clear HCQ; rintro e w5 ⟨rfl, hb⟩; have HQ5 : Hid (QU w w5 ⟨(⟨⟨k, m, s⟩, nm, ls⟩, .slice a hn cap), body, .slice a' body.length cap', tests, .slice a'' tests.length cap''⟩ u Bo M1 M2 M3 L) := (HQ.out.later (below1 _ _)).later hb; clear hb)
        go_roundg g
        case measure => omega
        case rel => exact ⟨j + 1, L, by omega, by go_num, by rw [mix_same HXB.out (qa_no (of_decide_eq_false HBQ.out))]; exact HF.out, HQ5.out⟩
      · go_wp2_with (go_at_call 90; refine (HCQ.out _).mono ?_; clear HCQ; rintro e w5 ⟨rfl, hb⟩; have HQ5 : Hid (QU w w5 ⟨(⟨⟨k, m, s⟩, nm, ls⟩, .slice a hn cap), body, .slice a' body.length cap', tests, .slice a'' tests.length cap''⟩ u Bo M1 M2 M3 L) := (HQ.out.later (below1 _ _)).later hb; obtain ⟨y0, y1, y2, y3, y4⟩ := HQ5.out.a.get HX.out; obtain ⟨d0, d1, d2⟩ := cthree HQ5.out.bb; obtain ⟨p0, p1, p2, p3, p4, p5, p6⟩ := cseven HQ5.out.bo; simp only at y0 y1 y2 y3 y4 p0 p1 p2 p3 p4 p5 p6; have f0 : w5.frozen? ⟨M2, j * 5, none⟩ = false := HQ5.out.a.froz; have f1 : w5.frozen? ⟨M2, j * 5 + 1, none⟩ = false := HQ5.out.a.froz; have f2 : w5.frozen? ⟨M2, j * 5 + 2, none⟩ = false := HQ5.out.a.froz; have HP : Hid (QU w (Aby w5 M2 j ⟨2, 0, u⟩) ⟨(⟨⟨k, m, s⟩, nm, ls⟩, .slice a hn cap), body, .slice a' body.length cap', tests, .slice a'' tests.length cap''⟩ u Bo M1 M2 M3 (L.set j (⟨⟨2, 0, u⟩, nx, lx⟩, .slice ax lx.length cx))) := HQ5.out.by_ HX.out hlt ⟨2, 0, u⟩; clear hb)
        go_roundg g
        case measure => omega
        case rel => exact ⟨j + 1, _, by omega, by go_num, by rw [fsts_set, HF.out, ← mix_set HXB.out, qa_yes (of_decide_eq_true HBQ.out)], HP.out⟩
    | zero =>
      obtain rfl : j = body.length := by omega
      have hz : ¬ ((body.length : Int) < (body.length : Int)) := by omega
      obtain ⟨p0, p1, p2, p3, p4, p5, p6⟩ := cseven hqu.bo
      obtain ⟨q0, q1, q2, q3, q4, q5, q6⟩ := cseven hqu.br
      have f0 : wr.frozen? ⟨w.heap.size + 1, 0, none⟩ = false := hqu.br.froz
      have f1 : wr.frozen? ⟨w.heap.size + 1, 1, none⟩ = false := hqu.br.froz
      have f2 : wr.frozen? ⟨w.heap.size + 1, 2, none⟩ = false := hqu.br.froz
      have f3 : wr.frozen? ⟨w.heap.size + 1, 3, none⟩ = false := hqu.br.froz
      have f4 : wr.frozen? ⟨w.heap.size + 1, 4, none⟩ = false := hqu.br.froz
      have f5 : wr.frozen? ⟨w.heap.size + 1, 5, none⟩ = false := hqu.br.froz
      have f6 : wr.frozen? ⟨w.heap.size + 1, 6, none⟩ = false := hqu.br.froz
      simp only at p0 p1 p2 p3 p4 p5 p6
      clear hqu hLl
      go_wp2
      have hq := HQ.out
      have nw : w.heap.size ≤ w.heap.size + 1 := by omega
      have ng : w.heap.size + 1 < w.heap.size + 3 := by omega
      have hrp : RP (w.heap.size + 3) wr (Cm.quo ⟨(⟨⟨k, m, s⟩, nm, ls⟩, .slice a hn cap), body, .slice a' body.length cap', tests, .slice a'' tests.length cap''⟩ u) M1 M2 M3 L :=
        ⟨by rw [fsts_quo, HF.out, ← fsts_len, mix_all], by have := hq.a; simpa only [Cm.quo, List.length_map] using this, hq.t1, hq.n1, hq.ts, hq.e, hq.b1, hq.b2, hq.b3⟩
      exact bodyPost_ret (v := .tuple #[(Cm.cp (Cm.quo ⟨(⟨⟨k, m, s⟩, nm, ls⟩, .slice a hn cap), body, .slice a' body.length cap', tests, .slice a'' tests.length cap''⟩ u) M1 M2 M3 L).v, .int .i64 0]) (by simp [results, Tryz.results43, go_sem, Cm.v, Cm.cp, Cm.quo, q0, q1, q2, q3, q4, q5, q6]) rfl
        ⟨M1, M2, M3, L, rfl, (((((((hrp.off ng).off ng).off ng).off ng).off ng).off ng).off ng).mono (by omega), ((((((hq.bw.setCell nw _).setCell nw _).setCell nw _).setCell nw _).setCell nw _).setCell nw _).setCell nw _⟩
end Go.Proofs.YtdfgijdededolabGreatDoor
