import Derived.Test.YtmbmchbninlhpaaGreatDoorCL1
import Derived.Test.YtmbmchbninlhpaaGreatDoorSD1
import Derived.Test.YtmbmchbninlhpaaGreatDoorCE4
import Derived.Test.YtmbmchbninlhpaaGreatDoorCM0
import Derived.Test.YtmbmchbninlhpaaGreatDoorRC2
import Derived.Deep.RegionHeld3
namespace Go.Proofs.YtmbmchbninlhpaaGreatDoor
open Go.RowKit

structure SZ (x : Ck) : Prop where
 h : x.1.args.length <= 255
 b : x.2.1.length <= 255 /\ ∀ a ∈ x.2.1, a.args.length <= 255
 t : x.2.2.length <= 255
theorem MC8.okS {B : Nat} {X : World} {d : Cm} (h : MC8 B X d) (hg : SZ d.key) : d.ok X := by
 have h1 := hg.h
 have h2 := hg.b.1
 have h3 := hg.t
 simp only [Cm.key, fsts, List.length_map] at h1 h2 h3
 exact ⟨h.h.tsP.ts (by omega), h.b.1.as (by omega) fun y hy => (h.b.2 y hy).tsP.ts (by have := hg.b.2 y.1 (List.mem_map_of_mem hy); omega), h.t.es (by omega)⟩
theorem qArgs_len (B : List Int) : ∀ (k : Nat) (s : Qs), (qArgs B k s).1.length <= k
 | 0, _ => Nat.le_refl _
 | k + 1, s => by
  unfold qArgs
  split
  ·simp
  ·have := qArgs_len B k (qTerm B false true true s).2
   simp only [List.length_cons]; omega
theorem qAtom_len {B : List Int} (hy : byt B) (s : Qs) : (qAtom B s).1.args.length <= 255 := by
 unfold qAtom qAtomN
 simp only
 have h1 := qArgs_len B (qSmall B 0 8 (qNm (qName B (qTerm B true false true s).2).1 (qName B (qTerm B true false true s).2).2)).1.toNat (qSmall B 0 8 (qNm (qName B (qTerm B true false true s).2).1 (qName B (qTerm B true false true s).2).2)).2
 have h2 := qSmall_rng hy (lo := 0) (hi := 8) (s := qNm (qName B (qTerm B true false true s).2).1 (qName B (qTerm B true false true s).2).2)
 omega
theorem qMany_all {α : Type} {one : Qs -> α × Qs} {Q : α -> Prop} (h : ∀ s, Q (one s).1) : ∀ (k : Nat) (s : Qs), (qMany one k s).1.length <= k /\ ∀ x ∈ (qMany one k s).1, Q x
 | 0, _ => ⟨Nat.le_refl _, fun x hx => by simp [qMany] at hx⟩
 | k + 1, s => by
  unfold qMany
  split
  ·exact ⟨by simp, fun x hx => by simp at hx⟩
  ·have := qMany_all h k (one s).2
   refine ⟨by simp only [List.length_cons]; omega, fun x hx => ?_⟩
   rcases List.mem_cons.1 hx with rfl | hx
   ·exact h s
   ·exact this.2 x hx
theorem qClause_sz {B : List Int} (hy : byt B) (s : Qs) : SZ (qClause B s).1 := by
 unfold qClause qClauseB qClauseT
 simp only
 generalize (qAtom B s).2 = s1
 have r1 := qSmall_rng hy (lo := 0) (hi := 8) (s := s1)
 have m1 := qMany_all (one := qAtom B) (Q := fun a => a.args.length <= 255) (fun s => qAtom_len hy s) (qSmall B 0 8 s1).1.toNat (qSmall B 0 8 s1).2
 refine ⟨qAtom_len hy s, ⟨by simp only; omega, m1.2⟩, ?_⟩
 simp only
 generalize (qMany (qAtom B) (qSmall B 0 8 s1).1.toNat (qSmall B 0 8 s1).2).2 = s2
 have r2 := qSmall_rng hy (lo := 0) (hi := 8) (s := s2)
 have m2 := qMany_all (one := qTest B) (Q := fun _ => True) (fun _ => trivial) (qSmall B 0 8 s2).1.toNat (qSmall B 0 8 s2).2
 omega
theorem OwnA.asP8 {w : World} {base : Nat} {v : Value} {l : List (At × Value)} (h : OwnA w base v l) (hl : l.length < 1000000000000000000) (ht : ∀ x ∈ l, Ts w x.2 x.1.args) : AsP w v l := by
 rcases h.2 with ⟨hv, hn⟩ | ⟨g, cap, cur, hv, -⟩
 ·exact Or.inl ⟨hv, List.eq_nil_of_length_eq_zero hn⟩
 ·obtain ⟨a, cap', e, -, hr, -⟩ := h.as hl ht
  rw [hv] at e
  cases e
  refine Or.inr ⟨⟨g, 0, none⟩, cap, hv, hr.imp id ?_⟩
  rintro ⟨b, o, e, hr⟩
  cases e
  exact ⟨g, 0, rfl, hr⟩
theorem lowB_T {X X' : World} {b N : Nat} {v : Value} {l : List Tm} (h : OwnT X b v l) (hk : ∀ k, v.ownBlock = some k -> k < N) (hb : Below N X X') : OwnT X' b v l := by
 refine ⟨h.1, ?_⟩
 rcases h.2 with hn | ⟨k, cap, cur, hv, hbb, hg, rest⟩
 ·exact Or.inl hn
 ·exact Or.inr ⟨k, cap, cur, hv, hbb, (hb.block k (hk k (by rw [hv]; rfl))).trans hg, rest⟩
theorem apart_ea {w : World} {b b' : Nat} {v y : Value} {L : List Te} {l : List (At × Value)} (h : OwnE w b v L) (h' : OwnA w b' y l) : ∀ k, y.ownBlock = some k -> v.ownBlock ≠ some k := by
 intro k hk e
 rcases h.2 with ⟨rfl, -⟩ | ⟨g1, cap, cur, rfl, -, hg1, -⟩
 ·cases e
 ·rcases h'.2 with ⟨rfl, -⟩ | ⟨g2, cap2, cur2, rfl, -, hg2, -⟩
  ·cases hk
  ·cases e; cases hk
   rw [hg1] at hg2
   cases hg2
theorem apart_et {w : World} {b b' : Nat} {v y : Value} {L : List Te} {l : List Tm} (h : OwnE w b v L) (h' : OwnT w b' y l) : ∀ k, y.ownBlock = some k -> v.ownBlock ≠ some k := by
 intro k hk e
 rcases h.2 with ⟨rfl, -⟩ | ⟨g1, cap, cur, rfl, -, hg1, -⟩
 ·cases e
 ·rcases h'.2 with ⟨rfl, -⟩ | ⟨g2, cap2, cur2, rfl, -, hg2, -⟩
  ·cases hk
  ·cases e; cases hk
   rw [hg1] at hg2
   cases hg2
structure CS (w X : World) (g A : Nat) (B : List Int) (s : Qs) (hd : At) (hv bv : Value) (L : List (At × Value)) (tv : Value) (E : List Te) : Prop where
 bl : Bv g w.heap.size w X
 rq : RqS X g B s
 res : Blk X w.heap.size #[.int .i64 0, .int .i64 0, .string ⟨#[]⟩, .string ⟨#[]⟩, .slice none 0 0, .slice none 0 0, .slice none 0 0] 62
 box : Blk X A #[.int .i64 hd.by_.k, .int .i64 hd.by_.n, .string hd.by_.s, .string hd.name, hv, bv, tv] 62
 oh : OwnT X (w.heap.size + 1) hv hd.args
 on : ∀ k, hv.ownBlock = some k -> k < A
 ob : OAL X (A + 1) bv L
 oe : OwnE X (A + 1) tv E
 lt : w.heap.size < A
 gt : g < w.heap.size
section
variable {w X X' : World} {g A T i : Nat} {B : List Int} {s s' : Qs} {hd : At} {hv bv tv v' c : Value} {L L' : List (At × Value)} {E E' : List Te}
theorem CS.step (h : CS w X g A B s hd hv bv L tv E) (hs : RqS X' g B s') (hb : Bv g X.heap.size X X') : CS w X' g A B s' hd hv bv L tv E := by
 have h1 := h.lt
 have h2 := h.gt
 exact ⟨h.bl.step hb, hs, h.res.bl hb (by omega), h.box.bl hb (by omega), h.oh.blM hb (by omega), h.on, h.ob.blM hb (by omega), h.oe.blM hb (by omega), h.lt, h.gt⟩
theorem CS.below (h : CS w X g A B s hd hv bv L tv E) (hb : Below X.heap.size X X') : CS w X' g A B s hd hv bv L tv E := h.step (h.rq.below hb) (Bv.of hb)
theorem CS.body (h : CS w X g A B s hd hv bv L (.slice none 0 0) []) (ho : OAL X' (A + 1) v' L') (hb : Below (A + 1) X X') : CS w (X'.setCell ⟨A, 5, none⟩ v') g A B s hd hv v' L' (.slice none 0 0) [] := by
 have h1 := h.lt
 have h2 := h.gt
 exact ⟨(h.bl.trans (Bv.of (hb.mono (by omega)))).trans (Bv.of ((Below.refl _ _).setCell (p := ⟨A, 5, none⟩) (Nat.le_of_lt h.lt) _)), (h.rq.low hb (by omega)).off (by omega), (heap_setCell_other _ _ _ _ (by show _ ≠ A; omega)).trans ((hb.block _ (by omega)).trans h.res), heap_setCell_same _ _ _ _ _ _ ((hb.block _ (by omega)).trans h.box),
  (lowB_T h.oh (fun k hk => by have := h.on k hk; omega) hb).off (fun k hk => by have := h.on k hk; omega), h.on, ho.set (Nat.lt_succ_self _), OwnE.nil _ _, h.lt, h.gt⟩
theorem CS.tests (h : CS w X g A B s hd hv bv L tv E) (ho : OwnE X' (A + 1) v' E') (hb : Below (A + 1) X X') (hg : X.grownBy X' tv.ownBlock) : CS w (X'.setCell ⟨A, 6, none⟩ v') g A B s hd hv bv L v' E' := by
 have h1 := h.lt
 have h2 := h.gt
 exact ⟨(h.bl.trans (Bv.of (hb.mono (by omega)))).trans (Bv.of ((Below.refl _ _).setCell (p := ⟨A, 6, none⟩) (Nat.le_of_lt h.lt) _)), (h.rq.low hb (by omega)).off (by omega), (heap_setCell_other _ _ _ _ (by show _ ≠ A; omega)).trans ((hb.block _ (by omega)).trans h.res), heap_setCell_same _ _ _ _ _ _ ((hb.block _ (by omega)).trans h.box),
  (lowB_T h.oh (fun k hk => by have := h.on k hk; omega) hb).off (fun k hk => by have := h.on k hk; omega), h.on, OAL.set (⟨h.ob.1.grown hg (apart_ea h.oe h.ob.1), fun x hx => OwnT.grown (h.ob.2 x hx) hg (apart_et h.oe (h.ob.2 x hx))⟩ : OAL X' (A + 1) bv L) (Nat.lt_succ_self _), ho.set (Nat.lt_succ_self _), h.lt, h.gt⟩
structure RL (hv bv tv : Value) (L : List (At × Value)) (T : Nat) : Prop where
 h : ∀ k, hv.ownBlock = some k -> k < T
 b : ∀ k, bv.ownBlock = some k -> k < T
 x : ∀ x ∈ L, ∀ k, x.2.ownBlock = some k -> k < T
 t : ∀ k, tv.ownBlock = some k -> k < T
theorem CS.rl (h : CS w X g A B s hd hv bv L tv E) : RL hv bv tv L X.heap.size /\ A < X.heap.size := ⟨⟨fun k hk => (h.oh.lt k hk).2, fun k hk => (h.ob.1.lt k hk).2, fun x hx k hk => ((h.ob.2 x hx).lt k hk).2, fun k hk => (h.oe.lt k hk).2⟩, h.box.lt⟩
theorem CS.setT (h : CS w X g A B s hd hv bv L tv E) (hr : RL hv bv tv L T) (hA : A < T) : CS w (X.setCell ⟨T, i, none⟩ c) g A B s hd hv bv L tv E := by
 have h1 := h.lt
 have h2 := h.gt
 exact ⟨h.bl.trans (Bv.of ((Below.refl _ _).setCell (p := ⟨T, i, none⟩) (by show _ <= T; omega) _)), h.rq.off (by omega), (heap_setCell_other _ _ _ _ (by show _ ≠ T; omega)).trans h.res, (heap_setCell_other _ _ _ _ (by show _ ≠ T; omega)).trans h.box, h.oh.off (fun k hk => by have := hr.h k hk; omega), h.on, ⟨h.ob.1.off (fun k hk => by have := hr.b k hk; omega), fun x hx => OwnT.off (h.ob.2 x hx) (fun k hk => by have := hr.x x hx k hk; omega)⟩, h.oe.off (fun k hk => by have := hr.t k hk; omega), h.lt, h.gt⟩
theorem CS.er (h : CS w X g A B s hd hv bv L tv E) : X.cell? ⟨g, 2, none⟩ = some (.int .i64 s.er) := by
 obtain ⟨a, cap, c0, c1, c2, -⟩ := h.rq.cells
 exact c2
theorem CS.mc (h : CS w X g A B s hd hv bv L tv E) : MC8 (w.heap.size + 1) X ⟨(hd, hv), L, bv, E, tv⟩ := ⟨h.oh, h.ob.mono (by have := h.lt; omega), h.oe.mono (by have := h.lt; omega)⟩
end
def QM {α : Type} (one : Qs -> α × Qs) (K : Nat) (s0 : Qs) (k : Nat) (ts : List α) (s : Qs) : Prop := qMany one K s0 = (ts ++ (qMany one k s).1, (qMany one k s).2)
theorem QM.start {α : Type} (one : Qs -> α × Qs) (K : Nat) (s0 : Qs) : QM one K s0 K [] s0 := by unfold QM; simp
theorem QM.next {α : Type} {one : Qs -> α × Qs} {K k : Nat} {s0 s s2 : Qs} {ts : List α} {t : α} (h : QM one K s0 (k + 1) ts s) (he : s.er = 0) (hq : one s = (t, s2)) : QM one K s0 k (ts ++ [t]) s2 := by
 unfold QM at h ⊢
 rw [h]
 conv => lhs; unfold qMany
 rw [if_neg (by rw [he]; simp), hq]
 simp
theorem QM.stop {α : Type} {one : Qs -> α × Qs} {K k : Nat} {s0 s : Qs} {ts : List α} (h : QM one K s0 k ts s) (he : s.er ≠ 0 ∨ k = 0) : qMany one K s0 = (ts, s) := by
 unfold QM at h
 rw [h]
 rcases he with he | rfl
 ·rw [qMany_ne he]; simp
 ·simp [qMany]
set_option maxRecDepth 20000 in
set_option maxHeartbeats 16000000 in
theorem qclause_any (g : Nat) (B : List Int) (s : Qs) (w : World) (h : RqS w g B s) :
  Calls Tryz.prog 42 #[.pointer (some ⟨g, 0, none⟩)] w fun e w' => ∃ c : Cm, e = .returned c.v /\ c.key = (qClause B s).1 /\ RqS w' g B (qClause B s).2 /\ MC8 w.heap.size w' c /\ Bv g w.heap.size w w' := by
 have hlt := h.lt
 have hyB := h.1
 have HSZ : Hid (SZ (qClause B s).1) := qClause_sz h.1 s
 have HB : Hid (Blk (w.alloc (.cells #[.int .i64 0, .int .i64 0, .string ⟨#[]⟩, .string ⟨#[]⟩, .slice none 0 0, .slice none 0 0, .slice none 0 0] 62)) w.heap.size #[.int .i64 0, .int .i64 0, .string ⟨#[]⟩, .string ⟨#[]⟩, .slice none 0 0, .slice none 0 0, .slice none 0 0] 62) := Blk.new _ _ _
 have HL : Hid (Bv g w.heap.size w (w.alloc (.cells #[.int .i64 0, .int .i64 0, .string ⟨#[]⟩, .string ⟨#[]⟩, .slice none 0 0, .slice none 0 0, .slice none 0 0] 62))) := Bv.of (below1 _ _)
 have hN1 := qatom_any g B s (w.alloc (.cells #[.int .i64 0, .int .i64 0, .string ⟨#[]⟩, .string ⟨#[]⟩, .slice none 0 0, .slice none 0 0, .slice none 0 0] 62)) (h.below (below1 _ _))
 obtain ⟨QC, hQC⟩ : ∃ q, qClause B s = q := ⟨_, rfl⟩
 rw [hQC] at HSZ ⊢
 unfold qClause at hQC
 generalize qAtom B s = q1 at *
 obtain ⟨⟨⟨tk, tn, tt⟩, nm, ls⟩, s1⟩ := q1
 simp only at *
 have HN1 : Hid (Calls Tryz.prog 86 #[.pointer (some ⟨g, 0, none⟩)] (w.alloc (.cells #[.int .i64 0, .int .i64 0, .string ⟨#[]⟩, .string ⟨#[]⟩, .slice none 0 0, .slice none 0 0, .slice none 0 0] 62)) fun e w' => ∃ y, e = .returned (At.v ⟨⟨tk, tn, tt⟩, nm, ls⟩ y) /\ RqS w' g B s1 /\ OwnT w' (w.alloc (.cells #[.int .i64 0, .int .i64 0, .string ⟨#[]⟩, .string ⟨#[]⟩, .slice none 0 0, .slice none 0 0, .slice none 0 0] 62)).heap.size y ls /\ Bv g _ _ w') := hN1
 have hN2 := fun X hX => qsmall_any 0 8 g B s1 X hX
 obtain ⟨hn0, hn9⟩ := qSmall_rng hyB (lo := 0) (hi := 8) (s := s1)
 unfold qClauseB at hQC
 generalize qSmall B 0 8 s1 = q2 at *
 obtain ⟨n, s2⟩ := q2
 simp only at *
 have HN2 : Hid (∀ X, RqS X g B s1 -> Calls Tryz.prog 87 #[.pointer (some ⟨g, 0, none⟩), .int .i64 0, .int .i64 8] X fun e w' => e = .returned (.int .i64 n) /\ RqS w' g B s2 /\ Bv g X.heap.size X w') := hN2
 have HQC : Hid (qClauseT B ⟨⟨tk, tn, tt⟩, nm, ls⟩ (qMany (qAtom B) n.toNat s2).1 (qMany (qAtom B) n.toNat s2).2 = QC) := hQC
 clear h hN1 hN2 hQC
 go_enter Tryz.func42, Tryz.ntmps42
 go_upto_region 3 with (first
  | (go_at_call 86; refine HN1.out.mono ?_; rintro e w1 ⟨y, rfl, hs, hy9, hb⟩; obtain ⟨a1, n1, c1, rfl⟩ := ownT_form8 hy9; have HA1 : Hid (CS w (w1.alloc (.cells #[.int .i64 tk, .int .i64 tn, .string tt, .string nm, .slice a1 n1 c1, .slice none 0 0, .slice none 0 0] 62)) g w1.heap.size B s1 ⟨⟨tk, tn, tt⟩, nm, ls⟩ (.slice a1 n1 c1) (.slice none 0 0) [] (.slice none 0 0) []) := ⟨(HL.out.step hb).step (Bv.of (below1 _ _)), hs.below (below1 _ _), (HB.out.bl hb (by omega)).later (below1 _ _), Blk.new _ _ _, (hy9.mono (by simp)).later (below1 _ _), fun k hk => (hy9.lt k hk).2, ⟨OwnA.nil _ _, fun x hx => by simp at hx⟩, OwnE.nil _ _, (by have := (HB.out.bl hb (by omega)).lt; omega), hlt⟩; clear hs hb hy9)
  | (go_at_call 87; refine (HN2.out _ HA1.out.rq).mono ?_; rintro e w2 ⟨rfl, hs, hb⟩; have HA2 : Hid (CS w w2 g w1.heap.size B s2 ⟨⟨tk, tn, tt⟩, nm, ls⟩ (.slice a1 n1 c1) (.slice none 0 0) [] (.slice none 0 0) []) := HA1.out.step hs hb; clear hs hb HA1))
 clear HN1 HN2 HB HL
 revert HA2
 generalize w1.heap.size = A
 intro HA2
 go_wp2
 go_loopg [5] n.toNat (fun g9 i wr => ∃ (j : Nat) (bv : Value) (sj : Qs) (L : List (At × Value)), j + g9 = n.toNat /\ i = .int .i64 j /\ L.length <= j /\ CS w wr g A B sj ⟨⟨tk, tn, tt⟩, nm, ls⟩ (.slice a1 n1 c1) bv L (.slice none 0 0) [] /\ QM (qAtom B) n.toNat s2 g9 (L.map (·.1)) sj)
 case atStart => exact ⟨0, _, s2, [], by omega, rfl, by simp, HA2.out, QM.start _ _ _⟩
 case round =>
  obtain ⟨j, bv, sj, L, hj, rfl, hts, ha, hq⟩ := hrel
  obtain ⟨xa, xc, rfl⟩ := OwnA.form ha.ob.1
  have HA : Hid (CS w wr g A B sj ⟨⟨tk, tn, tt⟩, nm, ls⟩ (.slice a1 n1 c1) (.slice xa L.length xc) L (.slice none 0 0) []) := ha
  have HQ : Hid (QM (qAtom B) n.toNat s2 gk (L.map (·.1)) sj) := hq
  have e2 := ha.er
  clear ha hq
  by_cases hx : (j : Int) < n /\ sj.er = 0
  ·obtain ⟨hjK, he⟩ := hx
   cases gk with
   | zero => omega
   | succ g9 =>
    rw [he] at e2
    obtain ⟨⟨⟨⟨yk, yn, yt⟩, ym, yl⟩, s9⟩, hq9⟩ : ∃ q, qAtom B sj = q := ⟨_, rfl⟩
    have HQ9 : Hid (QM (qAtom B) n.toNat s2 g9 (L.map (·.1) ++ [⟨⟨yk, yn, yt⟩, ym, yl⟩]) s9) := HQ.out.next he hq9
    have HTM : Hid (∀ X, RqS X g B sj -> Calls Tryz.prog 86 #[.pointer (some ⟨g, 0, none⟩)] X fun e w' => ∃ y, e = .returned (At.v ⟨⟨yk, yn, yt⟩, ym, yl⟩ y) /\ RqS w' g B s9 /\ OwnT w' X.heap.size y yl /\ Bv g X.heap.size X w') := fun X hX => by
     have := qatom_any g B sj X hX
     rw [hq9] at this
     exact this
    clear hq9 HQ
    go_upto_region 6 with fail
    clear e2
    have HV0 : Hid (CS w wr.drew g A B sj ⟨⟨tk, tn, tt⟩, nm, ls⟩ (.slice a1 n1 c1) (.slice xa L.length xc) L (.slice none 0 0) []) := HA.out.below (Below.refl _ _).drew
    refine wp_region_held_drew (S := fun _ => True) (by kernel_rfl) trivial (fun hH => ?_)
    revert hH HV0
    generalize wr.drew = V0
    intro HV0 hH
    clear HA
    refine wTk 0 (.pointer (some ⟨A, 5, none⟩)) rfl (by kernel_rfl) (fun _ _ _ h => h) (Or.inl ⟨by rfl, fun w' h => by clear h; go_simp⟩) hH ?_
    simp only [wA8, wB8, wC8, wD8]
    refine wTk 2 (.pointer (some ⟨g, 0, none⟩)) rfl (by kernel_rfl) (fun _ _ _ h => h) (Or.inl ⟨by rfl, fun w' h => by clear h; go_simp⟩) hH ?_
    simp only [wA8, wB8, wC8, wD8]
    refine wpAnyH_ready (rs := [1, 3]) (by kernel_rfl) (by simp) ?_
    refine (AllReadyH.cons (o := ⟨_, _, _, _, _, _⟩) rfl (fun K hK => ?_) (AllReadyH.cons (o := ⟨_, _, _, _, _, _⟩) rfl (fun K hK => ?_) AllReadyH.nil))
    ·have c5 := (cseven HV0.out.box).2.2.2.2.2.1
     go_simp
     clear c5
     refine hK.out _ _ trivial (fun hH => ?_)
     clear hK K
     refine wRd 3 (by kernel_rfl) rfl (fun K hK => ?_)
     go_simp
     refine (HTM.out _ HV0.out.rq).mono ?_
     rintro e V1 ⟨y, rfl, hs, hy9, hb⟩
     obtain ⟨ya, yn2, yc, rfl⟩ := ownT_form8 hy9
     have HV1 : Hid (CS w V1 g A B s9 ⟨⟨tk, tn, tt⟩, nm, ls⟩ (.slice a1 n1 c1) (.slice xa L.length xc) L (.slice none 0 0) []) := HV0.out.step hs hb
     have HY : Hid (OwnT V1 (A + 1) (.slice ya yn2 yc) yl) := hy9.mono (by have := HV0.out.box.lt; omega)
     clear hs hb hy9 HV0 hH
     refine hK.out _ _ trivial (fun hH => ?_)
     clear hK K
     try simp only [wA8, wB8, wC8, wD8]
     refine wRd 4 (by kernel_rfl) rfl (fun K hK => ?_)
     go_simp
     have HV2 : Hid (CS w (V1.alloc (.cells #[.int .i64 yk, .int .i64 yn, .string yt, .string ym, .slice ya yn2 yc] 58)) g A B s9 ⟨⟨tk, tn, tt⟩, nm, ls⟩ (.slice a1 n1 c1) (.slice xa L.length xc) L (.slice none 0 0) []) := HV1.out.below (below1 _ _)
     have HY2 : Hid (OwnT (V1.alloc (.cells #[.int .i64 yk, .int .i64 yn, .string yt, .string ym, .slice ya yn2 yc] 58)) (A + 1) (.slice ya yn2 yc) yl) := HY.out.later (below1 _ _)
     have HG : Hid (CBlk (V1.alloc (.cells #[.int .i64 yk, .int .i64 yn, .string yt, .string ym, .slice ya yn2 yc] 58)) V1.heap.size #[.int .i64 yk, .int .i64 yn, .string yt, .string ym, .slice ya yn2 yc] 58) := CBlk.new _ _ _
     clear hH HV1 HY
     refine hK.out _ _ trivial (fun hH => ?_)
     clear hK K
     revert hH HV2 HG HY2
     generalize V1.alloc (.cells #[.int .i64 yk, .int .i64 yn, .string yt, .string ym, .slice ya yn2 yc] 58) = V2
     generalize V1.heap.size = GG
     intro HV2 HY2 HG hH
     refine wRd 5 (by kernel_rfl) rfl (fun K hK => ?_)
     refine astep_one rfl _ _ rfl (A + 1) (.slice xa L.length xc) L (by rfl) HV2.out.ob.1 GG ((⟨⟨yk, yn, yt⟩, ym, yl⟩, .slice ya yn2 yc) : At × Value) (by rfl) HG.out (acell_one _ _ _ _) (by omega) HV2.out.box.lt ?_
     intro v' w3 hown hb3 hg3 ha3
     have hOAL := HV2.out.ob.app (x := ((⟨⟨yk, yn, yt⟩, ym, yl⟩, .slice ya yn2 yc) : At × Value)) HY2.out hown hg3
     obtain ⟨va, vc, rfl⟩ := OwnA.form hown
     have HW3 : Hid (CS w (w3.setCell ⟨A, 5, none⟩ (.slice va (L ++ [((⟨⟨yk, yn, yt⟩, ym, yl⟩, .slice ya yn2 yc) : At × Value)]).length vc)) g A B s9 ⟨⟨tk, tn, tt⟩, nm, ls⟩ (.slice a1 n1 c1) (.slice va (L ++ [((⟨⟨yk, yn, yt⟩, ym, yl⟩, .slice ya yn2 yc) : At × Value)]).length vc) (L ++ [((⟨⟨yk, yn, yt⟩, ym, yl⟩, .slice ya yn2 yc) : At × Value)]) (.slice none 0 0) []) := HV2.out.body hOAL hb3
     have hD : Blk w3 A _ 62 := (hb3.block _ (by omega)).trans HV2.out.box
     have d5 := (cseven hD).2.2.2.2.2.1
     have f5 : w3.frozen? ⟨A, 5, none⟩ = false := (ff7 hD).2.2.2.2.2.1
     clear hD hown hb3 hg3 ha3 hOAL HV2 HG HY2 hH
     generalize hLN : (L ++ [((⟨⟨yk, yn, yt⟩, ym, yl⟩, .slice ya yn2 yc) : At × Value)]).length = LN at *
     refine hK.out _ _ trivial (fun hH => ?_)
     clear hK K
     simp only [wA8, wB8, wC8, wD8]
     refine wTk 6 (.pointer (some ⟨A, 5, none⟩)) rfl (by kernel_rfl) (fun _ _ _ h => h) (Or.inl ⟨by rfl, fun w' h => by clear h; go_simp⟩) hH ?_
     simp only [wA8, wB8, wC8, wD8]
     refine wRd 7 (by kernel_rfl) rfl (fun K hK => ?_)
     go_simp
     clear d5 f5
     refine hK.out _ _ trivial (fun hH => ?_)
     clear hK K hH
     refine wpAnyH_done (by kernel_rfl) ?_ _
     go_wp2_with fail
     go_roundg g9
     case measure => omega
     case rel => exact ⟨j + 1, _, s9, L ++ [((⟨⟨yk, yn, yt⟩, ym, yl⟩, .slice ya yn2 yc) : At × Value)], by omega, by go_num, by simp; omega, HW3.out, by rw [List.map_append]; exact HQ9.out⟩
    ·go_simp
     refine (HTM.out _ HV0.out.rq).mono ?_
     rintro e V1 ⟨y, rfl, hs, hy9, hb⟩
     obtain ⟨ya, yn2, yc, rfl⟩ := ownT_form8 hy9
     have HV1 : Hid (CS w V1 g A B s9 ⟨⟨tk, tn, tt⟩, nm, ls⟩ (.slice a1 n1 c1) (.slice xa L.length xc) L (.slice none 0 0) []) := HV0.out.step hs hb
     have HY : Hid (OwnT V1 (A + 1) (.slice ya yn2 yc) yl) := hy9.mono (by have := HV0.out.box.lt; omega)
     clear hs hb hy9 HV0 hH
     refine hK.out _ _ trivial (fun hH => ?_)
     clear hK K
     try simp only [wA8, wB8, wC8, wD8]
     refine wpAnyH_ready (rs := [1, 4]) (by kernel_rfl) (by simp) ?_
     refine (AllReadyH.cons (o := ⟨_, _, _, _, _, _⟩) rfl (fun K hK => ?_) (AllReadyH.cons (o := ⟨_, _, _, _, _, _⟩) rfl (fun K hK => ?_) AllReadyH.nil))
     ·have c5 := (cseven HV1.out.box).2.2.2.2.2.1
      go_simp
      clear c5
      refine hK.out _ _ trivial (fun hH => ?_)
      clear hK K
      refine wRd 4 (by kernel_rfl) rfl (fun K hK => ?_)
      go_simp
      have HV2 : Hid (CS w (V1.alloc (.cells #[.int .i64 yk, .int .i64 yn, .string yt, .string ym, .slice ya yn2 yc] 58)) g A B s9 ⟨⟨tk, tn, tt⟩, nm, ls⟩ (.slice a1 n1 c1) (.slice xa L.length xc) L (.slice none 0 0) []) := HV1.out.below (below1 _ _)
      have HY2 : Hid (OwnT (V1.alloc (.cells #[.int .i64 yk, .int .i64 yn, .string yt, .string ym, .slice ya yn2 yc] 58)) (A + 1) (.slice ya yn2 yc) yl) := HY.out.later (below1 _ _)
      have HG : Hid (CBlk (V1.alloc (.cells #[.int .i64 yk, .int .i64 yn, .string yt, .string ym, .slice ya yn2 yc] 58)) V1.heap.size #[.int .i64 yk, .int .i64 yn, .string yt, .string ym, .slice ya yn2 yc] 58) := CBlk.new _ _ _
      clear hH HV1 HY
      refine hK.out _ _ trivial (fun hH => ?_)
      clear hK K
      revert hH HV2 HG HY2
      generalize V1.alloc (.cells #[.int .i64 yk, .int .i64 yn, .string yt, .string ym, .slice ya yn2 yc] 58) = V2
      generalize V1.heap.size = GG
      intro HV2 HY2 HG hH
      refine wRd 5 (by kernel_rfl) rfl (fun K hK => ?_)
      refine astep_one rfl _ _ rfl (A + 1) (.slice xa L.length xc) L (by rfl) HV2.out.ob.1 GG ((⟨⟨yk, yn, yt⟩, ym, yl⟩, .slice ya yn2 yc) : At × Value) (by rfl) HG.out (acell_one _ _ _ _) (by omega) HV2.out.box.lt ?_
      intro v' w3 hown hb3 hg3 ha3
      have hOAL := HV2.out.ob.app (x := ((⟨⟨yk, yn, yt⟩, ym, yl⟩, .slice ya yn2 yc) : At × Value)) HY2.out hown hg3
      obtain ⟨va, vc, rfl⟩ := OwnA.form hown
      have HW3 : Hid (CS w (w3.setCell ⟨A, 5, none⟩ (.slice va (L ++ [((⟨⟨yk, yn, yt⟩, ym, yl⟩, .slice ya yn2 yc) : At × Value)]).length vc)) g A B s9 ⟨⟨tk, tn, tt⟩, nm, ls⟩ (.slice a1 n1 c1) (.slice va (L ++ [((⟨⟨yk, yn, yt⟩, ym, yl⟩, .slice ya yn2 yc) : At × Value)]).length vc) (L ++ [((⟨⟨yk, yn, yt⟩, ym, yl⟩, .slice ya yn2 yc) : At × Value)]) (.slice none 0 0) []) := HV2.out.body hOAL hb3
      have hD : Blk w3 A _ 62 := (hb3.block _ (by omega)).trans HV2.out.box
      have d5 := (cseven hD).2.2.2.2.2.1
      have f5 : w3.frozen? ⟨A, 5, none⟩ = false := (ff7 hD).2.2.2.2.2.1
      clear hD hown hb3 hg3 ha3 hOAL HV2 HG HY2 hH
      generalize hLN : (L ++ [((⟨⟨yk, yn, yt⟩, ym, yl⟩, .slice ya yn2 yc) : At × Value)]).length = LN at *
      refine hK.out _ _ trivial (fun hH => ?_)
      clear hK K
      simp only [wA8, wB8, wC8, wD8]
      refine wTk 6 (.pointer (some ⟨A, 5, none⟩)) rfl (by kernel_rfl) (fun _ _ _ h => h) (Or.inl ⟨by rfl, fun w' h => by clear h; go_simp⟩) hH ?_
      simp only [wA8, wB8, wC8, wD8]
      refine wRd 7 (by kernel_rfl) rfl (fun K hK => ?_)
      go_simp
      clear d5 f5
      refine hK.out _ _ trivial (fun hH => ?_)
      clear hK K hH
      refine wpAnyH_done (by kernel_rfl) ?_ _
      go_wp2_with fail
      go_roundg g9
      case measure => omega
      case rel => exact ⟨j + 1, _, s9, L ++ [((⟨⟨yk, yn, yt⟩, ym, yl⟩, .slice ya yn2 yc) : At × Value)], by omega, by go_num, by simp; omega, HW3.out, by rw [List.map_append]; exact HQ9.out⟩
     ·go_simp
      have HV2 : Hid (CS w (V1.alloc (.cells #[.int .i64 yk, .int .i64 yn, .string yt, .string ym, .slice ya yn2 yc] 58)) g A B s9 ⟨⟨tk, tn, tt⟩, nm, ls⟩ (.slice a1 n1 c1) (.slice xa L.length xc) L (.slice none 0 0) []) := HV1.out.below (below1 _ _)
      have HY2 : Hid (OwnT (V1.alloc (.cells #[.int .i64 yk, .int .i64 yn, .string yt, .string ym, .slice ya yn2 yc] 58)) (A + 1) (.slice ya yn2 yc) yl) := HY.out.later (below1 _ _)
      have HG : Hid (CBlk (V1.alloc (.cells #[.int .i64 yk, .int .i64 yn, .string yt, .string ym, .slice ya yn2 yc] 58)) V1.heap.size #[.int .i64 yk, .int .i64 yn, .string yt, .string ym, .slice ya yn2 yc] 58) := CBlk.new _ _ _
      clear hH HV1 HY
      refine hK.out _ _ trivial (fun hH => ?_)
      clear hK K
      revert hH HV2 HG HY2
      generalize V1.alloc (.cells #[.int .i64 yk, .int .i64 yn, .string yt, .string ym, .slice ya yn2 yc] 58) = V2
      generalize V1.heap.size = GG
      intro HV2 HY2 HG hH
      refine wRd 1 (by kernel_rfl) rfl (fun K hK => ?_)
      have c5 := (cseven HV2.out.box).2.2.2.2.2.1
      go_simp
      clear c5
      refine hK.out _ _ trivial (fun hH => ?_)
      clear hK K
      refine wRd 5 (by kernel_rfl) rfl (fun K hK => ?_)
      refine astep_one rfl _ _ rfl (A + 1) (.slice xa L.length xc) L (by rfl) HV2.out.ob.1 GG ((⟨⟨yk, yn, yt⟩, ym, yl⟩, .slice ya yn2 yc) : At × Value) (by rfl) HG.out (acell_one _ _ _ _) (by omega) HV2.out.box.lt ?_
      intro v' w3 hown hb3 hg3 ha3
      have hOAL := HV2.out.ob.app (x := ((⟨⟨yk, yn, yt⟩, ym, yl⟩, .slice ya yn2 yc) : At × Value)) HY2.out hown hg3
      obtain ⟨va, vc, rfl⟩ := OwnA.form hown
      have HW3 : Hid (CS w (w3.setCell ⟨A, 5, none⟩ (.slice va (L ++ [((⟨⟨yk, yn, yt⟩, ym, yl⟩, .slice ya yn2 yc) : At × Value)]).length vc)) g A B s9 ⟨⟨tk, tn, tt⟩, nm, ls⟩ (.slice a1 n1 c1) (.slice va (L ++ [((⟨⟨yk, yn, yt⟩, ym, yl⟩, .slice ya yn2 yc) : At × Value)]).length vc) (L ++ [((⟨⟨yk, yn, yt⟩, ym, yl⟩, .slice ya yn2 yc) : At × Value)]) (.slice none 0 0) []) := HV2.out.body hOAL hb3
      have hD : Blk w3 A _ 62 := (hb3.block _ (by omega)).trans HV2.out.box
      have d5 := (cseven hD).2.2.2.2.2.1
      have f5 : w3.frozen? ⟨A, 5, none⟩ = false := (ff7 hD).2.2.2.2.2.1
      clear hD hown hb3 hg3 ha3 hOAL HV2 HG HY2 hH
      generalize hLN : (L ++ [((⟨⟨yk, yn, yt⟩, ym, yl⟩, .slice ya yn2 yc) : At × Value)]).length = LN at *
      refine hK.out _ _ trivial (fun hH => ?_)
      clear hK K
      simp only [wA8, wB8, wC8, wD8]
      refine wTk 6 (.pointer (some ⟨A, 5, none⟩)) rfl (by kernel_rfl) (fun _ _ _ h => h) (Or.inl ⟨by rfl, fun w' h => by clear h; go_simp⟩) hH ?_
      simp only [wA8, wB8, wC8, wD8]
      refine wRd 7 (by kernel_rfl) rfl (fun K hK => ?_)
      go_simp
      clear d5 f5
      refine hK.out _ _ trivial (fun hH => ?_)
      clear hK K hH
      refine wpAnyH_done (by kernel_rfl) ?_ _
      go_wp2_with fail
      go_roundg g9
      case measure => omega
      case rel => exact ⟨j + 1, _, s9, L ++ [((⟨⟨yk, yn, yt⟩, ym, yl⟩, .slice ya yn2 yc) : At × Value)], by omega, by go_num, by simp; omega, HW3.out, by rw [List.map_append]; exact HQ9.out⟩
  ·have HE : Hid (qMany (qAtom B) n.toNat s2 = (L.map (·.1), sj)) := HQ.out.stop (by
    by_cases h0 : sj.er = 0
    ·right; have : ¬ (j : Int) < n := fun h => hx ⟨h, h0⟩
     omega
    ·exact Or.inl h0)
   have hQ := HQC.out
   rw [HE.out] at hQ
   unfold qClauseT at hQ
   have hN4 := fun X hX => qsmall_any 0 8 g B sj X hX
   obtain ⟨hk0, hk9⟩ := qSmall_rng hyB (lo := 0) (hi := 8) (s := sj)
   generalize qSmall B 0 8 sj = q4 at hQ hN4 hk0 hk9
   obtain ⟨kk, s4⟩ := q4
   simp only at hQ hN4 hk0 hk9
   have HN4 : Hid (∀ X, RqS X g B sj -> Calls Tryz.prog 87 #[.pointer (some ⟨g, 0, none⟩), .int .i64 0, .int .i64 8] X fun e w' => e = .returned (.int .i64 kk) /\ RqS w' g B s4 /\ Bv g X.heap.size X w') := hN4
   have HQ2 : Hid ((((⟨⟨tk, tn, tt⟩, nm, ls⟩ : At), L.map (·.1), (qMany (qTest B) kk.toNat s4).1), qCk ((⟨⟨tk, tn, tt⟩, nm, ls⟩ : At), L.map (·.1), (qMany (qTest B) kk.toNat s4).1) (qMany (qTest B) kk.toNat s4).2) = QC) := hQ
   clear hQ hN4 HQ
   by_cases hjK : (j : Int) < n
   ·have hne : (sj.er == 0) = false := beq_eq_false_iff_ne.2 (fun h => hx ⟨hjK, h⟩)
    clear hx
    generalize sj.er = er9 at e2 hne
    go_upto_region 8 with (go_at_call 87; refine (HN4.out _ HA.out.rq).mono ?_; rintro e w5 ⟨rfl, hs, hb⟩; have HA5 : Hid (CS w w5 g A B s4 ⟨⟨tk, tn, tt⟩, nm, ls⟩ (.slice a1 n1 c1) (.slice xa L.length xc) L (.slice none 0 0) []) := HA.out.step hs hb; clear hs hb)
    clear HA e2 HN4 HE HQC
    go_wp2
    go_loopg [6] kk.toNat (fun g9 i wr => ∃ (j2 : Nat) (tv : Value) (sk : Qs) (E : List Te), j2 + g9 = kk.toNat /\ i = .int .i64 j2 /\ E.length <= j2 /\ CS w wr g A B sk ⟨⟨tk, tn, tt⟩, nm, ls⟩ (.slice a1 n1 c1) (.slice xa L.length xc) L tv E /\ QM (qTest B) kk.toNat s4 g9 E sk)
    case atStart => exact ⟨0, _, s4, [], by omega, rfl, by simp, HA5.out, QM.start _ _ _⟩
    case round =>
     obtain ⟨j2, tv, sk, E, hj2, rfl, hes, ha, hq⟩ := hrel
     obtain ⟨za, zc, rfl⟩ := OwnE.form ha.oe
     have HA : Hid (CS w wr g A B sk ⟨⟨tk, tn, tt⟩, nm, ls⟩ (.slice a1 n1 c1) (.slice xa L.length xc) L (.slice za E.length zc) E) := ha
     have HQ : Hid (QM (qTest B) kk.toNat s4 gk E sk) := hq
     have e2 := ha.er
     clear ha hq
     by_cases hx : (j2 : Int) < kk /\ sk.er = 0
     ·obtain ⟨hjK2, he⟩ := hx
      cases gk with
      | zero => omega
      | succ g9 =>
       rw [he] at e2
       obtain ⟨⟨op, s6⟩, hq6⟩ : ∃ q, qSmall B 1 4 sk = q := ⟨_, rfl⟩
       obtain ⟨⟨⟨xk, xn, xs⟩, s7⟩, hq7⟩ : ∃ q, qTerm B false true true s6 = q := ⟨_, rfl⟩
       obtain ⟨⟨⟨yk, yn, ys⟩, s8⟩, hq8⟩ : ∃ q, qTerm B false true true s7 = q := ⟨_, rfl⟩
       have HQ9 : Hid (QM (qTest B) kk.toNat s4 g9 (E ++ [⟨op, ⟨xk, xn, xs⟩, ⟨yk, yn, ys⟩⟩]) s8) := HQ.out.next he (by unfold qTest; rw [hq6]; simp only; rw [hq7]; simp only; rw [hq8])
       have HN6 : Hid (∀ X, RqS X g B sk -> Calls Tryz.prog 87 #[.pointer (some ⟨g, 0, none⟩), .int .i64 1, .int .i64 4] X fun e w' => e = .returned (.int .i64 op) /\ RqS w' g B s6 /\ Bv g X.heap.size X w') := fun X hX => by
        have := qsmall_any 1 4 g B sk X hX
        rw [hq6] at this; exact this
       have HN7 : Hid (∀ X, RqS X g B s6 -> Calls Tryz.prog 88 #[.pointer (some ⟨g, 0, none⟩), .bool false, .bool true, .bool true] X fun e w' => e = .returned (Tm.v ⟨xk, xn, xs⟩) /\ RqS w' g B s7 /\ Bv g X.heap.size X w') := fun X hX => by
        have := qarg_any g B s6 X hX
        rw [hq7] at this; exact this
       have HN8 : Hid (∀ X, RqS X g B s7 -> Calls Tryz.prog 88 #[.pointer (some ⟨g, 0, none⟩), .bool false, .bool true, .bool true] X fun e w' => e = .returned (Tm.v ⟨yk, yn, ys⟩) /\ RqS w' g B s8 /\ Bv g X.heap.size X w') := fun X hX => by
        have := qarg_any g B s7 X hX
        rw [hq8] at this; exact this
       clear hq6 hq7 hq8 HQ
       go_upto_region 12 with (go_at_call 87; refine (HN6.out _ HA.out.rq).mono ?_; rintro e w6 ⟨rfl, hs, hb⟩; have HA6 : Hid (CS w w6 g A B s6 ⟨⟨tk, tn, tt⟩, nm, ls⟩ (.slice a1 n1 c1) (.slice xa L.length xc) L (.slice za E.length zc) E) := HA.out.step hs hb; clear hs hb)
       clear e2 HA HN6
       have HRL : Hid (RL (.slice a1 n1 c1) (.slice xa L.length xc) (.slice za E.length zc) L w6.heap.size /\ A < w6.heap.size) := HA6.out.rl
       have HA6a : Hid (CS w (w6.alloc (.cells #[.int .i64 op, .int .i64 0, .int .i64 0, .string ⟨#[]⟩, .int .i64 0, .int .i64 0, .string ⟨#[]⟩] 97)) g A B s6 ⟨⟨tk, tn, tt⟩, nm, ls⟩ (.slice a1 n1 c1) (.slice xa L.length xc) L (.slice za E.length zc) E) := HA6.out.below (below1 _ _)
       have HT6 : Hid (Blk (w6.alloc (.cells #[.int .i64 op, .int .i64 0, .int .i64 0, .string ⟨#[]⟩, .int .i64 0, .int .i64 0, .string ⟨#[]⟩] 97)) w6.heap.size #[.int .i64 op, .int .i64 0, .int .i64 0, .string ⟨#[]⟩, .int .i64 0, .int .i64 0, .string ⟨#[]⟩] 97) := Blk.new _ _ _
       clear HA6
       revert HRL HA6a HT6
       generalize w6.alloc (.cells #[.int .i64 op, .int .i64 0, .int .i64 0, .string ⟨#[]⟩, .int .i64 0, .int .i64 0, .string ⟨#[]⟩] 97) = V6
       generalize w6.heap.size = T
       intro HRL HA6a HT6
       have hAT : A < T := HRL.out.2
       have hgT : g < T := by have := HA6a.out.gt; have := HA6a.out.lt; omega
       go_upto_region 13 with (go_at_call 88; refine (HN7.out _ HA6a.out.rq).mono ?_; rintro e w7 ⟨rfl, hs, hb⟩; have HA7 : Hid (CS w w7 g A B s7 ⟨⟨tk, tn, tt⟩, nm, ls⟩ (.slice a1 n1 c1) (.slice xa L.length xc) L (.slice za E.length zc) E) := HA6a.out.step hs hb; have HT7 : Hid (Blk w7 T #[.int .i64 op, .int .i64 0, .int .i64 0, .string ⟨#[]⟩, .int .i64 0, .int .i64 0, .string ⟨#[]⟩] 97) := HT6.out.bl hb (by omega); obtain ⟨t0, t1, t2, t3, t4, t5, t6⟩ := cseven HT7.out; obtain ⟨f0, f1, f2, f3, f4, f5, f6⟩ := ff7 HT7.out; clear hs hb)
       have HA7a : Hid (CS w (((w7.setCell ⟨T, 1, none⟩ (.int .i64 xk)).setCell ⟨T, 2, none⟩ (.int .i64 xn)).setCell ⟨T, 3, none⟩ (.string xs)) g A B s7 ⟨⟨tk, tn, tt⟩, nm, ls⟩ (.slice a1 n1 c1) (.slice xa L.length xc) L (.slice za E.length zc) E) := ((HA7.out.setT HRL.out.1 hAT).setT HRL.out.1 hAT).setT HRL.out.1 hAT
       have HT7a : Hid (Blk (((w7.setCell ⟨T, 1, none⟩ (.int .i64 xk)).setCell ⟨T, 2, none⟩ (.int .i64 xn)).setCell ⟨T, 3, none⟩ (.string xs)) T #[.int .i64 op, .int .i64 xk, .int .i64 xn, .string xs, .int .i64 0, .int .i64 0, .string ⟨#[]⟩] 97) := heap_setCell_same _ _ _ _ _ _ (heap_setCell_same _ _ _ _ _ _ (heap_setCell_same _ _ _ _ _ _ HT7.out))
       clear HA7 HT7 t0 t1 t2 t3 t4 t5 t6 f0 f1 f2 f3 f4 f5 f6 HA6a HT6 HN7
       revert HA7a HT7a
       generalize (((w7.setCell ⟨T, 1, none⟩ (.int .i64 xk)).setCell ⟨T, 2, none⟩ (.int .i64 xn)).setCell ⟨T, 3, none⟩ (.string xs)) = V7
       intro HA7a HT7a
       go_upto_region 14 with (go_at_call 88; refine (HN8.out _ HA7a.out.rq).mono ?_; rintro e w8 ⟨rfl, hs, hb⟩; have HA8 : Hid (CS w w8 g A B s8 ⟨⟨tk, tn, tt⟩, nm, ls⟩ (.slice a1 n1 c1) (.slice xa L.length xc) L (.slice za E.length zc) E) := HA7a.out.step hs hb; have HT8 : Hid (Blk w8 T #[.int .i64 op, .int .i64 xk, .int .i64 xn, .string xs, .int .i64 0, .int .i64 0, .string ⟨#[]⟩] 97) := HT7a.out.bl hb (by omega); obtain ⟨t0, t1, t2, t3, t4, t5, t6⟩ := cseven HT8.out; obtain ⟨f0, f1, f2, f3, f4, f5, f6⟩ := ff7 HT8.out; clear hs hb)
       have HA8a : Hid (CS w (((w8.setCell ⟨T, 4, none⟩ (.int .i64 yk)).setCell ⟨T, 5, none⟩ (.int .i64 yn)).setCell ⟨T, 6, none⟩ (.string ys)) g A B s8 ⟨⟨tk, tn, tt⟩, nm, ls⟩ (.slice a1 n1 c1) (.slice xa L.length xc) L (.slice za E.length zc) E) := ((HA8.out.setT HRL.out.1 hAT).setT HRL.out.1 hAT).setT HRL.out.1 hAT
       have HT8a : Hid (Blk (((w8.setCell ⟨T, 4, none⟩ (.int .i64 yk)).setCell ⟨T, 5, none⟩ (.int .i64 yn)).setCell ⟨T, 6, none⟩ (.string ys)) T #[.int .i64 op, .int .i64 xk, .int .i64 xn, .string xs, .int .i64 yk, .int .i64 yn, .string ys] 97) := heap_setCell_same _ _ _ _ _ _ (heap_setCell_same _ _ _ _ _ _ (heap_setCell_same _ _ _ _ _ _ HT8.out))
       clear HA8 HT8 t0 t1 t2 t3 t4 t5 t6 f0 f1 f2 f3 f4 f5 f6 HA7a HT7a HN8
       revert HA8a HT8a
       generalize (((w8.setCell ⟨T, 4, none⟩ (.int .i64 yk)).setCell ⟨T, 5, none⟩ (.int .i64 yn)).setCell ⟨T, 6, none⟩ (.string ys)) = V8
       intro HA8a HT8a
       obtain ⟨t0, t1, t2, t3, t4, t5, t6⟩ := cseven HT8a.out
       obtain ⟨b0, b1, b2, b3, b4, b5, b6⟩ := cseven HA8a.out.box
       have hA8 := HA8a.out.box.lt
       go_wp2_with (at_builtin; refine eapp_one rfl _ _ rfl (A + 1) (.slice za E.length zc) E rfl (HA8a.out.oe.later (below1 _ _)) V8.heap.size ⟨op, ⟨xk, xn, xs⟩, ⟨yk, yn, ys⟩⟩ rfl (CBlk.new _ _ _) (ecell_one _) (by omega) (by simp; omega) ?_; intro v9 w9 ho9 hb9 hg9 hk9; obtain ⟨va, vc, rfl⟩ := OwnE.form ho9; have HA9 : Hid (CS w (w9.setCell ⟨A, 6, none⟩ (.slice va (E ++ [(⟨op, ⟨xk, xn, xs⟩, ⟨yk, yn, ys⟩⟩ : Te)]).length vc)) g A B s8 ⟨⟨tk, tn, tt⟩, nm, ls⟩ (.slice a1 n1 c1) (.slice xa L.length xc) L (.slice va (E ++ [(⟨op, ⟨xk, xn, xs⟩, ⟨yk, yn, ys⟩⟩ : Te)]).length vc) (E ++ [(⟨op, ⟨xk, xn, xs⟩, ⟨yk, yn, ys⟩⟩ : Te)])) := (HA8a.out.below (below1 _ _)).tests ho9 hb9 hg9; have hD : Blk w9 A _ 62 := (hb9.block _ (by omega)).trans ((HA8a.out.below (below1 _ _)).box); clear b0 b1 b2 b3 b4 b5 b6 t0 t1 t2 t3 t4 t5 t6; obtain ⟨b0, b1, b2, b3, b4, b5, b6⟩ := cseven hD; obtain ⟨f0, f1, f2, f3, f4, f5, f6⟩ := ff7 hD; generalize hEN : (E ++ [(⟨op, ⟨xk, xn, xs⟩, ⟨yk, yn, ys⟩⟩ : Te)]).length = EN at *; clear hD ho9 hb9 hg9 hk9)
       go_roundg g9
       case measure => omega
       case rel => exact ⟨j2 + 1, _, s8, E ++ [⟨op, ⟨xk, xn, xs⟩, ⟨yk, yn, ys⟩⟩], by omega, by go_num, by simp; omega, HA9.out, HQ9.out⟩
     ·have HE2 : qMany (qTest B) kk.toNat s4 = (E, sk) := HQ.out.stop (by
       by_cases h0 : sk.er = 0
       ·right; have : ¬ (j2 : Int) < kk := fun h => hx ⟨h, h0⟩
        omega
       ·exact Or.inl h0)
      have HQ3 : Hid ((((⟨⟨tk, tn, tt⟩, nm, ls⟩ : At), L.map (·.1), E), qCk ((⟨⟨tk, tn, tt⟩, nm, ls⟩ : At), L.map (·.1), E) sk) = QC) := by
       have := HQ2.out
       rw [HE2] at this
       exact this
      clear HE2 HQ HA5
      by_cases hjK2 : (j2 : Int) < kk
      ·have he0 : sk.er ≠ 0 := fun h => hx ⟨hjK2, h⟩
       clear hx
       have HER : Hid (sk.er ≠ 0) := he0
       have hne2 : (sk.er == 0) = false := beq_eq_false_iff_ne.2 he0
       obtain ⟨b0, b1, b2, b3, b4, b5, b6⟩ := cseven HA.out.box
       obtain ⟨r0, r1, r2, r3, r4, r5, r6⟩ := cseven HA.out.res
       obtain ⟨f0, f1, f2, f3, f4, f5, f6⟩ := ff7 HA.out.res
       have hAlt := HA.out.lt
       have hgw := HA.out.gt
       generalize sk.er = er8 at e2 hne2
       go_wp2
       refine bodyPost_ret (v := Cm.v (⟨(⟨⟨tk, tn, tt⟩, nm, ls⟩, (.slice a1 n1 c1)), L, (.slice xa L.length xc), E, (.slice za E.length zc)⟩ : Cm)) (by simp [results, Tryz.results42, go_sem, r0, r1, r2, r3, r4, r5, r6]) rfl ?_
       have hQ3 := HQ3.out
       rw [qCk_ne HER.out] at hQ3
       rw [<- hQ3]
       exact ⟨(⟨(⟨⟨tk, tn, tt⟩, nm, ls⟩, (.slice a1 n1 c1)), L, (.slice xa L.length xc), E, (.slice za E.length zc)⟩ : Cm), rfl, rfl, ((((((HA.out.rq.off hgw).off hgw).off hgw).off hgw).off hgw).off hgw).off hgw, (((((((HA.out.mc.set (by omega)).set (by omega)).set (by omega)).set (by omega)).set (by omega)).set (by omega)).set (by omega)).mono (by omega), bset7V HA.out.bl (Nat.le_refl _)⟩
      ·clear hx
       by_cases he0 : sk.er = 0
       ·have HER : Hid (sk.er = 0) := he0
        rw [he0] at e2
        have HOK : Hid (∀ X, Below wr.heap.size wr X -> Cm.ok X (⟨(⟨⟨tk, tn, tt⟩, nm, ls⟩, (.slice a1 n1 c1)), L, (.slice xa L.length xc), E, (.slice za E.length zc)⟩ : Cm)) := fun X hX => (HA.out.mc.later hX).okS (by have := HSZ.out; rw [<- HQ3.out] at this; exact this)
        have HCK : Hid (∀ X, Below wr.heap.size wr X -> Calls Tryz.prog 33 #[Cm.v (⟨(⟨⟨tk, tn, tt⟩, nm, ls⟩, (.slice a1 n1 c1)), L, (.slice xa L.length xc), E, (.slice za E.length zc)⟩ : Cm)] X fun e w' => e = .returned (.int .i64 (chkK ((⟨⟨tk, tn, tt⟩, nm, ls⟩ : At), L.map (·.1), E))) /\ Below X.heap.size X w') := fun X hX => by
         have hmc := HA.out.mc.later hX
         have hok := HOK.out X hX
         have := rcheckC_any (⟨(⟨⟨tk, tn, tt⟩, nm, ls⟩, (.slice a1 n1 c1)), L, (.slice xa L.length xc), E, (.slice za E.length zc)⟩ : Cm) X hok hmc.h.tsP (fun x hx => (hmc.b.2 x hx).tsP) (OwnA.asP8 hmc.b.1 (by obtain ⟨_, _, _, h, _⟩ := hok.b; exact h) (by obtain ⟨_, _, _, _, _, h⟩ := hok.b; exact h))
         rw [chk_keyK] at this
         exact this
        have HST : Hid (∀ X, RqS X g B sk -> Calls Tryz.prog 53 #[.pointer (some ⟨g, 0, none⟩), .int .i64 63] X fun e w' => e = .returned (.tuple #[]) /\ RqS w' g B ⟨sk.at_, 63⟩ /\ Bv g X.heap.size X w') := fun X hX => by
         have := qstop_any 63 g B sk X hX
         rwa [stp_0 he0] at this
        obtain ⟨b0, b1, b2, b3, b4, b5, b6⟩ := cseven HA.out.box
        obtain ⟨r0, r1, r2, r3, r4, r5, r6⟩ := cseven HA.out.res
        obtain ⟨f0, f1, f2, f3, f4, f5, f6⟩ := ff7 HA.out.res
        have hAlt := HA.out.lt
        have hgw := HA.out.gt
        by_cases hc : chkK ((⟨⟨tk, tn, tt⟩, nm, ls⟩ : At), L.map (·.1), E) = 0
        ·have HQK : Hid (qCk ((⟨⟨tk, tn, tt⟩, nm, ls⟩ : At), L.map (·.1), E) sk = sk) := if_neg (fun e => e.2 hc)
         rw [hc] at HCK
         go_wp2_with (go_at_call 33; refine (HCK.out _ (Below.refl _ _)).mono ?_; rintro e w8 ⟨rfl, hb⟩; have HA8 : Hid (CS w w8 g A B sk ⟨⟨tk, tn, tt⟩, nm, ls⟩ (.slice a1 n1 c1) (.slice xa L.length xc) L (.slice za E.length zc) E) := HA.out.below hb; clear b0 b1 b2 b3 b4 b5 b6 r0 r1 r2 r3 r4 r5 r6 f0 f1 f2 f3 f4 f5 f6; obtain ⟨b0, b1, b2, b3, b4, b5, b6⟩ := cseven HA8.out.box; obtain ⟨r0, r1, r2, r3, r4, r5, r6⟩ := cseven HA8.out.res; obtain ⟨f0, f1, f2, f3, f4, f5, f6⟩ := ff7 HA8.out.res; clear hb)
         refine bodyPost_ret (v := Cm.v (⟨(⟨⟨tk, tn, tt⟩, nm, ls⟩, (.slice a1 n1 c1)), L, (.slice xa L.length xc), E, (.slice za E.length zc)⟩ : Cm)) (by simp [results, Tryz.results42, go_sem, r0, r1, r2, r3, r4, r5, r6]) rfl ?_
         have hQ3 := HQ3.out
         rw [HQK.out] at hQ3
         rw [<- hQ3]
         exact ⟨(⟨(⟨⟨tk, tn, tt⟩, nm, ls⟩, (.slice a1 n1 c1)), L, (.slice xa L.length xc), E, (.slice za E.length zc)⟩ : Cm), rfl, rfl, ((((((HA8.out.rq.off hgw).off hgw).off hgw).off hgw).off hgw).off hgw).off hgw, (((((((HA8.out.mc.set (by omega)).set (by omega)).set (by omega)).set (by omega)).set (by omega)).set (by omega)).set (by omega)).mono (by omega), bset7V HA8.out.bl (Nat.le_refl _)⟩
        ·have HQK : Hid (qCk ((⟨⟨tk, tn, tt⟩, nm, ls⟩ : At), L.map (·.1), E) sk = ⟨sk.at_, 63⟩) := if_pos ⟨HER.out, hc⟩
         have hne3 : (chkK ((⟨⟨tk, tn, tt⟩, nm, ls⟩ : At), L.map (·.1), E) != 0) = true := by simpa using hc
         generalize chkK ((⟨⟨tk, tn, tt⟩, nm, ls⟩ : At), L.map (·.1), E) = ch at HCK hne3
         go_wp2_with (first
          | (go_at_call 33; refine (HCK.out _ (Below.refl _ _)).mono ?_; rintro e w8 ⟨rfl, hb⟩; have HA8 : Hid (CS w w8 g A B sk ⟨⟨tk, tn, tt⟩, nm, ls⟩ (.slice a1 n1 c1) (.slice xa L.length xc) L (.slice za E.length zc) E) := HA.out.below hb; clear b0 b1 b2 b3 b4 b5 b6 r0 r1 r2 r3 r4 r5 r6 f0 f1 f2 f3 f4 f5 f6; obtain ⟨b0, b1, b2, b3, b4, b5, b6⟩ := cseven HA8.out.box; obtain ⟨r0, r1, r2, r3, r4, r5, r6⟩ := cseven HA8.out.res; obtain ⟨f0, f1, f2, f3, f4, f5, f6⟩ := ff7 HA8.out.res; clear hb)
          | (go_at_call 53; refine (HST.out _ HA8.out.rq).mono ?_; rintro e w9 ⟨rfl, hs, hb⟩; have HA9 : Hid (CS w w9 g A B ⟨sk.at_, 63⟩ ⟨⟨tk, tn, tt⟩, nm, ls⟩ (.slice a1 n1 c1) (.slice xa L.length xc) L (.slice za E.length zc) E) := HA8.out.step hs hb; clear b0 b1 b2 b3 b4 b5 b6 r0 r1 r2 r3 r4 r5 r6 f0 f1 f2 f3 f4 f5 f6; obtain ⟨b0, b1, b2, b3, b4, b5, b6⟩ := cseven HA9.out.box; obtain ⟨r0, r1, r2, r3, r4, r5, r6⟩ := cseven HA9.out.res; obtain ⟨f0, f1, f2, f3, f4, f5, f6⟩ := ff7 HA9.out.res; clear hs hb))
         refine bodyPost_ret (v := Cm.v (⟨(⟨⟨tk, tn, tt⟩, nm, ls⟩, (.slice a1 n1 c1)), L, (.slice xa L.length xc), E, (.slice za E.length zc)⟩ : Cm)) (by simp [results, Tryz.results42, go_sem, r0, r1, r2, r3, r4, r5, r6]) rfl ?_
         have hQ3 := HQ3.out
         rw [HQK.out] at hQ3
         rw [<- hQ3]
         exact ⟨(⟨(⟨⟨tk, tn, tt⟩, nm, ls⟩, (.slice a1 n1 c1)), L, (.slice xa L.length xc), E, (.slice za E.length zc)⟩ : Cm), rfl, rfl, ((((((HA9.out.rq.off hgw).off hgw).off hgw).off hgw).off hgw).off hgw).off hgw, (((((((HA9.out.mc.set (by omega)).set (by omega)).set (by omega)).set (by omega)).set (by omega)).set (by omega)).set (by omega)).mono (by omega), bset7V HA9.out.bl (Nat.le_refl _)⟩
       ·have HER : Hid (sk.er ≠ 0) := he0
        have hne2 : (sk.er == 0) = false := beq_eq_false_iff_ne.2 he0
        obtain ⟨b0, b1, b2, b3, b4, b5, b6⟩ := cseven HA.out.box
        obtain ⟨r0, r1, r2, r3, r4, r5, r6⟩ := cseven HA.out.res
        obtain ⟨f0, f1, f2, f3, f4, f5, f6⟩ := ff7 HA.out.res
        have hAlt := HA.out.lt
        have hgw := HA.out.gt
        generalize sk.er = er8 at e2 hne2
        go_wp2
        refine bodyPost_ret (v := Cm.v (⟨(⟨⟨tk, tn, tt⟩, nm, ls⟩, (.slice a1 n1 c1)), L, (.slice xa L.length xc), E, (.slice za E.length zc)⟩ : Cm)) (by simp [results, Tryz.results42, go_sem, r0, r1, r2, r3, r4, r5, r6]) rfl ?_
        have hQ3 := HQ3.out
        rw [qCk_ne HER.out] at hQ3
        rw [<- hQ3]
        exact ⟨(⟨(⟨⟨tk, tn, tt⟩, nm, ls⟩, (.slice a1 n1 c1)), L, (.slice xa L.length xc), E, (.slice za E.length zc)⟩ : Cm), rfl, rfl, ((((((HA.out.rq.off hgw).off hgw).off hgw).off hgw).off hgw).off hgw).off hgw, (((((((HA.out.mc.set (by omega)).set (by omega)).set (by omega)).set (by omega)).set (by omega)).set (by omega)).set (by omega)).mono (by omega), bset7V HA.out.bl (Nat.le_refl _)⟩
   ·clear hx
    generalize sj.er = er9 at e2
    go_upto_region 8 with (go_at_call 87; refine (HN4.out _ HA.out.rq).mono ?_; rintro e w5 ⟨rfl, hs, hb⟩; have HA5 : Hid (CS w w5 g A B s4 ⟨⟨tk, tn, tt⟩, nm, ls⟩ (.slice a1 n1 c1) (.slice xa L.length xc) L (.slice none 0 0) []) := HA.out.step hs hb; clear hs hb)
    clear HA e2 HN4 HE HQC
    go_wp2
    go_loopg [6] kk.toNat (fun g9 i wr => ∃ (j2 : Nat) (tv : Value) (sk : Qs) (E : List Te), j2 + g9 = kk.toNat /\ i = .int .i64 j2 /\ E.length <= j2 /\ CS w wr g A B sk ⟨⟨tk, tn, tt⟩, nm, ls⟩ (.slice a1 n1 c1) (.slice xa L.length xc) L tv E /\ QM (qTest B) kk.toNat s4 g9 E sk)
    case atStart => exact ⟨0, _, s4, [], by omega, rfl, by simp, HA5.out, QM.start _ _ _⟩
    case round =>
     obtain ⟨j2, tv, sk, E, hj2, rfl, hes, ha, hq⟩ := hrel
     obtain ⟨za, zc, rfl⟩ := OwnE.form ha.oe
     have HA : Hid (CS w wr g A B sk ⟨⟨tk, tn, tt⟩, nm, ls⟩ (.slice a1 n1 c1) (.slice xa L.length xc) L (.slice za E.length zc) E) := ha
     have HQ : Hid (QM (qTest B) kk.toNat s4 gk E sk) := hq
     have e2 := ha.er
     clear ha hq
     by_cases hx : (j2 : Int) < kk /\ sk.er = 0
     ·obtain ⟨hjK2, he⟩ := hx
      cases gk with
      | zero => omega
      | succ g9 =>
       rw [he] at e2
       obtain ⟨⟨op, s6⟩, hq6⟩ : ∃ q, qSmall B 1 4 sk = q := ⟨_, rfl⟩
       obtain ⟨⟨⟨xk, xn, xs⟩, s7⟩, hq7⟩ : ∃ q, qTerm B false true true s6 = q := ⟨_, rfl⟩
       obtain ⟨⟨⟨yk, yn, ys⟩, s8⟩, hq8⟩ : ∃ q, qTerm B false true true s7 = q := ⟨_, rfl⟩
       have HQ9 : Hid (QM (qTest B) kk.toNat s4 g9 (E ++ [⟨op, ⟨xk, xn, xs⟩, ⟨yk, yn, ys⟩⟩]) s8) := HQ.out.next he (by unfold qTest; rw [hq6]; simp only; rw [hq7]; simp only; rw [hq8])
       have HN6 : Hid (∀ X, RqS X g B sk -> Calls Tryz.prog 87 #[.pointer (some ⟨g, 0, none⟩), .int .i64 1, .int .i64 4] X fun e w' => e = .returned (.int .i64 op) /\ RqS w' g B s6 /\ Bv g X.heap.size X w') := fun X hX => by
        have := qsmall_any 1 4 g B sk X hX
        rw [hq6] at this; exact this
       have HN7 : Hid (∀ X, RqS X g B s6 -> Calls Tryz.prog 88 #[.pointer (some ⟨g, 0, none⟩), .bool false, .bool true, .bool true] X fun e w' => e = .returned (Tm.v ⟨xk, xn, xs⟩) /\ RqS w' g B s7 /\ Bv g X.heap.size X w') := fun X hX => by
        have := qarg_any g B s6 X hX
        rw [hq7] at this; exact this
       have HN8 : Hid (∀ X, RqS X g B s7 -> Calls Tryz.prog 88 #[.pointer (some ⟨g, 0, none⟩), .bool false, .bool true, .bool true] X fun e w' => e = .returned (Tm.v ⟨yk, yn, ys⟩) /\ RqS w' g B s8 /\ Bv g X.heap.size X w') := fun X hX => by
        have := qarg_any g B s7 X hX
        rw [hq8] at this; exact this
       clear hq6 hq7 hq8 HQ
       go_upto_region 12 with (go_at_call 87; refine (HN6.out _ HA.out.rq).mono ?_; rintro e w6 ⟨rfl, hs, hb⟩; have HA6 : Hid (CS w w6 g A B s6 ⟨⟨tk, tn, tt⟩, nm, ls⟩ (.slice a1 n1 c1) (.slice xa L.length xc) L (.slice za E.length zc) E) := HA.out.step hs hb; clear hs hb)
       clear e2 HA HN6
       have HRL : Hid (RL (.slice a1 n1 c1) (.slice xa L.length xc) (.slice za E.length zc) L w6.heap.size /\ A < w6.heap.size) := HA6.out.rl
       have HA6a : Hid (CS w (w6.alloc (.cells #[.int .i64 op, .int .i64 0, .int .i64 0, .string ⟨#[]⟩, .int .i64 0, .int .i64 0, .string ⟨#[]⟩] 97)) g A B s6 ⟨⟨tk, tn, tt⟩, nm, ls⟩ (.slice a1 n1 c1) (.slice xa L.length xc) L (.slice za E.length zc) E) := HA6.out.below (below1 _ _)
       have HT6 : Hid (Blk (w6.alloc (.cells #[.int .i64 op, .int .i64 0, .int .i64 0, .string ⟨#[]⟩, .int .i64 0, .int .i64 0, .string ⟨#[]⟩] 97)) w6.heap.size #[.int .i64 op, .int .i64 0, .int .i64 0, .string ⟨#[]⟩, .int .i64 0, .int .i64 0, .string ⟨#[]⟩] 97) := Blk.new _ _ _
       clear HA6
       revert HRL HA6a HT6
       generalize w6.alloc (.cells #[.int .i64 op, .int .i64 0, .int .i64 0, .string ⟨#[]⟩, .int .i64 0, .int .i64 0, .string ⟨#[]⟩] 97) = V6
       generalize w6.heap.size = T
       intro HRL HA6a HT6
       have hAT : A < T := HRL.out.2
       have hgT : g < T := by have := HA6a.out.gt; have := HA6a.out.lt; omega
       go_upto_region 13 with (go_at_call 88; refine (HN7.out _ HA6a.out.rq).mono ?_; rintro e w7 ⟨rfl, hs, hb⟩; have HA7 : Hid (CS w w7 g A B s7 ⟨⟨tk, tn, tt⟩, nm, ls⟩ (.slice a1 n1 c1) (.slice xa L.length xc) L (.slice za E.length zc) E) := HA6a.out.step hs hb; have HT7 : Hid (Blk w7 T #[.int .i64 op, .int .i64 0, .int .i64 0, .string ⟨#[]⟩, .int .i64 0, .int .i64 0, .string ⟨#[]⟩] 97) := HT6.out.bl hb (by omega); obtain ⟨t0, t1, t2, t3, t4, t5, t6⟩ := cseven HT7.out; obtain ⟨f0, f1, f2, f3, f4, f5, f6⟩ := ff7 HT7.out; clear hs hb)
       have HA7a : Hid (CS w (((w7.setCell ⟨T, 1, none⟩ (.int .i64 xk)).setCell ⟨T, 2, none⟩ (.int .i64 xn)).setCell ⟨T, 3, none⟩ (.string xs)) g A B s7 ⟨⟨tk, tn, tt⟩, nm, ls⟩ (.slice a1 n1 c1) (.slice xa L.length xc) L (.slice za E.length zc) E) := ((HA7.out.setT HRL.out.1 hAT).setT HRL.out.1 hAT).setT HRL.out.1 hAT
       have HT7a : Hid (Blk (((w7.setCell ⟨T, 1, none⟩ (.int .i64 xk)).setCell ⟨T, 2, none⟩ (.int .i64 xn)).setCell ⟨T, 3, none⟩ (.string xs)) T #[.int .i64 op, .int .i64 xk, .int .i64 xn, .string xs, .int .i64 0, .int .i64 0, .string ⟨#[]⟩] 97) := heap_setCell_same _ _ _ _ _ _ (heap_setCell_same _ _ _ _ _ _ (heap_setCell_same _ _ _ _ _ _ HT7.out))
       clear HA7 HT7 t0 t1 t2 t3 t4 t5 t6 f0 f1 f2 f3 f4 f5 f6 HA6a HT6 HN7
       revert HA7a HT7a
       generalize (((w7.setCell ⟨T, 1, none⟩ (.int .i64 xk)).setCell ⟨T, 2, none⟩ (.int .i64 xn)).setCell ⟨T, 3, none⟩ (.string xs)) = V7
       intro HA7a HT7a
       go_upto_region 14 with (go_at_call 88; refine (HN8.out _ HA7a.out.rq).mono ?_; rintro e w8 ⟨rfl, hs, hb⟩; have HA8 : Hid (CS w w8 g A B s8 ⟨⟨tk, tn, tt⟩, nm, ls⟩ (.slice a1 n1 c1) (.slice xa L.length xc) L (.slice za E.length zc) E) := HA7a.out.step hs hb; have HT8 : Hid (Blk w8 T #[.int .i64 op, .int .i64 xk, .int .i64 xn, .string xs, .int .i64 0, .int .i64 0, .string ⟨#[]⟩] 97) := HT7a.out.bl hb (by omega); obtain ⟨t0, t1, t2, t3, t4, t5, t6⟩ := cseven HT8.out; obtain ⟨f0, f1, f2, f3, f4, f5, f6⟩ := ff7 HT8.out; clear hs hb)
       have HA8a : Hid (CS w (((w8.setCell ⟨T, 4, none⟩ (.int .i64 yk)).setCell ⟨T, 5, none⟩ (.int .i64 yn)).setCell ⟨T, 6, none⟩ (.string ys)) g A B s8 ⟨⟨tk, tn, tt⟩, nm, ls⟩ (.slice a1 n1 c1) (.slice xa L.length xc) L (.slice za E.length zc) E) := ((HA8.out.setT HRL.out.1 hAT).setT HRL.out.1 hAT).setT HRL.out.1 hAT
       have HT8a : Hid (Blk (((w8.setCell ⟨T, 4, none⟩ (.int .i64 yk)).setCell ⟨T, 5, none⟩ (.int .i64 yn)).setCell ⟨T, 6, none⟩ (.string ys)) T #[.int .i64 op, .int .i64 xk, .int .i64 xn, .string xs, .int .i64 yk, .int .i64 yn, .string ys] 97) := heap_setCell_same _ _ _ _ _ _ (heap_setCell_same _ _ _ _ _ _ (heap_setCell_same _ _ _ _ _ _ HT8.out))
       clear HA8 HT8 t0 t1 t2 t3 t4 t5 t6 f0 f1 f2 f3 f4 f5 f6 HA7a HT7a HN8
       revert HA8a HT8a
       generalize (((w8.setCell ⟨T, 4, none⟩ (.int .i64 yk)).setCell ⟨T, 5, none⟩ (.int .i64 yn)).setCell ⟨T, 6, none⟩ (.string ys)) = V8
       intro HA8a HT8a
       obtain ⟨t0, t1, t2, t3, t4, t5, t6⟩ := cseven HT8a.out
       obtain ⟨b0, b1, b2, b3, b4, b5, b6⟩ := cseven HA8a.out.box
       have hA8 := HA8a.out.box.lt
       go_wp2_with (at_builtin; refine eapp_one rfl _ _ rfl (A + 1) (.slice za E.length zc) E rfl (HA8a.out.oe.later (below1 _ _)) V8.heap.size ⟨op, ⟨xk, xn, xs⟩, ⟨yk, yn, ys⟩⟩ rfl (CBlk.new _ _ _) (ecell_one _) (by omega) (by simp; omega) ?_; intro v9 w9 ho9 hb9 hg9 hk9; obtain ⟨va, vc, rfl⟩ := OwnE.form ho9; have HA9 : Hid (CS w (w9.setCell ⟨A, 6, none⟩ (.slice va (E ++ [(⟨op, ⟨xk, xn, xs⟩, ⟨yk, yn, ys⟩⟩ : Te)]).length vc)) g A B s8 ⟨⟨tk, tn, tt⟩, nm, ls⟩ (.slice a1 n1 c1) (.slice xa L.length xc) L (.slice va (E ++ [(⟨op, ⟨xk, xn, xs⟩, ⟨yk, yn, ys⟩⟩ : Te)]).length vc) (E ++ [(⟨op, ⟨xk, xn, xs⟩, ⟨yk, yn, ys⟩⟩ : Te)])) := (HA8a.out.below (below1 _ _)).tests ho9 hb9 hg9; have hD : Blk w9 A _ 62 := (hb9.block _ (by omega)).trans ((HA8a.out.below (below1 _ _)).box); clear b0 b1 b2 b3 b4 b5 b6 t0 t1 t2 t3 t4 t5 t6; obtain ⟨b0, b1, b2, b3, b4, b5, b6⟩ := cseven hD; obtain ⟨f0, f1, f2, f3, f4, f5, f6⟩ := ff7 hD; generalize hEN : (E ++ [(⟨op, ⟨xk, xn, xs⟩, ⟨yk, yn, ys⟩⟩ : Te)]).length = EN at *; clear hD ho9 hb9 hg9 hk9)
       go_roundg g9
       case measure => omega
       case rel => exact ⟨j2 + 1, _, s8, E ++ [⟨op, ⟨xk, xn, xs⟩, ⟨yk, yn, ys⟩⟩], by omega, by go_num, by simp; omega, HA9.out, HQ9.out⟩
     ·have HE2 : qMany (qTest B) kk.toNat s4 = (E, sk) := HQ.out.stop (by
       by_cases h0 : sk.er = 0
       ·right; have : ¬ (j2 : Int) < kk := fun h => hx ⟨h, h0⟩
        omega
       ·exact Or.inl h0)
      have HQ3 : Hid ((((⟨⟨tk, tn, tt⟩, nm, ls⟩ : At), L.map (·.1), E), qCk ((⟨⟨tk, tn, tt⟩, nm, ls⟩ : At), L.map (·.1), E) sk) = QC) := by
       have := HQ2.out
       rw [HE2] at this
       exact this
      clear HE2 HQ HA5
      by_cases hjK2 : (j2 : Int) < kk
      ·have he0 : sk.er ≠ 0 := fun h => hx ⟨hjK2, h⟩
       clear hx
       have HER : Hid (sk.er ≠ 0) := he0
       have hne2 : (sk.er == 0) = false := beq_eq_false_iff_ne.2 he0
       obtain ⟨b0, b1, b2, b3, b4, b5, b6⟩ := cseven HA.out.box
       obtain ⟨r0, r1, r2, r3, r4, r5, r6⟩ := cseven HA.out.res
       obtain ⟨f0, f1, f2, f3, f4, f5, f6⟩ := ff7 HA.out.res
       have hAlt := HA.out.lt
       have hgw := HA.out.gt
       generalize sk.er = er8 at e2 hne2
       go_wp2
       refine bodyPost_ret (v := Cm.v (⟨(⟨⟨tk, tn, tt⟩, nm, ls⟩, (.slice a1 n1 c1)), L, (.slice xa L.length xc), E, (.slice za E.length zc)⟩ : Cm)) (by simp [results, Tryz.results42, go_sem, r0, r1, r2, r3, r4, r5, r6]) rfl ?_
       have hQ3 := HQ3.out
       rw [qCk_ne HER.out] at hQ3
       rw [<- hQ3]
       exact ⟨(⟨(⟨⟨tk, tn, tt⟩, nm, ls⟩, (.slice a1 n1 c1)), L, (.slice xa L.length xc), E, (.slice za E.length zc)⟩ : Cm), rfl, rfl, ((((((HA.out.rq.off hgw).off hgw).off hgw).off hgw).off hgw).off hgw).off hgw, (((((((HA.out.mc.set (by omega)).set (by omega)).set (by omega)).set (by omega)).set (by omega)).set (by omega)).set (by omega)).mono (by omega), bset7V HA.out.bl (Nat.le_refl _)⟩
      ·clear hx
       by_cases he0 : sk.er = 0
       ·have HER : Hid (sk.er = 0) := he0
        rw [he0] at e2
        have HOK : Hid (∀ X, Below wr.heap.size wr X -> Cm.ok X (⟨(⟨⟨tk, tn, tt⟩, nm, ls⟩, (.slice a1 n1 c1)), L, (.slice xa L.length xc), E, (.slice za E.length zc)⟩ : Cm)) := fun X hX => (HA.out.mc.later hX).okS (by have := HSZ.out; rw [<- HQ3.out] at this; exact this)
        have HCK : Hid (∀ X, Below wr.heap.size wr X -> Calls Tryz.prog 33 #[Cm.v (⟨(⟨⟨tk, tn, tt⟩, nm, ls⟩, (.slice a1 n1 c1)), L, (.slice xa L.length xc), E, (.slice za E.length zc)⟩ : Cm)] X fun e w' => e = .returned (.int .i64 (chkK ((⟨⟨tk, tn, tt⟩, nm, ls⟩ : At), L.map (·.1), E))) /\ Below X.heap.size X w') := fun X hX => by
         have hmc := HA.out.mc.later hX
         have hok := HOK.out X hX
         have := rcheckC_any (⟨(⟨⟨tk, tn, tt⟩, nm, ls⟩, (.slice a1 n1 c1)), L, (.slice xa L.length xc), E, (.slice za E.length zc)⟩ : Cm) X hok hmc.h.tsP (fun x hx => (hmc.b.2 x hx).tsP) (OwnA.asP8 hmc.b.1 (by obtain ⟨_, _, _, h, _⟩ := hok.b; exact h) (by obtain ⟨_, _, _, _, _, h⟩ := hok.b; exact h))
         rw [chk_keyK] at this
         exact this
        have HST : Hid (∀ X, RqS X g B sk -> Calls Tryz.prog 53 #[.pointer (some ⟨g, 0, none⟩), .int .i64 63] X fun e w' => e = .returned (.tuple #[]) /\ RqS w' g B ⟨sk.at_, 63⟩ /\ Bv g X.heap.size X w') := fun X hX => by
         have := qstop_any 63 g B sk X hX
         rwa [stp_0 he0] at this
        obtain ⟨b0, b1, b2, b3, b4, b5, b6⟩ := cseven HA.out.box
        obtain ⟨r0, r1, r2, r3, r4, r5, r6⟩ := cseven HA.out.res
        obtain ⟨f0, f1, f2, f3, f4, f5, f6⟩ := ff7 HA.out.res
        have hAlt := HA.out.lt
        have hgw := HA.out.gt
        by_cases hc : chkK ((⟨⟨tk, tn, tt⟩, nm, ls⟩ : At), L.map (·.1), E) = 0
        ·have HQK : Hid (qCk ((⟨⟨tk, tn, tt⟩, nm, ls⟩ : At), L.map (·.1), E) sk = sk) := if_neg (fun e => e.2 hc)
         rw [hc] at HCK
         go_wp2_with (go_at_call 33; refine (HCK.out _ (Below.refl _ _)).mono ?_; rintro e w8 ⟨rfl, hb⟩; have HA8 : Hid (CS w w8 g A B sk ⟨⟨tk, tn, tt⟩, nm, ls⟩ (.slice a1 n1 c1) (.slice xa L.length xc) L (.slice za E.length zc) E) := HA.out.below hb; clear b0 b1 b2 b3 b4 b5 b6 r0 r1 r2 r3 r4 r5 r6 f0 f1 f2 f3 f4 f5 f6; obtain ⟨b0, b1, b2, b3, b4, b5, b6⟩ := cseven HA8.out.box; obtain ⟨r0, r1, r2, r3, r4, r5, r6⟩ := cseven HA8.out.res; obtain ⟨f0, f1, f2, f3, f4, f5, f6⟩ := ff7 HA8.out.res; clear hb)
         refine bodyPost_ret (v := Cm.v (⟨(⟨⟨tk, tn, tt⟩, nm, ls⟩, (.slice a1 n1 c1)), L, (.slice xa L.length xc), E, (.slice za E.length zc)⟩ : Cm)) (by simp [results, Tryz.results42, go_sem, r0, r1, r2, r3, r4, r5, r6]) rfl ?_
         have hQ3 := HQ3.out
         rw [HQK.out] at hQ3
         rw [<- hQ3]
         exact ⟨(⟨(⟨⟨tk, tn, tt⟩, nm, ls⟩, (.slice a1 n1 c1)), L, (.slice xa L.length xc), E, (.slice za E.length zc)⟩ : Cm), rfl, rfl, ((((((HA8.out.rq.off hgw).off hgw).off hgw).off hgw).off hgw).off hgw).off hgw, (((((((HA8.out.mc.set (by omega)).set (by omega)).set (by omega)).set (by omega)).set (by omega)).set (by omega)).set (by omega)).mono (by omega), bset7V HA8.out.bl (Nat.le_refl _)⟩
        ·have HQK : Hid (qCk ((⟨⟨tk, tn, tt⟩, nm, ls⟩ : At), L.map (·.1), E) sk = ⟨sk.at_, 63⟩) := if_pos ⟨HER.out, hc⟩
         have hne3 : (chkK ((⟨⟨tk, tn, tt⟩, nm, ls⟩ : At), L.map (·.1), E) != 0) = true := by simpa using hc
         generalize chkK ((⟨⟨tk, tn, tt⟩, nm, ls⟩ : At), L.map (·.1), E) = ch at HCK hne3
         go_wp2_with (first
          | (go_at_call 33; refine (HCK.out _ (Below.refl _ _)).mono ?_; rintro e w8 ⟨rfl, hb⟩; have HA8 : Hid (CS w w8 g A B sk ⟨⟨tk, tn, tt⟩, nm, ls⟩ (.slice a1 n1 c1) (.slice xa L.length xc) L (.slice za E.length zc) E) := HA.out.below hb; clear b0 b1 b2 b3 b4 b5 b6 r0 r1 r2 r3 r4 r5 r6 f0 f1 f2 f3 f4 f5 f6; obtain ⟨b0, b1, b2, b3, b4, b5, b6⟩ := cseven HA8.out.box; obtain ⟨r0, r1, r2, r3, r4, r5, r6⟩ := cseven HA8.out.res; obtain ⟨f0, f1, f2, f3, f4, f5, f6⟩ := ff7 HA8.out.res; clear hb)
          | (go_at_call 53; refine (HST.out _ HA8.out.rq).mono ?_; rintro e w9 ⟨rfl, hs, hb⟩; have HA9 : Hid (CS w w9 g A B ⟨sk.at_, 63⟩ ⟨⟨tk, tn, tt⟩, nm, ls⟩ (.slice a1 n1 c1) (.slice xa L.length xc) L (.slice za E.length zc) E) := HA8.out.step hs hb; clear b0 b1 b2 b3 b4 b5 b6 r0 r1 r2 r3 r4 r5 r6 f0 f1 f2 f3 f4 f5 f6; obtain ⟨b0, b1, b2, b3, b4, b5, b6⟩ := cseven HA9.out.box; obtain ⟨r0, r1, r2, r3, r4, r5, r6⟩ := cseven HA9.out.res; obtain ⟨f0, f1, f2, f3, f4, f5, f6⟩ := ff7 HA9.out.res; clear hs hb))
         refine bodyPost_ret (v := Cm.v (⟨(⟨⟨tk, tn, tt⟩, nm, ls⟩, (.slice a1 n1 c1)), L, (.slice xa L.length xc), E, (.slice za E.length zc)⟩ : Cm)) (by simp [results, Tryz.results42, go_sem, r0, r1, r2, r3, r4, r5, r6]) rfl ?_
         have hQ3 := HQ3.out
         rw [HQK.out] at hQ3
         rw [<- hQ3]
         exact ⟨(⟨(⟨⟨tk, tn, tt⟩, nm, ls⟩, (.slice a1 n1 c1)), L, (.slice xa L.length xc), E, (.slice za E.length zc)⟩ : Cm), rfl, rfl, ((((((HA9.out.rq.off hgw).off hgw).off hgw).off hgw).off hgw).off hgw).off hgw, (((((((HA9.out.mc.set (by omega)).set (by omega)).set (by omega)).set (by omega)).set (by omega)).set (by omega)).set (by omega)).mono (by omega), bset7V HA9.out.bl (Nat.le_refl _)⟩
       ·have HER : Hid (sk.er ≠ 0) := he0
        have hne2 : (sk.er == 0) = false := beq_eq_false_iff_ne.2 he0
        obtain ⟨b0, b1, b2, b3, b4, b5, b6⟩ := cseven HA.out.box
        obtain ⟨r0, r1, r2, r3, r4, r5, r6⟩ := cseven HA.out.res
        obtain ⟨f0, f1, f2, f3, f4, f5, f6⟩ := ff7 HA.out.res
        have hAlt := HA.out.lt
        have hgw := HA.out.gt
        generalize sk.er = er8 at e2 hne2
        go_wp2
        refine bodyPost_ret (v := Cm.v (⟨(⟨⟨tk, tn, tt⟩, nm, ls⟩, (.slice a1 n1 c1)), L, (.slice xa L.length xc), E, (.slice za E.length zc)⟩ : Cm)) (by simp [results, Tryz.results42, go_sem, r0, r1, r2, r3, r4, r5, r6]) rfl ?_
        have hQ3 := HQ3.out
        rw [qCk_ne HER.out] at hQ3
        rw [<- hQ3]
        exact ⟨(⟨(⟨⟨tk, tn, tt⟩, nm, ls⟩, (.slice a1 n1 c1)), L, (.slice xa L.length xc), E, (.slice za E.length zc)⟩ : Cm), rfl, rfl, ((((((HA.out.rq.off hgw).off hgw).off hgw).off hgw).off hgw).off hgw).off hgw, (((((((HA.out.mc.set (by omega)).set (by omega)).set (by omega)).set (by omega)).set (by omega)).set (by omega)).set (by omega)).mono (by omega), bset7V HA.out.bl (Nat.le_refl _)⟩
end Go.Proofs.YtmbmchbninlhpaaGreatDoor
