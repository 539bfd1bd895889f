/-
  hearsaylaw06.CodecAtoms: the walk. (Written by CF2.py.)
-/
import Derived.Test.YtjnipcakjoiplaaDoorCF1
import Derived.Test.YtjnipcakjoiplaaDoorLDA
namespace Go.Proofs.YtjnipcakjoiplaaDoor
open Go.RowKit

/-- An atom's bytes, or none. -/
def bAt (a : At) : List Int := if a.err = 0 then aB a else []
theorem aB_byt {a : At} (h : Fit a) : byt (aB a) := by
  unfold aB
  refine (tB_byt h.by_).app ((sB_byt (by have := h.nm; omega)).app ?_)
  intro x hx
  rcases List.mem_cons.1 hx with rfl | hx
  · have := h.len; omega
  · obtain ⟨t, ht, hx⟩ := List.mem_flatMap.1 hx
    exact tB_byt (h.args t ht) x hx
theorem bAt_byt (a : At) : byt (bAt a) := by
  unfold bAt
  split
  · rename_i h; exact aB_byt (fit_of h)
  · intro x hx; simp at hx
theorem tBs_all (l : List Tm) : tBs l l.length = l.flatMap tB := by unfold tBs; rw [List.take_length]
theorem aB_len {a : At} (h : Fit a) : (aB a).length ≤ 1000 := by
  have h1 := (tB_len a.by_).2
  have h2 := h.by_.2
  have h3 := tBs_len h.args a.args.length
  rw [tBs_all] at h3
  have h4 := h.nm
  have h5 := h.len
  unfold aB sB
  simp only [List.length_append, List.length_cons, bl_len]
  omega
theorem bn_nil (w : World) : Bn w (.slice none 0 0) [] := ⟨none, 0, rfl, Nat.le_refl _, by simp, Or.inl rfl⟩
theorem Bn.form {w : World} {v : Value} {l : List Int} (h : Bn w v l) : ∃ a n cap, v = .slice a n cap := by
  obtain ⟨a, cap, rfl, -⟩ := h
  exact ⟨_, _, _, rfl⟩
theorem atomW_any (a : At) (y : Value) (w : World) (hy : Ts w y a.args) :
    Calls Tryd.prog 5 #[a.v y] w fun e w' => ∃ v, e = .returned (.tuple #[v, .int .i64 a.err]) ∧ Bn w' v (bAt a) ∧ Below w.heap.size w w' := by
  by_cases he : a.err = 0
  · refine (atomW_ok a y w hy he).mono ?_
    rintro e w' ⟨v, rfl, ho, hb⟩
    rw [he]
    exact ⟨v, rfl, by unfold bAt; rw [if_pos he]; exact ho.bn (by have := aB_len (fit_of he); omega), hb⟩
  · refine (atomW_no a y w hy he).mono ?_
    rintro e w' ⟨rfl, hb⟩
    exact ⟨_, rfl, by unfold bAt; rw [if_neg he]; exact bn_nil _, hb⟩
theorem ratomW_any (a : At) (y : Value) (w : World) (hy : Ts w y a.args) :
    Calls Tryd.prog 6 #[a.v y] w fun e w' => ∃ v, e = .returned (.tuple #[v, .int .i64 a.err]) ∧ Bn w' v (bAt a) ∧ Below w.heap.size w w' := by
  by_cases he : a.err = 0
  · refine (ratomW_ok a y w hy he).mono ?_
    rintro e w' ⟨v, rfl, ho, hb⟩
    rw [he]
    exact ⟨v, rfl, by unfold bAt; rw [if_pos he]; exact ho.bn (by have := aB_len (fit_of he); omega), hb⟩
  · refine (ratomW_no a y w hy he).mono ?_
    rintro e w' ⟨rfl, hb⟩
    exact ⟨_, rfl, by unfold bAt; rw [if_neg he]; exact bn_nil _, hb⟩
theorem rMany_len {α : Type} {one : List Int → Rd α} : ∀ {n : Nat} {l r : List Int} {ts : List α}, rMany one n l = .ok (ts, r) → ts.length = n
  | 0, l, r, ts, h => by simp only [rMany, Except.ok.injEq, Prod.mk.injEq] at h; rw [← h.1]; rfl
  | n + 1, l, r, ts, h => by
    unfold rMany at h
    rcases hr : one l with c | ⟨a, r1⟩
    · rw [hr] at h; cases h
    · rw [hr] at h
      simp only [Rd.and] at h
      rcases hr2 : rMany one n r1 with c | ⟨ts2, r2⟩
      · rw [hr2] at h; cases h
      · rw [hr2] at h
        have := rMany_len hr2
        cases h
        simp [this]
theorem rBnd_le {lo hi : Int} {l r : List Int} {n : Int} (h : rBnd lo hi l = .ok (n, r)) : n ≤ hi := by
  unfold rBnd at h
  rcases hr : rNum 1 l with c | ⟨k, r1⟩
  · rw [hr] at h; cases h
  · rw [hr] at h
    simp only [Rd.and] at h
    split at h
    · cases h
    · cases h; omega
theorem rAtom_len {l r : List Int} {a : At} (h : rAtom l = .ok (a, r)) : a.args.length ≤ 8 := by
  unfold rAtom at h
  rcases h1 : rQual l with c | ⟨t, r1⟩
  · rw [h1] at h; cases h
  · rw [h1] at h
    simp only [Rd.and] at h
    rcases h2 : rName r1 with c | ⟨nm, r2⟩
    · rw [h2] at h; cases h
    · rw [h2] at h
      simp only at h
      rcases h3 : rBnd 0 8 r2 with c | ⟨n, r3⟩
      · rw [h3] at h; cases h
      · rw [h3] at h
        simp only at h
        rcases h4 : rMany rArg n.toNat r3 with c | ⟨ts, r4⟩
        · rw [h4] at h; cases h
        · rw [h4] at h
          have e1 := rMany_len h4
          have e2 := rBnd_le h3
          cases h
          simp only
          omega
theorem whole_len {B : List Int} {a : At} (h : rWhole rAtom B = .ok a) : a.args.length ≤ 8 := by
  unfold rWhole at h
  rcases hr : rAtom B with c | ⟨b, r⟩
  · rw [hr] at h; cases h
  · rw [hr] at h
    simp only at h
    split at h
    · cases h; exact rAtom_len hr
    · cases h
set_option maxRecDepth 20000 in
set_option maxHeartbeats 8000000 in
theorem codecAtoms_any (a : At) (y : Value) (v : Value) (B : List Int) (W : World) (hy : TsP W y a.args) (hl : a.args.length ≤ 3900000000000) (hb : Br W v B) (hlB : B.length ≤ 2000000) (hB : BehA W) :
    Calls Tryd.prog 3 #[a.v y, v] W fun e w' => e = .returned (.bool true) ∧ Below W.heap.size W w' := by
  have hT : ∀ X, Below W.heap.size W X → Ts X y a.args := fun X hX => (hy.later hX).ts (by omega)
  have HLA : Hid (∀ X, Below W.heap.size W X → Calls Tryd.prog 4 #[a.v y] X fun e w' => ∃ u, e = .returned (a.v u) ∧ LentT w' X.heap.size u a.args ∧ Below X.heap.size X w') := fun X hX => lendA8_any a y X (hy.later hX) hl (hB.later hX)
  have HKA : Hid (∀ (X : World) (u : Value) (base : Nat), Below W.heap.size W X → LentT X base u a.args → Calls Tryd.prog 7 #[a.v u, a.v y] X fun e w' => e = .returned (.bool true) ∧ Below X.heap.size X w') := fun X u base hX hu => keptA8_any a u y base X (hT X hX) hu (hB.later hX)
  have HAW : Hid (∀ (X : World) (u : Value) (base : Nat), LentT X base u a.args → Calls Tryd.prog 5 #[a.v u] X fun e w' => ∃ v, e = .returned (.tuple #[v, .int .i64 a.err]) ∧ Bn w' v (bAt a) ∧ Below X.heap.size X w') := fun X u base hu => atomW_any a u X (hu.ts (by omega))
  have HRW : Hid (∀ X, Below W.heap.size W X → Calls Tryd.prog 6 #[a.v y] X fun e w' => ∃ v, e = .returned (.tuple #[v, .int .i64 a.err]) ∧ Bn w' v (bAt a) ∧ Below X.heap.size X w') := fun X hX => ratomW_any a y X (hT X hX)
  have HLB : Hid (∀ X, Below W.heap.size W X → Calls Tryd.prog 8 #[v] X fun e w' => ∃ u, e = .returned u ∧ LentB w' X.heap.size u B ∧ Below X.heap.size X w') := fun X hX => lendB_any v B X (hb.later hX) hlB
  have HKB : Hid (∀ (X : World) (u : Value) (base : Nat), Below W.heap.size W X → LentB X base u B → Calls Tryd.prog 12 #[u, v] X fun e w' => e = .returned (.bool true) ∧ Below X.heap.size X w') := fun X u base hX hu => keptB_any u v B base X hu (hb.later hX) hlB
  have HRA : Hid (∀ (X : World) (u : Value) (base : Nat), LentB X base u B → Calls Tryd.prog 9 #[u] X (RA X (rWhole rAtom B))) := fun X u base hu => readAtom_any u B X (hu.bh hb.1 (by omega))
  have HQA : Hid (∀ X, Below W.heap.size W X → Calls Tryd.prog 10 #[v] X (RA X (rWhole rAtom B))) := fun X hX => rreadAtom_any v B X (hb.later hX)
  have HF : Hid (∀ X, Calls Tryd.prog 13 #[] X fun e w' => e = .returned (.bool true) ∧ Below X.heap.size X w') := fun X => first6_any X
  have HSA : Hid (∀ (X : World) (b : At) (p q : Value) (P Q : Nat), OwnT X P p b.args → OwnT X Q q b.args → b.args.length < 1000000000000000000 → Calls Tryd.prog 11 #[b.v p, b.v q] X fun e w' => e = .returned (.bool true) ∧ Below X.heap.size X w') := fun X b p q P Q h1 h2 h3 => by
    have := sameAtom_any b b p q X (h1.tsP.ts h3) (h2.tsP.ts h3)
    rwa [decide_eq_true rfl] at this
  have HBY : Hid (byt (bAt a)) := bAt_byt a
  generalize bAt a = S at *
  generalize a.err = er at *
  obtain ⟨ad, cap, rfl⟩ := hy.form
  obtain ⟨⟨k, n, s⟩, nm, m⟩ := a
  obtain ⟨av, acap, rfl⟩ : ∃ a cap, v = .slice a B.length cap := by obtain ⟨-, a, cap, e, -⟩ := hb; exact ⟨a, cap, e⟩
  clear hy hb hB hT
  simp only at *
  go_enter Tryd.func3, Tryd.ntmps3
  go_upto_region 4 with (first
    | (go_at_call 4; refine (HLA.out _ (below1 _ _)).mono ?_; rintro e w1 ⟨u, rfl, hu, hb⟩; obtain ⟨gu, cu, rfl, hou⟩ := hu; have HU1 : Hid (LentT (w1.alloc (.cells #[.int .i64 k, .int .i64 n, .string s, .string nm, .slice (some ⟨gu, 0, none⟩) m.length cu] 26)) (W.heap.size + 1) (.slice (some ⟨gu, 0, none⟩) m.length cu) m) := LentT.later ⟨gu, cu, rfl, hou.mono (by simp)⟩ (below1 _ _); have HB1 : Hid (Below W.heap.size W (w1.alloc (.cells #[.int .i64 k, .int .i64 n, .string s, .string nm, .slice (some ⟨gu, 0, none⟩) m.length cu] 26))) := below_step (below_step (below1 _ _) hb) (below1 _ _); have HX1 : Hid (Blk (w1.alloc (.cells #[.int .i64 k, .int .i64 n, .string s, .string nm, .slice (some ⟨gu, 0, none⟩) m.length cu] 26)) W.heap.size #[.int .i64 k, .int .i64 n, .string s, .string nm, .slice ad m.length cap] 26) := ((Blk.new W #[.int .i64 k, .int .i64 n, .string s, .string nm, .slice ad m.length cap] 26).later hb).later (below1 _ _); have HY1 : Hid (Blk (w1.alloc (.cells #[.int .i64 k, .int .i64 n, .string s, .string nm, .slice (some ⟨gu, 0, none⟩) m.length cu] 26)) w1.heap.size #[.int .i64 k, .int .i64 n, .string s, .string nm, .slice (some ⟨gu, 0, none⟩) m.length cu] 26) := Blk.new _ _ _; obtain ⟨x0, x1, x2, x3, x4⟩ := five HX1.out; obtain ⟨y0, y1, y2, y3, y4⟩ := five HY1.out; clear hou hb)
    | (go_at_call 5; refine (HAW.out _ _ _ HU1.out).mono ?_; rintro e w2 ⟨v2, rfl, hn, hb⟩; have HN2 : Hid (Bn w2 v2 S) := hn; have HU2 : Hid (LentT w2 _ _ m) := HU1.out.later hb; have HB2 : Hid (Below W.heap.size W w2) := below_step HB1.out hb; have HX2 : Hid (Blk w2 _ _ _) := HX1.out.later hb; have HY2 : Hid (Blk w2 _ _ _) := HY1.out.later hb; clear x0 x1 x2 x3 x4 y0 y1 y2 y3 y4; obtain ⟨x0, x1, x2, x3, x4⟩ := five HX2.out; clear hn hb)
    | (go_at_call 6; refine (HRW.out _ HB2.out).mono ?_; rintro e w3 ⟨v3, rfl, hn, hb⟩; have HN3 : Hid (Bn w3 v3 S) := hn; have HM3 : Hid (Bn w3 v2 S) := HN2.out.later hb; have HU3 : Hid (LentT w3 _ _ m) := HU2.out.later hb; have HB3 : Hid (Below W.heap.size W w3) := below_step HB2.out hb; have HX3 : Hid (Blk w3 _ _ _) := HX2.out.later hb; have HY3 : Hid (Blk w3 _ _ _) := HY2.out.later hb; clear x0 x1 x2 x3 x4 hn hb))
  have hcv1 := conv_bn HM3.out HBY.out
  have hcv2 := conv_bn HN3.out HBY.out
  obtain ⟨x0, x1, x2, x3, x4⟩ := five HX3.out
  obtain ⟨y0, y1, y2, y3, y4⟩ := five HY3.out
  generalize ofL S = SS at *
  obtain ⟨a2, n2, c2, rfl⟩ := HM3.out.form
  obtain ⟨a3, n3, c3, rfl⟩ := HN3.out.form
  clear HX1 HY1 HX2 HY2 HU1 HU2 HB1 HB2 HN2 HM3 HN3
  go_upto_region 6 with (go_at_call 7; refine (HKA.out _ _ _ HB3.out HU3.out).mono ?_; rintro e w4 ⟨rfl, hb⟩; have HB4 : Hid (Below W.heap.size W w4) := below_step HB3.out hb; clear hb x0 x1 x2 x3 x4 y0 y1 y2 y3 y4 hcv1 hcv2)
  go_upto_region 9 with (first
    | (go_at_call 8; refine (HLB.out _ HB4.out).mono ?_; rintro e w5 ⟨u5, rfl, hu, hb⟩; have HU5 : Hid (LentB w5 w4.heap.size u5 B) := hu; have HB5 : Hid (Below W.heap.size W w5) := below_step HB4.out hb; clear hu hb)
    | (go_at_call 9; refine (HRA.out _ _ _ HU5.out).mono ?_; rintro e w6 ⟨hb, ⟨⟨pk, pn, ps⟩, pm, pl⟩, yp, pc, rfl, hop, hmp⟩; obtain ⟨pa, pn', pcap, rfl⟩ := ownT_form8 hop; have HP6 : Hid (OwnT (w6.alloc (.cells #[.int .i64 pk, .int .i64 pn, .string ps, .string pm, .slice pa pn' pcap] 26)) w5.heap.size (.slice pa pn' pcap) pl) := hop.later (below1 _ _); have HMP : Hid (match rWhole rAtom B with | .ok b => (⟨⟨pk, pn, ps⟩, pm, pl⟩ : At) = b ∧ pc = 0 | .error d => (⟨⟨pk, pn, ps⟩, pm, pl⟩ : At) = a0 ∧ pc = d) := hmp; have HB6 : Hid (Below W.heap.size W (w6.alloc (.cells #[.int .i64 pk, .int .i64 pn, .string ps, .string pm, .slice pa pn' pcap] 26))) := below_step (below_step HB5.out hb) (below1 _ _); have HU6 : Hid (LentB (w6.alloc (.cells #[.int .i64 pk, .int .i64 pn, .string ps, .string pm, .slice pa pn' pcap] 26)) w4.heap.size u5 B) := (HU5.out.later hb).later (below1 _ _); have HZ6 : Hid (Blk (w6.alloc (.cells #[.int .i64 pk, .int .i64 pn, .string ps, .string pm, .slice pa pn' pcap] 26)) w6.heap.size #[.int .i64 pk, .int .i64 pn, .string ps, .string pm, .slice pa pn' pcap] 26) := Blk.new _ _ _; clear hb hop hmp)
    | (go_at_call 10; refine (HQA.out _ HB6.out).mono ?_; rintro e w7 ⟨hb, ⟨⟨qk, qn, qs⟩, qm, ql⟩, yq, qc, rfl, hoq, hmq⟩; obtain ⟨qa, qn', qcap, rfl⟩ := ownT_form8 hoq; have HQ7 : Hid (OwnT (w7.alloc (.cells #[.int .i64 qk, .int .i64 qn, .string qs, .string qm, .slice qa qn' qcap] 26)) W.heap.size (.slice qa qn' qcap) ql) := (hoq.later (below1 _ _)).mono HB6.out.size; have HMQ : Hid (match rWhole rAtom B with | .ok b => (⟨⟨qk, qn, qs⟩, qm, ql⟩ : At) = b ∧ qc = 0 | .error d => (⟨⟨qk, qn, qs⟩, qm, ql⟩ : At) = a0 ∧ qc = d) := hmq; have HP7 : Hid (OwnT (w7.alloc (.cells #[.int .i64 qk, .int .i64 qn, .string qs, .string qm, .slice qa qn' qcap] 26)) w5.heap.size (.slice pa pn' pcap) pl) := (HP6.out.later hb).later (below1 _ _); have HB7 : Hid (Below W.heap.size W (w7.alloc (.cells #[.int .i64 qk, .int .i64 qn, .string qs, .string qm, .slice qa qn' qcap] 26))) := below_step (below_step HB6.out hb) (below1 _ _); have HU7 : Hid (LentB (w7.alloc (.cells #[.int .i64 qk, .int .i64 qn, .string qs, .string qm, .slice qa qn' qcap] 26)) w4.heap.size u5 B) := (HU6.out.later hb).later (below1 _ _); have HZ7 : Hid (Blk (w7.alloc (.cells #[.int .i64 qk, .int .i64 qn, .string qs, .string qm, .slice qa qn' qcap] 26)) w6.heap.size _ _) := (HZ6.out.later hb).later (below1 _ _); have HV7 : Hid (Blk (w7.alloc (.cells #[.int .i64 qk, .int .i64 qn, .string qs, .string qm, .slice qa qn' qcap] 26)) w7.heap.size #[.int .i64 qk, .int .i64 qn, .string qs, .string qm, .slice qa qn' qcap] 26) := Blk.new _ _ _; clear hb hoq hmq))
  obtain ⟨he, rfl⟩ : (⟨⟨qk, qn, qs⟩, qm, ql⟩ : At) = ⟨⟨pk, pn, ps⟩, pm, pl⟩ ∧ qc = pc := by
    have h1 := HMP.out
    have h2 := HMQ.out
    cases hr : rWhole rAtom B with
    | ok b => rw [hr] at h1 h2; exact ⟨h2.1.trans h1.1.symm, h2.2.trans h1.2.symm⟩
    | error d => rw [hr] at h1 h2; exact ⟨h2.1.trans h1.1.symm, h2.2.trans h1.2.symm⟩
  have hpl : pl.length ≤ 8 := by
    have h1 := HMP.out
    cases hr : rWhole rAtom B with
    | ok b => rw [hr] at h1; rw [← h1.1] at hr; exact whole_len hr
    | error d => rw [hr] at h1; have := congrArg At.args h1.1; simp only [a0] at this; rw [this]; exact Nat.zero_le _
  cases he
  clear HMP HMQ
  obtain ⟨z0, z1, z2, z3, z4⟩ := five HZ7.out
  obtain ⟨v0, v1, v2, v3, v4⟩ := five HV7.out
  have HS8 : Hid (Calls Tryd.prog 11 #[At.v ⟨⟨pk, pn, ps⟩, pm, pl⟩ (.slice pa pn' pcap), At.v ⟨⟨pk, pn, ps⟩, pm, pl⟩ (.slice qa qn' qcap)] (w7.alloc (.cells #[.int .i64 pk, .int .i64 pn, .string ps, .string pm, .slice qa qn' qcap] 26)) fun e w' => e = .returned (.bool true) ∧ Below _ _ w') := HSA.out _ ⟨⟨pk, pn, ps⟩, pm, pl⟩ _ _ _ _ HP7.out HQ7.out (by simp only; omega)
  go_wp2_with (first
    | (go_at_call 11; refine HS8.out.mono ?_; rintro e w8 ⟨rfl, hb⟩; have HB8 : Hid (Below W.heap.size W w8) := below_step HB7.out hb; have HU8 : Hid (LentB w8 w4.heap.size u5 B) := HU7.out.later hb; clear hb)
    | (go_at_call 12; refine (HKB.out _ _ _ HB8.out HU8.out).mono ?_; rintro e w9 ⟨rfl, hb⟩; have HB9 : Hid (Below W.heap.size W w9) := below_step HB8.out hb; clear hb)
    | (go_at_call 13; refine (HF.out _).mono ?_; rintro e w10 ⟨rfl, hb⟩; have HB10 : Hid (Below W.heap.size W w10) := below_step HB9.out hb; clear hb))
  go_ret
  exact ⟨rfl, HB10.out⟩
end Go.Proofs.YtjnipcakjoiplaaDoor
