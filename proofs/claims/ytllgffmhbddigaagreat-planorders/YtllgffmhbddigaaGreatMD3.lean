/-
  MadeAtom.
-/
import Derived.Test.YtllgffmhbddigaaGreatMD2
import Derived.Test.YtllgffmhbddigaaGreatW3
namespace Go.Proofs.YtllgffmhbddigaaGreat
open Go.RowKit
attribute [local go_sem ↓] Go.wp_at_zero Go.wp_at_succ

theorem nmP_ok : nameOk nmP = true := by decide
theorem err_q (t : Tm) : (At.mk t nmP []).err = if qualOk t = true then 0 else 23 := by
  unfold At.err
  rw [nmP_ok]
  cases qualOk t <;> simp
theorem err_n (s : ByteArray) : (At.mk zt s []).err = if nameOk s = true then 0 else 21 := by
  unfold At.err
  rw [qual_zt]
  cases nameOk s <;> simp
/-- MadeAtom's boxes. -/
structure MS (w X : World) (x : At) (v : Value) (b' : Tm) (nm' : ByteArray) (u : Value) (L : List Tm) : Prop where
  bc : CBlk X w.heap.size (At.cs x v) 26
  br : CBlk X (w.heap.size + 1) #[.int .i64 0, .int .i64 0, .string ⟨#[]⟩, .string ⟨#[]⟩, .slice none 0 0] 26
  bo : CBlk X (w.heap.size + 1 + 1) #[.int .i64 b'.k, .int .i64 b'.n, .string b'.s, .string nm', u] 26
  ow : OwnT X (w.heap.size + 3) u L
  bw : Below w.heap.size w X
  sz : w.heap.size + 3 ≤ X.heap.size
theorem MS.later {w X X' : World} {x : At} {v : Value} {b' : Tm} {nm' : ByteArray} {u : Value} {L : List Tm} (h : MS w X x v b' nm' u L) (hb : Below X.heap.size X X') : MS w X' x v b' nm' u L :=
  ⟨h.bc.later hb, h.br.later hb, h.bo.later hb, h.ow.later hb, below_step h.bw hb, Nat.le_trans h.sz hb.size⟩
theorem MS.start (w : World) (x : At) (v : Value) :
    MS w (((w.alloc (.cells (At.cs x v) 26)).alloc (.cells #[.int .i64 0, .int .i64 0, .string ⟨#[]⟩, .string ⟨#[]⟩, .slice none 0 0] 26)).alloc (.cells #[.int .i64 x.by_.k, .int .i64 x.by_.n, .string x.by_.s, .string x.name, .slice none 0 0] 26)) x v x.by_ x.name (.slice none 0 0) [] := by
  have b3 := below_step (below2 w (.cells (At.cs x v) 26) (.cells #[.int .i64 0, .int .i64 0, .string ⟨#[]⟩, .string ⟨#[]⟩, .slice none 0 0] 26)) (below1 _ (.cells #[.int .i64 x.by_.k, .int .i64 x.by_.n, .string x.by_.s, .string x.name, .slice none 0 0] 26))
  have x1 := (CBlk.new w (At.cs x v) 26).later (below2 (w.alloc (.cells (At.cs x v) 26)) (.cells #[.int .i64 0, .int .i64 0, .string ⟨#[]⟩, .string ⟨#[]⟩, .slice none 0 0] 26) (.cells #[.int .i64 x.by_.k, .int .i64 x.by_.n, .string x.by_.s, .string x.name, .slice none 0 0] 26))
  have x2 := (CBlk.new (w.alloc (.cells (At.cs x v) 26)) #[.int .i64 0, .int .i64 0, .string ⟨#[]⟩, .string ⟨#[]⟩, .slice none 0 0] 26).later (below1 _ (.cells #[.int .i64 x.by_.k, .int .i64 x.by_.n, .string x.by_.s, .string x.name, .slice none 0 0] 26))
  have x3 := CBlk.new ((w.alloc (.cells (At.cs x v) 26)).alloc (.cells #[.int .i64 0, .int .i64 0, .string ⟨#[]⟩, .string ⟨#[]⟩, .slice none 0 0] 26)) #[.int .i64 x.by_.k, .int .i64 x.by_.n, .string x.by_.s, .string x.name, .slice none 0 0] 26
  rw [show (w.alloc (.cells (At.cs x v) 26)).heap.size = w.heap.size + 1 by simp] at x2
  rw [show ((w.alloc (.cells (At.cs x v) 26)).alloc (.cells #[.int .i64 0, .int .i64 0, .string ⟨#[]⟩, .string ⟨#[]⟩, .slice none 0 0] 26)).heap.size = w.heap.size + 1 + 1 by simp] at x3
  exact ⟨x1, x2, x3, ownT_nil _ _, b3, by simp⟩
/-- A store of a whole atom into a block. -/
theorem CBlk.put5 {W : World} {G : Nat} {a b c d e a' b' c' d' e' : Value} {t : TypeId} (h : CBlk W G #[a, b, c, d, e] t) :
    CBlk (((((W.setCell ⟨G, 0, none⟩ a').setCell ⟨G, 1, none⟩ b').setCell ⟨G, 2, none⟩ c').setCell ⟨G, 3, none⟩ d').setCell ⟨G, 4, none⟩ e') G #[a', b', c', d', e'] t := by
  have := ((((h.set 0 a').set 1 b').set 2 c').set 3 d').set 4 e'
  simpa using this
theorem MS.by0 {w X : World} {x : At} {v : Value} {b' : Tm} {nm' : ByteArray} {u : Value} {L : List Tm} (h : MS w X x v b' nm' u L) :
    MS w (((X.setCell ⟨w.heap.size + 1 + 1, 0, none⟩ (.int .i64 0)).setCell ⟨w.heap.size + 1 + 1, 1, none⟩ (.int .i64 0)).setCell ⟨w.heap.size + 1 + 1, 2, none⟩ (.string ⟨#[]⟩)) x v zt nm' u L := by
  have n1 : w.heap.size ≠ w.heap.size + 1 + 1 := by omega
  have n2 : w.heap.size + 1 ≠ w.heap.size + 1 + 1 := by omega
  have n3 : w.heap.size + 1 + 1 < w.heap.size + 3 := by omega
  have n4 : w.heap.size ≤ w.heap.size + 1 + 1 := by omega
  refine ⟨((h.bc.off n1).off n1).off n1, ((h.br.off n2).off n2).off n2, ?_, ((h.ow.set n3).set n3).set n3, ((h.bw.setCell n4 _).setCell n4 _).setCell n4 _, by simpa [World.setCell] using h.sz⟩
  have := ((h.bo.set 0 (.int .i64 0)).set 1 (.int .i64 0)).set 2 (.string ⟨#[]⟩)
  simpa [zt] using this
theorem MS.name0 {w X : World} {x : At} {v : Value} {b' : Tm} {nm' : ByteArray} {u : Value} {L : List Tm} (h : MS w X x v b' nm' u L) (s : ByteArray) :
    MS w (X.setCell ⟨w.heap.size + 1 + 1, 3, none⟩ (.string s)) x v b' s u L := by
  have n1 : w.heap.size ≠ w.heap.size + 1 + 1 := by omega
  have n2 : w.heap.size + 1 ≠ w.heap.size + 1 + 1 := by omega
  have n3 : w.heap.size + 1 + 1 < w.heap.size + 3 := by omega
  have n4 : w.heap.size ≤ w.heap.size + 1 + 1 := by omega
  refine ⟨h.bc.off n1, h.br.off n2, ?_, h.ow.set n3, h.bw.setCell n4 _, by simpa [World.setCell] using h.sz⟩
  have := h.bo.set 3 (.string s)
  simpa using this
/-- The list grown and stored. -/
theorem MS.args {w X X' : World} {x : At} {v : Value} {b' : Tm} {nm' : ByteArray} {u u' : Value} {L L' : List Tm} (h : MS w X x v b' nm' u L) (ho : OwnT X' (w.heap.size + 3) u' L') (hb : Below (w.heap.size + 3) X X') :
    MS w (X'.setCell ⟨w.heap.size + 1 + 1, 4, none⟩ u') x v b' nm' u' L' := by
  have n1 : w.heap.size ≠ w.heap.size + 1 + 1 := by omega
  have n2 : w.heap.size + 1 ≠ w.heap.size + 1 + 1 := by omega
  have n3 : w.heap.size + 1 + 1 < w.heap.size + 3 := by omega
  have n4 : w.heap.size ≤ w.heap.size + 1 + 1 := by omega
  have l1 : CBlk X' w.heap.size (At.cs x v) 26 := (hb.block _ (by omega)).trans h.bc
  have l2 : CBlk X' (w.heap.size + 1) _ 26 := (hb.block _ (by omega)).trans h.br
  have l3 : CBlk X' (w.heap.size + 1 + 1) _ 26 := (hb.block _ (by omega)).trans h.bo
  refine ⟨l1.off n1, l2.off n2, ?_, ho.set n3, (h.bw.trans (hb.mono (by omega))).setCell n4 _, by simpa [World.setCell] using Nat.le_trans h.sz hb.size⟩
  have := l3.set 4 u'
  simpa using this
theorem ownT_form4 {w : World} {base : Nat} {v : Value} {l : List Tm} (h : OwnT w base v l) : ∃ a n cap, v = .slice a n cap := by
  rcases h.2 with ⟨rfl, hn⟩ | ⟨g, cap, cur, hv, -⟩
  · exact ⟨none, 0, 0, rfl⟩
  · exact ⟨_, _, cap, hv⟩
theorem OwnT.off {w : World} {base G i : Nat} {a : Value} {v : Value} {l : List Tm} (h : OwnT w base v l) (hG : ∀ k, v.ownBlock = some k → k ≠ G) : OwnT (w.setCell ⟨G, i, none⟩ a) base v l := by
  refine ⟨h.1, ?_⟩
  rcases h.2 with hn | ⟨g, cap, cur, hv, hbb, hg, rest⟩
  · exact Or.inl hn
  · exact Or.inr ⟨g, cap, cur, hv, hbb, by rw [heap_setCell_other _ _ _ _ (hG g (by rw [hv]; rfl))]; exact hg, rest⟩
theorem MS.far {w X : World} {x : At} {v : Value} {b' : Tm} {nm' : ByteArray} {u : Value} {L : List Tm} {B i : Nat} (h : MS w X x v b' nm' u L) (hB : w.heap.size + 3 ≤ B) (hu : ∀ k, u.ownBlock = some k → k < B) (c : Value) :
    MS w (X.setCell ⟨B, i, none⟩ c) x v b' nm' u L :=
  ⟨h.bc.off (by omega), h.br.off (by omega), h.bo.off (by omega), h.ow.off (fun k hk => Nat.ne_of_lt (hu k hk)), h.bw.setCell (show w.heap.size ≤ B by omega) _, by simpa [World.setCell] using h.sz⟩
set_option maxRecDepth 20000 in
set_option maxHeartbeats 8000000 in
theorem madeAtom_any (x : At) (v : Value) (w : World) (h : Ts w v x.args) :
    Calls Tryz.prog 35 #[x.v v] w fun e w' => ∃ v', e = .returned ((mkA x).v v') ∧ OwnT w' w.heap.size v' (mkA x).args ∧ Below w.heap.size w w' := by
  obtain ⟨e1, he1⟩ : ∃ e1 : Int, (if qualOk x.by_ = true then 0 else 23) = e1 := ⟨_, rfl⟩
  obtain ⟨e2, he2⟩ : ∃ e2 : Int, (if nameOk x.name = true then 0 else 21) = e2 := ⟨_, rfl⟩
  have HC1 : Hid (∀ X : World, Calls Tryz.prog 73 #[(At.mk x.by_ ⟨#[112]⟩ []).v (.slice none 0 0)] X fun e w' => e = .returned (.int .i64 e1) ∧ Below X.heap.size X w') := fun X => by
    have := rchk_any ⟨x.by_, nmP, []⟩ (.slice none 0 0) X ⟨none, 0, rfl, by simp, Or.inl rfl⟩; rw [err_q, he1] at this; exact this
  have HC2 : Hid (∀ X : World, Calls Tryz.prog 73 #[(At.mk ⟨0, 0, ⟨#[]⟩⟩ x.name []).v (.slice none 0 0)] X fun e w' => e = .returned (.int .i64 e2) ∧ Below X.heap.size X w') := fun X => by
    have := rchk_any ⟨zt, x.name, []⟩ (.slice none 0 0) X ⟨none, 0, rfl, by simp, Or.inl rfl⟩; rw [err_n, he2] at this; exact this
  have HS0 : Hid (MS w _ x v x.by_ x.name (.slice none 0 0) []) := MS.start w x v
  have HE1 : Hid (_ = e1) := he1
  have HE2 : Hid (_ = e2) := he2
  clear he1 he2
  obtain ⟨⟨bk, bn, bz⟩, hb'⟩ : ∃ b', (if qualOk x.by_ = true then x.by_ else zt) = b' := ⟨_, rfl⟩
  obtain ⟨nn, hn'⟩ : ∃ n', (if nameOk x.name = true then x.name else nmP) = n' := ⟨_, rfl⟩
  have HBB : Hid (_ = Tm.mk bk bn bz) := hb'
  have HNN : Hid (_ = nn) := hn'
  clear hb' hn'
  have HTS : Hid (Ts w v x.args) := h
  obtain ⟨⟨k, n, ss⟩, nm, l⟩ := x
  obtain ⟨ad, cap, rfl, hl, hm⟩ := h
  simp only at hl hm HS0
  go_enter Tryz.func35, Tryz.ntmps35
  go_upto_if 15 with (go_at_call 73; refine (HC1.out _).mono ?_; clear HC1; rintro e w1 ⟨rfl, hb⟩; have HS1 : Hid (MS w w1 ⟨⟨k, n, ss⟩, nm, l⟩ (.slice ad l.length cap) ⟨k, n, ss⟩ nm (.slice none 0 0) []) := HS0.out.later hb; clear hb HS0)
  go_cut [] from 16 (fun wx => MS w wx ⟨⟨k, n, ss⟩, nm, l⟩ (.slice ad l.length cap) ⟨bk, bn, bz⟩ nm (.slice none 0 0) [])
  case first =>
    cases hq : qualOk ⟨k, n, ss⟩
    · obtain rfl : 23 = e1 := by have := HE1.out; rw [hq] at this; exact this
      have hb0 : zt = ⟨bk, bn, bz⟩ := by have := HBB.out; rw [hq] at this; exact this
      have HB0 : Hid (zt = ⟨bk, bn, bz⟩) := hb0
      obtain ⟨c0, c1, c2, c3, c4⟩ := cfive HS1.out.bo
      have f0 : w1.frozen? ⟨w.heap.size + 1 + 1, 0, none⟩ = false := HS1.out.bo.froz
      have f1 : w1.frozen? ⟨w.heap.size + 1 + 1, 1, none⟩ = false := HS1.out.bo.froz
      have f2 : w1.frozen? ⟨w.heap.size + 1 + 1, 2, none⟩ = false := HS1.out.bo.froz
      clear hb0 hq
      go_wp2
      go_meet
      case rel => rw [← HB0.out]; exact HS1.out.by0
    · obtain rfl : 0 = e1 := by have := HE1.out; rw [hq] at this; exact this
      have hb0 : (⟨k, n, ss⟩ : Tm) = ⟨bk, bn, bz⟩ := by have := HBB.out; rw [hq] at this; exact this
      have HB0 : Hid ((⟨k, n, ss⟩ : Tm) = ⟨bk, bn, bz⟩) := hb0
      clear hb0 hq
      go_wp2
      go_meet
      case rel => rw [← HB0.out]; exact HS1.out
  case rest =>
  have HS2 : Hid (MS w wc ⟨⟨k, n, ss⟩, nm, l⟩ (.slice ad l.length cap) ⟨bk, bn, bz⟩ nm (.slice none 0 0) []) := hcut
  clear hcut HS1
  obtain ⟨a0, a1, a2, a3, a4⟩ := cfive HS2.out.bc
  simp only at a0 a1 a2 a3 a4
  go_upto_if 22 with (go_at_call 73; refine (HC2.out _).mono ?_; clear HC2; rintro e w2 ⟨rfl, hb⟩; have HS3 : Hid (MS w w2 ⟨⟨k, n, ss⟩, nm, l⟩ (.slice ad l.length cap) ⟨bk, bn, bz⟩ nm (.slice none 0 0) []) := HS2.out.later hb; clear hb HS2)
  clear a0 a1 a2 a3 a4
  go_cut [] from 23 (fun wx => MS w wx ⟨⟨k, n, ss⟩, nm, l⟩ (.slice ad l.length cap) ⟨bk, bn, bz⟩ nn (.slice none 0 0) [])
  case first =>
    cases hq : nameOk nm
    · obtain rfl : 21 = e2 := by have := HE2.out; rw [hq] at this; exact this
      have hb0 : nmP = nn := by have := HNN.out; rw [hq] at this; exact this
      have HB0 : Hid (nmP = nn) := hb0
      obtain ⟨c0, c1, c2, c3, c4⟩ := cfive HS3.out.bo
      have f3 : w2.frozen? ⟨w.heap.size + 1 + 1, 3, none⟩ = false := HS3.out.bo.froz
      clear hb0 hq
      go_wp2
      go_meet
      case rel => rw [← HB0.out]; exact HS3.out.name0 _
    · obtain rfl : 0 = e2 := by have := HE2.out; rw [hq] at this; exact this
      have hb0 : nm = nn := by have := HNN.out; rw [hq] at this; exact this
      have HB0 : Hid (nm = nn) := hb0
      clear hb0 hq
      go_wp2
      go_meet
      case rel => rw [← HB0.out]; exact HS3.out
  case rest =>
  have HS4 : Hid (MS w wc ⟨⟨k, n, ss⟩, nm, l⟩ (.slice ad l.length cap) ⟨bk, bn, bz⟩ nn (.slice none 0 0) []) := hcut
  clear hcut HS3 HE1 HE2
  go_wp2_with fail
  go_loopg [4] (min 8 l.length) (fun g i wr => ∃ (j : Nat) (u : Value), j + g = min 8 l.length ∧ i = .int .i64 j ∧ MS w wr ⟨⟨k, n, ss⟩, nm, l⟩ (.slice ad l.length cap) ⟨bk, bn, bz⟩ nn u ((l.take j).map fixT))
  case atStart => exact ⟨0, _, by omega, rfl, HS4.out⟩
  case round =>
    obtain ⟨j, u, hj, rfl, hms⟩ := hrel
    have HMS : Hid (MS w wr ⟨⟨k, n, ss⟩, nm, l⟩ (.slice ad l.length cap) ⟨bk, bn, bz⟩ nn u ((l.take j).map fixT)) := hms
    clear hms HS4
    obtain ⟨a0, a1, a2, a3, a4⟩ := cfive HMS.out.bc
    simp only at a0 a1 a2 a3 a4
    cases gk with
    | succ g =>
      have hlt : (j : Int) < (l.length : Int) := by omega
      have h8 : (j : Int) < 8 := by omega
      have j0 : (0 : Int) ≤ (j : Int) := by omega
      obtain ⟨t, ht⟩ : ∃ t, l[j]? = some t := ⟨_, List.getElem?_eq_getElem (by omega)⟩
      rcases hm with hm | ⟨b1, o1, rfl, hb1, hm⟩
      · subst hm; simp at hj
      obtain ⟨p0, p1, p2⟩ := hm j t ht
      have q0 := cell_step HMS.out.bw hb1 p0
      have q1 := cell_step HMS.out.bw hb1 p1
      have q2 := cell_step HMS.out.bw hb1 p2
      have HTJ : Hid (((l.take j).map fixT) ++ [fixT t] = (l.take (j + 1)).map fixT) := by show _ = _; rw [List.take_add_one, ht]; simp
      have HLJ : Hid (((l.take j).map fixT).length = j) := by show _ = _; rw [List.length_map, List.length_take]; omega
      obtain ⟨vb, hvb⟩ : ∃ b, t.var = b := ⟨_, rfl⟩
      have HVA : Hid (∀ X : World, Calls Tryz.prog 74 #[t.v] X fun e w' => e = .returned (.bool vb) ∧ Below X.heap.size X w') := fun X => by have := rvar_any t X; rw [hvb] at this; exact this
      have HVB : Hid (t.var = vb) := hvb
      clear hvb
      have HMC : Hid (∀ X : World, Calls Tryz.prog 75 #[t.v] X fun e w' => e = .returned (mkC t).v ∧ Below X.heap.size X w') := fun X => madeConst_any t X
      obtain ⟨⟨fk, fn, fs⟩, hf⟩ : ∃ f, fixT t = f := ⟨_, rfl⟩
      have HF : Hid (fixT t = ⟨fk, fn, fs⟩) := hf
      have G0 : Hid (CBlk (wr.alloc (.cells #[.int .i64 t.k, .int .i64 t.n, .string t.s] 23)) wr.heap.size #[.int .i64 t.k, .int .i64 t.n, .string t.s] 23) := CBlk.new _ _ _
      clear hf ht p0 p1 p2 hm
      generalize (l.take j).map fixT = LJ at HMS HTJ HLJ
      obtain ⟨tk, tn, ts⟩ := t
      simp only at q0 q1 q2 G0
      go_upto_if 42 with (go_at_call 74; refine (HVA.out _).mono ?_; clear HVA; rintro e w1 ⟨rfl, hb⟩; have HM1 : Hid (MS w w1 ⟨⟨k, n, ss⟩, nm, l⟩ (.slice (some ⟨b1, o1, none⟩) l.length cap) ⟨bk, bn, bz⟩ nn u LJ) := HMS.out.later (below_step (below1 _ _) hb); have G1 : Hid (CBlk w1 wr.heap.size #[.int .i64 tk, .int .i64 tn, .string ts] 23) := G0.out.later hb; clear hb)
      clear a0 a1 a2 a3 a4 q0 q1 q2
      have hsz := HMS.out.sz
      have HUB : Hid (∀ k, u.ownBlock = some k → k < wr.heap.size) := fun k hk => (HMS.out.ow.lt k hk).2
      clear HMS G0
      generalize wr.heap.size = B at G1 hsz HUB
      go_cut [] from 43 to 50 (fun wx => MS w wx ⟨⟨k, n, ss⟩, nm, l⟩ (.slice (some ⟨b1, o1, none⟩) l.length cap) ⟨bk, bn, bz⟩ nn u LJ ∧ CBlk wx B #[.int .i64 fk, .int .i64 fn, .string fs] 23)
      case first =>
        obtain ⟨c0, c1, c2⟩ := cthree G1.out
        cases vb
        · have hmk : mkC ⟨tk, tn, ts⟩ = ⟨fk, fn, fs⟩ := by have := HF.out; unfold fixT at this; rw [HVB.out] at this; exact this
          rw [hmk] at HMC
          clear hmk HF
          go_wp2_with (go_at_call 75; refine (HMC.out _).mono ?_; clear HMC; rintro e w2 ⟨rfl, hb⟩; have HM2 : Hid (MS w w2 ⟨⟨k, n, ss⟩, nm, l⟩ (.slice (some ⟨b1, o1, none⟩) l.length cap) ⟨bk, bn, bz⟩ nn u LJ) := HM1.out.later hb; have G2 : Hid (CBlk w2 B #[.int .i64 tk, .int .i64 tn, .string ts] 23) := G1.out.later hb; clear hb c0 c1 c2; obtain ⟨c0, c1, c2⟩ := cthree G2.out; have f0 : w2.frozen? ⟨B, 0, none⟩ = false := G2.out.froz; have f1 : w2.frozen? ⟨B, 1, none⟩ = false := G2.out.froz; have f2 : w2.frozen? ⟨B, 2, none⟩ = false := G2.out.froz)
          go_meet
          case rel =>
            refine ⟨((HM2.out.far hsz HUB.out _).far hsz HUB.out _).far hsz HUB.out _, ?_⟩
            have := ((G2.out.set 0 (.int .i64 fk)).set 1 (.int .i64 fn)).set 2 (.string fs)
            simpa using this
        · have hmk : (⟨tk, tn, ts⟩ : Tm) = ⟨fk, fn, fs⟩ := by have := HF.out; unfold fixT at this; rw [HVB.out] at this; exact this
          have HX : Hid (_ = _) := hmk
          clear hmk HF
          go_wp2
          go_meet
          case rel =>
            refine ⟨HM1.out, ?_⟩
            have := G1.out
            have e := HX.out
            simp only [Tm.mk.injEq] at e
            obtain ⟨rfl, rfl, rfl⟩ := e
            exact this
      case rest =>
        obtain ⟨hm2, hg2⟩ := hcut
        have HM2 : Hid (MS w wc ⟨⟨k, n, ss⟩, nm, l⟩ (.slice (some ⟨b1, o1, none⟩) l.length cap) ⟨bk, bn, bz⟩ nn u LJ) := hm2
        obtain ⟨c0, c1, c2⟩ := cthree hg2
        obtain ⟨d0, d1, d2, d3, d4⟩ := cfive hm2.bo
        have HBn : Hid (Below wc.heap.size wc (wc.alloc (.cells #[.int .i64 fk, .int .i64 fn, .string fs] 23))) := below1 _ _
        have HG3 : Hid (CBlk (wc.alloc (.cells #[.int .i64 fk, .int .i64 fn, .string fs] 23)) wc.heap.size #[.int .i64 fk, .int .i64 fn, .string fs] 23) := CBlk.new _ _ _
        have hszc := hm2.sz
        clear hm2 hg2 HM1 G1 HMC
        have hlj := HLJ.out
        go_wp2_with (at_builtin; refine app_terms rfl _ _ rfl (w.heap.size + 3) u LJ (by rfl) (HM2.out.later HBn.out).ow (.slice (some ⟨wc.heap.size, 0, none⟩) 1 1) [⟨fk, fn, fs⟩] (by rfl) (TsP.one HG3.out) (by simp; omega) (by simp; omega) ?_; intro v' w3 hown hb3 hg3; obtain ⟨va, vn, vc, rfl⟩ := ownT_form4 hown; have HM3 : Hid (MS w (w3.setCell ⟨w.heap.size + 1 + 1, 4, none⟩ (.slice va vn vc)) ⟨⟨k, n, ss⟩, nm, l⟩ (.slice (some ⟨b1, o1, none⟩) l.length cap) ⟨bk, bn, bz⟩ nn (.slice va vn vc) (LJ ++ [⟨fk, fn, fs⟩])) := (HM2.out.later HBn.out).args hown hb3; have HD : CBlk w3 (w.heap.size + 1 + 1) _ 26 := (hb3.block _ (by omega)).trans (HM2.out.later HBn.out).bo; clear c0 c1 c2 d0 d1 d2 d3 d4; obtain ⟨d0, d1, d2, d3, d4⟩ := cfive HD; have f4 : w3.frozen? ⟨w.heap.size + 1 + 1, 4, none⟩ = false := HD.froz; clear HD hown hb3 hg3 HM2 HG3 HBn)
        go_roundg g
        case measure => omega
        case rel => exact ⟨j + 1, .slice va vn vc, by omega, by go_num, by rw [← HTJ.out, HF.out]; exact HM3.out⟩
    | zero =>
      have hfin : (l.take j).map fixT = (l.take 8).map fixT := by
        by_cases h8 : l.length ≤ 8
        · rw [List.take_of_length_le (by omega), List.take_of_length_le h8]
        · rw [show j = 8 by omega]
      rw [hfin] at HMS
      obtain ⟨ua, un, uc, rfl⟩ := ownT_form4 HMS.out.ow
      obtain ⟨d0, d1, d2, d3, d4⟩ := cfive HMS.out.bo
      obtain ⟨r0, r1, r2, r3, r4⟩ := cfive HMS.out.br
      have f0 : wr.frozen? ⟨w.heap.size + 1, 0, none⟩ = false := HMS.out.br.froz
      have f1 : wr.frozen? ⟨w.heap.size + 1, 1, none⟩ = false := HMS.out.br.froz
      have f2 : wr.frozen? ⟨w.heap.size + 1, 2, none⟩ = false := HMS.out.br.froz
      have f3 : wr.frozen? ⟨w.heap.size + 1, 3, none⟩ = false := HMS.out.br.froz
      have f4 : wr.frozen? ⟨w.heap.size + 1, 4, none⟩ = false := HMS.out.br.froz
      have n3 : w.heap.size + 1 < w.heap.size + 3 := by omega
      have n4 : w.heap.size ≤ w.heap.size + 1 := by omega
      have HMK : Hid (mkA ⟨⟨k, n, ss⟩, nm, l⟩ = ⟨⟨bk, bn, bz⟩, nn, (l.take 8).map fixT⟩) := by show _ = _; unfold mkA; simp only; rw [HBB.out, HNN.out]
      clear hfin
      by_cases hz : (j : Int) < (l.length : Int)
      · have h8 : ¬ (j : Int) < 8 := by omega
        go_wp2
        refine bodyPost_ret (v := (At.mk ⟨bk, bn, bz⟩ nn ((l.take 8).map fixT)).v (.slice ua un uc)) (by simp [results, Tryz.results35, go_sem, r0, r1, r2, r3, r4]) rfl ⟨.slice ua un uc, ?_, ?_, ?_⟩
        · rw [HMK.out]
        · rw [HMK.out]
          exact ((((((HMS.out.ow.set n3).set n3).set n3).set n3).set n3).mono (by omega))
        · exact ((((HMS.out.bw.setCell n4 _).setCell n4 _).setCell n4 _).setCell n4 _).setCell n4 _
      · go_wp2
        refine bodyPost_ret (v := (At.mk ⟨bk, bn, bz⟩ nn ((l.take 8).map fixT)).v (.slice ua un uc)) (by simp [results, Tryz.results35, go_sem, r0, r1, r2, r3, r4]) rfl ⟨.slice ua un uc, ?_, ?_, ?_⟩
        · rw [HMK.out]
        · rw [HMK.out]
          exact ((((((HMS.out.ow.set n3).set n3).set n3).set n3).set n3).mono (by omega))
        · exact ((((HMS.out.bw.setCell n4 _).setCell n4 _).setCell n4 _).setCell n4 _).setCell n4 _
end Go.Proofs.YtllgffmhbddigaaGreat
