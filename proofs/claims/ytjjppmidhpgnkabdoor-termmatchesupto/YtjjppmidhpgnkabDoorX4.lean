/-
  hearsaylaw02.TermMatches, for every two atoms and every binding that are not too long.
-/
import Derived.Test.YtjjppmidhpgnkabDoorX3
import Derived.Test.YtjjppmidhpgnkabDoorQ1
import Derived.Test.YtjjppmidhpgnkabDoorL2
import Derived.Test.YtjjppmidhpgnkabDoorT6
import Derived.Test.YtjjppmidhpgnkabDoorB9
namespace Go.Proofs.YtjjppmidhpgnkabDoor
open Go.RowKit
attribute [local go_sem ↓] Go.wp_at_zero Go.wp_at_succ

theorem both {W w w' : World} {base : Nat} {p a : At} {s : List Bd} {m : Value} {b : Bool} {e : Ending} (h : MI W base p a s m b) (h' : RPost w p a s e w') (hlen : s.length + p.args.length + 1 ≤ 1000000000000) :
    ∃ m' L, e = .returned (.tuple #[m', .bool b]) ∧ (∀ W', Below W.heap.size W W' → Bs W' m L) ∧ Bs w' m' L ∧ Below w.heap.size w w' := by
  obtain ⟨hb, h'⟩ := h'
  rcases h with ⟨rfl, rfl, h1⟩ | ⟨rfl, out, out', h1, h2, h3, h4⟩
  · rcases h' with ⟨-, he⟩ | ⟨hr, hm, -⟩
    · exact ⟨_, [], he, fun W' _ => bs_nil _, bs_nil _, hb⟩
    · exfalso
      rcases match_same p a s with ⟨-, h | h⟩ | ⟨out, h, -⟩
      · rw [hr] at h; cases h
      · exact h hm
      · rw [h1] at h; cases h
  · rcases match_same p a s with ⟨h, -⟩ | ⟨o, ho, hr, hm, hlk⟩
    · rw [h1] at h; cases h
    · rw [h1] at ho
      cases ho
      rcases h' with ⟨h | h, -⟩ | ⟨-, -, v', l, he, hol, hu, hl, hll⟩
      · rw [hr] at h; cases h
      · exact absurd hm h
      · have hnd := (mRes_makes p a s out out' h1 h2).2.2
        have hou : nd out := nd_perm hnd h2.symm
        have e2 : out' = l := up_eq out' l (up_of hnd h3) hu fun x => by rw [look_perm hou h2, hlk, hl]
        subst e2
        exact ⟨v', out', he, fun W' hb' => (h4.later hb').bs (mi_len h1 h2 hlen), hol.bs (mi_len h1 h2 hlen), hb⟩
theorem BsO.later {w W : World} {v : Value} {s : List Bd} (hs : BsO w v s) (hb : Below w.heap.size w W) : BsO W v s := by
  rcases hs with h | ⟨ad, cap, h1, h2, h3⟩
  · exact Or.inl h
  · refine Or.inr ⟨ad, cap, h1, h2, ?_⟩
    rcases h3 with h3 | ⟨b, o, h3, h4⟩
    · exact Or.inl h3
    · exact Or.inr ⟨b, o, h3, h4.later hb⟩
set_option maxRecDepth 20000 in
set_option maxHeartbeats 1000000 in
theorem matches_any (p a : At) (s : List Bd) (x y v : Value) (w : World) (hx : TsO w x p.args) (hy : TsO w y a.args) (hv : BsO w v s) (hL : LateOk w) (hM : MarkOk w) (hlen : s.length + p.args.length + 1 ≤ 1000000000000)
    (sp : ∀ t ∈ p.pl, t.s.size ≤ maxLen) (sa : ∀ t ∈ a.pl, t.s.size ≤ maxLen) (hss : ∀ d ∈ s, d.to.s.size ≤ maxLen) (np : p.name.size ≤ maxLen) (na : a.name.size ≤ maxLen) :
    Calls Tryd.prog 3 #[p.v x, a.v y, v] w fun e w' => e = .returned (.bool true) ∧ Below w.heap.size w w' := by
  have hpl := tso_len' hx
  have hal := tso_len' hy
  have mm := fun (X : World) (u1 u2 uv : Value) (h1 : Ts X u1 p.args) (h2 : Ts X u2 a.args) (h3 : Bs X uv s) => match_mi p a s u1 u2 uv X h1 h2 h3 hlen
  have rm := fun (X : World) (h : Below w.heap.size w X) => rmatch_any p a s x y v X (hx.later h) (hy.later h) (hv.later h) hlen sp sa hss np na
  have bb := fun {W w w' : World} {base : Nat} {m : Value} {b : Bool} {e : Ending} (h : MI W base p a s m b) (h' : RPost w p a s e w') => both h h' hlen
  obtain ⟨⟨k, n, ss⟩, nm, l⟩ := p
  obtain ⟨⟨k', n', ss'⟩, nm', l'⟩ := a
  simp only at hpl hal hx hy hlen
  have HX : Hid (TsO w x l) := hx
  have HY : Hid (TsO w y l') := hy
  have HV : Hid (BsO w v s) := hv
  have HL : Hid (LateOk w) := hL
  have HM : Hid (MarkOk w) := hM
  have MM : Hid _ := mm
  have RM : Hid _ := rm
  clear mm rm hx hy hv hL hM sp sa hss np na
  go_enter Tryd.func3, Tryd.ntmps3
  go_upto_region 2 with (go_at_call 8; refine (lend_any s v _ (HV.out.later (below2 _ _ _)) (HL.out.later (below2 _ _ _))).mono ?_; rintro e w1 ⟨g, cap, rfl, ho, hb1⟩)
  have BP1 := (Blk.old w #[.int .i64 k, .int .i64 n, .string ss, .string nm, x] 26 (.cells #[.int .i64 k', .int .i64 n', .string ss', .string nm', y] 26)).later hb1
  have BA1 : Hid (Blk w1 (w.heap.size + 1) #[.int .i64 k', .int .i64 n', .string ss', .string nm', y] 26) := (Blk.new2 w _ 26 _).later hb1
  have BW1 : Hid (Below w.heap.size w w1) := below_step (below2 _ _ _) hb1
  have OS1 : Hid (Own w1 _ (.slice (some ⟨g, 0, none⟩) (s.length + 1) cap) (s ++ [late])) := ho
  obtain ⟨p0, p1, p2, p3, p4⟩ := five BP1
  have BP1 : Hid (Blk w1 w.heap.size #[.int .i64 k, .int .i64 n, .string ss, .string nm, x] 26) := BP1
  clear ho hb1
  go_upto_region 3 with (go_at_call 9; refine (lent_any ⟨⟨k, n, ss⟩, nm, l⟩ x _ (HX.out.later (Hid.out BW1)) (HM.out.later (Hid.out BW1))).mono ?_; rintro e w2 ⟨gx, cx, rfl, ho, hb1⟩)
  have BX := Blk.new w2 #[.int .i64 k, .int .i64 n, .string ss, .string nm, .slice (some ⟨gx, 0, none⟩) l.length cx] 26
  have hb2 := below1 w2 (.cells #[.int .i64 k, .int .i64 n, .string ss, .string nm, .slice (some ⟨gx, 0, none⟩) l.length cx] 26)
  revert BX hb2
  generalize w2.alloc (.cells #[.int .i64 k, .int .i64 n, .string ss, .string nm, .slice (some ⟨gx, 0, none⟩) l.length cx] 26) = W2
  intro BX hb2
  have hb12 := below_step hb1 hb2
  have BP2 : Hid (Blk W2 _ _ _) := Blk.later (Hid.out BP1) hb12
  have BA2 := Blk.later (Hid.out BA1) hb12
  have BX2 : Hid (Blk W2 _ _ _) := BX
  have OS2 : Hid (Own W2 _ (.slice (some ⟨g, 0, none⟩) (s.length + 1) cap) (s ++ [late])) := OS1.out.later hb12
  have OX2 : Hid (OwnT W2 _ (.slice (some ⟨gx, 0, none⟩) (l.length + 1) cx) (l ++ [mark])) := ho.later hb2
  have BW2 : Hid (Below w.heap.size w W2) := below_step (Hid.out BW1) hb12
  clear p0 p1 p2 p3 p4
  obtain ⟨p0, p1, p2, p3, p4⟩ := five BA2
  have BA2 : Hid (Blk W2 _ _ _) := BA2
  clear BX ho hb1 hb2 hb12 BP1 BA1 OS1 BW1
  go_upto_region 4 with (go_at_call 9; refine (lent_any ⟨⟨k', n', ss'⟩, nm', l'⟩ y _ (HY.out.later (Hid.out BW2)) (HM.out.later (Hid.out BW2))).mono ?_; rintro e w3 ⟨gy, cy, rfl, ho, hb1⟩)
  have BY := Blk.new w3 #[.int .i64 k', .int .i64 n', .string ss', .string nm', .slice (some ⟨gy, 0, none⟩) l'.length cy] 26
  have hb2 := below1 w3 (.cells #[.int .i64 k', .int .i64 n', .string ss', .string nm', .slice (some ⟨gy, 0, none⟩) l'.length cy] 26)
  revert BY hb2
  generalize w3.alloc (.cells #[.int .i64 k', .int .i64 n', .string ss', .string nm', .slice (some ⟨gy, 0, none⟩) l'.length cy] 26) = W
  intro BY hb2
  have hb12 := below_step hb1 hb2
  have BP : Hid (Blk W _ _ _) := Blk.later (Hid.out BP2) hb12
  have BA : Hid (Blk W _ _ _) := Blk.later (Hid.out BA2) hb12
  have BXX := Blk.later (Hid.out BX2) hb12
  have OS : Hid (Own W _ (.slice (some ⟨g, 0, none⟩) (s.length + 1) cap) (s ++ [late])) := OS2.out.later hb12
  have OX : Hid (OwnT W _ (.slice (some ⟨gx, 0, none⟩) (l.length + 1) cx) (l ++ [mark])) := OX2.out.later hb12
  have OY : Hid (OwnT W _ (.slice (some ⟨gy, 0, none⟩) (l'.length + 1) cy) (l' ++ [mark])) := ho.later hb2
  have BW : Hid (Below w.heap.size w W) := below_step (Hid.out BW2) hb12
  clear p0 p1 p2 p3 p4
  obtain ⟨p0, p1, p2, p3, p4⟩ := five BXX
  obtain ⟨q0, q1, q2, q3, q4⟩ := five BY
  have BX : Hid (Blk W _ _ _) := BXX
  have BY : Hid (Blk W _ _ _) := BY
  clear ho hb1 hb2 hb12 BP2 BA2 BX2 OS2 OX2 BW2 BXX
  go_upto_region 5 with (go_at_call 10; refine (MM.out _ _ _ _ (ownT_pre OX.out (by omega)) (ownT_pre OY.out (by omega)) (own_pre OS.out (by omega))).mono ?_; rintro e w4 ⟨m, is, rfl, hmi, hb4⟩)
  have HMI : Hid (MI w4 _ _ _ s m is) := hmi
  have BW4 : Hid (Below w.heap.size w w4) := below_step (Hid.out BW) hb4
  have HB4 : Hid (Below W.heap.size W w4) := hb4
  clear p0 p1 p2 p3 p4 q0 q1 q2 q3 q4
  obtain ⟨p0, p1, p2, p3, p4⟩ := five (Blk.later (Hid.out BP) hb4)
  obtain ⟨q0, q1, q2, q3, q4⟩ := five (Blk.later (Hid.out BA) hb4)
  clear hmi hb4
  go_upto_region 6 with (go_at_call 11; refine (RM.out _ (Hid.out BW4)).mono ?_; intro e w5 hrp; obtain ⟨m', L, rfl, hmL, hmL', hb5⟩ := bb HMI.out hrp; clear hrp)
  have HB5 : Hid (Below W.heap.size W w5) := below_step (Hid.out HB4) hb5
  have BW5 : Hid (Below w.heap.size w w5) := below_step (Hid.out BW4) hb5
  have TM : Hid (∀ X, Below w5.heap.size w5 X → Bs X m L ∧ Bs X m' L) := fun X h => ⟨hmL X (below_step hb5 h), hmL'.later h⟩
  have ka := fun (X : World) (h : Below W.heap.size W X) => kept_any ⟨⟨k, n, ss⟩, nm, l⟩ x gx cx _ X (HX.out.later (below_step (Hid.out BW) h)).ts (OX.out.later h) (HM.out.later (below_step (Hid.out BW) h))
  have kb := fun (X : World) (h : Below W.heap.size W X) => kept_any ⟨⟨k', n', ss'⟩, nm', l'⟩ y gy cy _ X (HY.out.later (below_step (Hid.out BW) h)).ts (OY.out.later h) (HM.out.later (below_step (Hid.out BW) h))
  have sl := fun (X : World) (h : Below W.heap.size W X) => still_any s v g cap _ X (HV.out.later (below_step (Hid.out BW) h)).bs (OS.out.later h) (HL.out.later (below_step (Hid.out BW) h))
  have bi := fun (X : World) (h : Below w5.heap.size w5 X) => bindings_any L L m m' X (TM.out X h).1 (TM.out X h).2
  rw [decide_eq_true rfl] at bi
  have KA : Hid _ := ka
  have KB : Hid _ := kb
  have SL : Hid _ := sl
  have BI : Hid _ := bi
  clear ka kb sl bi p0 p1 p2 p3 p4 q0 q1 q2 q3 q4 hmL hmL' hb5 bb
  have hq : (is == is) = true := by simp
  go_wp2_with (first
    | (go_at_call 12; refine (BI.out _ (Below.refl _ _)).mono ?_; rintro e w6 ⟨rfl, hb6⟩)
    | (go_at_call 13; refine (SL.out _ (below_step (Hid.out HB5) hb6)).mono ?_; rintro e w7 ⟨rfl, hb7⟩; have hb57 := below_step (below_step (Hid.out HB5) hb6) hb7; obtain ⟨p0, p1, p2, p3, p4⟩ := five (Blk.later (Hid.out BX) hb57); obtain ⟨q0, q1, q2, q3, q4⟩ := five (Blk.later (Hid.out BP) hb57))
    | (go_at_call 14; refine (KA.out _ hb57).mono ?_; rintro e w8 ⟨rfl, hb8⟩; clear KA p0 p1 p2 p3 p4 q0 q1 q2 q3 q4; obtain ⟨p0, p1, p2, p3, p4⟩ := five (Blk.later (Hid.out BY) (below_step hb57 hb8)); obtain ⟨q0, q1, q2, q3, q4⟩ := five (Blk.later (Hid.out BA) (below_step hb57 hb8)))
    | (go_at_call 14; refine (KB.out _ (below_step hb57 hb8)).mono ?_; rintro e w9 ⟨rfl, hb9⟩; clear KB)
    | (go_at_call 15; refine (first_any _).mono ?_; rintro e wa ⟨rfl, hba⟩))
  go_ret
  exact ⟨ret_b rfl, below_step (below_step (below_step (below_step (below_step (Hid.out BW5) hb6) hb7) hb8) hb9) hba⟩
end Go.Proofs.YtjjppmidhpgnkabDoor
