/-
  hearsaylaw02.TermUnified, given canSay.
-/
import Derived.Test.YtlojgaigbdnjjabDoorG5
import Derived.Test.YtlojgaigbdnjjabDoorP7
import Derived.Test.YtlojgaigbdnjjabDoorT3
import Derived.Test.YtlojgaigbdnjjabDoorL2
import Derived.Test.YtlojgaigbdnjjabDoorB9
namespace Go.Proofs.YtlojgaigbdnjjabDoor
open Go.RowKit
attribute [local go_sem ↓] Go.wp_at_zero Go.wp_at_succ

theorem both_u {w w' : World} {a b : At} {m : Value} {is : Bool} {L : List Bd} {e : Ending}
    (h : (is = false ∧ m = .slice none 0 0 ∧ L = [] ∧ ∀ f, Fix f → a.mk' f = b.mk' f → FitsB f a.by_ = true → FitsB f b.by_ = true → False) ∨ (is = true ∧ Uni a b L)) (h' : RUPost w a b e w') :
    ∃ m', e = .returned (.tuple #[m', .bool is]) ∧ Bs w' m' L ∧ Below w.heap.size w w' := by
  obtain ⟨hb, h'⟩ := h'
  rcases h with ⟨rfl, -, rfl, h3⟩ | ⟨rfl, hu⟩
  · rcases h' with ⟨-, he⟩ | ⟨v', out, C, he, hsh, ho, hup, hcl, hC, hlk, hln⟩
    · exact ⟨_, he, bs_nil' _, hb⟩
    · exfalso
      obtain ⟨f, f1, f2, f3, f4⟩ := okc_unifier hsh fun t ht => by
        obtain ⟨i, hi, ei⟩ := List.mem_iff_getElem.1 ht
        have hz : (t, C[i]'(by omega)) ∈ (a.pl ++ b.pl).zip C := by
          refine List.mem_of_getElem? (i := i) ?_
          rw [List.getElem?_zip_eq_some]
          exact ⟨by rw [List.getElem?_eq_getElem hi, ei], List.getElem?_eq_getElem _⟩
        exact ⟨_, hC _ hz⟩
      exact h3 f f1 f2 f3 f4
  · rcases h' with ⟨h | ⟨t, -, l, hf, hn⟩, -⟩ | ⟨v', out, C, he, hsh, ho, hup, hcl, hC, hlk, hln⟩
    · rw [hu.sh] at h; cases h
    · exact (hn (hu.okc hf)).elim
    · have e2 : out = L := up_eq out L hup (up_of hu.nd hu.srt) fun x => by rw [hlk, bds_look hu hcl fun p hp => (hC p hp).1]
      subst e2
      exact ⟨v', he, ho.bs (by omega), hb⟩
set_option maxRecDepth 20000 in
set_option maxHeartbeats 1000000 in
theorem unified_any (hsay : SayOK) (p a : At) (x y : Value) (w : World) (hx : TsO w x p.args) (hy : TsO w y a.args) (hM : MarkOk w) (hlp : p.args.length ≤ 400000000000) (hla : a.args.length ≤ 400000000000) :
    Calls Tryd.prog 4 #[p.v x, a.v y] w fun e w' => e = .returned (.bool true) ∧ Below w.heap.size w w' := by
  have mm := fun (X : World) (u1 u2 : Value) (h1 : Ts X u1 p.args) (h2 : Ts X u2 a.args) => unify_any hsay p a u1 u2 X h1 h2 hlp
  have rm := fun (X : World) (h : Below w.heap.size w X) => runify_any p a x y X (hx.later h) (hy.later h) hlp hla
  obtain ⟨P, hP⟩ : ∃ P, P = p := ⟨_, rfl⟩
  obtain ⟨A, hA⟩ : ∃ A, A = a := ⟨_, rfl⟩
  have MM : Hid (∀ X u1 u2, Ts X u1 p.args → Ts X u2 a.args → Calls Tryd.prog 16 #[p.v u1, a.v u2] X (UPost X P A)) := by rw [hP, hA]; exact mm
  have RM : Hid (∀ X, Below w.heap.size w X → Calls Tryd.prog 17 #[p.v x, a.v y] X (RUPost X P A)) := by rw [hP, hA]; exact rm
  obtain ⟨⟨k, n, ss⟩, nm, l⟩ := p
  obtain ⟨⟨k', n', ss'⟩, nm', l'⟩ := a
  simp only at hx hy hlp hla
  have HX : Hid (TsO w x l) := hx
  have HY : Hid (TsO w y l') := hy
  have HM : Hid (MarkOk w) := hM
  clear mm rm hx hy hM hP hA hsay
  go_enter Tryd.func4, Tryd.ntmps4
  go_upto_region 1 with fail
  have BP1 := Blk.old w #[.int .i64 k, .int .i64 n, .string ss, .string nm, x] 26 (.cells #[.int .i64 k', .int .i64 n', .string ss', .string nm', y] 26)
  have BA1 := Blk.new2 w #[.int .i64 k', .int .i64 n', .string ss', .string nm', y] 26 (.cells #[.int .i64 k, .int .i64 n, .string ss, .string nm, x] 26)
  have BW1 := below2 w (.cells #[.int .i64 k, .int .i64 n, .string ss, .string nm, x] 26) (.cells #[.int .i64 k', .int .i64 n', .string ss', .string nm', y] 26)
  revert BP1 BA1 BW1
  generalize (w.alloc (.cells #[.int .i64 k, .int .i64 n, .string ss, .string nm, x] 26)).alloc (.cells #[.int .i64 k', .int .i64 n', .string ss', .string nm', y] 26) = w1
  intro BP1 BA1 BW1
  obtain ⟨p0, p1, p2, p3, p4⟩ := five BP1
  have BP1 : Hid (Blk w1 w.heap.size #[.int .i64 k, .int .i64 n, .string ss, .string nm, x] 26) := BP1
  have BA1 : Hid (Blk w1 (w.heap.size + 1) #[.int .i64 k', .int .i64 n', .string ss', .string nm', y] 26) := BA1
  have BW1 : Hid (Below w.heap.size w w1) := BW1
  go_upto_region 2 with (go_at_call 9; refine (lent_any ⟨⟨k, n, ss⟩, nm, l⟩ x _ (HX.out.later (Hid.out BW1)) (HM.out.later (Hid.out BW1))).mono ?_; rintro e w2 ⟨gx, cx, rfl, ho, hb1⟩)
  have BX := Blk.new w2 #[.int .i64 k, .int .i64 n, .string ss, .string nm, .slice (some ⟨gx, 0, none⟩) l.length cx] 26
  have hb2 := below1 w2 (.cells #[.int .i64 k, .int .i64 n, .string ss, .string nm, .slice (some ⟨gx, 0, none⟩) l.length cx] 26)
  revert BX hb2
  generalize w2.alloc (.cells #[.int .i64 k, .int .i64 n, .string ss, .string nm, .slice (some ⟨gx, 0, none⟩) l.length cx] 26) = W2
  intro BX hb2
  have hb12 := below_step hb1 hb2
  have BP2 : Hid (Blk W2 _ _ _) := Blk.later (Hid.out BP1) hb12
  have BA2 := Blk.later (Hid.out BA1) hb12
  have BX2 : Hid (Blk W2 _ _ _) := BX
  have OX2 : Hid (OwnT W2 _ (.slice (some ⟨gx, 0, none⟩) (l.length + 1) cx) (l ++ [mark])) := ho.later hb2
  have BW2 : Hid (Below w.heap.size w W2) := below_step (Hid.out BW1) hb12
  clear p0 p1 p2 p3 p4
  obtain ⟨p0, p1, p2, p3, p4⟩ := five BA2
  have BA2 : Hid (Blk W2 _ _ _) := BA2
  clear BX ho hb1 hb2 hb12 BP1 BA1 BW1
  go_upto_region 3 with (go_at_call 9; refine (lent_any ⟨⟨k', n', ss'⟩, nm', l'⟩ y _ (HY.out.later (Hid.out BW2)) (HM.out.later (Hid.out BW2))).mono ?_; rintro e w3 ⟨gy, cy, rfl, ho, hb1⟩)
  have BY := Blk.new w3 #[.int .i64 k', .int .i64 n', .string ss', .string nm', .slice (some ⟨gy, 0, none⟩) l'.length cy] 26
  have hb2 := below1 w3 (.cells #[.int .i64 k', .int .i64 n', .string ss', .string nm', .slice (some ⟨gy, 0, none⟩) l'.length cy] 26)
  revert BY hb2
  generalize w3.alloc (.cells #[.int .i64 k', .int .i64 n', .string ss', .string nm', .slice (some ⟨gy, 0, none⟩) l'.length cy] 26) = W
  intro BY hb2
  have hb12 := below_step hb1 hb2
  have BP : Hid (Blk W _ _ _) := Blk.later (Hid.out BP2) hb12
  have BA : Hid (Blk W _ _ _) := Blk.later (Hid.out BA2) hb12
  have BXX := Blk.later (Hid.out BX2) hb12
  have OX : Hid (OwnT W _ (.slice (some ⟨gx, 0, none⟩) (l.length + 1) cx) (l ++ [mark])) := OX2.out.later hb12
  have OY : Hid (OwnT W _ (.slice (some ⟨gy, 0, none⟩) (l'.length + 1) cy) (l' ++ [mark])) := ho.later hb2
  have BW : Hid (Below w.heap.size w W) := below_step (Hid.out BW2) hb12
  clear p0 p1 p2 p3 p4
  obtain ⟨p0, p1, p2, p3, p4⟩ := five BXX
  obtain ⟨q0, q1, q2, q3, q4⟩ := five BY
  have BX : Hid (Blk W _ _ _) := BXX
  have BY : Hid (Blk W _ _ _) := BY
  clear ho hb1 hb2 hb12 BP2 BA2 BX2 OX2 BW2 BXX
  go_upto_region 4 with (go_at_call 16; refine (MM.out _ _ _ (ownT_pre OX.out (by omega)) (ownT_pre OY.out (by omega))).mono ?_; intro e w4 hup; obtain ⟨hb4, m, is, rfl, hal⟩ := upost_facts hup; obtain ⟨L, hL, hcs⟩ := u_use hal; have HCS : Hid ((is = false ∧ m = .slice none 0 0 ∧ L = [] ∧ ∀ f, Fix f → P.mk' f = A.mk' f → FitsB f P.by_ = true → FitsB f A.by_ = true → False) ∨ (is = true ∧ Uni P A L)) := hcs; have HLL : Hid (∀ X, Below w4.heap.size w4 X → Bs X m L) := hL; clear hup hal hcs hL)
  have BW4 : Hid (Below w.heap.size w w4) := below_step (Hid.out BW) hb4
  have HB4 : Hid (Below W.heap.size W w4) := hb4
  clear p0 p1 p2 p3 p4 q0 q1 q2 q3 q4
  obtain ⟨p0, p1, p2, p3, p4⟩ := five (Blk.later (Hid.out BP) hb4)
  obtain ⟨q0, q1, q2, q3, q4⟩ := five (Blk.later (Hid.out BA) hb4)
  clear hb4
  go_upto_region 5 with (go_at_call 17; refine (RM.out _ (Hid.out BW4)).mono ?_; intro e w5 hrp; obtain ⟨m', rfl, hmL', hb5⟩ := both_u HCS.out hrp; clear hrp)
  have HB5 : Hid (Below W.heap.size W w5) := below_step (Hid.out HB4) hb5
  have BW5 : Hid (Below w.heap.size w w5) := below_step (Hid.out BW4) hb5
  have TM : Hid (∀ X, Below w5.heap.size w5 X → Bs X m L ∧ Bs X m' L) := fun X h => ⟨HLL.out X (below_step hb5 h), hmL'.later h⟩
  have ka := fun (X : World) (h : Below W.heap.size W X) => kept_any ⟨⟨k, n, ss⟩, nm, l⟩ x gx cx _ X (HX.out.later (below_step (Hid.out BW) h)).ts (OX.out.later h) (HM.out.later (below_step (Hid.out BW) h))
  have kb := fun (X : World) (h : Below W.heap.size W X) => kept_any ⟨⟨k', n', ss'⟩, nm', l'⟩ y gy cy _ X (HY.out.later (below_step (Hid.out BW) h)).ts (OY.out.later h) (HM.out.later (below_step (Hid.out BW) h))
  have bi := fun (X : World) (h : Below w5.heap.size w5 X) => bindings_any L L m m' X (TM.out X h).1 (TM.out X h).2
  rw [decide_eq_true rfl] at bi
  have KA : Hid _ := ka
  have KB : Hid _ := kb
  have BI : Hid _ := bi
  clear ka kb bi p0 p1 p2 p3 p4 q0 q1 q2 q3 q4 hmL' hb5 HCS
  cases is
  all_goals
    go_wp2_with (first
      | (go_at_call 12; refine (BI.out _ (Below.refl _ _)).mono ?_; rintro e w6 ⟨rfl, hb6⟩; have hb57 := below_step (Hid.out HB5) hb6; obtain ⟨p0, p1, p2, p3, p4⟩ := five (Blk.later (Hid.out BX) hb57); obtain ⟨q0, q1, q2, q3, q4⟩ := five (Blk.later (Hid.out BP) hb57))
      | (go_at_call 14; refine (KA.out _ hb57).mono ?_; rintro e w8 ⟨rfl, hb8⟩; clear KA p0 p1 p2 p3 p4 q0 q1 q2 q3 q4; obtain ⟨p0, p1, p2, p3, p4⟩ := five (Blk.later (Hid.out BY) (below_step hb57 hb8)); obtain ⟨q0, q1, q2, q3, q4⟩ := five (Blk.later (Hid.out BA) (below_step hb57 hb8)))
      | (go_at_call 14; refine (KB.out _ (below_step hb57 hb8)).mono ?_; rintro e w9 ⟨rfl, hb9⟩; clear KB)
      | (go_at_call 15; refine (first_any _).mono ?_; rintro e wa ⟨rfl, hba⟩))
    go_ret
    exact ⟨ret_b rfl, below_step (below_step (below_step (below_step (Hid.out BW5) hb6) hb8) hb9) hba⟩
end Go.Proofs.YtlojgaigbdnjjabDoor
