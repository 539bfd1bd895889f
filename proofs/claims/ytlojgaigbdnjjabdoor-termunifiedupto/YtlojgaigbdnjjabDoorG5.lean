/-
  ref's Unify.
-/
import Derived.Test.YtlojgaigbdnjjabDoorG4
import Derived.Test.YtlojgaigbdnjjabDoorP9
import Derived.Test.YtlojgaigbdnjjabDoorX2
import Derived.Test.YtlojgaigbdnjjabDoorW4
import Derived.Deep.CutRange
namespace Go.Proofs.YtlojgaigbdnjjabDoor
open Go.RowKit
attribute [local go_sem ↓] Go.wp_at_zero Go.wp_at_succ

/-- What ref's Unify answers. -/
def RUPost (w : World) (a b : At) (e : Ending) (w' : World) : Prop := Below w.heap.size w w' ∧
  (((shB a b = false ∨ ∃ t ∈ a.pl ++ b.pl, ∃ l, Full a.pl b.pl t l ∧ ¬ okc a b t l) ∧ e = .returned (.tuple #[.slice none 0 0, .bool false])) ∨
   (∃ v' out C, e = .returned (.tuple #[v', .bool true]) ∧ shB a b = true ∧ Own w' w.heap.size v' out ∧ up out ∧ C.length = (a.pl ++ b.pl).length ∧ (∀ p ∈ (a.pl ++ b.pl).zip C, Full a.pl b.pl p.1 p.2 ∧ okc a b p.1 p.2) ∧ (∀ x, look out x = look (bds ((a.pl ++ b.pl).zip C)) x) ∧ out.length ≤ 2000000000000))
/-- The test as ref makes it. -/
def okb (F : List Tm) (bb tv : Bool) : Bool := match F with | [] => true | [c] => !(bb && tv && !c.prin) | _ :: _ :: _ => false
theorem okb_iff (a b : At) (t : Tm) (l : List Tm) : okb (fx l) (decide (t = a.by_) || decide (t = b.by_)) t.var = true ↔ okc a b t l := by
  unfold okc
  cases e : fx l with
  | nil => simp [okb]
  | cons c r =>
    cases r with
    | nil =>
      simp only [okb, List.length_cons, List.length_nil, Nat.zero_add, Nat.le_refl, true_and, List.cons.injEq, and_true]
      cases hp : c.prin <;> cases hv : t.var <;> by_cases h1 : t = a.by_ <;> by_cases h2 : t = b.by_ <;> simp [h1, h2, hp]
    | cons d r => simp [okb]
theorem bd1_len (t : Tm) (l : List Tm) : (bd1 t l).length ≤ 1 := by unfold bd1; split <;> simp
theorem bds_len : ∀ z : List (Tm × List Tm), (bds z).length ≤ z.length := by
  intro z
  induction z with
  | nil => simp [bds]
  | cons p z ih =>
    have := bd1_len p.1 p.2
    unfold bds at *
    rw [List.flatMap_cons, List.length_append, List.length_cons]
    omega
theorem bds_snoc (z : List (Tm × List Tm)) (t : Tm) (l : List Tm) : bds (z ++ [(t, l)]) = bds z ++ bd1 t l := by unfold bds; simp
theorem zip_snoc {all : List Tm} {C : List (List Tm)} {j : Nat} {t : Tm} {l : List Tm} (hC : C.length = j) (h : all[j]? = some t) : (all.take (j + 1)).zip (C ++ [l]) = (all.take j).zip C ++ [(t, l)] := by
  have hj := (List.getElem?_eq_some_iff.1 h).1
  rw [List.take_add_one, h, Option.toList_some, List.zip_append (by rw [List.length_take]; omega)]
  rfl
theorem ts_get {w : World} {l : List Tm} {n cap : Nat} {a : Addr} (h : Ts w (.slice (some a) n cap) l) (hn : 0 < l.length) : ∀ j u, (tcs l)[j]? = some u → w.cell? (a.add j) = some u := by
  obtain ⟨ad', cap', e, -, h⟩ := h
  rcases h with h | ⟨b, o, rfl, h⟩
  · subst h; simp at hn
  · simp only [Value.slice.injEq, Option.some.injEq] at e
    rw [e.1]
    exact trow_get h
theorem own_nil' (w : World) (base : Nat) : Own w base (.slice none 0 0) [] := World.ownsRow_nil _ _ _ _
set_option maxRecDepth 20000 in
set_option maxHeartbeats 2000000 in
theorem runify_any (a b : At) (x y : Value) (w : World) (hx : TsO w x a.args) (hy : TsO w y b.args) (hla : a.args.length ≤ 400000000000) (hlb : b.args.length ≤ 400000000000) :
    Calls Tryd.prog 17 #[a.v x, b.v y] w (RUPost w a b) := by
  obtain ⟨i0, hi0, hz0, hz1, hz2⟩ := info_parts Tryd.infoTerm
  have hpx := fun (X : World) (h : Below w.heap.size w X) => rplaces_any a x X (hx.later h)
  have hpy := fun (X : World) (h : Below w.heap.size w X) => rplaces_any b y X (hy.later h)
  obtain ⟨P, hP⟩ : ∃ P, P = a := ⟨_, rfl⟩
  obtain ⟨A, hA⟩ : ∃ A, A = b := ⟨_, rfl⟩
  obtain ⟨pl, hpl⟩ : ∃ pl, pl = a.pl := ⟨_, rfl⟩
  obtain ⟨al, hal⟩ : ∃ al, al = b.pl := ⟨_, rfl⟩
  obtain ⟨sh, hsh⟩ : ∃ r, shB a b = r := ⟨_, rfl⟩
  rw [← hpl] at hpx
  rw [← hal] at hpy
  have HPX : Hid (∀ X, Below w.heap.size w X → Calls Tryd.prog 45 #[a.v x] X fun e w' => ∃ v', e = .returned v' ∧ OwnT w' X.heap.size v' pl ∧ Below X.heap.size X w') := hpx
  have HPY : Hid (∀ X, Below w.heap.size w X → Calls Tryd.prog 45 #[b.v y] X fun e w' => ∃ v', e = .returned v' ∧ OwnT w' X.heap.size v' al ∧ Below X.heap.size X w') := hpy
  have HSH : Hid (shB P A = sh) := by show _ = _; rw [hP, hA]; exact hsh
  have HPL : Hid (pl = P.pl) := by show _ = _; rw [hP]; exact hpl
  have HAL : Hid (al = A.pl) := by show _ = _; rw [hA]; exact hal
  obtain ⟨⟨k, n, ss⟩, nm, l⟩ := a
  obtain ⟨⟨k', n', ss'⟩, nm', l'⟩ := b
  have hP' : P.by_ = ⟨k, n, ss⟩ := by rw [hP]
  have hA' : A.by_ = ⟨k', n', ss'⟩ := by rw [hA]
  have HPB : Hid (P.by_ = ⟨k, n, ss⟩) := hP'
  have HAB : Hid (A.by_ = ⟨k', n', ss'⟩) := hA'
  rw [show RUPost w ⟨⟨k, n, ss⟩, nm, l⟩ ⟨⟨k', n', ss'⟩, nm', l'⟩ = RUPost w P A by rw [hP, hA]]
  have hn1 : pl.length = l.length + 1 := by rw [hpl]; simp [At.pl]
  have hn2 : al.length = l'.length + 1 := by rw [hal]; simp [At.pl]
  have hRK : sh = (nm.toList == nm'.toList && l.length == l'.length) := by rw [← hsh]; rfl
  have HRK2 : Hid (sh = (nm.toList == nm'.toList && l.length == l'.length)) := hRK
  have hx1 : ∃ ad cap, x = .slice ad l.length cap := by obtain ⟨ad, cap, h, -⟩ := hx.ts; exact ⟨ad, cap, h⟩
  have hy1 : ∃ ad cap, y = .slice ad l'.length cap := by obtain ⟨ad, cap, h, -⟩ := hy.ts; exact ⟨ad, cap, h⟩
  simp only at hla hlb
  have np : pl.length ≤ 400000000001 := by omega
  have na : al.length ≤ 400000000001 := by omega
  have np0 : 0 < pl.length := by omega
  have na0 : 0 < al.length := by omega
  have HN1 : Hid (pl.length = l.length + 1) := hn1
  have HN2 : Hid (al.length = l'.length + 1) := hn2
  obtain ⟨xa, xc, rfl⟩ := hx1
  obtain ⟨ya, yc, rfl⟩ := hy1
  clear hpx hpy hP hA hpl hal hsh hP' hA' hn1 hn2 hRK hx hy
  go_enter Tryd.func17, Tryd.ntmps17
  go_upto_region 1 with fail
  have hb0 := below2 w (.cells #[.int .i64 k, .int .i64 n, .string ss, .string nm, .slice xa l.length xc] 26) (.cells #[.int .i64 k', .int .i64 n', .string ss', .string nm', .slice ya l'.length yc] 26)
  have BP := Blk.old w #[.int .i64 k, .int .i64 n, .string ss, .string nm, .slice xa l.length xc] 26 (.cells #[.int .i64 k', .int .i64 n', .string ss', .string nm', .slice ya l'.length yc] 26)
  have BA := Blk.new2 w #[.int .i64 k', .int .i64 n', .string ss', .string nm', .slice ya l'.length yc] 26 (.cells #[.int .i64 k, .int .i64 n, .string ss, .string nm, .slice xa l.length xc] 26)
  revert hb0 BP BA
  generalize (w.alloc (.cells #[.int .i64 k, .int .i64 n, .string ss, .string nm, .slice xa l.length xc] 26)).alloc (.cells #[.int .i64 k', .int .i64 n', .string ss', .string nm', .slice ya l'.length yc] 26) = W1
  intro hb0 BP BA
  obtain ⟨p0, p1, p2, p3, p4⟩ := five BP
  obtain ⟨q0, q1, q2, q3, q4⟩ := five BA
  have BP : Hid (Blk W1 _ _ _) := BP
  have BA : Hid (Blk W1 _ _ _) := BA
  have BW : Hid (Below w.heap.size w W1) := hb0
  clear hb0
  go_cut [27] from 14 to 27 (fun s27 wx => s27 = .bool (!sh) ∧ wx = W1)
  case first =>
    cases e1 : (nm.toList == nm'.toList)
    · have e1n : (nm.toList != nm'.toList) = true := by rw [bne, e1]; rfl
      have HRR : Hid (sh = false) := by show _ = _; rw [HRK2.out, e1]; rfl
      go_wp2_with fail
      go_meet
      case rel => exact ⟨by rw [HRR.out]; rfl, rfl⟩
    · have e1n : (nm.toList != nm'.toList) = false := by rw [bne, e1]; rfl
      by_cases e2 : l.length = l'.length
      · have z2 : ((l.length : Int) == (l'.length : Int)) = true := by simp [e2]
        have z2n : ((l.length : Int) != (l'.length : Int)) = false := by simp [e2]
        have HRR : Hid (sh = true) := by show _ = _; rw [HRK2.out, e1, show (l.length == l'.length) = true by simp [e2]]; rfl
        clear e2
        go_wp2_with fail
        go_meet
        case rel => exact ⟨by rw [HRR.out]; rfl, rfl⟩
      · have z2 : ((l.length : Int) == (l'.length : Int)) = false := beq_eq_false_iff_ne.2 (by omega)
        have z2n : ((l.length : Int) != (l'.length : Int)) = true := by rw [bne, z2]; rfl
        have HRR : Hid (sh = false) := by show _ = _; rw [HRK2.out, e1, show (l.length == l'.length) = false from beq_eq_false_iff_ne.2 e2]; rfl
        clear e2
        go_wp2_with fail
        go_meet
        case rel => exact ⟨by rw [HRR.out]; rfl, rfl⟩
  case rest =>
    obtain ⟨rfl, rfl⟩ := hcut
    obtain ⟨W1, hW1⟩ : ∃ W1, W1 = wc := ⟨_, rfl⟩
    subst hW1
    cases sh
    · clear HRK2
      go_wp2
      exact bodyPost_ret (v := .tuple #[.slice none 0 0, .bool false]) (by simp [results, Tryd.results17, go_sem]) rfl ⟨Hid.out BW, Or.inl ⟨Or.inl HSH.out, rfl⟩⟩
    · have HLE : Hid (pl.length = al.length) := by
        have h := HRK2.out
        have h1 := HN1.out
        have h2 := HN2.out
        show _ = _
        cases e2 : (l.length == l'.length)
        · rw [e2] at h; simp at h
        · have := eq_of_beq e2; omega
      clear HRK2
      go_upto_region 4 with (go_at_call 45; refine (HPX.out _ (Hid.out BW)).mono ?_; rintro e W2 ⟨v2, rfl, o2, hb2⟩)
      clear p0 p1 p2 p3 p4 q0 q1 q2 q3 q4
      obtain ⟨q0, q1, q2, q3, q4⟩ := five (Blk.later (Hid.out BA) hb2)
      go_upto_region 5 with (go_at_call 45; refine (HPY.out _ (below_step (Hid.out BW) hb2)).mono ?_; rintro e W3 ⟨v3, rfl, o3, hb3⟩)
      clear q0 q1 q2 q3 q4
      obtain ⟨p0, p1, p2, p3, p4⟩ := five (Blk.later (Blk.later (Hid.out BP) hb2) hb3)
      obtain ⟨g2, c2, rfl, g2a, g2b⟩ := ownT_form o2 np0
      obtain ⟨g3, c3, rfl, g3a, g3b⟩ := ownT_form o3 na0
      have O3 : Hid (OwnT W3 W2.heap.size (.slice (some ⟨g3, 0, none⟩) al.length c3) al) := o3
      have O2 : Hid (OwnT W2 W1.heap.size (.slice (some ⟨g2, 0, none⟩) pl.length c2) pl) := o2
      have HB2 : Hid (Below W1.heap.size W1 W2) := hb2
      have HB3 : Hid (Below W2.heap.size W2 W3) := hb3
      clear o2 o3
      go_upto_region 6 with (first
        | (go_at_call 45; refine (HPX.out _ (below_step (below_step (Hid.out BW) (Hid.out HB2)) (Hid.out HB3))).mono ?_; rintro e W4 ⟨v4, rfl, o4, hb4⟩; obtain ⟨g4, c4, rfl, g4a, g4b⟩ := ownT_form o4 np0; have O4 : Hid (OwnT W4 W3.heap.size (.slice (some ⟨g4, 0, none⟩) pl.length c4) pl) := o4; have hsz4 : W3.heap.size ≤ W4.heap.size := hb4.size; have O34 : Hid (Ts W4 (.slice (some ⟨g3, 0, none⟩) al.length c3) al) := (O3.out.later hb4).ts (by omega); clear o4)
        | (at_builtin; refine wpList_append_own _ rfl _ _ _ rfl W3.heap.size 23 i0 _ 3 32 Tryd.underlying24 hi0 hz0 hz1 hz2 rfl (by omega) (.slice (some ⟨g4, 0, none⟩) pl.length c4) pl.length (tcs pl) (by rfl) O4.out ⟨g3, 0, none⟩ al.length c3 (tcs al) (by rfl) (tcs_len al) (ts_get O34.out na0) (fun u hu => tcs_mem hu) (by unfold maxLen; omega) (by omega) (by omega) ?_; intro v5 W5 hown hgrow hnil))
      have O5 : OwnT W5 W3.heap.size v5 (pl ++ al) := by
        unfold OwnT
        rw [show tcs (pl ++ al) = tcs pl ++ tcs al by simp [tcs], List.length_append]
        exact hown
      have hb5 : Below W3.heap.size W3 W5 := hb4.grown hgrow hsz4 (fun q e => (OwnT.lt O4.out q e).1)
      have hW : Below w.heap.size w W5 := below_step (below_step (below_step (Hid.out BW) (Hid.out HB2)) (Hid.out HB3)) hb5
      have T2 : Hid (Ts W5 (.slice (some ⟨g2, 0, none⟩) pl.length c2) pl) := ((O2.out.later (Hid.out HB3)).later hb5).ts (by omega)
      have T3 : Hid (Ts W5 (.slice (some ⟨g3, 0, none⟩) al.length c3) al) := (O3.out.later hb5).ts (by omega)
      have BP5 : Hid (Blk W5 w.heap.size #[.int .i64 k, .int .i64 n, .string ss, .string nm, .slice xa l.length xc] 26) := Blk.later (Blk.later (Blk.later (Hid.out BP) (Hid.out HB2)) (Hid.out HB3)) hb5
      have BA5 : Hid (Blk W5 (w.heap.size + 1) #[.int .i64 k', .int .i64 n', .string ss', .string nm', .slice ya l'.length yc] 26) := Blk.later (Blk.later (Blk.later (Hid.out BA) (Hid.out HB2)) (Hid.out HB3)) hb5
      have HW5 : Hid (Below w.heap.size w W5) := hW
      have HALL : Hid (pl ++ al = P.pl ++ A.pl) := by show _ = _; rw [← HPL.out, ← HAL.out]
      obtain ⟨all, hall⟩ : ∃ all, all = pl ++ al := ⟨_, rfl⟩
      have hal0 : 0 < all.length := by rw [hall]; simp; omega
      have hall1 : all.length ≤ 800000000002 := by rw [hall]; simp; omega
      rw [← hall] at O5
      have HALL : Hid (all = P.pl ++ A.pl) := by show _ = _; rw [hall]; exact HALL.out
      obtain ⟨g5, c5, rfl, g5a, g5b⟩ := ownT_form O5 hal0
      have O5 : Hid (OwnT W5 W3.heap.size (.slice (some ⟨g5, 0, none⟩) all.length c5) all) := O5
      clear p0 p1 p2 p3 p4 hb2 hb3 hb4 hb5 hW hown hgrow hnil O4 O34 O2 O3 HB2 HB3 BP BA BW hall HPX HPY g2a g2b g3a g3b g4a g4b g5a hsz4 HN1 HN2
      go_wp2
      go_loopg [9, 10] all.length (fun g u i wr => ∃ (j : Nat) (C : List (List Tm)), j + g = all.length ∧ i = .int .i64 j ∧ C.length = j ∧ (∀ p ∈ (all.take j).zip C, Full pl al p.1 p.2 ∧ okc P A p.1 p.2) ∧ Own wr W5.heap.size u (bds ((all.take j).zip C)) ∧ Below W5.heap.size W5 wr)
      case atStart => exact ⟨0, [], by omega, rfl, rfl, fun p hp => by simp at hp, own_nil' _ _, Below.refl _ _⟩
      case round =>
        obtain ⟨j, C, hj, rfl, hCl, hCC, hown, hb⟩ := hrel
        have HCC : Hid (∀ p ∈ (all.take j).zip C, Full pl al p.1 p.2 ∧ okc P A p.1 p.2) := hCC
        have HCL : Hid (C.length = j) := hCl
        have HBW : Hid (Below W5.heap.size W5 wr) := hb
        clear hCC hCl
        cases gk with
        | zero =>
          obtain rfl : j = all.length := by omega
          rw [List.take_length] at hown HCC
          have hz : ¬ ((all.length : Int) < (all.length : Int)) := by omega
          have hlen : (bds (all.zip C)).length ≤ all.length := Nat.le_trans (bds_len _) (by rw [List.length_zip]; exact Nat.min_le_left _ _)
          have HST := fun (X : World) (h : Below wr.heap.size wr X) => settled_any (bds (all.zip C)) _ X ((hown.later h).bs (by omega)) (by omega)
          have HST : Hid _ := HST
          have HLN : Hid ((bds (all.zip C)).length ≤ all.length) := hlen
          clear hown hb hlen
          go_wp2_with (go_at_call 49; refine Calls.mono (HST.out _ (Below.refl _ _)) ?_; rintro e w6 ⟨v6, out, rfl, ho, hup, hlk, hln, hb6⟩; have HF : Hid (Own w6 wr.heap.size v6 out ∧ up out ∧ (∀ x, look out x = look (bds (all.zip C)) x) ∧ out.length ≤ 2000000000000 ∧ Below w.heap.size w w6) := ⟨ho, hup, hlk, by have := HLN.out; omega, below_step (below_step (Hid.out HW5) (Hid.out HBW)) hb6⟩; clear ho hup hlk hln hb6)
          refine bodyPost_ret (v := .tuple #[v6, .bool true]) (by simp [results, Tryd.results17, go_sem]) rfl ⟨HF.out.2.2.2.2, Or.inr ⟨v6, out, C, rfl, HSH.out, ?_⟩⟩
          rw [← HALL.out, ← HPL.out, ← HAL.out]
          exact ⟨HF.out.1.mono (Nat.le_trans (Hid.out HW5).size (Hid.out HBW).size), HF.out.2.1, HCL.out, HCC.out, HF.out.2.2.1, HF.out.2.2.2.1⟩
        | succ g =>
          have i1 : (j : Int) < (all.length : Int) := by omega
          have i2 : (0 : Int) ≤ (j : Int) := by omega
          obtain ⟨t, ht⟩ : ∃ t, all[j]? = some t := ⟨_, List.getElem?_eq_getElem (by omega)⟩
          have hcall := fun (X : World) (h : Below W5.heap.size W5 X) => rclass_any pl al t _ _ X (T2.out.later h) (T3.out.later h) HLE.out (by omega)
          obtain ⟨x0, x1, x2⟩ := ownT_cells O5.out j t ht
          obtain ⟨tk, tn, ts⟩ := t
          have HCALL : Hid (∀ X, Below W5.heap.size W5 X → Calls Tryd.prog 54 #[.slice (some ⟨g2, 0, none⟩) pl.length c2, .slice (some ⟨g3, 0, none⟩) al.length c3, Tm.v ⟨tk, tn, ts⟩] X (CPost X pl al ⟨tk, tn, ts⟩)) := hcall
          have HT : Hid (all[j]? = some ⟨tk, tn, ts⟩) := ht
          simp only at x0 x1 x2
          have HX : Hid (W5.cell? ⟨g5, j * 3, none⟩ = some (.int .i64 tk) ∧ W5.cell? ⟨g5, j * 3 + 1, none⟩ = some (.int .i64 tn) ∧ W5.cell? ⟨g5, j * 3 + 2, none⟩ = some (.string ts)) := ⟨x0, x1, x2⟩
          have x0 := cell_step hb g5b x0
          have x1 := cell_step hb g5b x1
          have x2 := cell_step hb g5b x2
          have hol := bds_len ((all.take j).zip C)
          have holn : (bds ((all.take j).zip C)).length ≤ 800000000002 := Nat.le_trans hol (by rw [List.length_zip, List.length_take]; omega)
          have HZ : Hid (∀ l, bds ((all.take (j + 1)).zip (C ++ [l])) = bds ((all.take j).zip C) ++ bd1 ⟨tk, tn, ts⟩ l) := fun l => by rw [zip_snoc HCL.out HT.out, bds_snoc]
          have HZ2 : Hid (∀ l, (all.take (j + 1)).zip (C ++ [l]) = (all.take j).zip C ++ [(⟨tk, tn, ts⟩, l)]) := fun l => zip_snoc HCL.out HT.out
          generalize bds ((all.take j).zip C) = out at hown HZ holn
          obtain ⟨ua, uc, rfl⟩ := own_len hown
          have HO : Hid (Own wr W5.heap.size (.slice ua out.length uc) out) := hown
          clear hcall ht hown hol hb
          go_upto_region 11 with (go_at_call 54; refine (HCALL.out _ (Hid.out HBW)).mono ?_; rintro e w1 ⟨hb1, lv, l1, rfl, ho1, hful⟩)
          have hl1 := hful.cls.len
          have hl0 : 0 < l1.length := (List.getElem?_eq_some_iff.1 hful.cls.head).1
          obtain ⟨gl, lc, rfl, -, -⟩ := ownT_form ho1 hl0
          have HL1 : Hid (Ts w1 (.slice (some ⟨gl, 0, none⟩) l1.length lc) l1) := ho1.ts (by omega)
          have HFU : Hid (Full pl al ⟨tk, tn, ts⟩ l1) := hful
          clear x0 x1 x2 ho1 hful
          have hl2 : l1.length ≤ 4000000000000 := by omega
          go_upto_region 12 with (go_at_call 55; refine (rfixed_any l1 _ _ HL1.out hl2).mono ?_; rintro e w2 ⟨fv, rfl, hof, hb2⟩)
          have HB2 : Hid (Below W5.heap.size W5 w2) := below_step (below_step (Hid.out HBW) hb1) hb2
          have HBr : Hid (Below wr.heap.size wr w2) := below_step hb1 hb2
          have HL2 : Hid (Ts w2 (.slice (some ⟨gl, 0, none⟩) l1.length lc) l1) := HL1.out.later hb2
          obtain ⟨F, hF⟩ : ∃ F, fx l1 = F := ⟨_, rfl⟩
          have HF : Hid (fx l1 = F) := hF
          rw [hF] at hof
          obtain ⟨fa, fc, rfl⟩ := ownT_len hof
          obtain ⟨N, hN⟩ : ∃ N, F.length = N := ⟨_, rfl⟩
          have HN : Hid (F.length = N) := hN
          rw [hN] at hof ⊢
          have HOF : Hid (OwnT w2 w1.heap.size (.slice fa N fc) F) := hof
          clear hN
          clear hb1 hb2 hof hF HL1 HBW hl1
          obtain ⟨x0, x1, x2⟩ := HX.out
          have x0 := cell_step (Hid.out HB2) g5b x0
          have x1 := cell_step (Hid.out HB2) g5b x1
          have x2 := cell_step (Hid.out HB2) g5b x2
          have gW := lt_step (Hid.out HB2) g5b
          have BP6 : Hid (Blk w2 w.heap.size #[.int .i64 k, .int .i64 n, .string ss, .string nm, .slice xa l.length xc] 26) := Blk.later (Hid.out BP5) (Hid.out HB2)
          have BA6 : Hid (Blk w2 (w.heap.size + 1) #[.int .i64 k', .int .i64 n', .string ss', .string nm', .slice ya l'.length yc] 26) := Blk.later (Hid.out BA5) (Hid.out HB2)
          obtain ⟨bb, hbb⟩ : ∃ c, (decide (Tm.mk tk tn ts = ⟨k, n, ss⟩) || decide (Tm.mk tk tn ts = ⟨k', n', ss'⟩)) = c := ⟨_, rfl⟩
          have HBB : Hid ((decide (Tm.mk tk tn ts = ⟨k, n, ss⟩) || decide (Tm.mk tk tn ts = ⟨k', n', ss'⟩)) = bb) := hbb
          clear hbb
          go_cut [13] from 51 to 66 (fun s13 wx => s13 = .bool bb ∧ Below w2.heap.size w2 wx)
          case first =>
            have e1 := run_eql_tm ⟨tk, tn, ts⟩ ⟨k, n, ss⟩
            have e2 := run_eql_tm ⟨tk, tn, ts⟩ ⟨k', n', ss'⟩
            have hbb := HBB.out
            by_cases h1 : Tm.mk tk tn ts = ⟨k, n, ss⟩
            · rw [decide_eq_true h1] at e1 hbb
              obtain rfl : bb = true := hbb.symm
              clear h1 hbb e2
              refine wp_region_held_drew (S := fun w' => Below w2.heap.size w2 w') (by kernel_rfl) (Below.refl _ _).drew (fun hH => ?_)
              revert hH
              generalize w2.drew = V
              intro hH
              refine wpAnyH_take (i := 0) (oi := ⟨_, _, _, _, _, _⟩) (v := .slice (some ⟨g5, 0, none⟩) all.length c5) rfl (by kernel_rfl) (by kernel_rfl) (by kernel_rfl) (fun _ _ _ h => h) (Or.inl ⟨by rfl, fun w' _ => by go_simp⟩) hH ?_
              simp only [Act.put, List.setIfInBounds_toArray, List.set_cons_zero, List.set_cons_succ]
              refine wpAnyH_take (i := 1) (oi := ⟨_, _, _, _, _, _⟩) (v := .int .i64 j) rfl (by kernel_rfl) (by kernel_rfl) (by kernel_rfl) (fun _ _ _ h => h) (Or.inl ⟨by rfl, fun w' _ => by go_simp⟩) hH ?_
              simp only [Act.put, List.setIfInBounds_toArray, List.set_cons_zero, List.set_cons_succ]
              refine wpAnyH_take (i := 2) (oi := ⟨_, _, _, _, _, _⟩) (v := .pointer (some ⟨g5, j * 3, none⟩)) rfl (by kernel_rfl) (by kernel_rfl) (by kernel_rfl) (fun _ _ _ h => h) (Or.inl ⟨by rfl, fun w' _ => by go_simp⟩) hH ?_
              simp only [Act.put, List.setIfInBounds_toArray, List.set_cons_zero, List.set_cons_succ]
              refine wpAnyH_take (i := 3) (oi := ⟨_, _, _, _, _, _⟩) (v := Tm.v ⟨tk, tn, ts⟩) rfl (by kernel_rfl) (by kernel_rfl) (by kernel_rfl) (fun _ _ _ h => h) (Or.inl ⟨by rfl, fun w' h => by have a0 := cell_step h gW x0; have a1 := cell_step h gW x1; have a2 := cell_step h gW x2; go_simp⟩) hH ?_
              simp only [Act.put, List.setIfInBounds_toArray, List.set_cons_zero, List.set_cons_succ]
              refine wpAnyH_take (i := 4) (oi := ⟨_, _, _, _, _, _⟩) (v := .pointer (some ⟨w.heap.size, 0, none⟩)) rfl (by kernel_rfl) (by kernel_rfl) (by kernel_rfl) (fun _ _ _ h => h) (Or.inl ⟨by rfl, fun w' _ => by go_simp⟩) hH ?_
              simp only [Act.put, List.setIfInBounds_toArray, List.set_cons_zero, List.set_cons_succ]
              refine wpAnyH_take (i := 5) (oi := ⟨_, _, _, _, _, _⟩) (v := Tm.v ⟨k, n, ss⟩) rfl (by kernel_rfl) (by kernel_rfl) (by kernel_rfl) (fun _ _ _ h => h) (Or.inl ⟨by rfl, fun w' h => by obtain ⟨p0, p1, p2, p3, p4⟩ := five (Hid.out BP6); have z := Blk.lt (Hid.out BP6); have a0 := cell_step h z p0; have a1 := cell_step h z p1; have a2 := cell_step h z p2; have a3 := cell_step h z p3; have a4 := cell_step h z p4; clear p0 p1 p2 p3 p4; go_simp⟩) hH ?_
              simp only [Act.put, List.setIfInBounds_toArray, List.set_cons_zero, List.set_cons_succ]
              refine wpAnyH_take (i := 6) (oi := ⟨_, _, _, _, _, _⟩) (v := .bool true) rfl (by kernel_rfl) (by kernel_rfl) (by kernel_rfl) (fun _ _ _ h => h) (Or.inl ⟨by rfl, fun w' _ => by go_simp⟩) hH ?_
              simp only [Act.put, List.setIfInBounds_toArray, List.set_cons_zero, List.set_cons_succ]
              refine wpAnyH_take (i := 7) (oi := ⟨_, _, _, _, _, _⟩) (v := .bool true) rfl (by kernel_rfl) (by kernel_rfl) (by kernel_rfl) (fun _ _ _ h => h) (Or.inl ⟨by rfl, fun w' _ => by go_simp⟩) hH ?_
              simp only [Act.put, List.setIfInBounds_toArray, List.set_cons_zero, List.set_cons_succ]
              refine wpAnyH_take (i := 8) (oi := ⟨_, _, _, _, _, _⟩) (v := undef) rfl (by kernel_rfl) (by kernel_rfl) (by kernel_rfl) (fun _ _ _ h => h) (Or.inr ⟨by rfl, rfl⟩) hH ?_
              simp only [Act.put, List.setIfInBounds_toArray, List.set_cons_zero, List.set_cons_succ]
              refine wpAnyH_take (i := 9) (oi := ⟨_, _, _, _, _, _⟩) (v := undef) rfl (by kernel_rfl) (by kernel_rfl) (by kernel_rfl) (fun _ _ _ h => h) (Or.inr ⟨by rfl, rfl⟩) hH ?_
              simp only [Act.put, List.setIfInBounds_toArray, List.set_cons_zero, List.set_cons_succ]
              refine wpAnyH_take (i := 10) (oi := ⟨_, _, _, _, _, _⟩) (v := undef) rfl (by kernel_rfl) (by kernel_rfl) (by kernel_rfl) (fun _ _ _ h => h) (Or.inr ⟨by rfl, rfl⟩) hH ?_
              simp only [Act.put, List.setIfInBounds_toArray, List.set_cons_zero, List.set_cons_succ]
              refine wpAnyH_take (i := 11) (oi := ⟨_, _, _, _, _, _⟩) (v := undef) rfl (by kernel_rfl) (by kernel_rfl) (by kernel_rfl) (fun _ _ _ h => h) (Or.inr ⟨by rfl, rfl⟩) hH ?_
              simp only [Act.put, List.setIfInBounds_toArray, List.set_cons_zero, List.set_cons_succ]
              refine wpAnyH_take (i := 12) (oi := ⟨_, _, _, _, _, _⟩) (v := undef) rfl (by kernel_rfl) (by kernel_rfl) (by kernel_rfl) (fun _ _ _ h => h) (Or.inr ⟨by rfl, rfl⟩) hH ?_
              simp only [Act.put, List.setIfInBounds_toArray, List.set_cons_zero, List.set_cons_succ]
              refine wpAnyH_take (i := 13) (oi := ⟨_, _, _, _, _, _⟩) (v := undef) rfl (by kernel_rfl) (by kernel_rfl) (by kernel_rfl) (fun _ _ _ h => h) (Or.inr ⟨by rfl, rfl⟩) hH ?_
              simp only [Act.put, List.setIfInBounds_toArray, List.set_cons_zero, List.set_cons_succ]
              refine wpAnyH_take (i := 14) (oi := ⟨_, _, _, _, _, _⟩) (v := undef) rfl (by kernel_rfl) (by kernel_rfl) (by kernel_rfl) (fun _ _ _ h => h) (Or.inr ⟨by rfl, rfl⟩) hH ?_
              simp only [Act.put, List.setIfInBounds_toArray, List.set_cons_zero, List.set_cons_succ]
              refine wpAnyH_take (i := 15) (oi := ⟨_, _, _, _, _, _⟩) (v := .bool true) rfl (by kernel_rfl) (by kernel_rfl) (by kernel_rfl) (fun _ _ _ h => h) (Or.inl ⟨by rfl, fun w' _ => by go_simp⟩) hH ?_
              simp only [Act.put, List.setIfInBounds_toArray, List.set_cons_zero, List.set_cons_succ]
              refine wpAnyH_take (i := 16) (oi := ⟨_, _, _, _, _, _⟩) (v := .bool true) rfl (by kernel_rfl) (by kernel_rfl) (by kernel_rfl) (fun _ _ _ h => h) (Or.inl ⟨by rfl, fun w' _ => by go_simp⟩) hH ?_
              simp only [Act.put, List.setIfInBounds_toArray, List.set_cons_zero, List.set_cons_succ]
              refine wpAnyH_done (by kernel_rfl) ?_ _
              go_wp2_with fail
              go_meet
              case rel => exact ⟨rfl, hH⟩
            · rw [decide_eq_false h1] at e1 hbb
              by_cases h2 : Tm.mk tk tn ts = ⟨k', n', ss'⟩
              · rw [decide_eq_true h2] at e2 hbb
                obtain rfl : bb = true := hbb.symm
                clear h1 h2 hbb
                refine wp_region_held_drew (S := fun w' => Below w2.heap.size w2 w') (by kernel_rfl) (Below.refl _ _).drew (fun hH => ?_)
                revert hH
                generalize w2.drew = V
                intro hH
                refine wpAnyH_take (i := 0) (oi := ⟨_, _, _, _, _, _⟩) (v := .slice (some ⟨g5, 0, none⟩) all.length c5) rfl (by kernel_rfl) (by kernel_rfl) (by kernel_rfl) (fun _ _ _ h => h) (Or.inl ⟨by rfl, fun w' _ => by go_simp⟩) hH ?_
                simp only [Act.put, List.setIfInBounds_toArray, List.set_cons_zero, List.set_cons_succ]
                refine wpAnyH_take (i := 1) (oi := ⟨_, _, _, _, _, _⟩) (v := .int .i64 j) rfl (by kernel_rfl) (by kernel_rfl) (by kernel_rfl) (fun _ _ _ h => h) (Or.inl ⟨by rfl, fun w' _ => by go_simp⟩) hH ?_
                simp only [Act.put, List.setIfInBounds_toArray, List.set_cons_zero, List.set_cons_succ]
                refine wpAnyH_take (i := 2) (oi := ⟨_, _, _, _, _, _⟩) (v := .pointer (some ⟨g5, j * 3, none⟩)) rfl (by kernel_rfl) (by kernel_rfl) (by kernel_rfl) (fun _ _ _ h => h) (Or.inl ⟨by rfl, fun w' _ => by go_simp⟩) hH ?_
                simp only [Act.put, List.setIfInBounds_toArray, List.set_cons_zero, List.set_cons_succ]
                refine wpAnyH_take (i := 3) (oi := ⟨_, _, _, _, _, _⟩) (v := Tm.v ⟨tk, tn, ts⟩) rfl (by kernel_rfl) (by kernel_rfl) (by kernel_rfl) (fun _ _ _ h => h) (Or.inl ⟨by rfl, fun w' h => by have a0 := cell_step h gW x0; have a1 := cell_step h gW x1; have a2 := cell_step h gW x2; go_simp⟩) hH ?_
                simp only [Act.put, List.setIfInBounds_toArray, List.set_cons_zero, List.set_cons_succ]
                refine wpAnyH_take (i := 4) (oi := ⟨_, _, _, _, _, _⟩) (v := .pointer (some ⟨w.heap.size, 0, none⟩)) rfl (by kernel_rfl) (by kernel_rfl) (by kernel_rfl) (fun _ _ _ h => h) (Or.inl ⟨by rfl, fun w' _ => by go_simp⟩) hH ?_
                simp only [Act.put, List.setIfInBounds_toArray, List.set_cons_zero, List.set_cons_succ]
                refine wpAnyH_take (i := 5) (oi := ⟨_, _, _, _, _, _⟩) (v := Tm.v ⟨k, n, ss⟩) rfl (by kernel_rfl) (by kernel_rfl) (by kernel_rfl) (fun _ _ _ h => h) (Or.inl ⟨by rfl, fun w' h => by obtain ⟨p0, p1, p2, p3, p4⟩ := five (Hid.out BP6); have z := Blk.lt (Hid.out BP6); have a0 := cell_step h z p0; have a1 := cell_step h z p1; have a2 := cell_step h z p2; have a3 := cell_step h z p3; have a4 := cell_step h z p4; clear p0 p1 p2 p3 p4; go_simp⟩) hH ?_
                simp only [Act.put, List.setIfInBounds_toArray, List.set_cons_zero, List.set_cons_succ]
                refine wpAnyH_take (i := 6) (oi := ⟨_, _, _, _, _, _⟩) (v := .bool false) rfl (by kernel_rfl) (by kernel_rfl) (by kernel_rfl) (fun _ _ _ h => h) (Or.inl ⟨by rfl, fun w' _ => by go_simp⟩) hH ?_
                simp only [Act.put, List.setIfInBounds_toArray, List.set_cons_zero, List.set_cons_succ]
                refine wpAnyH_take (i := 7) (oi := ⟨_, _, _, _, _, _⟩) (v := .bool false) rfl (by kernel_rfl) (by kernel_rfl) (by kernel_rfl) (fun _ _ _ h => h) (Or.inl ⟨by rfl, fun w' _ => by go_simp⟩) hH ?_
                simp only [Act.put, List.setIfInBounds_toArray, List.set_cons_zero, List.set_cons_succ]
                refine wpAnyH_take (i := 8) (oi := ⟨_, _, _, _, _, _⟩) (v := .slice (some ⟨g5, 0, none⟩) all.length c5) rfl (by kernel_rfl) (by kernel_rfl) (by kernel_rfl) (fun _ _ _ h => h) (Or.inl ⟨by rfl, fun w' _ => by go_simp⟩) hH ?_
                simp only [Act.put, List.setIfInBounds_toArray, List.set_cons_zero, List.set_cons_succ]
                refine wpAnyH_take (i := 9) (oi := ⟨_, _, _, _, _, _⟩) (v := .int .i64 j) rfl (by kernel_rfl) (by kernel_rfl) (by kernel_rfl) (fun _ _ _ h => h) (Or.inl ⟨by rfl, fun w' _ => by go_simp⟩) hH ?_
                simp only [Act.put, List.setIfInBounds_toArray, List.set_cons_zero, List.set_cons_succ]
                refine wpAnyH_take (i := 10) (oi := ⟨_, _, _, _, _, _⟩) (v := .pointer (some ⟨g5, j * 3, none⟩)) rfl (by kernel_rfl) (by kernel_rfl) (by kernel_rfl) (fun _ _ _ h => h) (Or.inl ⟨by rfl, fun w' _ => by go_simp⟩) hH ?_
                simp only [Act.put, List.setIfInBounds_toArray, List.set_cons_zero, List.set_cons_succ]
                refine wpAnyH_take (i := 11) (oi := ⟨_, _, _, _, _, _⟩) (v := Tm.v ⟨tk, tn, ts⟩) rfl (by kernel_rfl) (by kernel_rfl) (by kernel_rfl) (fun _ _ _ h => h) (Or.inl ⟨by rfl, fun w' h => by have a0 := cell_step h gW x0; have a1 := cell_step h gW x1; have a2 := cell_step h gW x2; go_simp⟩) hH ?_
                simp only [Act.put, List.setIfInBounds_toArray, List.set_cons_zero, List.set_cons_succ]
                refine wpAnyH_take (i := 12) (oi := ⟨_, _, _, _, _, _⟩) (v := .pointer (some ⟨w.heap.size + 1, 0, none⟩)) rfl (by kernel_rfl) (by kernel_rfl) (by kernel_rfl) (fun _ _ _ h => h) (Or.inl ⟨by rfl, fun w' _ => by go_simp⟩) hH ?_
                simp only [Act.put, List.setIfInBounds_toArray, List.set_cons_zero, List.set_cons_succ]
                refine wpAnyH_take (i := 13) (oi := ⟨_, _, _, _, _, _⟩) (v := Tm.v ⟨k', n', ss'⟩) rfl (by kernel_rfl) (by kernel_rfl) (by kernel_rfl) (fun _ _ _ h => h) (Or.inl ⟨by rfl, fun w' h => by obtain ⟨p0, p1, p2, p3, p4⟩ := five (Hid.out BA6); have z := Blk.lt (Hid.out BA6); have a0 := cell_step h z p0; have a1 := cell_step h z p1; have a2 := cell_step h z p2; have a3 := cell_step h z p3; have a4 := cell_step h z p4; clear p0 p1 p2 p3 p4; go_simp⟩) hH ?_
                simp only [Act.put, List.setIfInBounds_toArray, List.set_cons_zero, List.set_cons_succ]
                refine wpAnyH_take (i := 14) (oi := ⟨_, _, _, _, _, _⟩) (v := .bool true) rfl (by kernel_rfl) (by kernel_rfl) (by kernel_rfl) (fun _ _ _ h => h) (Or.inl ⟨by rfl, fun w' _ => by go_simp⟩) hH ?_
                simp only [Act.put, List.setIfInBounds_toArray, List.set_cons_zero, List.set_cons_succ]
                refine wpAnyH_take (i := 15) (oi := ⟨_, _, _, _, _, _⟩) (v := .bool true) rfl (by kernel_rfl) (by kernel_rfl) (by kernel_rfl) (fun _ _ _ h => h) (Or.inl ⟨by rfl, fun w' _ => by go_simp⟩) hH ?_
                simp only [Act.put, List.setIfInBounds_toArray, List.set_cons_zero, List.set_cons_succ]
                refine wpAnyH_take (i := 16) (oi := ⟨_, _, _, _, _, _⟩) (v := .bool true) rfl (by kernel_rfl) (by kernel_rfl) (by kernel_rfl) (fun _ _ _ h => h) (Or.inl ⟨by rfl, fun w' _ => by go_simp⟩) hH ?_
                simp only [Act.put, List.setIfInBounds_toArray, List.set_cons_zero, List.set_cons_succ]
                refine wpAnyH_done (by kernel_rfl) ?_ _
                go_wp2_with fail
                go_meet
                case rel => exact ⟨rfl, hH⟩
              · rw [decide_eq_false h2] at e2 hbb
                obtain rfl : bb = false := hbb.symm
                clear h1 h2 hbb
                refine wp_region_held_drew (S := fun w' => Below w2.heap.size w2 w') (by kernel_rfl) (Below.refl _ _).drew (fun hH => ?_)
                revert hH
                generalize w2.drew = V
                intro hH
                refine wpAnyH_take (i := 0) (oi := ⟨_, _, _, _, _, _⟩) (v := .slice (some ⟨g5, 0, none⟩) all.length c5) rfl (by kernel_rfl) (by kernel_rfl) (by kernel_rfl) (fun _ _ _ h => h) (Or.inl ⟨by rfl, fun w' _ => by go_simp⟩) hH ?_
                simp only [Act.put, List.setIfInBounds_toArray, List.set_cons_zero, List.set_cons_succ]
                refine wpAnyH_take (i := 1) (oi := ⟨_, _, _, _, _, _⟩) (v := .int .i64 j) rfl (by kernel_rfl) (by kernel_rfl) (by kernel_rfl) (fun _ _ _ h => h) (Or.inl ⟨by rfl, fun w' _ => by go_simp⟩) hH ?_
                simp only [Act.put, List.setIfInBounds_toArray, List.set_cons_zero, List.set_cons_succ]
                refine wpAnyH_take (i := 2) (oi := ⟨_, _, _, _, _, _⟩) (v := .pointer (some ⟨g5, j * 3, none⟩)) rfl (by kernel_rfl) (by kernel_rfl) (by kernel_rfl) (fun _ _ _ h => h) (Or.inl ⟨by rfl, fun w' _ => by go_simp⟩) hH ?_
                simp only [Act.put, List.setIfInBounds_toArray, List.set_cons_zero, List.set_cons_succ]
                refine wpAnyH_take (i := 3) (oi := ⟨_, _, _, _, _, _⟩) (v := Tm.v ⟨tk, tn, ts⟩) rfl (by kernel_rfl) (by kernel_rfl) (by kernel_rfl) (fun _ _ _ h => h) (Or.inl ⟨by rfl, fun w' h => by have a0 := cell_step h gW x0; have a1 := cell_step h gW x1; have a2 := cell_step h gW x2; go_simp⟩) hH ?_
                simp only [Act.put, List.setIfInBounds_toArray, List.set_cons_zero, List.set_cons_succ]
                refine wpAnyH_take (i := 4) (oi := ⟨_, _, _, _, _, _⟩) (v := .pointer (some ⟨w.heap.size, 0, none⟩)) rfl (by kernel_rfl) (by kernel_rfl) (by kernel_rfl) (fun _ _ _ h => h) (Or.inl ⟨by rfl, fun w' _ => by go_simp⟩) hH ?_
                simp only [Act.put, List.setIfInBounds_toArray, List.set_cons_zero, List.set_cons_succ]
                refine wpAnyH_take (i := 5) (oi := ⟨_, _, _, _, _, _⟩) (v := Tm.v ⟨k, n, ss⟩) rfl (by kernel_rfl) (by kernel_rfl) (by kernel_rfl) (fun _ _ _ h => h) (Or.inl ⟨by rfl, fun w' h => by obtain ⟨p0, p1, p2, p3, p4⟩ := five (Hid.out BP6); have z := Blk.lt (Hid.out BP6); have a0 := cell_step h z p0; have a1 := cell_step h z p1; have a2 := cell_step h z p2; have a3 := cell_step h z p3; have a4 := cell_step h z p4; clear p0 p1 p2 p3 p4; go_simp⟩) hH ?_
                simp only [Act.put, List.setIfInBounds_toArray, List.set_cons_zero, List.set_cons_succ]
                refine wpAnyH_take (i := 6) (oi := ⟨_, _, _, _, _, _⟩) (v := .bool false) rfl (by kernel_rfl) (by kernel_rfl) (by kernel_rfl) (fun _ _ _ h => h) (Or.inl ⟨by rfl, fun w' _ => by go_simp⟩) hH ?_
                simp only [Act.put, List.setIfInBounds_toArray, List.set_cons_zero, List.set_cons_succ]
                refine wpAnyH_take (i := 7) (oi := ⟨_, _, _, _, _, _⟩) (v := .bool false) rfl (by kernel_rfl) (by kernel_rfl) (by kernel_rfl) (fun _ _ _ h => h) (Or.inl ⟨by rfl, fun w' _ => by go_simp⟩) hH ?_
                simp only [Act.put, List.setIfInBounds_toArray, List.set_cons_zero, List.set_cons_succ]
                refine wpAnyH_take (i := 8) (oi := ⟨_, _, _, _, _, _⟩) (v := .slice (some ⟨g5, 0, none⟩) all.length c5) rfl (by kernel_rfl) (by kernel_rfl) (by kernel_rfl) (fun _ _ _ h => h) (Or.inl ⟨by rfl, fun w' _ => by go_simp⟩) hH ?_
                simp only [Act.put, List.setIfInBounds_toArray, List.set_cons_zero, List.set_cons_succ]
                refine wpAnyH_take (i := 9) (oi := ⟨_, _, _, _, _, _⟩) (v := .int .i64 j) rfl (by kernel_rfl) (by kernel_rfl) (by kernel_rfl) (fun _ _ _ h => h) (Or.inl ⟨by rfl, fun w' _ => by go_simp⟩) hH ?_
                simp only [Act.put, List.setIfInBounds_toArray, List.set_cons_zero, List.set_cons_succ]
                refine wpAnyH_take (i := 10) (oi := ⟨_, _, _, _, _, _⟩) (v := .pointer (some ⟨g5, j * 3, none⟩)) rfl (by kernel_rfl) (by kernel_rfl) (by kernel_rfl) (fun _ _ _ h => h) (Or.inl ⟨by rfl, fun w' _ => by go_simp⟩) hH ?_
                simp only [Act.put, List.setIfInBounds_toArray, List.set_cons_zero, List.set_cons_succ]
                refine wpAnyH_take (i := 11) (oi := ⟨_, _, _, _, _, _⟩) (v := Tm.v ⟨tk, tn, ts⟩) rfl (by kernel_rfl) (by kernel_rfl) (by kernel_rfl) (fun _ _ _ h => h) (Or.inl ⟨by rfl, fun w' h => by have a0 := cell_step h gW x0; have a1 := cell_step h gW x1; have a2 := cell_step h gW x2; go_simp⟩) hH ?_
                simp only [Act.put, List.setIfInBounds_toArray, List.set_cons_zero, List.set_cons_succ]
                refine wpAnyH_take (i := 12) (oi := ⟨_, _, _, _, _, _⟩) (v := .pointer (some ⟨w.heap.size + 1, 0, none⟩)) rfl (by kernel_rfl) (by kernel_rfl) (by kernel_rfl) (fun _ _ _ h => h) (Or.inl ⟨by rfl, fun w' _ => by go_simp⟩) hH ?_
                simp only [Act.put, List.setIfInBounds_toArray, List.set_cons_zero, List.set_cons_succ]
                refine wpAnyH_take (i := 13) (oi := ⟨_, _, _, _, _, _⟩) (v := Tm.v ⟨k', n', ss'⟩) rfl (by kernel_rfl) (by kernel_rfl) (by kernel_rfl) (fun _ _ _ h => h) (Or.inl ⟨by rfl, fun w' h => by obtain ⟨p0, p1, p2, p3, p4⟩ := five (Hid.out BA6); have z := Blk.lt (Hid.out BA6); have a0 := cell_step h z p0; have a1 := cell_step h z p1; have a2 := cell_step h z p2; have a3 := cell_step h z p3; have a4 := cell_step h z p4; clear p0 p1 p2 p3 p4; go_simp⟩) hH ?_
                simp only [Act.put, List.setIfInBounds_toArray, List.set_cons_zero, List.set_cons_succ]
                refine wpAnyH_take (i := 14) (oi := ⟨_, _, _, _, _, _⟩) (v := .bool false) rfl (by kernel_rfl) (by kernel_rfl) (by kernel_rfl) (fun _ _ _ h => h) (Or.inl ⟨by rfl, fun w' _ => by go_simp⟩) hH ?_
                simp only [Act.put, List.setIfInBounds_toArray, List.set_cons_zero, List.set_cons_succ]
                refine wpAnyH_take (i := 15) (oi := ⟨_, _, _, _, _, _⟩) (v := .bool false) rfl (by kernel_rfl) (by kernel_rfl) (by kernel_rfl) (fun _ _ _ h => h) (Or.inl ⟨by rfl, fun w' _ => by go_simp⟩) hH ?_
                simp only [Act.put, List.setIfInBounds_toArray, List.set_cons_zero, List.set_cons_succ]
                refine wpAnyH_take (i := 16) (oi := ⟨_, _, _, _, _, _⟩) (v := .bool false) rfl (by kernel_rfl) (by kernel_rfl) (by kernel_rfl) (fun _ _ _ h => h) (Or.inl ⟨by rfl, fun w' _ => by go_simp⟩) hH ?_
                simp only [Act.put, List.setIfInBounds_toArray, List.set_cons_zero, List.set_cons_succ]
                refine wpAnyH_done (by kernel_rfl) ?_ _
                go_wp2_with fail
                go_meet
                case rel => exact ⟨rfl, hH⟩
          case rest =>
            obtain ⟨rfl, hbc⟩ := hcut
            have HB3 : Hid (Below W5.heap.size W5 wc) := below_step (Hid.out HB2) hbc
            have HBr : Hid (Below wr.heap.size wr wc) := below_step (Hid.out HBr) hbc
            have HL3 : Hid (Ts wc (.slice (some ⟨gl, 0, none⟩) l1.length lc) l1) := HL2.out.later hbc
            have HOF : Hid (OwnT wc w1.heap.size (.slice fa N fc) F) := HOF.out.later hbc
            clear hbc x0 x1 x2 BP6 BA6 gW HB2 HL2
            obtain ⟨W6, hW6⟩ : ∃ W6, W6 = wc := ⟨_, rfl⟩
            subst hW6
            obtain ⟨x0, x1, x2⟩ := HX.out
            have x0 := cell_step (Hid.out HB3) g5b x0
            have x1 := cell_step (Hid.out HB3) g5b x1
            have x2 := cell_step (Hid.out HB3) g5b x2
            have gW := lt_step (Hid.out HB3) g5b
            obtain ⟨tv, htv⟩ : ∃ b, Tm.var ⟨tk, tn, ts⟩ = b := ⟨_, rfl⟩
            have HTV : Hid (Tm.var ⟨tk, tn, ts⟩ = tv) := htv
            obtain ⟨kk, hkk⟩ : ∃ b, okb F bb tv = b := ⟨_, rfl⟩
            have HKK : Hid (okb F bb tv = kk) := hkk
            clear htv hkk
            go_upto_region 13 with fail
            go_cut [91] from 67 to 91 (fun s91 wx => s91 = .bool (!kk) ∧ Below W6.heap.size W6 wx)
            case first =>
              have hkk := HKK.out
              cases F with
              | nil =>
                obtain rfl : N = 0 := HN.out.symm
                obtain rfl : kk = true := hkk.symm
                clear hkk HKK
                cases bb
                · go_wp2_with fail
                  go_meet
                  case rel => exact ⟨rfl, Below.refl _ _⟩
                · cases tv
                  · go_wp2_with (go_at_call 44; refine (rvar_any ⟨tk, tn, ts⟩ _).mono ?_; rw [HTV.out]; rintro e w7 ⟨rfl, hb7⟩)
                    go_meet
                    case rel => exact ⟨rfl, hb7⟩
                  · go_wp2_with (go_at_call 44; refine (rvar_any ⟨tk, tn, ts⟩ _).mono ?_; rw [HTV.out]; rintro e w7 ⟨rfl, hb7⟩)
                    go_meet
                    case rel => exact ⟨rfl, hb7⟩
              | cons c r =>
                cases r with
                | nil =>
                  obtain rfl : N = 1 := HN.out.symm
                  obtain ⟨gf, gfc, hfe, -, gfb⟩ := ownT_form HOF.out (by simp)
                  simp only [List.length_cons, List.length_nil, Nat.zero_add, Value.slice.injEq, true_and] at hfe
                  obtain ⟨rfl, rfl⟩ := hfe
                  obtain ⟨y0, y1, y2⟩ := ownT_cells HOF.out 0 c rfl
                  simp only [Nat.zero_mul, Nat.zero_add] at y0 y1 y2
                  obtain ⟨pc, hpc⟩ : ∃ b, c.prin = b := ⟨_, rfl⟩
                  have HPC : Hid (c.prin = pc) := hpc
                  have hk2 : kk = !(bb && tv && !pc) := by rw [← hkk, ← hpc]; rfl
                  obtain ⟨ck, cn, cz⟩ := c
                  simp only at y0 y1 y2
                  clear hkk HKK hpc
                  subst hk2
                  cases bb
                  · clear y0 y1 y2
                    go_wp2_with fail
                    go_meet
                    case rel => exact ⟨rfl, Below.refl _ _⟩
                  · cases tv
                    · clear y0 y1 y2
                      go_wp2_with (go_at_call 44; refine (rvar_any ⟨tk, tn, ts⟩ _).mono ?_; rw [HTV.out]; rintro e w7 ⟨rfl, hb7⟩)
                      go_meet
                      case rel => exact ⟨rfl, hb7⟩
                    · go_wp2_with (first
                        | (go_at_call 44; refine (rvar_any ⟨tk, tn, ts⟩ _).mono ?_; rw [HTV.out]; rintro e w7 ⟨rfl, hb7⟩; have y0 := cell_step hb7 gfb y0; have y1 := cell_step hb7 gfb y1; have y2 := cell_step hb7 gfb y2)
                        | (go_at_call 56; refine (rprin_any ⟨ck, cn, cz⟩ _).mono ?_; rw [HPC.out]; rintro e w8 ⟨rfl, hb8⟩))
                      go_meet
                      case rel => exact ⟨by simp, below_step hb7 hb8⟩
                | cons d r =>
                  obtain rfl : N = r.length + 2 := HN.out.symm
                  obtain rfl : kk = false := hkk.symm
                  have hz : (1 : Int) < (r.length : Int) + 2 := by omega
                  have hz' : (1 : Int) < ((r.length + 2 : Nat) : Int) := by omega
                  clear hkk HKK
                  go_wp2_with fail
                  go_meet
                  case rel => exact ⟨rfl, Below.refl _ _⟩
            case rest =>
              obtain ⟨rfl, hbc⟩ := hcut
              have HOK : Hid (kk = true ↔ okc P A ⟨tk, tn, ts⟩ l1) := by
                have := okb_iff P A ⟨tk, tn, ts⟩ l1
                rw [HPB.out, HAB.out, HBB.out, HTV.out, HF.out, HKK.out] at this
                exact this
              have HMT : Hid (Tm.mk tk tn ts ∈ all) := List.mem_of_getElem? HT.out
              cases kk
              · have HBE : Hid (Below w.heap.size w wc) := below_step (below_step (Hid.out HW5) (Hid.out HB3)) hbc
                clear x0 x1 x2
                go_wp2
                refine bodyPost_ret (v := .tuple #[.slice none 0 0, .bool false]) (by simp [results, Tryd.results17, go_sem]) rfl ⟨Hid.out HBE, Or.inl ⟨Or.inr ⟨⟨tk, tn, ts⟩, ?_, l1, ?_, fun h => ?_⟩, rfl⟩⟩
                · rw [← HALL.out]; exact HMT.out
                · rw [← HPL.out, ← HAL.out]; exact HFU.out
                · have := HOK.out.2 h; cases this
              · have HB7 : Hid (Below W5.heap.size W5 wc) := below_step (Hid.out HB3) hbc
                have HL7 : Hid (Ts wc (.slice (some ⟨gl, 0, none⟩) l1.length lc) l1) := HL3.out.later hbc
                have HO7 : Hid (Own wc W5.heap.size (.slice ua out.length uc) out) := HO.out.later (below_step (Hid.out HBr) hbc)
                have HCN : Hid (∀ p ∈ (all.take (j + 1)).zip (C ++ [l1]), Full pl al p.1 p.2 ∧ okc P A p.1 p.2) := fun p hp => by
                  rw [HZ2.out] at hp
                  rcases List.mem_append.1 hp with hp | hp
                  · exact HCC.out p hp
                  · rw [List.mem_singleton.1 hp]; exact ⟨HFU.out, HOK.out.1 rfl⟩
                have HCL2 : Hid ((C ++ [l1]).length = j + 1) := by show _ = _; rw [List.length_append, HCL.out]; rfl
                have hst := fun (X : World) (h : Below wc.heap.size wc X) => rstands_any l1 ⟨tk, tn, ts⟩ HFU.out.cls.head _ X (HL7.out.later h) hl2
                obtain ⟨⟨sk, sn, sz⟩, hS⟩ : ∃ s, stn l1 ⟨tk, tn, ts⟩ = s := ⟨_, rfl⟩
                rw [hS] at hst
                have HST : Hid (∀ X, Below wc.heap.size wc X → Calls Tryd.prog 57 #[.slice (some ⟨gl, 0, none⟩) l1.length lc] X fun e w' => e = .returned (Tm.v ⟨sk, sn, sz⟩) ∧ Below X.heap.size X w') := hst
                obtain ⟨nq, hnq⟩ : ∃ b, decide (Tm.mk sk sn sz = ⟨tk, tn, ts⟩) = b := ⟨_, rfl⟩
                have HBD : Hid (bd1 ⟨tk, tn, ts⟩ l1 = if (tv && !nq) = true then [⟨tn, sk, sn, sz⟩] else []) := by
                  show _ = _
                  unfold bd1
                  rw [hS, HTV.out, ← hnq]
                  by_cases h : Tm.mk sk sn sz = ⟨tk, tn, ts⟩ <;> cases tv <;> simp [h]
                have e3 := run_neq_tm ⟨sk, sn, sz⟩ ⟨tk, tn, ts⟩
                rw [hnq] at e3
                clear hbc x0 x1 x2 gW hst hS hnq HB3 HL3 HO HBr HKK HOK HOF
                obtain ⟨W7, hW7⟩ : ∃ W7, W7 = wc := ⟨_, rfl⟩
                subst hW7
                obtain ⟨x0, x1, x2⟩ := HX.out
                have x0 := cell_step (Hid.out HB7) g5b x0
                have x1 := cell_step (Hid.out HB7) g5b x1
                have x2 := cell_step (Hid.out HB7) g5b x2
                have gW := lt_step (Hid.out HB7) g5b
                go_upto_region 15 with fail
                go_cut [105] from 92 to 105 (fun s105 wx => s105 = .bool (tv && !nq) ∧ Below W7.heap.size W7 wx)
                case first =>
                  cases tv
                  · clear e3
                    refine wp_region_held_drew (S := fun w' => Below W7.heap.size W7 w') (by kernel_rfl) (Below.refl _ _).drew (fun hH => ?_)
                    revert hH
                    generalize W7.drew = V
                    intro hH
                    refine wpAnyH_take (i := 0) (oi := ⟨_, _, _, _, _, _⟩) (v := .slice (some ⟨g5, 0, none⟩) all.length c5) rfl (by kernel_rfl) (by kernel_rfl) (by kernel_rfl) (fun _ _ _ h => h) (Or.inl ⟨by rfl, fun w' _ => by go_simp⟩) hH ?_
                    simp only [Act.put, List.setIfInBounds_toArray, List.set_cons_zero, List.set_cons_succ]
                    refine wpAnyH_take (i := 1) (oi := ⟨_, _, _, _, _, _⟩) (v := .int .i64 j) rfl (by kernel_rfl) (by kernel_rfl) (by kernel_rfl) (fun _ _ _ h => h) (Or.inl ⟨by rfl, fun w' _ => by go_simp⟩) hH ?_
                    simp only [Act.put, List.setIfInBounds_toArray, List.set_cons_zero, List.set_cons_succ]
                    refine wpAnyH_take (i := 2) (oi := ⟨_, _, _, _, _, _⟩) (v := .pointer (some ⟨g5, j * 3, none⟩)) rfl (by kernel_rfl) (by kernel_rfl) (by kernel_rfl) (fun _ _ _ h => h) (Or.inl ⟨by rfl, fun w' _ => by go_simp⟩) hH ?_
                    simp only [Act.put, List.setIfInBounds_toArray, List.set_cons_zero, List.set_cons_succ]
                    refine wpAnyH_take (i := 3) (oi := ⟨_, _, _, _, _, _⟩) (v := Tm.v ⟨tk, tn, ts⟩) rfl (by kernel_rfl) (by kernel_rfl) (by kernel_rfl) (fun _ _ _ h => h) (Or.inl ⟨by rfl, fun w' h => by have a0 := cell_step h gW x0; have a1 := cell_step h gW x1; have a2 := cell_step h gW x2; go_simp⟩) hH ?_
                    simp only [Act.put, List.setIfInBounds_toArray, List.set_cons_zero, List.set_cons_succ]
                    refine wpAnyH_ready (rs := [4]) (by kernel_rfl) (by simp) ?_
                    refine (AllReadyH.cons (o := ⟨_, _, _, _, _, _⟩) rfl (fun K hK => ?_) AllReadyH.nil)
                    go_simp
                    refine (rvar_any ⟨tk, tn, ts⟩ _).mono ?_
                    rw [HTV.out]; rintro e V1 ⟨rfl, hb1⟩
                    refine hK.out _ _ (below_step hH hb1) (fun hH => ?_)
                    clear hK K
                    refine wpAnyH_take (i := 5) (oi := ⟨_, _, _, _, _, _⟩) (v := .bool false) rfl (by kernel_rfl) (by kernel_rfl) (by kernel_rfl) (fun _ _ _ h => h) (Or.inl ⟨by rfl, fun w' _ => by go_simp⟩) hH ?_
                    simp only [Act.put, List.setIfInBounds_toArray, List.set_cons_zero, List.set_cons_succ]
                    refine wpAnyH_take (i := 6) (oi := ⟨_, _, _, _, _, _⟩) (v := undef) rfl (by kernel_rfl) (by kernel_rfl) (by kernel_rfl) (fun _ _ _ h => h) (Or.inr ⟨by rfl, rfl⟩) hH ?_
                    simp only [Act.put, List.setIfInBounds_toArray, List.set_cons_zero, List.set_cons_succ]
                    refine wpAnyH_take (i := 7) (oi := ⟨_, _, _, _, _, _⟩) (v := undef) rfl (by kernel_rfl) (by kernel_rfl) (by kernel_rfl) (fun _ _ _ h => h) (Or.inr ⟨by rfl, rfl⟩) hH ?_
                    simp only [Act.put, List.setIfInBounds_toArray, List.set_cons_zero, List.set_cons_succ]
                    refine wpAnyH_take (i := 8) (oi := ⟨_, _, _, _, _, _⟩) (v := undef) rfl (by kernel_rfl) (by kernel_rfl) (by kernel_rfl) (fun _ _ _ h => h) (Or.inr ⟨by rfl, rfl⟩) hH ?_
                    simp only [Act.put, List.setIfInBounds_toArray, List.set_cons_zero, List.set_cons_succ]
                    refine wpAnyH_take (i := 9) (oi := ⟨_, _, _, _, _, _⟩) (v := undef) rfl (by kernel_rfl) (by kernel_rfl) (by kernel_rfl) (fun _ _ _ h => h) (Or.inr ⟨by rfl, rfl⟩) hH ?_
                    simp only [Act.put, List.setIfInBounds_toArray, List.set_cons_zero, List.set_cons_succ]
                    refine wpAnyH_take (i := 10) (oi := ⟨_, _, _, _, _, _⟩) (v := undef) rfl (by kernel_rfl) (by kernel_rfl) (by kernel_rfl) (fun _ _ _ h => h) (Or.inr ⟨by rfl, rfl⟩) hH ?_
                    simp only [Act.put, List.setIfInBounds_toArray, List.set_cons_zero, List.set_cons_succ]
                    refine wpAnyH_take (i := 11) (oi := ⟨_, _, _, _, _, _⟩) (v := undef) rfl (by kernel_rfl) (by kernel_rfl) (by kernel_rfl) (fun _ _ _ h => h) (Or.inr ⟨by rfl, rfl⟩) hH ?_
                    simp only [Act.put, List.setIfInBounds_toArray, List.set_cons_zero, List.set_cons_succ]
                    refine wpAnyH_take (i := 12) (oi := ⟨_, _, _, _, _, _⟩) (v := undef) rfl (by kernel_rfl) (by kernel_rfl) (by kernel_rfl) (fun _ _ _ h => h) (Or.inr ⟨by rfl, rfl⟩) hH ?_
                    simp only [Act.put, List.setIfInBounds_toArray, List.set_cons_zero, List.set_cons_succ]
                    refine wpAnyH_take (i := 13) (oi := ⟨_, _, _, _, _, _⟩) (v := .bool false) rfl (by kernel_rfl) (by kernel_rfl) (by kernel_rfl) (fun _ _ _ h => h) (Or.inl ⟨by rfl, fun w' _ => by go_simp⟩) hH ?_
                    simp only [Act.put, List.setIfInBounds_toArray, List.set_cons_zero, List.set_cons_succ]
                    refine wpAnyH_done (by kernel_rfl) ?_ _
                    go_wp2_with fail
                    go_meet
                    case rel => exact ⟨rfl, hH⟩
                  · skip
                    refine wp_region_held_drew (S := fun w' => Below W7.heap.size W7 w') (by kernel_rfl) (Below.refl _ _).drew (fun hH => ?_)
                    revert hH
                    generalize W7.drew = V
                    intro hH
                    refine wpAnyH_take (i := 0) (oi := ⟨_, _, _, _, _, _⟩) (v := .slice (some ⟨g5, 0, none⟩) all.length c5) rfl (by kernel_rfl) (by kernel_rfl) (by kernel_rfl) (fun _ _ _ h => h) (Or.inl ⟨by rfl, fun w' _ => by go_simp⟩) hH ?_
                    simp only [Act.put, List.setIfInBounds_toArray, List.set_cons_zero, List.set_cons_succ]
                    refine wpAnyH_take (i := 1) (oi := ⟨_, _, _, _, _, _⟩) (v := .int .i64 j) rfl (by kernel_rfl) (by kernel_rfl) (by kernel_rfl) (fun _ _ _ h => h) (Or.inl ⟨by rfl, fun w' _ => by go_simp⟩) hH ?_
                    simp only [Act.put, List.setIfInBounds_toArray, List.set_cons_zero, List.set_cons_succ]
                    refine wpAnyH_take (i := 2) (oi := ⟨_, _, _, _, _, _⟩) (v := .pointer (some ⟨g5, j * 3, none⟩)) rfl (by kernel_rfl) (by kernel_rfl) (by kernel_rfl) (fun _ _ _ h => h) (Or.inl ⟨by rfl, fun w' _ => by go_simp⟩) hH ?_
                    simp only [Act.put, List.setIfInBounds_toArray, List.set_cons_zero, List.set_cons_succ]
                    refine wpAnyH_take (i := 3) (oi := ⟨_, _, _, _, _, _⟩) (v := Tm.v ⟨tk, tn, ts⟩) rfl (by kernel_rfl) (by kernel_rfl) (by kernel_rfl) (fun _ _ _ h => h) (Or.inl ⟨by rfl, fun w' h => by have a0 := cell_step h gW x0; have a1 := cell_step h gW x1; have a2 := cell_step h gW x2; go_simp⟩) hH ?_
                    simp only [Act.put, List.setIfInBounds_toArray, List.set_cons_zero, List.set_cons_succ]
                    refine wpAnyH_ready (rs := [4]) (by kernel_rfl) (by simp) ?_
                    refine (AllReadyH.cons (o := ⟨_, _, _, _, _, _⟩) rfl (fun K hK => ?_) AllReadyH.nil)
                    go_simp
                    refine (rvar_any ⟨tk, tn, ts⟩ _).mono ?_
                    rw [HTV.out]; rintro e V1 ⟨rfl, hb1⟩
                    refine hK.out _ _ (below_step hH hb1) (fun hH => ?_)
                    clear hK K
                    refine wpAnyH_take (i := 5) (oi := ⟨_, _, _, _, _, _⟩) (v := .bool true) rfl (by kernel_rfl) (by kernel_rfl) (by kernel_rfl) (fun _ _ _ h => h) (Or.inl ⟨by rfl, fun w' _ => by go_simp⟩) hH ?_
                    simp only [Act.put, List.setIfInBounds_toArray, List.set_cons_zero, List.set_cons_succ]
                    refine wpAnyH_take (i := 6) (oi := ⟨_, _, _, _, _, _⟩) (v := .slice (some ⟨gl, 0, none⟩) l1.length lc) rfl (by kernel_rfl) (by kernel_rfl) (by kernel_rfl) (fun _ _ _ h => h) (Or.inl ⟨by rfl, fun w' _ => by go_simp⟩) hH ?_
                    simp only [Act.put, List.setIfInBounds_toArray, List.set_cons_zero, List.set_cons_succ]
                    refine wpAnyH_take (i := 8) (oi := ⟨_, _, _, _, _, _⟩) (v := .slice (some ⟨g5, 0, none⟩) all.length c5) rfl (by kernel_rfl) (by kernel_rfl) (by kernel_rfl) (fun _ _ _ h => h) (Or.inl ⟨by rfl, fun w' _ => by go_simp⟩) hH ?_
                    simp only [Act.put, List.setIfInBounds_toArray, List.set_cons_zero, List.set_cons_succ]
                    refine wpAnyH_take (i := 9) (oi := ⟨_, _, _, _, _, _⟩) (v := .int .i64 j) rfl (by kernel_rfl) (by kernel_rfl) (by kernel_rfl) (fun _ _ _ h => h) (Or.inl ⟨by rfl, fun w' _ => by go_simp⟩) hH ?_
                    simp only [Act.put, List.setIfInBounds_toArray, List.set_cons_zero, List.set_cons_succ]
                    refine wpAnyH_take (i := 10) (oi := ⟨_, _, _, _, _, _⟩) (v := .pointer (some ⟨g5, j * 3, none⟩)) rfl (by kernel_rfl) (by kernel_rfl) (by kernel_rfl) (fun _ _ _ h => h) (Or.inl ⟨by rfl, fun w' _ => by go_simp⟩) hH ?_
                    simp only [Act.put, List.setIfInBounds_toArray, List.set_cons_zero, List.set_cons_succ]
                    refine wpAnyH_take (i := 11) (oi := ⟨_, _, _, _, _, _⟩) (v := Tm.v ⟨tk, tn, ts⟩) rfl (by kernel_rfl) (by kernel_rfl) (by kernel_rfl) (fun _ _ _ h => h) (Or.inl ⟨by rfl, fun w' h => by have a0 := cell_step h gW x0; have a1 := cell_step h gW x1; have a2 := cell_step h gW x2; go_simp⟩) hH ?_
                    simp only [Act.put, List.setIfInBounds_toArray, List.set_cons_zero, List.set_cons_succ]
                    refine wpAnyH_ready (rs := [7]) (by kernel_rfl) (by simp) ?_
                    refine (AllReadyH.cons (o := ⟨_, _, _, _, _, _⟩) rfl (fun K hK => ?_) AllReadyH.nil)
                    go_simp
                    refine (HST.out _ hH).mono ?_
                    rintro e V2 ⟨rfl, hb2⟩
                    refine hK.out _ _ (below_step hH hb2) (fun hH => ?_)
                    clear hK K
                    refine wpAnyH_take (i := 12) (oi := ⟨_, _, _, _, _, _⟩) (v := .bool (!nq)) rfl (by kernel_rfl) (by kernel_rfl) (by kernel_rfl) (fun _ _ _ h => h) (Or.inl ⟨by rfl, fun w' _ => by go_simp⟩) hH ?_
                    simp only [Act.put, List.setIfInBounds_toArray, List.set_cons_zero, List.set_cons_succ]
                    refine wpAnyH_take (i := 13) (oi := ⟨_, _, _, _, _, _⟩) (v := .bool (!nq)) rfl (by kernel_rfl) (by kernel_rfl) (by kernel_rfl) (fun _ _ _ h => h) (Or.inl ⟨by rfl, fun w' _ => by go_simp⟩) hH ?_
                    simp only [Act.put, List.setIfInBounds_toArray, List.set_cons_zero, List.set_cons_succ]
                    refine wpAnyH_done (by kernel_rfl) ?_ _
                    go_wp2_with fail
                    go_meet
                    case rel => exact ⟨rfl, hH⟩
                case rest =>
                  obtain ⟨rfl, hbc⟩ := hcut
                  have HB8 : Hid (Below W5.heap.size W5 wc) := below_step (Hid.out HB7) hbc
                  have HO8 : Hid (Own wc W5.heap.size (.slice ua out.length uc) out) := HO7.out.later hbc
                  have HST : Hid (∀ X, Below wc.heap.size wc X → Calls Tryd.prog 57 #[.slice (some ⟨gl, 0, none⟩) l1.length lc] X fun e w' => e = .returned (Tm.v ⟨sk, sn, sz⟩) ∧ Below X.heap.size X w') := fun X h => HST.out X (below_step hbc h)
                  clear hbc x0 x1 x2 gW HO7 HB7 HL7 e3
                  obtain ⟨W8, hW8⟩ : ∃ W8, W8 = wc := ⟨_, rfl⟩
                  subst hW8
                  obtain ⟨qq, hqq⟩ : ∃ q, (tv && !nq) = q := ⟨_, rfl⟩
                  rw [hqq] at HBD ⊢
                  clear hqq
                  cases qq
                  · go_wp2
                    go_roundg g
                    case measure => omega
                    case rel => exact ⟨j + 1, C ++ [l1], by omega, by go_num, HCL2.out, HCN.out, by rw [HZ.out, HBD.out]; simp; exact HO8.out, Hid.out HB8⟩
                  · go_upto_region 16 with fail
                    obtain ⟨y0, hy0, hy1, hy2, hy3⟩ := info_parts Tryd.infoBind
                    have oA := HO8.out.drew
                    have bV : Below W8.heap.size W8 W8.drew := (Below.refl _ _).drew
                    have hsV := HST.out _ bV
                    have m8 : W5.heap.size ≤ W8.drew.heap.size := (Hid.out HB8).drew.size
                    clear bV
                    refine wp_region_held_drew (S := fun w' => Below W5.heap.size W5 w') (by kernel_rfl) (Hid.out HB8).drew (fun hH => ?_)
                    revert hH oA hsV m8
                    generalize W8.drew = V
                    intro oA hsV m8 hH
                    refine wpAnyH_take (i := 0) (oi := ⟨_, _, _, _, _, _⟩) (v := .slice ua out.length uc) rfl (by kernel_rfl) (by kernel_rfl) (by kernel_rfl) (fun _ _ _ h => h) (Or.inl ⟨by rfl, fun w' _ => by go_simp⟩) hH ?_
                    simp only [Act.put, List.setIfInBounds_toArray, List.set_cons_zero, List.set_cons_succ]
                    refine wpAnyH_take (i := 1) (oi := ⟨_, _, _, _, _, _⟩) (v := .slice (some ⟨g5, 0, none⟩) all.length c5) rfl (by kernel_rfl) (by kernel_rfl) (by kernel_rfl) (fun _ _ _ h => h) (Or.inl ⟨by rfl, fun w' _ => by go_simp⟩) hH ?_
                    simp only [Act.put, List.setIfInBounds_toArray, List.set_cons_zero, List.set_cons_succ]
                    refine wpAnyH_take (i := 2) (oi := ⟨_, _, _, _, _, _⟩) (v := .int .i64 j) rfl (by kernel_rfl) (by kernel_rfl) (by kernel_rfl) (fun _ _ _ h => h) (Or.inl ⟨by rfl, fun w' _ => by go_simp⟩) hH ?_
                    simp only [Act.put, List.setIfInBounds_toArray, List.set_cons_zero, List.set_cons_succ]
                    refine wpAnyH_take (i := 3) (oi := ⟨_, _, _, _, _, _⟩) (v := .pointer (some ⟨g5, j * 3, none⟩)) rfl (by kernel_rfl) (by kernel_rfl) (by kernel_rfl) (fun _ _ _ h => h) (Or.inl ⟨by rfl, fun w' _ => by go_simp⟩) hH ?_
                    simp only [Act.put, List.setIfInBounds_toArray, List.set_cons_zero, List.set_cons_succ]
                    refine wpAnyH_take (i := 4) (oi := ⟨_, _, _, _, _, _⟩) (v := .pointer (some ⟨g5, j * 3 + 1, none⟩)) rfl (by kernel_rfl) (by kernel_rfl) (by kernel_rfl) (fun _ _ _ h => h) (Or.inl ⟨by rfl, fun w' _ => by go_simp⟩) hH ?_
                    simp only [Act.put, List.setIfInBounds_toArray, List.set_cons_zero, List.set_cons_succ]
                    refine wpAnyH_take (i := 5) (oi := ⟨_, _, _, _, _, _⟩) (v := .int .i64 tn) rfl (by kernel_rfl) (by kernel_rfl) (by kernel_rfl) (fun _ _ _ h => h) (Or.inl ⟨by rfl, fun w' h => by have a1 := cell_step h g5b (Hid.out HX).2.1; go_simp⟩) hH ?_
                    simp only [Act.put, List.setIfInBounds_toArray, List.set_cons_zero, List.set_cons_succ]
                    refine wpAnyH_take (i := 6) (oi := ⟨_, _, _, _, _, _⟩) (v := .slice (some ⟨gl, 0, none⟩) l1.length lc) rfl (by kernel_rfl) (by kernel_rfl) (by kernel_rfl) (fun _ _ _ h => h) (Or.inl ⟨by rfl, fun w' _ => by go_simp⟩) hH ?_
                    simp only [Act.put, List.setIfInBounds_toArray, List.set_cons_zero, List.set_cons_succ]
                    refine wpAnyH_ready (rs := [7]) (by kernel_rfl) (by simp) ?_
                    refine (AllReadyH.cons (o := ⟨_, _, _, _, _, _⟩) rfl (fun K hK => ?_) AllReadyH.nil)
                    go_simp
                    refine hsV.mono ?_
                    rintro e V1 ⟨rfl, hb1⟩
                    have oA := Own.later oA hb1
                    have m8 : W5.heap.size ≤ V1.heap.size := Nat.le_trans m8 hb1.size
                    refine hK.out _ _ (below_step hH hb1) (fun hH => ?_)
                    clear hK K hb1 hsV
                    refine wpAnyH_take (i := 8) (oi := ⟨_, _, _, _, _, _⟩) (v := .agg #[.int .i64 tn, .int .i64 sk, .int .i64 sn, .string sz]) rfl (by kernel_rfl) (by kernel_rfl) (by kernel_rfl) (fun _ _ _ h => h) (Or.inl ⟨by rfl, fun w' _ => by go_simp⟩) hH ?_
                    simp only [Act.put, List.setIfInBounds_toArray, List.set_cons_zero, List.set_cons_succ]
                    refine wpAnyH_ready (rs := [9]) (by kernel_rfl) (by simp) ?_
                    refine (AllReadyH.cons (o := ⟨_, _, _, _, _, _⟩) rfl (fun K hK => ?_) AllReadyH.nil)
                    go_simp
                    have fT := heap_alloc_new V1 (.cells #[.int .i64 tn, .int .i64 sk, .int .i64 sn, .string sz] 60)
                    have oT := Own.later oA (below1 V1 (.cells #[.int .i64 tn, .int .i64 sk, .int .i64 sn, .string sz] 60))
                    have bT := below1 V1 (.cells #[.int .i64 tn, .int .i64 sk, .int .i64 sn, .string sz] 60)
                    have b2 : Below W5.heap.size W5 (V1.alloc (.cells #[.int .i64 tn, .int .i64 sk, .int .i64 sn, .string sz] 60)) := hH.alloc m8 _
                    have sz1 : W5.heap.size ≤ (V1.alloc (.cells #[.int .i64 tn, .int .i64 sk, .int .i64 sn, .string sz] 60)).heap.size := Nat.le_trans m8 bT.size
                    refine hK.out _ _ b2 (fun hH => ?_)
                    clear hK K b2 bT oA
                    revert fT oT sz1 hH
                    generalize V1.alloc (.cells #[.int .i64 tn, .int .i64 sk, .int .i64 sn, .string sz] 60) = Vb
                    generalize hTT : V1.heap.size = T at *
                    intro fT oT sz1 hH
                    refine wpAnyH_ready (rs := [10]) (by kernel_rfl) (by simp) ?_
                    refine (AllReadyH.cons (o := ⟨_, _, _, _, _, _⟩) rfl (fun K hK => ?_) AllReadyH.nil)
                    refine step_append_lies _ rfl _ _ _ rfl W5.heap.size 60 y0 _ 4 40 Tryd.underlying28 hy0 hy1 hy2 hy3 rfl (by omega) (.slice ua out.length uc) out.length (bcs out) (by rfl) oT ⟨T, 0, none⟩ 1 1 (Bd.cs ⟨tn, sk, sn, sz⟩) (by rfl) (by rfl) (World.news_of_block (cs := (Bd.cs ⟨tn, sk, sn, sz⟩).toArray) (t := 60) (fr := (0, 0)) fT) (by simp [Value.oneCell', Bd.cs]) (by omega) (by unfold maxLen; omega) (by omega) sz1 _ rfl ?_
                    intro gg cap1 w9 hown1 hgrow hat hlt1
                    have hB9 : Below W5.heap.size W5 w9 := hH.grown hgrow sz1 (fun q e => (World.ownsRow.lt oT q e).1)
                    have R : Own w9 W5.heap.size (.slice (some ⟨gg, 0, none⟩) (out.length + 1) cap1) (out ++ [⟨tn, sk, sn, sz⟩]) := by unfold Own; rw [bcs_snoc, List.length_append]; exact hown1
                    have RR : Hid (Own w9 W5.heap.size (.slice (some ⟨gg, 0, none⟩) (out.length + 1) cap1) (out ++ [⟨tn, sk, sn, sz⟩])) := R
                    refine hK.out _ _ hB9 (fun hH => ?_)
                    clear hK K hown1 hgrow hat hlt1 oT fT R hB9
                    simp only [Act.put, List.setIfInBounds_toArray, List.set_cons_zero, List.set_cons_succ]
                    refine wpAnyH_take (i := 11) (oi := ⟨_, _, _, _, _, _⟩) (v := .slice (some ⟨gg, 0, none⟩) (out.length + 1) cap1) rfl (by kernel_rfl) (by kernel_rfl) (by kernel_rfl) (fun _ _ _ h => h) (Or.inl ⟨by rfl, fun w' _ => by go_simp⟩) hH ?_
                    simp only [Act.put, List.setIfInBounds_toArray, List.set_cons_zero, List.set_cons_succ]
                    refine wpAnyH_done (by kernel_rfl) ?_ _
                    have HF9 : Hid _ := hH
                    clear hH
                    go_wp2
                    go_roundg g
                    case measure => omega
                    case rel => exact ⟨j + 1, C ++ [l1], by omega, by go_num, HCL2.out, HCN.out, by rw [HZ.out, HBD.out]; exact RR.out, Hid.out HF9⟩
end Go.Proofs.YtlojgaigbdnjjabDoor
