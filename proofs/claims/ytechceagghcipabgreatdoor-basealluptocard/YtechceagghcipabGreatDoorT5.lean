import Derived.Test.YtechceagghcipabGreatDoorW2
import Derived.Test.YtechceagghcipabGreatDoorB6
import Derived.Deep.CutRange
import Derived.Test.YtechceagghcipabGreatDoorX1
import Derived.Test.YtechceagghcipabGreatDoorEB3
import Derived.Laws.AppendOwn
import Derived.Laws.AppendOwnNone
import Derived.Test.YtechceagghcipabGreatDoorRA2
import Derived.Test.YtechceagghcipabGreatDoorW3
import Derived.Test.YtechceagghcipabGreatDoorA1
import Derived.Test.YtechceagghcipabGreatDoorB7
namespace Go.Proofs.YtechceagghcipabGreatDoor
open Go.RowKit
theorem ownT_one (w : World) (o : Obj) (t : Tm) : OwnT ((w.alloc o).alloc (.cells #[.int .i64 t.k, .int .i64 t.n, .string t.s] 30)) (w.heap.size + 1) (.slice (some ⟨w.heap.size + 1, 0, none⟩) 1 1) [t] := by
 refine ⟨by simp [tcs, Tm.cs], Or.inr ⟨_, 1, #[.int .i64 t.k, .int .i64 t.n, .string t.s], rfl, Nat.le_refl _, heap_alloc2_new _ _ _, Nat.le_refl _, by unfold maxLen; omega, by simp, by simp [tcs, Tm.cs]⟩⟩
theorem tcs_cons (t : Tm) (l : List Tm) : tcs (t :: l) = tcs [t] ++ tcs l := by simp [tcs]
set_option maxHeartbeats 2000000 in
theorem rplaces_any (a : At) (x : Value) (w : World) (h : TsO w x a.args) :
  Calls Tryz.prog 91 #[a.v x] w fun e w' => ∃ v', e = .returned v' /\ OwnT w' w.heap.size v' a.pl /\ Below w.heap.size w w' := by
 obtain ⟨i0, hi0, hz0, hz1, hz2⟩ := info_parts Tryz.infoTerm
 obtain ⟨⟨k, n, ss⟩, nm, l⟩ := a
 simp only [At.pl] at h ⊢
 rcases h with ⟨rfl, rfl⟩ | ⟨ad, cap, rfl, hl, h⟩
 ·have h1 := ownT_one w (.cells #[.int .i64 k, .int .i64 n, .string ss, .string nm, .slice none 0 0] 33) ⟨k, n, ss⟩
  have H1 : Hid _ := h1
  clear h1
  go_enter Tryz.func91, Tryz.ntmps91
  go_wp2_with (at_builtin; refine wpList_append_own_none _ _ _ _ rfl (w.heap.size + 1) 30 i0 3 Tryz.underlying31 hi0 (.slice (some ⟨w.heap.size + 1, 0, none⟩) 1 1) 1 (tcs [⟨k, n, ss⟩]) (by rfl) H1.out (by rfl) ?_)
  go_ret
  exact ⟨_, rfl, OwnT.mono H1.out (by omega), below2 _ _ _⟩
 ·have h1 := ownT_one w (.cells #[.int .i64 k, .int .i64 n, .string ss, .string nm, .slice (some ad) l.length cap] 33) ⟨k, n, ss⟩
  have H1 : Hid _ := h1
  clear h1
  have hnw : ∀ j u, (tcs l)[j]? = some u -> ((w.alloc (.cells #[.int .i64 k, .int .i64 n, .string ss, .string nm, .slice (some ad) l.length cap] 33)).alloc (.cells #[.int .i64 k, .int .i64 n, .string ss] 30)).cell? (ad.add j) = some u := by
   rcases h with h | ⟨b, o, rfl, h⟩
   ·subst h; intro j u hu; simp [tcs] at hu
   ·exact trow_get (h.later (below2 _ _ _))
  have HN : Hid _ := hnw
  clear h hnw
  go_enter Tryz.func91, Tryz.ntmps91
  go_wp2_with (at_builtin; refine wpList_append_own _ rfl _ _ _ rfl (w.heap.size + 1) 30 i0 _ 3 32 Tryz.underlying31 hi0 hz0 hz1 hz2 rfl (by omega) (.slice (some ⟨w.heap.size + 1, 0, none⟩) 1 1) 1 (tcs [⟨k, n, ss⟩]) (by rfl) H1.out ad l.length cap (tcs l) (by rfl) (tcs_len l) HN.out (fun u hu => tcs_mem hu) (by unfold maxLen; omega) (by omega) (by simp) ?_; intro v1 w1 hown hgrow hnil)
  go_ret
  refine ⟨_, rfl, ?_, ?_⟩
  ·refine OwnT.mono (b := w.heap.size + 1) ?_ (by omega)
   unfold OwnT
   rw [tcs_cons, List.length_cons, Nat.add_comm l.length 1]
   exact hown
  ·exact (below2 _ _ _).grown hgrow (by simp; omega) (fun q e => by simp [Value.ownBlock] at e; omega)
set_option maxHeartbeats 1000000 in
theorem ramong_any (l : List Int) (v : Value) (x : Int) (base : Nat) (w : World) (h : OwnI w base v l) (hl : l.length < 1000000000000000000) :
  Calls Tryz.prog 101 #[v, .int .i64 x] w fun e w' => e = .returned (.bool (hasI l x)) /\ Below w.heap.size w w' := by
 have HO : Hid (OwnI w base v l) := h
 obtain ⟨ad, cap, rfl⟩ := ownI_len h
 clear h
 go_enter Tryz.func101, Tryz.ntmps101
 go_wp2
 go_loopg [5] l.length (fun g i wr => ∃ j : Nat, j + g = l.length /\ i = .int .i64 j /\ hasI (l.take j) x = false /\ wr = w)
 case atStart => exact ⟨0, by omega, rfl, rfl, rfl⟩
 case round =>
  obtain ⟨j, hj, rfl, hx, rfl⟩ := hrel
  have HI : Hid (hasI (l.take j) x = false) := hx
  have hoq := HO.out
  clear hx
  cases gk with
  | succ g =>
   have hlt : j < l.length := by omega
   obtain ⟨e, he⟩ : ∃ e, l[j]? = some e := ⟨_, List.getElem?_eq_getElem hlt⟩
   obtain ⟨gg, cc, hv, hg1, hg2⟩ := ownI_form hoq (by omega)
   simp only [Value.slice.injEq, true_and] at hv
   obtain ⟨rfl, rfl⟩ := hv
   have e0 := ownI_cells hoq j e he
   have HE : Hid (l[j]? = some e) := he
   clear he hoq
   have j1 : (0 : Int) <= (j : Int) := by omega
   have j2 : (j : Int) < (l.length : Int) := by omega
   by_cases hxx : e = x
   ·have hq : (e == x) = true := by simpa using hxx
    have HH : Hid (hasI l x = true) := hasI_yes l x j _ HE.out hxx
    go_wp2
    go_ret
    exact ⟨ret_b HH.out.symm, Below.refl _ _⟩
   ·have hq : (e == x) = false := by simpa using hxx
    have hxx : Hid (¬ e = x) := hxx
    go_wp2
    go_roundg g
    case measure => omega
    case rel => exact ⟨j + 1, by omega, by go_num, hasI_no l x j _ HE.out HI.out hxx.out, rfl⟩
  | zero =>
   obtain rfl : j = l.length := by omega
   have HH : Hid (hasI l x = false) := by have := HI.out; rwa [List.take_length] at this
   have hz : ¬ ((l.length : Int) < (l.length : Int)) := by omega
   clear hoq
   go_wp2
   go_ret
   exact ⟨ret_b HH.out.symm, Below.refl _ _⟩
set_option maxHeartbeats 2000000 in
theorem rvars_any (a : At) (x : Value) (w : World) (h : TsO w x a.args) :
  Calls Tryz.prog 69 #[a.v x] w fun e w' => ∃ v', e = .returned v' /\ OwnI w' w.heap.size v' (vs a.pl) /\ Below w.heap.size w w' := by
 obtain ⟨i0, hi0, hz0, hz1, hz2⟩ := info_parts Tryz.infoInt
 have hal : a.args.length <= 4398046511104 := by
  rcases h with ⟨-, h⟩ | ⟨ad, cap, h1, h2, h3⟩
  ·rw [h]; simp
  ·omega
 have hpl := fun (X : World) (hb : Below w.heap.size w X) => rplaces_any a x X (h.later hb)
 have HPl : Hid _ := hpl
 obtain ⟨⟨k, n, ss⟩, nm, l⟩ := a
 obtain ⟨pl, hp⟩ : ∃ pl, pl = (At.mk ⟨k, n, ss⟩ nm l).pl := ⟨_, rfl⟩
 have hn : pl.length <= 4398046511105 := by rw [hp]; simp [At.pl]; simpa using hal
 have hn0 : 0 < pl.length := by rw [hp]; simp [At.pl]
 rw [<- hp] at HPl ⊢
 clear hp hal h hpl
 go_enter Tryz.func69, Tryz.ntmps69
 go_wp2_with (go_at_call 91; refine (HPl.out _ (below1 _ _)).mono ?_; rintro e w1 ⟨lv, rfl, hol, hb1⟩)
 have hb0 : Below w.heap.size w w1 := below_step (below1 _ _) hb1
 obtain ⟨G, gcap, rfl, -, hGl⟩ := World.ownsRow.form hol hn0
 have HOL : Hid (OwnT w1 _ (.slice (some ⟨G, 0, none⟩) pl.length gcap) pl) := hol
 clear hol hb1 HPl
 go_loopg [4, 5] pl.length (fun g u i wr => ∃ j : Nat, j + g = pl.length /\ i = .int .i64 j /\ OwnI wr w1.heap.size u (vs (pl.take j)) /\ Below w1.heap.size w1 wr)
 case atStart => exact ⟨0, by omega, rfl, ownI_nil _ _, Below.refl _ _⟩
 case round =>
  obtain ⟨j, hj, rfl, hown, hbr⟩ := hrel
  cases gk with
  | succ g =>
   have hlt : j < pl.length := by omega
   obtain ⟨t, ht⟩ : ∃ t, pl[j]? = some t := ⟨_, List.getElem?_eq_getElem hlt⟩
   have HV := vs_take pl j t ht
   have HL := vs_len (pl.take j)
   rw [List.length_take] at HL
   obtain ⟨c0, c1, c2⟩ := ownT_cells HOL.out j t ht
   have c0 := cell_step hbr hGl c0
   have c1 := cell_step hbr hGl c1
   have c2 := cell_step hbr hGl c2
   have gW := lt_step hbr hGl
   obtain ⟨tk, tn, ts⟩ := t
   simp only at c0 c1 c2
   generalize vs (pl.take j) = out at hown HV HL
   have HS : Hid (vs (pl.take (j + 1)) = vS out ⟨tk, tn, ts⟩) := HV
   have hol : out.length <= 4398046511105 := by omega
   obtain ⟨ad', cap', rfl⟩ := ownI_len hown
   have HO : Hid (OwnI wr w1.heap.size (.slice ad' out.length cap') out) := hown
   clear HV HL ht hown
   have i1 : (0 : Int) <= (j : Int) := by omega
   have i2 : (j : Int) < (pl.length : Int) := by omega
   cases bv : Tm.var ⟨tk, tn, ts⟩
   ·have HB : Hid (Tm.var ⟨tk, tn, ts⟩ = false) := bv
    clear bv
    go_wp2_with (go_at_call 90; refine (rvar_any ⟨tk, tn, ts⟩ _).mono ?_; rw [HB.out]; rintro e w3 ⟨rfl, hb3⟩)
    go_roundg g
    case measure => omega
    case rel => exact ⟨j + 1, by omega, by go_num, by rw [HS.out, vS_not _ _ HB.out]; exact HO.out.later hb3, below_step hbr hb3⟩
   ·have HB : Hid (Tm.var ⟨tk, tn, ts⟩ = true) := bv
    clear bv
    cases hm : hasI out tn
    ·have HM : Hid (hasI out tn = false) := hm
     clear hm
     go_wp2_with (first
      | (go_at_call 90; refine (rvar_any ⟨tk, tn, ts⟩ _).mono ?_; rw [HB.out]; rintro e w3 ⟨rfl, hb3⟩; have d1 := cell_step hb3 gW c1; have gX := lt_step hb3 gW; clear c0 c1 c2)
      | (go_at_call 101; refine (ramong_any out _ tn _ _ (HO.out.later hb3) (by omega)).mono ?_; rw [HM.out]; rintro e w4 ⟨rfl, hb4⟩; have e1 := cell_step hb4 gX d1; have HO4 : Hid (OwnI w4 w1.heap.size (.slice ad' out.length cap') out) := HO.out.later (below_step hb3 hb4); have hbW : Hid (Below w1.heap.size w1 w4) := below_step (below_step hbr hb3) hb4; have hsz : w1.heap.size <= w4.heap.size := (Hid.out hbW).size; clear d1 hb3 hb4)
      | (at_builtin; refine wpList_append_lies _ rfl _ _ _ rfl w1.heap.size 3 i0 _ 1 8 Tryz.underlying67 hi0 hz0 hz1 hz2 rfl (by omega) (.slice ad' out.length cap') out.length (ics out) (by rfl) (HO4.out.later (below1 _ _)) ⟨w4.heap.size, 0, none⟩ 1 1 [.int .i64 tn] (by rfl) (by rfl) (World.news_of_block (cs := #[.int .i64 tn]) (t := 3) (fr := (0, 0)) (heap_alloc_new w4 _)) (by simp [Value.oneCell']) (by omega) (by unfold maxLen; omega) (by omega) (by simp; omega) (w4.heap.size + 1) (by simp) ?_; intro gg cap1 w5 hown1 hgrow hat hlt1))
     have R : OwnI w5 w1.heap.size (.slice (some ⟨gg, 0, none⟩) (out.length + 1) cap1) (out ++ [tn]) := by
      unfold OwnI; rw [ics_snoc, List.length_append]; exact hown1
     have hlto := (HO4.out.later (below1 w4 (.cells #[.int .i64 tn] 3))).lt
     have RB : Below w1.heap.size w1 w5 := ((Hid.out hbW).alloc (Hid.out hbW).size _).grown hgrow (by simp; omega) (fun q e => by have := hlto _ e; omega)
     have RO : Hid (OwnI w5 w1.heap.size (.slice (some ⟨gg, 0, none⟩) (out.length + 1) cap1) (out ++ [tn])) := R
     clear hown1 hgrow hat hlt1 R hlto
     go_wp2
     go_roundg g
     case measure => omega
     case rel => exact ⟨j + 1, by omega, by go_num, by rw [HS.out, vS_new _ _ HB.out HM.out]; exact RO.out, RB⟩
    ·have HM : Hid (hasI out tn = true) := hm
     clear hm
     go_wp2_with (first
      | (go_at_call 90; refine (rvar_any ⟨tk, tn, ts⟩ _).mono ?_; rw [HB.out]; rintro e w3 ⟨rfl, hb3⟩; have d1 := cell_step hb3 gW c1; have gX := lt_step hb3 gW; clear c0 c1 c2)
      | (go_at_call 101; refine (ramong_any out _ tn _ _ (HO.out.later hb3) (by omega)).mono ?_; rw [HM.out]; rintro e w4 ⟨rfl, hb4⟩))
     go_roundg g
     case measure => omega
     case rel => exact ⟨j + 1, by omega, by go_num, by rw [HS.out, vS_old _ _ HB.out HM.out]; exact HO.out.later (below_step hb3 hb4), below_step (below_step hbr hb3) hb4⟩
  | zero =>
   have HT : pl.take j = pl := List.take_of_length_le (by omega)
   rw [HT] at hown
   have HO : Hid (OwnI wr w1.heap.size u4 (vs pl)) := hown
   have hz : ¬ ((j : Int) < (pl.length : Int)) := by omega
   clear HT hown
   go_wp2
   go_ret
   exact ⟨_, rfl, HO.out.mono hb0.size, below_step hb0 hbr⟩
end Go.Proofs.YtechceagghcipabGreatDoor
namespace Go.Proofs.YtechceagghcipabGreatDoor
open Go.RowKit
attribute [local go_sem ↓] Go.wp_at_zero Go.wp_at_succ
theorem vs_zero : ∀ (pl : List Tm) (l : List Int), (pl.foldl vS l).length = 0 ↔ (l.length = 0 /\ pl.any Tm.var = false) := by
 intro pl
 induction pl with
 | nil => intro l; simp
 | cons t pl ih =>
  intro l
  rw [List.foldl_cons, ih, List.any_cons]
  cases hv : t.var
  ·rw [vS_not _ _ hv]; simp
  ·cases hh : hasI l t.n
   ·rw [vS_new _ _ hv hh]; simp
   ·rw [vS_old _ _ hv hh]
    simp only [Bool.true_or, Bool.true_eq_false, and_false, iff_false, not_and]
    intro h0
    rw [List.length_eq_zero_iff] at h0
    subst h0; cases hh
set_option maxHeartbeats 1000000 in
theorem rfact_any (a : At) (x : Value) (w : World) (h : TsO w x a.args) :
  Calls Tryz.prog 37 #[a.v x] w fun e w' => e = .returned (.bool a.fact) /\ Below w.heap.size w w' := by
 have ck := fun (X : World) (hb : Below w.heap.size w X) => rchk_any a x X (h.later hb).ts
 have vv := fun (X : World) (hb : Below w.heap.size w X) => rvars_any a x X (h.later hb)
 obtain ⟨c, hc⟩ : ∃ c, a.err = c := ⟨_, rfl⟩
 obtain ⟨L, hL⟩ : ∃ L, vs a.pl = L := ⟨_, rfl⟩
 have hz := vs_zero a.pl []
 rw [show a.pl.foldl vS [] = L from hL] at hz
 obtain ⟨r, hr⟩ : ∃ r, a.fact = r := ⟨_, rfl⟩
 rw [hr]
 have hr2 : (decide (c = 0) && decide (L.length = 0)) = r := by
  rw [<- hr]; unfold At.fact; rw [hc]
  congr 1
  cases ha : a.pl.any Tm.var
  ·rw [decide_eq_true (hz.2 ⟨rfl, ha⟩)]; rfl
  ·rw [decide_eq_false (fun h0 => by rw [ha] at hz; cases (hz.1 h0).2)]; rfl
 have HR : Hid ((decide (c = 0) && decide (L.length = 0)) = r) := hr2
 rw [hc] at ck
 rw [hL] at vv
 have HC : Hid _ := ck
 have HV : Hid _ := vv
 obtain ⟨⟨k, n, ss⟩, nm, l⟩ := a
 clear ck vv hc hL hz hr hr2 h
 by_cases h0 : c = 0
 ·have q0 : (c == 0) = true := by simp [h0]
  have HR2 : Hid (decide (L.length = 0) = r) := by show _ = _; rw [<- HR.out, h0]; rfl
  have q1 : ((L.length : Int) == 0) = decide (L.length = 0) := by by_cases h : L.length = 0 <;> simp [h]
  rw [HR2.out] at q1
  clear HR h0
  go_enter Tryz.func37, Tryz.ntmps37
  go_wp2_with (first
   | (go_at_call 68; refine (HC.out _ (below1 _ _)).mono ?_; rintro e w1 ⟨rfl, hb1⟩; obtain ⟨p0, p1, p2, p3, p4⟩ := five ((Blk.new w #[.int .i64 k, .int .i64 n, .string ss, .string nm, x] 33).later hb1))
   | (go_at_call 69; refine (HV.out _ (below_step (below1 _ _) hb1)).mono ?_; rintro e w2 ⟨lv, rfl, hol, hb2⟩; obtain ⟨la, lc, rfl⟩ := ownI_len hol; clear hol))
  go_ret
  exact ⟨ret_b rfl, below_step (below_step (below1 _ _) hb1) hb2⟩
 ·have q0 : (c == 0) = false := by simpa using h0
  have HR2 : Hid (false = r) := by show _ = _; rw [<- HR.out, decide_eq_false h0]; rfl
  clear HR h0
  go_enter Tryz.func37, Tryz.ntmps37
  go_wp2_with (go_at_call 68; refine (HC.out _ (below1 _ _)).mono ?_; rintro e w1 ⟨rfl, hb1⟩)
  go_ret
  exact ⟨ret_b HR2.out, below_step (below1 _ _) hb1⟩
def left (c : Int) (l l' : List Tm) : Int := if c = 0 then cmpL l l' else c
set_option maxRecDepth 20000 in
set_option maxHeartbeats 2000000 in
theorem rcmpA_any (p a : At) (x y : Value) (w : World) (hx : Ts w x p.args) (hy : Ts w y a.args) (sp : ∀ t ∈ p.pl, t.s.size <= maxLen) (sa : ∀ t ∈ a.pl, t.s.size <= maxLen) (np : p.name.size <= maxLen) (na : a.name.size <= maxLen) :
  Calls Tryz.prog 38 #[p.v x, a.v y] w fun e w' => e = .returned (.int .i64 (p.cmp a)) /\ Below w.heap.size w w' := by
 obtain ⟨⟨k, n, ss⟩, nm, l⟩ := p
 obtain ⟨⟨k', n', ss'⟩, nm', l'⟩ := a
 simp only at hx hy np na
 obtain ⟨r, hr⟩ : ∃ r, At.cmp ⟨⟨k, n, ss⟩, nm, l⟩ ⟨⟨k', n', ss'⟩, nm', l'⟩ = r := ⟨_, rfl⟩
 rw [hr]
 have HX : Hid (Ts w x l) := hx
 have HY : Hid (Ts w y l') := hy
 obtain ⟨ad, cap, rfl, hl, -⟩ := hx
 obtain ⟨ad', cap', rfl, hl', -⟩ := hy
 have ct := fun (X : World) => texts_any nm nm' X np na
 have cb := fun (X : World) => rcompare_any ⟨k, n, ss⟩ ⟨k', n', ss'⟩ X (sp _ (by simp [At.pl])) (sa _ (by simp [At.pl]))
 obtain ⟨c1, h1⟩ : ∃ c, sgS nm nm' = c := ⟨_, rfl⟩
 obtain ⟨c2, h2⟩ : ∃ c, Tm.cmp ⟨k, n, ss⟩ ⟨k', n', ss'⟩ = c := ⟨_, rfl⟩
 have hz1 : c1 = 0 ↔ nm.toList = nm'.toList := by rw [<- h1]; exact M.sgL_zero _ _
 have hi0 : M.sgI (l.length : Int) (l'.length : Int) = 0 ↔ l.length = l'.length := by unfold M.sgI; constructor <;> intro h <;> (try split at h) <;> (try split at h) <;> (try split) <;> (try split) <;> omega
 have hr2 : (if c1 ≠ 0 then c1 else if M.sgI l.length l'.length ≠ 0 then M.sgI l.length l'.length else left c2 l l') = r := by
  rw [<- hr]; unfold At.cmp left
  simp only [At.pl, cmpL, h2]
  by_cases e1 : nm.toList = nm'.toList
  ·rw [if_neg (show ¬ c1 ≠ 0 from fun h => h (hz1.2 e1)), if_neg (show ¬ nm.toList ≠ nm'.toList from fun h => h e1)]
   by_cases e2 : l.length = l'.length
   ·rw [if_neg (show ¬ M.sgI (l.length : Int) (l'.length : Int) ≠ 0 from fun h => h (hi0.2 e2)), if_neg (show ¬ l.length ≠ l'.length from fun h => h e2)]
    by_cases e3 : c2 = 0 <;> simp [e3]
   ·rw [if_pos (show M.sgI (l.length : Int) (l'.length : Int) ≠ 0 from fun h => e2 (hi0.1 h)), if_pos (show l.length ≠ l'.length from e2)]
  ·rw [if_pos (show c1 ≠ 0 from fun h => e1 (hz1.1 h)), if_pos (show nm.toList ≠ nm'.toList from e1)]; exact h1.symm
 rw [h1] at ct
 rw [h2] at cb
 have hll : M.sgI (l.length : Int) (l'.length : Int) = 0 -> l.length = l'.length := hi0.1
 obtain ⟨c3, h3⟩ : ∃ c, M.sgI (l.length : Int) (l'.length : Int) = c := ⟨_, rfl⟩
 rw [h3] at hr2 hll
 have ci := fun (X : World) => ints_any (l.length : Int) (l'.length : Int) X
 rw [h3] at ci
 have HR : Hid ((if c1 ≠ 0 then c1 else if c3 ≠ 0 then c3 else left c2 l l') = r) := hr2
 have HT : Hid _ := ct
 have HCB : Hid _ := cb
 have HCI : Hid _ := ci
 have SP : Hid (∀ t ∈ l, t.s.size <= maxLen) := fun t ht => sp t (by simp [At.pl, ht])
 have SA : Hid (∀ t ∈ l', t.s.size <= maxLen) := fun t ht => sa t (by simp [At.pl, ht])
 have HLL : Hid (c3 = 0 -> l.length = l'.length) := hll
 clear ct cb ci h1 h2 h3 hz1 hi0 hr2 hr sp sa np na hll
 -- c as it is ahead of the loop
 go_enter Tryz.func38, Tryz.ntmps38
 go_upto_region 2 with (go_at_call 70; refine (HT.out _).mono ?_; rintro e w1 ⟨rfl, hb1⟩)
 have BP : Hid (Blk w1 w.heap.size #[.int .i64 k, .int .i64 n, .string ss, .string nm, .slice ad l.length cap] 33) := (Blk.old _ _ _ _).later hb1
 have BA : Hid (Blk w1 (w.heap.size + 1) #[.int .i64 k', .int .i64 n', .string ss', .string nm', .slice ad' l'.length cap'] 33) := (Blk.new2 _ _ _ _).later hb1
 have BW : Hid (Below w.heap.size w w1) := below_step (below2 _ _ _) hb1
 clear hb1 HT
 obtain ⟨d1, hd1⟩ : ∃ d, (if c1 = 0 then c3 else c1) = d := ⟨_, rfl⟩
 obtain ⟨d2, hd2⟩ : ∃ d, (if d1 = 0 then c2 else d1) = d := ⟨_, rfl⟩
 have HD : Hid ((¬ d2 = 0 -> d2 = r) /\ (d2 = 0 -> cmpL l l' = r /\ l.length = l'.length)) := by
  have := HR.out
  have hh := HLL.out
  show (_ -> _) /\ (_ -> _)
  by_cases e1 : c1 = 0
  ·rw [if_pos e1] at hd1
   subst hd1
   by_cases e3 : c3 = 0
   ·rw [if_pos e3] at hd2
    subst hd2
    rw [if_neg (fun h => h e1), if_neg (fun h => h e3)] at this
    unfold left at this
    exact ⟨fun h => by rw [if_neg h] at this; exact this, fun h => ⟨by rw [if_pos h] at this; exact this, hh e3⟩⟩
   ·rw [if_neg e3] at hd2
    subst hd2
    rw [if_neg (fun h => h e1), if_pos e3] at this
    exact ⟨fun _ => this, fun h => absurd h e3⟩
  ·rw [if_neg e1] at hd1
   subst hd1
   rw [if_neg e1] at hd2
   subst hd2
   rw [if_pos e1] at this
   exact ⟨fun _ => this, fun h => absurd h e1⟩
 have H1 : Hid ((if c1 = 0 then c3 else c1) = d1) := hd1
 have H2 : Hid ((if d1 = 0 then c2 else d1) = d2) := hd2
 clear hd1 hd2 HR HLL
 go_upto_if 13 with fail
 go_cut [5] from 13 to 20 (fun s5 wx => s5 = .int .i64 d1 /\ Below w1.heap.size w1 wx)
 case first =>
  obtain ⟨p0, p1, p2, p3, p4⟩ := five (Hid.out BP)
  obtain ⟨q0, q1, q2, q3, q4⟩ := five (Hid.out BA)
  by_cases e1 : c1 = 0
  ·have z : (c1 == 0) = true := by simp [e1]
   have E1 : Hid (c1 = 0) := e1
   clear e1
   go_wp2_with (go_at_call 71; refine (HCI.out _).mono ?_; rintro e w2 ⟨rfl, rfl⟩)
   go_meet
   case rel => exact ⟨by rw [<- H1.out, if_pos E1.out], Below.refl _ _⟩
  ·have z : (c1 == 0) = false := by simpa using e1
   go_wp2_with fail
   go_meet
   case rel => exact ⟨by rw [<- H1.out, if_neg e1], Below.refl _ _⟩
 case rest =>
  obtain ⟨rfl, hbc⟩ := hcut
  have BP : Hid (Blk wc _ _ _) := Blk.later (Hid.out BP) hbc
  have BA : Hid (Blk wc _ _ _) := Blk.later (Hid.out BA) hbc
  have BW : Hid (Below w.heap.size w wc) := below_step (Hid.out BW) hbc
  clear hbc
  obtain ⟨W2, hW2⟩ : ∃ W2, W2 = wc := ⟨_, rfl⟩
  subst hW2
  go_upto_if 22 with fail
  go_cut [5] from 22 to 27 (fun s5 wx => s5 = .int .i64 d2 /\ Below W2.heap.size W2 wx)
  case first =>
   obtain ⟨p0, p1, p2, p3, p4⟩ := five (Hid.out BP)
   obtain ⟨q0, q1, q2, q3, q4⟩ := five (Hid.out BA)
   by_cases e1 : d1 = 0
   ·have z : (d1 == 0) = true := by simp [e1]
    have E1 : Hid (d1 = 0) := e1
    clear e1
    go_wp2_with (go_at_call 72; refine (HCB.out _).mono ?_; rintro e w2 ⟨rfl, hb2⟩)
    go_meet
    case rel => exact ⟨by rw [<- H2.out, if_pos E1.out], hb2⟩
   ·have z : (d1 == 0) = false := by simpa using e1
    go_wp2_with fail
    go_meet
    case rel => exact ⟨by rw [<- H2.out, if_neg e1], Below.refl _ _⟩
  case rest =>
   obtain ⟨rfl, hbc⟩ := hcut
   have BP3 := Blk.later (Hid.out BP) hbc
   have BA3 := Blk.later (Hid.out BA) hbc
   have BW3 := below_step (Hid.out BW) hbc
   clear hbc BP BA BW
   go_wp2
   go_loopg [5, 6] l.length (fun g u i wr => ∃ (j : Nat) (c : Int), j + g = l.length /\ i = .int .i64 j /\ u = .int .i64 c /\ ((¬ c = 0 -> c = r) /\ (c = 0 -> cmpL (l.drop j) (l'.drop j) = r /\ l.length = l'.length)) /\ Below w.heap.size w wr /\ Blk wr w.heap.size #[.int .i64 k, .int .i64 n, .string ss, .string nm, .slice ad l.length cap] 33 /\ Blk wr (w.heap.size + 1) #[.int .i64 k', .int .i64 n', .string ss', .string nm', .slice ad' l'.length cap'] 33)
   case atStart => exact ⟨0, d2, by omega, rfl, rfl, by simpa using HD.out, BW3, BP3, BA3⟩
   case round =>
    obtain ⟨j, c, hj, rfl, rfl, hcc, hbr, hBP, hBA⟩ := hrel
    have HC : Hid ((¬ c = 0 -> c = r) /\ (c = 0 -> cmpL (l.drop j) (l'.drop j) = r /\ l.length = l'.length)) := hcc
    have BP : Hid (Blk wr _ _ _) := hBP
    have BA : Hid (Blk wr _ _ _) := hBA
    clear hcc hBP hBA BW3 BP3 BA3 HD
    by_cases e1 : c = 0
    ·have z : (c == 0) = true := by simp [e1]
     have hc2 : Hid (cmpL (l.drop j) (l'.drop j) = r /\ l.length = l'.length) := HC.out.2 e1
     have E1 : Hid (c = 0) := e1
     clear e1
     cases gk with
     | succ g =>
      have hlt : j < l.length := by omega
      have hlt' : j < l'.length := by have := (Hid.out hc2).2; omega
      obtain ⟨t, ht⟩ : ∃ t, l[j]? = some t := ⟨_, List.getElem?_eq_getElem hlt⟩
      obtain ⟨u, hu⟩ : ∃ u, l'[j]? = some u := ⟨_, List.getElem?_eq_getElem hlt'⟩
      obtain ⟨a1, b1, hx, -, hxx⟩ := HX.out.later hbr
      simp only [Value.slice.injEq] at hx
      obtain ⟨rfl, -, rfl⟩ := hx
      obtain ⟨a2, b2, hy, -, hyy⟩ := HY.out.later hbr
      simp only [Value.slice.injEq] at hy
      obtain ⟨rfl, -, rfl⟩ := hy
      rcases hxx with hxx | ⟨b, o, rfl, hbs, hxx⟩
      ·subst hxx; simp at hlt
      rcases hyy with hyy | ⟨b', o', rfl, hbs', hyy⟩
      ·subst hyy; simp at hlt'
      obtain ⟨c0, c1, c2'⟩ := hxx j _ ht
      obtain ⟨f0, f1, f2⟩ := hyy j _ hu
      have HT2 : Hid (l[j]? = some t) := ht
      have HU2 : Hid (l'[j]? = some u) := hu
      have hcp := fun (X : World) => rcompare_any t u X (SP.out t (List.mem_of_getElem? ht)) (SA.out u (List.mem_of_getElem? hu))
      obtain ⟨cc, hcc⟩ : ∃ cc, t.cmp u = cc := ⟨_, rfl⟩
      rw [hcc] at hcp
      have HCC : Hid (t.cmp u = cc) := hcc
      obtain ⟨tk, tn, ts⟩ := t
      obtain ⟨uk, un, us⟩ := u
      simp only at c0 c1 c2' f0 f1 f2
      clear hxx hyy ht hu hcc
      have i1 : (0 : Int) <= (j : Int) := by omega
      have i2 : (j : Int) < (l.length : Int) := by omega
      have i3 : (j : Int) < (l'.length : Int) := by omega
      obtain ⟨p0, p1, p2, p3, p4⟩ := five (Hid.out BP)
      go_upto_region 9 with fail
      clear p0 p1 p2 p3 p4
      refine wp_region_held_drew (S := fun w' => Below wr.heap.size wr w') (by kernel_rfl) (Below.refl _ _).drew (fun hH => ?_)
      revert hH
      generalize wr.drew = V
      intro hH
      refine wTl 0 (.pointer (some ⟨w.heap.size, 4, none⟩)) rfl (by kernel_rfl) (fun _ _ _ h => h) rfl (fun w' _ => by go_simp) hH ?_
      simp only [wA, wB, wC, wD]
      refine wTl 1 (.slice (some ⟨b, o, none⟩) l.length cap) rfl (by kernel_rfl) (fun _ _ _ h => h) rfl (fun w' h => by obtain ⟨p0, p1, p2, p3, p4⟩ := five (Hid.out BP); have z := Blk.lt (Hid.out BP); have a4 := cell_step h z p4; clear p0 p1 p2 p3 p4; go_simp) hH ?_
      simp only [wA, wB, wC, wD]
      refine wTl 2 (.int .i64 j) rfl (by kernel_rfl) (fun _ _ _ h => h) rfl (fun w' _ => by go_simp) hH ?_
      simp only [wA, wB, wC, wD]
      refine wTl 3 (.pointer (some ⟨b, o + j * 3, none⟩)) rfl (by kernel_rfl) (fun _ _ _ h => h) rfl (fun w' _ => by go_simp) hH ?_
      simp only [wA, wB, wC, wD]
      refine wTl 4 (Tm.v ⟨tk, tn, ts⟩) rfl (by kernel_rfl) (fun _ _ _ h => h) rfl (fun w' h => by have a0 := cell_step h hbs c0; have a1 := cell_step h hbs c1; have a2 := cell_step h hbs c2'; go_simp) hH ?_
      simp only [wA, wB, wC, wD]
      refine wTl 5 (.pointer (some ⟨w.heap.size + 1, 4, none⟩)) rfl (by kernel_rfl) (fun _ _ _ h => h) rfl (fun w' _ => by go_simp) hH ?_
      simp only [wA, wB, wC, wD]
      refine wTl 6 (.slice (some ⟨b', o', none⟩) l'.length cap') rfl (by kernel_rfl) (fun _ _ _ h => h) rfl (fun w' h => by obtain ⟨p0, p1, p2, p3, p4⟩ := five (Hid.out BA); have z := Blk.lt (Hid.out BA); have a4 := cell_step h z p4; clear p0 p1 p2 p3 p4; go_simp) hH ?_
      simp only [wA, wB, wC, wD]
      refine wTl 7 (.int .i64 j) rfl (by kernel_rfl) (fun _ _ _ h => h) rfl (fun w' _ => by go_simp) hH ?_
      simp only [wA, wB, wC, wD]
      refine wTl 8 (.pointer (some ⟨b', o' + j * 3, none⟩)) rfl (by kernel_rfl) (fun _ _ _ h => h) rfl (fun w' _ => by go_simp) hH ?_
      simp only [wA, wB, wC, wD]
      refine wTl 9 (Tm.v ⟨uk, un, us⟩) rfl (by kernel_rfl) (fun _ _ _ h => h) rfl (fun w' h => by have a0 := cell_step h hbs' f0; have a1 := cell_step h hbs' f1; have a2 := cell_step h hbs' f2; go_simp) hH ?_
      simp only [wA, wB, wC, wD]
      refine wRd 10 (by kernel_rfl) rfl (fun K hK => ?_)
      go_simp
      refine (hcp _).mono ?_
      rintro e V1 ⟨rfl, hb1⟩
      refine hK.out _ _ (below_step hH hb1) (fun hH => ?_)
      clear hK K
      refine wTl 11 (.int .i64 cc) rfl (by kernel_rfl) (fun _ _ _ h => h) rfl (fun w' _ => by go_simp) hH ?_
      simp only [wA, wB, wC, wD]
      refine wpAnyH_done (by kernel_rfl) ?_ _
      have hbX := below_step hbr hH
      have BPX := Blk.later (Hid.out BP) hH
      have BAX := Blk.later (Hid.out BA) hH
      clear hH
      go_wp2
      go_roundg g
      case measure => omega
      case rel =>
       refine ⟨j + 1, cc, by omega, by go_num, rfl, ⟨fun h => ?_, fun h => ?_⟩, hbX, BPX, BAX⟩
       ·rw [<- (Hid.out hc2).1, cmpL_ne _ _ j _ _ HT2.out HU2.out (by rw [HCC.out]; exact h), HCC.out]
       ·exact ⟨by rw [<- (Hid.out hc2).1, cmpL_eq _ _ j _ _ HT2.out HU2.out (by rw [HCC.out]; exact h)], (Hid.out hc2).2⟩
     | zero =>
      obtain rfl : j = l.length := by omega
      have HR3 : Hid (c = r) := by show _ = _; rw [<- (Hid.out hc2).1, List.drop_eq_nil_of_le (Nat.le_refl _), E1.out]; rfl
      have hz : ¬ ((l.length : Int) < (l.length : Int)) := by omega
      obtain ⟨p0, p1, p2, p3, p4⟩ := five (Hid.out BP)
      go_wp2
      go_ret
      exact ⟨ret_i HR3.out, hbr⟩
    ·have z : (c == 0) = false := by simpa using e1
     have HR3 : Hid (c = r) := HC.out.1 e1
     clear e1
     go_wp2
     go_ret
     exact ⟨ret_i HR3.out, hbr⟩
end Go.Proofs.YtechceagghcipabGreatDoor
namespace Go.Proofs.YtechceagghcipabGreatDoor
open Go.RowKit
def BsO (w : World) (v : Value) (l : List Bd) : Prop := (v = .slice none 0 0 /\ l = []) ∨ ∃ ad cap, v = .slice (some ad) l.length cap /\ l.length * 40 <= 140737488351232 /\ (l = [] ∨ ∃ b o, ad = ⟨b, o, none⟩ /\ BRow w b o l)
theorem bcs_mem {l : List Bd} {u : Value} (h : u ∈ bcs l) : u.oneCell' = true := by
 simp only [bcs, List.mem_flatMap] at h
 obtain ⟨d, -, hu⟩ := h
 simp [Bd.cs] at hu
 rcases hu with rfl | rfl | rfl | rfl <;> rfl
theorem brow_get {w : World} {b o : Nat} {l : List Bd} (h : BRow w b o l) : ∀ j u, (bcs l)[j]? = some u -> w.cell? ((⟨b, o, none⟩ : Addr).add j) = some u := fun j u hu => by
 have hj : j < l.length * 4 := by rw [<- bcs_len]; exact (List.getElem?_eq_some_iff.1 hu).1
 have hq : j / 4 < l.length := by omega
 obtain ⟨d, hd⟩ : ∃ d, l[j / 4]? = some d := ⟨_, List.getElem?_eq_getElem hq⟩
 have hg := bcs_get l (j / 4) d hd (j % 4) (by omega)
 rw [show j / 4 * 4 + j % 4 = j by omega, hu] at hg
 have hc := h.2 _ _ hd
 have ha : (⟨b, o, none⟩ : Addr).add j = ⟨b, o + j / 4 * 4 + j % 4, none⟩ := by
  rw [Go.WideShapes.add_plain]; congr 1; omega
 rw [ha]
 have h4 : j % 4 = 0 ∨ j % 4 = 1 ∨ j % 4 = 2 ∨ j % 4 = 3 := by omega
 rcases h4 with e | e | e | e <;> rw [e] at hg ⊢ <;> simp [Bd.cs] at hg <;> subst hg
 ·exact hc.1
 ·exact hc.2.1
 ·exact hc.2.2.1
 ·exact hc.2.2.2
end Go.Proofs.YtechceagghcipabGreatDoor
