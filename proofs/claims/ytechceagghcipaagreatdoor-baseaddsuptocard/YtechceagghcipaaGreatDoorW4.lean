import Derived.Test.YtechceagghcipaaGreatDoorBK
import Derived.Test.YtechceagghcipaaGreatDoorD1
import Derived.Test.YtechceagghcipaaGreatDoorB3
import Derived.Deep.CutRange
import Derived.Test.YtechceagghcipaaGreatDoorV2
import Derived.Test.YtechceagghcipaaGreatDoorL1
import Derived.Laws.AppendOwn
import Derived.Laws.AppendOwnNone
namespace Go.Proofs.YtechceagghcipaaGreatDoor
open Go.RowKit

theorem ownT_one (w : World) (o : Obj) (t : Tm) : OwnT ((w.alloc o).alloc (.cells #[.int .i64 t.k, .int .i64 t.n, .string t.s] 24)) (w.heap.size + 1) (.slice (some ⟨w.heap.size + 1, 0, none⟩) 1 1) [t] := by
 refine ⟨by simp [tcs, Tm.cs], Or.inr ⟨_, 1, #[.int .i64 t.k, .int .i64 t.n, .string t.s], rfl, Nat.le_refl _, heap_alloc2_new _ _ _, Nat.le_refl _, by unfold maxLen; omega, by simp, by simp [tcs, Tm.cs]⟩⟩
theorem tcs_cons (t : Tm) (l : List Tm) : tcs (t :: l) = tcs [t] ++ tcs l := by simp [tcs]
set_option maxHeartbeats 2000000 in
theorem rplaces_any (a : At) (x : Value) (w : World) (h : TsO w x a.args) :
  Calls Tryz.prog 150 #[a.v x] w fun e w' => ∃ v', e = .returned v' /\ OwnT w' w.heap.size v' a.pl /\ Below w.heap.size w w' := by
 obtain ⟨i0, hi0, hz0, hz1, hz2⟩ := info_parts Tryz.infoTerm
 obtain ⟨⟨k, n, ss⟩, nm, l⟩ := a
 simp only [At.pl] at h ⊢
 rcases h with ⟨rfl, rfl⟩ | ⟨ad, cap, rfl, hl, h⟩
 ·have h1 := ownT_one w (.cells #[.int .i64 k, .int .i64 n, .string ss, .string nm, .slice none 0 0] 27) ⟨k, n, ss⟩
  have H1 : Hid _ := h1
  clear h1
  go_enter Tryz.func150, Tryz.ntmps150
  go_wp2_with (at_builtin; refine wpList_append_own_none _ _ _ _ rfl (w.heap.size + 1) 24 i0 3 Tryz.underlying25 hi0 (.slice (some ⟨w.heap.size + 1, 0, none⟩) 1 1) 1 (tcs [⟨k, n, ss⟩]) (by rfl) H1.out (by rfl) ?_)
  go_ret
  exact ⟨_, rfl, OwnT.mono H1.out (by omega), below2 _ _ _⟩
 ·have h1 := ownT_one w (.cells #[.int .i64 k, .int .i64 n, .string ss, .string nm, .slice (some ad) l.length cap] 27) ⟨k, n, ss⟩
  have H1 : Hid _ := h1
  clear h1
  have hnw : ∀ j u, (tcs l)[j]? = some u -> ((w.alloc (.cells #[.int .i64 k, .int .i64 n, .string ss, .string nm, .slice (some ad) l.length cap] 27)).alloc (.cells #[.int .i64 k, .int .i64 n, .string ss] 24)).cell? (ad.add j) = some u := by
   rcases h with h | ⟨b, o, rfl, h⟩
   ·subst h; intro j u hu; simp [tcs] at hu
   ·exact trow_get (h.later (below2 _ _ _))
  have HN : Hid _ := hnw
  clear h hnw
  go_enter Tryz.func150, Tryz.ntmps150
  go_wp2_with (at_builtin; refine wpList_append_own _ rfl _ _ _ rfl (w.heap.size + 1) 24 i0 _ 3 32 Tryz.underlying25 hi0 hz0 hz1 hz2 rfl (by omega) (.slice (some ⟨w.heap.size + 1, 0, none⟩) 1 1) 1 (tcs [⟨k, n, ss⟩]) (by rfl) H1.out ad l.length cap (tcs l) (by rfl) (tcs_len l) HN.out (fun u hu => tcs_mem hu) (by unfold maxLen; omega) (by omega) (by simp) ?_; intro v1 w1 hown hgrow hnil)
  go_ret
  refine ⟨_, rfl, ?_, ?_⟩
  ·refine OwnT.mono (b := w.heap.size + 1) ?_ (by omega)
   unfold OwnT
   rw [tcs_cons, List.length_cons, Nat.add_comm l.length 1]
   exact hown
  ·exact (below2 _ _ _).grown hgrow (by simp; omega) (fun q e => by simp [Value.ownBlock] at e; omega)
set_option maxHeartbeats 1000000 in
theorem ramong_any (l : List Int) (v : Value) (x : Int) (base : Nat) (w : World) (h : OwnI w base v l) (hl : l.length < 1000000000000000000) :
  Calls Tryz.prog 167 #[v, .int .i64 x] w fun e w' => e = .returned (.bool (hasI l x)) /\ Below w.heap.size w w' := by
 have HO : Hid (OwnI w base v l) := h
 obtain ⟨ad, cap, rfl⟩ := ownI_len h
 clear h
 go_enter Tryz.func167, Tryz.ntmps167
 go_wp2
 go_loopg [5] l.length (fun g i wr => ∃ j : Nat, j + g = l.length /\ i = .int .i64 j /\ hasI (l.take j) x = false /\ wr = w)
 case atStart => exact ⟨0, by omega, rfl, rfl, rfl⟩
 case round =>
  obtain ⟨j, hj, rfl, hx, rfl⟩ := hrel
  have HI : Hid (hasI (l.take j) x = false) := hx
  have hoq := HO.out
  clear hx
  cases gk with
  | succ g =>
   have hlt : j < l.length := by omega
   obtain ⟨e, he⟩ : ∃ e, l[j]? = some e := ⟨_, List.getElem?_eq_getElem hlt⟩
   obtain ⟨gg, cc, hv, hg1, hg2⟩ := ownI_form hoq (by omega)
   simp only [Value.slice.injEq, true_and] at hv
   obtain ⟨rfl, rfl⟩ := hv
   have e0 := ownI_cells hoq j e he
   have HE : Hid (l[j]? = some e) := he
   clear he hoq
   have j1 : (0 : Int) <= (j : Int) := by omega
   have j2 : (j : Int) < (l.length : Int) := by omega
   by_cases hxx : e = x
   ·have hq : (e == x) = true := by simpa using hxx
    have HH : Hid (hasI l x = true) := hasI_yes l x j _ HE.out hxx
    go_wp2
    go_ret
    exact ⟨ret_b HH.out.symm, Below.refl _ _⟩
   ·have hq : (e == x) = false := by simpa using hxx
    have hxx : Hid (¬ e = x) := hxx
    go_wp2
    go_roundg g
    case measure => omega
    case rel => exact ⟨j + 1, by omega, by go_num, hasI_no l x j _ HE.out HI.out hxx.out, rfl⟩
  | zero =>
   obtain rfl : j = l.length := by omega
   have HH : Hid (hasI l x = false) := by have := HI.out; rwa [List.take_length] at this
   have hz : ¬ ((l.length : Int) < (l.length : Int)) := by omega
   clear hoq
   go_wp2
   go_ret
   exact ⟨ret_b HH.out.symm, Below.refl _ _⟩
set_option maxHeartbeats 2000000 in
theorem rvars_any (a : At) (x : Value) (w : World) (h : TsO w x a.args) :
  Calls Tryz.prog 144 #[a.v x] w fun e w' => ∃ v', e = .returned v' /\ OwnI w' w.heap.size v' (vs a.pl) /\ Below w.heap.size w w' := by
 obtain ⟨i0, hi0, hz0, hz1, hz2⟩ := info_parts Tryz.infoInt
 have hal : a.args.length <= 4398046511104 := by
  rcases h with ⟨-, h⟩ | ⟨ad, cap, h1, h2, h3⟩
  ·rw [h]; simp
  ·omega
 have hpl := fun (X : World) (hb : Below w.heap.size w X) => rplaces_any a x X (h.later hb)
 have HPl : Hid _ := hpl
 obtain ⟨⟨k, n, ss⟩, nm, l⟩ := a
 obtain ⟨pl, hp⟩ : ∃ pl, pl = (At.mk ⟨k, n, ss⟩ nm l).pl := ⟨_, rfl⟩
 have hn : pl.length <= 4398046511105 := by rw [hp]; simp [At.pl]; simpa using hal
 have hn0 : 0 < pl.length := by rw [hp]; simp [At.pl]
 rw [<- hp] at HPl ⊢
 clear hp hal h hpl
 go_enter Tryz.func144, Tryz.ntmps144
 go_wp2_with (go_at_call 150; refine (HPl.out _ (below1 _ _)).mono ?_; rintro e w1 ⟨lv, rfl, hol, hb1⟩)
 have hb0 : Below w.heap.size w w1 := below_step (below1 _ _) hb1
 obtain ⟨G, gcap, rfl, -, hGl⟩ := World.ownsRow.form hol hn0
 have HOL : Hid (OwnT w1 _ (.slice (some ⟨G, 0, none⟩) pl.length gcap) pl) := hol
 clear hol hb1 HPl
 go_loopg [4, 5] pl.length (fun g u i wr => ∃ j : Nat, j + g = pl.length /\ i = .int .i64 j /\ OwnI wr w1.heap.size u (vs (pl.take j)) /\ Below w1.heap.size w1 wr)
 case atStart => exact ⟨0, by omega, rfl, ownI_nil _ _, Below.refl _ _⟩
 case round =>
  obtain ⟨j, hj, rfl, hown, hbr⟩ := hrel
  cases gk with
  | succ g =>
   have hlt : j < pl.length := by omega
   obtain ⟨t, ht⟩ : ∃ t, pl[j]? = some t := ⟨_, List.getElem?_eq_getElem hlt⟩
   have HV := vs_take pl j t ht
   have HL := vs_len (pl.take j)
   rw [List.length_take] at HL
   obtain ⟨c0, c1, c2⟩ := ownT_cells HOL.out j t ht
   have c0 := cell_step hbr hGl c0
   have c1 := cell_step hbr hGl c1
   have c2 := cell_step hbr hGl c2
   have gW := lt_step hbr hGl
   obtain ⟨tk, tn, ts⟩ := t
   simp only at c0 c1 c2
   generalize vs (pl.take j) = out at hown HV HL
   have HS : Hid (vs (pl.take (j + 1)) = vS out ⟨tk, tn, ts⟩) := HV
   have hol : out.length <= 4398046511105 := by omega
   obtain ⟨ad', cap', rfl⟩ := ownI_len hown
   have HO : Hid (OwnI wr w1.heap.size (.slice ad' out.length cap') out) := hown
   clear HV HL ht hown
   have i1 : (0 : Int) <= (j : Int) := by omega
   have i2 : (j : Int) < (pl.length : Int) := by omega
   cases bv : Tm.var ⟨tk, tn, ts⟩
   ·have HB : Hid (Tm.var ⟨tk, tn, ts⟩ = false) := bv
    clear bv
    go_wp2_with (go_at_call 149; refine (rvar_any ⟨tk, tn, ts⟩ _).mono ?_; rw [HB.out]; rintro e w3 ⟨rfl, hb3⟩)
    go_roundg g
    case measure => omega
    case rel => exact ⟨j + 1, by omega, by go_num, by rw [HS.out, vS_not _ _ HB.out]; exact HO.out.later hb3, below_step hbr hb3⟩
   ·have HB : Hid (Tm.var ⟨tk, tn, ts⟩ = true) := bv
    clear bv
    cases hm : hasI out tn
    ·have HM : Hid (hasI out tn = false) := hm
     clear hm
     go_wp2_with (first
      | (go_at_call 149; refine (rvar_any ⟨tk, tn, ts⟩ _).mono ?_; rw [HB.out]; rintro e w3 ⟨rfl, hb3⟩; have d1 := cell_step hb3 gW c1; have gX := lt_step hb3 gW; clear c0 c1 c2)
      | (go_at_call 167; refine (ramong_any out _ tn _ _ (HO.out.later hb3) (by omega)).mono ?_; rw [HM.out]; rintro e w4 ⟨rfl, hb4⟩; have e1 := cell_step hb4 gX d1; have HO4 : Hid (OwnI w4 w1.heap.size (.slice ad' out.length cap') out) := HO.out.later (below_step hb3 hb4); have hbW : Hid (Below w1.heap.size w1 w4) := below_step (below_step hbr hb3) hb4; have hsz : w1.heap.size <= w4.heap.size := (Hid.out hbW).size; clear d1 hb3 hb4)
      | (at_builtin; refine wpList_append_lies _ rfl _ _ _ rfl w1.heap.size 3 i0 _ 1 8 Tryz.underlying71 hi0 hz0 hz1 hz2 rfl (by omega) (.slice ad' out.length cap') out.length (ics out) (by rfl) (HO4.out.later (below1 _ _)) ⟨w4.heap.size, 0, none⟩ 1 1 [.int .i64 tn] (by rfl) (by rfl) (World.news_of_block (cs := #[.int .i64 tn]) (t := 3) (fr := (0, 0)) (heap_alloc_new w4 _)) (by simp [Value.oneCell']) (by omega) (by unfold maxLen; omega) (by omega) (by simp; omega) (w4.heap.size + 1) (by simp) ?_; intro gg cap1 w5 hown1 hgrow hat hlt1))
     have R : OwnI w5 w1.heap.size (.slice (some ⟨gg, 0, none⟩) (out.length + 1) cap1) (out ++ [tn]) := by
      unfold OwnI; rw [ics_snoc, List.length_append]; exact hown1
     have hlto := (HO4.out.later (below1 w4 (.cells #[.int .i64 tn] 3))).lt
     have RB : Below w1.heap.size w1 w5 := ((Hid.out hbW).alloc (Hid.out hbW).size _).grown hgrow (by simp; omega) (fun q e => by have := hlto _ e; omega)
     have RO : Hid (OwnI w5 w1.heap.size (.slice (some ⟨gg, 0, none⟩) (out.length + 1) cap1) (out ++ [tn])) := R
     clear hown1 hgrow hat hlt1 R hlto
     go_wp2
     go_roundg g
     case measure => omega
     case rel => exact ⟨j + 1, by omega, by go_num, by rw [HS.out, vS_new _ _ HB.out HM.out]; exact RO.out, RB⟩
    ·have HM : Hid (hasI out tn = true) := hm
     clear hm
     go_wp2_with (first
      | (go_at_call 149; refine (rvar_any ⟨tk, tn, ts⟩ _).mono ?_; rw [HB.out]; rintro e w3 ⟨rfl, hb3⟩; have d1 := cell_step hb3 gW c1; have gX := lt_step hb3 gW; clear c0 c1 c2)
      | (go_at_call 167; refine (ramong_any out _ tn _ _ (HO.out.later hb3) (by omega)).mono ?_; rw [HM.out]; rintro e w4 ⟨rfl, hb4⟩))
     go_roundg g
     case measure => omega
     case rel => exact ⟨j + 1, by omega, by go_num, by rw [HS.out, vS_old _ _ HB.out HM.out]; exact HO.out.later (below_step hb3 hb4), below_step (below_step hbr hb3) hb4⟩
  | zero =>
   have HT : pl.take j = pl := List.take_of_length_le (by omega)
   rw [HT] at hown
   have HO : Hid (OwnI wr w1.heap.size u4 (vs pl)) := hown
   have hz : ¬ ((j : Int) < (pl.length : Int)) := by omega
   clear HT hown
   go_wp2
   go_ret
   exact ⟨_, rfl, HO.out.mono hb0.size, below_step hb0 hbr⟩
end Go.Proofs.YtechceagghcipaaGreatDoor
