import Derived.Test.YtechceagghcipabGreatDoorRA2
import Derived.Test.YtechceagghcipabGreatDoorEB3
import Derived.Test.YtechceagghcipabGreatDoorT2
namespace Go.Proofs.YtechceagghcipabGreatDoor
open Go.RowKit
attribute [local go_sem ↓] Go.wp_at_zero Go.wp_at_succ
theorem own_latR {w w' : World} {base : Nat} {e : TypeId} {n k : Nat} {v : Value} {xs : List Value} (h : w.ownsRow base e k v n xs) (hb : Below w.heap.size w w') : w'.ownsRow base e k v n xs := by
 refine ⟨h.1, ?_⟩
 rcases h.2 with hn | ⟨g, cap, cur, hv, hbb, hg, rest⟩
 ·exact Or.inl hn
 ·exact Or.inr ⟨g, cap, cur, hv, hbb, (hb.block _ (Array.getElem?_eq_some_iff.1 hg).1).trans hg, rest⟩
theorem own_drew {w : World} {base : Nat} {e : TypeId} {n k : Nat} {v : Value} {xs : List Value} (h : w.ownsRow base e k v n xs) : w.drew.ownsRow base e k v n xs := own_latR h (Below.refl _ _).drew
theorem ownT_next {w : World} {B j : Nat} {v : Value} {L : List Tm} {t : Tm} (ht : L[j]? = some t) (h : w.ownsRow B 30 3 v (j + 1) (tcs (L.take j) ++ t.cs)) : OwnT w B v (L.take (j + 1)) := by
 obtain ⟨hk, rfl⟩ := List.getElem?_eq_some_iff.1 ht
 unfold OwnT
 rw [List.take_succ_eq_append_getElem hk, tcs_snoc, List.length_append, List.length_take, Nat.min_eq_left (Nat.le_of_lt hk)]
 exact h
theorem ownT_form3 {w : World} {base : Nat} {v : Value} {l : List Tm} (h : OwnT w base v l) : ∃ a n cap, v = .slice a n cap := by
 rcases h.2 with ⟨rfl, hn⟩ | ⟨g, cap, cur, hv, -⟩
 ·exact ⟨none, 0, 0, rfl⟩
 ·exact ⟨_, _, cap, hv⟩
theorem OwnT.ts {w : World} {base : Nat} {v : Value} {l : List Tm} (h : OwnT w base v l) (hl : l.length < 1000000000000000000) : Ts w v l := by
 have hh := h
 rcases h.2 with ⟨rfl, hn⟩ | ⟨g, cap, cur, rfl, hb, hg, -⟩
 ·exact ⟨none, 0, by rw [hn], hl, Or.inl (List.length_eq_zero_iff.1 hn)⟩
 ·refine ⟨_, cap, rfl, hl, Or.inr ⟨g, 0, rfl, (Array.getElem?_eq_some_iff.1 hg).1, fun i t ht => ?_⟩⟩
  simpa using ownT_cells hh i t ht
set_option maxRecDepth 20000 in
set_option maxHeartbeats 8000000 in
theorem rapplyO_any (s : List Bd) (v : Value) (a : At) (x : Value) (w : World) (hv : Bs w v s) (hx : Ts w x a.args) (hl : a.args.length <= 4398046511104) :
  Calls Tryz.prog 73 #[v, a.v x] w fun e w' => ∃ y, e = .returned ((At.mk (become s a.by_) a.name (a.args.map (become s))).v y) /\ OwnT w' w.heap.size y (a.args.map (become s)) /\ Below w.heap.size w w' := by
 obtain ⟨i0, hi0, hz0, hz1, hz2⟩ := info_parts Tryz.infoTerm
 obtain ⟨⟨k, n, ss⟩, nm, l⟩ := a
 simp only at hx hl ⊢
 have HV : Hid (Bs w v s) := hv
 have HX : Hid (Ts w x l) := hx
 obtain ⟨ad, cap, rfl, -, -⟩ := hx
 obtain ⟨⟨bk, bn, bz⟩, hb⟩ : ∃ b, become s ⟨k, n, ss⟩ = b := ⟨_, rfl⟩
 have HB : Hid (become s ⟨k, n, ss⟩ = ⟨bk, bn, bz⟩) := hb
 clear hv hb
 go_enter Tryz.func73, Tryz.ntmps73
 go_wp2
 have C := BoxB.start w #[.int .i64 k, .int .i64 n, .string ss, .string nm, .slice ad l.length cap] #[.int .i64 0, .int .i64 0, .string ⟨#[]⟩, .string ⟨#[]⟩, .slice none 0 0] 33 33
 revert C
 generalize (w.alloc (.cells #[.int .i64 k, .int .i64 n, .string ss, .string nm, .slice ad l.length cap] 33)).alloc _ = W
 intro C
 have HW : Hid (BoxB w W _ _ _ _) := C
 clear C
 go_cut [5] from 5 (fun s5 wx => ∃ G : Nat, s5 = .pointer (some ⟨G, 0, none⟩) /\ wx.heap[G]? = some (.cells #[.int .i64 bk, .int .i64 bn, .string bz, .string nm, .slice none 0 0] 33 (0, 0)) /\ W.heap.size <= G /\ Below W.heap.size W wx)
 case first =>
  obtain ⟨p0, p1, p2, p3, p4⟩ := five (Hid.out HW).1
  have zz := (Hid.out HW).lt
  have zz0 : w.heap.size < W.heap.size := Nat.lt_of_succ_lt zz
  have hc := fun (X : World) (h : Below W.heap.size W X) => rbecome_any s v ⟨k, n, ss⟩ X (HV.out.later (below_step (Hid.out HW).2.2 h))
  rw [HB.out] at hc
  have HC : Hid (∀ X, Below W.heap.size W X -> Calls Tryz.prog 102 #[v, Tm.v ⟨k, n, ss⟩] X fun e w' => e = .returned (Tm.v ⟨bk, bn, bz⟩) /\ Below X.heap.size X w') := hc
  clear hc
  refine wp_region_held_drew (S := fun w' => Below W.heap.size W w') (by kernel_rfl) (Below.refl _ _).drew (fun hH => ?_)
  revert hH
  generalize W.drew = V
  intro hH
  refine wTl 0 (v) rfl (by kernel_rfl) (fun _ _ _ h => h) rfl (fun w' _ => by go_simp) hH ?_
  simp only [wA, wB, wC, wD]
  refine wTl 1 (.pointer (some ⟨w.heap.size, 0, none⟩)) rfl (by kernel_rfl) (fun _ _ _ h => h) rfl (fun w' _ => by go_simp) hH ?_
  simp only [wA, wB, wC, wD]
  refine wTl 2 (Tm.v ⟨k, n, ss⟩) rfl (by kernel_rfl) (fun _ _ _ h => h) rfl (fun w' h => by have a0 := cell_step h zz0 p0; have a1 := cell_step h zz0 p1; have a2 := cell_step h zz0 p2; clear p0 p1 p2 p3 p4; go_simp) hH ?_
  simp only [wA, wB, wC, wD]
  refine wTl 4 (.pointer (some ⟨w.heap.size, 3, none⟩)) rfl (by kernel_rfl) (fun _ _ _ h => h) rfl (fun w' _ => by go_simp) hH ?_
  simp only [wA, wB, wC, wD]
  refine wTl 5 (.string nm) rfl (by kernel_rfl) (fun _ _ _ h => h) rfl (fun w' h => by have a3 := cell_step h zz0 p3; clear p0 p1 p2 p3 p4; go_simp) hH ?_
  simp only [wA, wB, wC, wD]
  clear p0 p1 p2 p3 p4
  refine wpAnyH_ready (rs := [3, 7]) (by kernel_rfl) (by simp) ?_
  refine (AllReadyH.cons (o := ⟨_, _, _, _, _, _⟩) rfl (fun K hK => ?_) (AllReadyH.cons (o := ⟨_, _, _, _, _, _⟩) rfl (fun K hK => ?_) AllReadyH.nil))
  ·go_simp
   refine (HC.out _ hH).mono ?_
   rintro e Vc ⟨rfl, hb⟩
   refine hK.out _ _ (below_step hH hb) (fun hH => ?_)
   clear hb hK K
   refine wTl 6 (.agg #[.int .i64 bk, .int .i64 bn, .string bz, .string nm, .slice none 0 0]) rfl (by kernel_rfl) (fun _ _ _ h => h) rfl (fun w' _ => by go_simp) hH ?_
   simp only [wA, wB, wC, wD]
   refine wRd 7 (by kernel_rfl) rfl (fun K hK => ?_)
   go_simp
   have gG := hH.size
   refine hK.out _ _ (balloc hH) (fun hH => ?_)
   clear hK K
   have fG := heap_alloc_new Vc (.cells #[.int .i64 0, .int .i64 0, .string ⟨#[]⟩, .string ⟨#[]⟩, .slice none 0 0] 33)
   have lG : Vc.heap.size < (Vc.alloc (.cells #[.int .i64 0, .int .i64 0, .string ⟨#[]⟩, .string ⟨#[]⟩, .slice none 0 0] 33)).heap.size := by simp
   revert hH fG lG
   generalize Vc.alloc (.cells #[.int .i64 0, .int .i64 0, .string ⟨#[]⟩, .string ⟨#[]⟩, .slice none 0 0] 33) = Vg
   intro hH fG lG
   refine wRd 8 (by kernel_rfl) rfl (fun K hK => ?_)
   obtain ⟨⟨c0, c1, c2, c3, c4⟩, f0, f1, f2, f3, f4⟩ := fiveF fG
   go_simp
   clear c0 c1 c2 c3 c4 f0 f1 f2 f3 f4
   refine hK.out _ _ (bset (bset (bset (bset (bset hH gG) gG) gG) gG) gG) (fun hH => ?_)
   clear hK K
   have fG := store5 (a' := .int .i64 bk) (b' := .int .i64 bn) (c' := .string bz) (d' := .string nm) (e' := .slice none 0 0) fG
   refine wpAnyH_done (by kernel_rfl) ?_ _
   go_wp2_with fail
   go_meet
   case rel => exact ⟨Vc.heap.size, rfl, fG, gG, hH⟩
  ·go_simp
   have gG := hH.size
   refine hK.out _ _ (balloc hH) (fun hH => ?_)
   clear hK K
   have fG := heap_alloc_new V (.cells #[.int .i64 0, .int .i64 0, .string ⟨#[]⟩, .string ⟨#[]⟩, .slice none 0 0] 33)
   have lG : V.heap.size < (V.alloc (.cells #[.int .i64 0, .int .i64 0, .string ⟨#[]⟩, .string ⟨#[]⟩, .slice none 0 0] 33)).heap.size := by simp
   revert hH fG lG
   generalize V.alloc (.cells #[.int .i64 0, .int .i64 0, .string ⟨#[]⟩, .string ⟨#[]⟩, .slice none 0 0] 33) = Vg
   intro hH fG lG
   refine wRd 3 (by kernel_rfl) rfl (fun K hK => ?_)
   go_simp
   refine (HC.out _ hH).mono ?_
   rintro e Vc ⟨rfl, hb⟩
   refine hK.out _ _ (below_step hH hb) (fun hH => ?_)
   have fG := (hb.block _ lG).trans fG
   have lG := lt_step hb lG
   clear hb hK K
   refine wTl 6 (.agg #[.int .i64 bk, .int .i64 bn, .string bz, .string nm, .slice none 0 0]) rfl (by kernel_rfl) (fun _ _ _ h => h) rfl (fun w' _ => by go_simp) hH ?_
   simp only [wA, wB, wC, wD]
   refine wRd 8 (by kernel_rfl) rfl (fun K hK => ?_)
   obtain ⟨⟨c0, c1, c2, c3, c4⟩, f0, f1, f2, f3, f4⟩ := fiveF fG
   go_simp
   clear c0 c1 c2 c3 c4 f0 f1 f2 f3 f4
   refine hK.out _ _ (bset (bset (bset (bset (bset hH gG) gG) gG) gG) gG) (fun hH => ?_)
   clear hK K
   have fG := store5 (a' := .int .i64 bk) (b' := .int .i64 bn) (c' := .string bz) (d' := .string nm) (e' := .slice none 0 0) fG
   refine wpAnyH_done (by kernel_rfl) ?_ _
   go_wp2_with fail
   go_meet
   case rel => exact ⟨V.heap.size, rfl, fG, gG, hH⟩
 case rest =>
  obtain ⟨G, rfl, hG, hgG, hbW⟩ := hcut
  have zz := (Hid.out HW).lt
  have B0 := (Hid.out HW).later hbW
  have lG : G < wc.heap.size := (Array.getElem?_eq_some_iff.1 hG).1
  obtain ⟨L, hL⟩ : ∃ L, L = l.map (become s) := ⟨_, rfl⟩
  have HL : Hid (L = l.map (become s)) := hL
  have HLL : Hid (l.length = L.length) := by show l.length = L.length; rw [hL]; simp
  have hG2 : w.heap.size + 2 <= G := by omega
  obtain ⟨B, hB⟩ : ∃ B, B = wc.heap.size := ⟨_, rfl⟩
  have hGB : G < B := by omega
  have hBz : B <= wc.heap.size := by omega
  clear hL HW hbW hgG hB lG
  go_wp2
  go_loopg [6] l.length (fun g i wr => ∃ (j : Nat) (u : Value), j + g = l.length /\ i = .int .i64 j /\ BoxB w wr #[.int .i64 k, .int .i64 n, .string ss, .string nm, .slice ad l.length cap] #[.int .i64 0, .int .i64 0, .string ⟨#[]⟩, .string ⟨#[]⟩, .slice none 0 0] 33 33 /\ wr.heap[G]? = some (.cells #[.int .i64 bk, .int .i64 bn, .string bz, .string nm, u] 33 (0, 0)) /\ OwnT wr B u (L.take j) /\ B <= wr.heap.size)
  case atStart => exact ⟨0, _, by omega, rfl, B0, hG, World.ownsRow_nil _ _ _ _, hBz⟩
  case round =>
   clear B0 hG hBz
   obtain ⟨j, u, hj, rfl, hB, hG, hO, sz⟩ := hrel
   have HBX : Hid (BoxB w wr #[.int .i64 k, .int .i64 n, .string ss, .string nm, .slice ad l.length cap] #[.int .i64 0, .int .i64 0, .string ⟨#[]⟩, .string ⟨#[]⟩, .slice none 0 0] 33 33) := hB
   have HG : Hid (wr.heap[G]? = some (.cells #[.int .i64 bk, .int .i64 bn, .string bz, .string nm, u] 33 (0, 0))) := hG
   have HO : Hid (OwnT wr B u (L.take j)) := hO
   obtain ⟨p0, p1, p2, p3, p4⟩ := five hB.1
   clear hB hG hO
   cases gk with
   | succ g =>
    have hlt : j < l.length := by omega
    obtain ⟨t, ht⟩ : ∃ t, l[j]? = some t := ⟨_, List.getElem?_eq_getElem hlt⟩
    obtain ⟨⟨uk, un, us⟩, hu⟩ : ∃ u, become s t = u := ⟨_, rfl⟩
    have HU : Hid (become s t = ⟨uk, un, us⟩) := hu
    have HLu : Hid (L[j]? = some ⟨uk, un, us⟩) := by show L[j]? = _; rw [HL.out, List.getElem?_map, ht, <- hu]; rfl
    obtain ⟨tk, tn, ts⟩ := t
    obtain ⟨ad', cap', hx, -, hxx⟩ := HX.out
    simp only [Value.slice.injEq] at hx
    obtain ⟨rfl, -, rfl⟩ := hx
    rcases hxx with hxx | ⟨b, o, rfl, hbs, hxx⟩
    ·subst hxx; simp at hlt
    ·obtain ⟨c0, c1, c2⟩ := hxx j _ ht
     have hbb := (Hid.out HBX).2.2
     rw [<- hbb.cell (p := ⟨b, _, none⟩) hbs] at c0 c1 c2
     simp only at c0 c1 c2
     have hbs2 : b < w.heap.size + 2 := by omega
     have hjl : (L.take j).length = j := by have := HLL.out; rw [List.length_take]; omega
     have oT0 : wr.ownsRow B 30 3 u j (tcs (L.take j)) := by have := HO.out; unfold OwnT at this; rw [hjl] at this; exact this
     clear hxx ht hu hbb hjl
     have i1 : (0 : Int) <= (j : Int) := by omega
     have i2 : (j : Int) < (l.length : Int) := by omega
     have OT0 : Hid (wr.ownsRow B 30 3 u j (tcs (L.take j))) := oT0
     clear oT0
     go_wp2
     refine wp_region_held_drew (S := fun w' => Below (w.heap.size + 2) wr w') (by kernel_rfl) (Below.refl _ _).drew (fun hH => ?_)
     have fG : wr.drew.heap[G]? = some (.cells #[.int .i64 bk, .int .i64 bn, .string bz, .string nm, u] 33 (0, 0)) := HG.out
     have lG : G < wr.drew.heap.size := (Array.getElem?_eq_some_iff.1 fG).1
     have oT : wr.drew.ownsRow B 30 3 u j (tcs (L.take j)) := own_drew OT0.out
     have sz : B <= wr.drew.heap.size := sz
     revert hH fG lG oT sz
     generalize wr.drew = V
     intro hH fG lG oT sz
     clear OT0 HO HG
     refine wTl 0 (.pointer (some ⟨G, 4, none⟩)) rfl (by kernel_rfl) (fun _ _ _ h => h) rfl (fun w' _ => by go_simp) hH ?_
     simp only [wA, wB, wC, wD]
     refine wTl 2 (v) rfl (by kernel_rfl) (fun _ _ _ h => h) rfl (fun w' _ => by go_simp) hH ?_
     simp only [wA, wB, wC, wD]
     refine wTl 3 (.pointer (some ⟨w.heap.size, 4, none⟩)) rfl (by kernel_rfl) (fun _ _ _ h => h) rfl (fun w' _ => by go_simp) hH ?_
     simp only [wA, wB, wC, wD]
     refine wTl 4 (.slice (some ⟨b, o, none⟩) l.length cap) rfl (by kernel_rfl) (fun _ _ _ h => h) rfl (fun w' h => by have a4 := cell_stepB h (by omega) p4; clear p0 p1 p2 p3 p4 c0 c1 c2; go_simp) hH ?_
     simp only [wA, wB, wC, wD]
     refine wTl 5 (.int .i64 j) rfl (by kernel_rfl) (fun _ _ _ h => h) rfl (fun w' _ => by go_simp) hH ?_
     simp only [wA, wB, wC, wD]
     refine wTl 6 (.pointer (some ⟨b, o + j * 3, none⟩)) rfl (by kernel_rfl) (fun _ _ _ h => h) rfl (fun w' _ => by clear p0 p1 p2 p3 p4 c0 c1 c2; go_simp) hH ?_
     simp only [wA, wB, wC, wD]
     refine wTl 7 (Tm.v ⟨tk, tn, ts⟩) rfl (by kernel_rfl) (fun _ _ _ h => h) rfl (fun w' h => by have a0 := cell_stepB h hbs2 c0; have a1 := cell_stepB h hbs2 c1; have a2 := cell_stepB h hbs2 c2; clear p0 p1 p2 p3 p4 c0 c1 c2; go_simp) hH ?_
     simp only [wA, wB, wC, wD]
     clear p0 p1 p2 p3 p4 c0 c1 c2
     refine wpAnyH_ready (rs := [1, 8]) (by kernel_rfl) (by simp) ?_
     refine (AllReadyH.cons (o := ⟨_, _, _, _, _, _⟩) rfl (fun K hK => ?_) (AllReadyH.cons (o := ⟨_, _, _, _, _, _⟩) rfl (fun K hK => ?_) AllReadyH.nil))
     ·have c4 := (five fG).2.2.2.2
      go_simp
      clear c4
      refine hK.out _ _ hH (fun hH => ?_)
      clear hK K
      refine wRd 8 (by kernel_rfl) rfl (fun K hK => ?_)
      go_simp
      refine (rbecome_any s v ⟨tk, tn, ts⟩ _ (HV.out.later ((Hid.out HBX).later2 hH).2.2)).mono ?_
      rw [HU.out]
      rintro e Va ⟨rfl, hb⟩
      have fG := (hb.block _ lG).trans fG
      have oT := own_latR oT hb
      have sz := Nat.le_trans sz hb.size
      have lG := lt_step hb lG
      refine hK.out _ _ (hH.trans (hb.mono (by omega))) (fun hH => ?_)
      clear hb hK K
      refine wRd 9 (by kernel_rfl) rfl (fun K hK => ?_)
      go_simp
      have fT := heap_alloc_new Va (.cells #[.int .i64 uk, .int .i64 un, .string us] 30)
      have fG := (Below.heap_alloc _ (.cells #[.int .i64 uk, .int .i64 un, .string us] 30) _ lG).trans fG
      have oT := own_latR oT (below1 _ (.cells #[.int .i64 uk, .int .i64 un, .string us] 30))
      have sz : B <= (Va.alloc (.cells #[.int .i64 uk, .int .i64 un, .string us] 30)).heap.size := Nat.le_trans sz (by simp)
      have lG : G < (Va.alloc (.cells #[.int .i64 uk, .int .i64 un, .string us] 30)).heap.size := Nat.lt_of_lt_of_le lG (by simp)
      refine hK.out _ _ (hH.alloc (by omega) _) (fun hH => ?_)
      clear hK K
      revert fT fG oT sz lG hH
      generalize Va.alloc (.cells #[.int .i64 uk, .int .i64 un, .string us] 30) = Vb
      generalize Va.heap.size = T
      intro fT fG oT sz lG hH
      refine wRd 10 (by kernel_rfl) rfl (fun K hK => ?_)
      refine step_append_lies _ rfl _ _ _ rfl B 30 i0 _ 3 32 Tryz.underlying31 hi0 hz0 hz1 hz2 rfl (by omega) u j (tcs (L.take j)) (by rfl) oT ⟨T, 0, none⟩ 1 1 (Tm.cs ⟨uk, un, us⟩) (by rfl) (by rfl) (World.news_of_block (cs := (Tm.cs ⟨uk, un, us⟩).toArray) (t := 30) (fr := (0, 0)) fT) (by simp [Value.oneCell', Tm.cs]) (by omega) (by unfold maxLen; omega) (by omega) sz _ rfl ?_
      intro gg cap1 w4 hown1 hgrow hat hlt1
      have hBB : Below B Vb w4 := (Below.refl _ _).grown hgrow sz (fun q e => (World.ownsRow.lt oT q e).1)
      have fG := (hBB.block _ hGB).trans fG
      have sz4 := Nat.le_trans sz hBB.size
      refine hK.out _ _ (hH.trans (hBB.mono (by omega))) (fun hH => ?_)
      clear hK K hgrow hat hlt1 hBB oT fT
      simp only [wA, wB, wC, wD]
      refine wTl 11 (.pointer (some ⟨G, 4, none⟩)) rfl (by kernel_rfl) (fun _ _ _ h => h) rfl (fun w' _ => by go_simp) hH ?_
      simp only [wA, wB, wC, wD]
      refine wRd 12 (by kernel_rfl) rfl (fun K hK => ?_)
      obtain ⟨⟨c0, c1, c2, c3, c4⟩, f0, f1, f2, f3, f4⟩ := fiveF fG
      have HO4 : Hid (OwnT w4 B (.slice (some ⟨gg, 0, none⟩) (j + 1) cap1) (L.take (j + 1))) := ownT_next HLu.out hown1
      clear hown1
      go_simp
      clear c0 c1 c2 c3 c4 f0 f1 f2 f3 f4
      refine hK.out _ _ (hH.setCell (p := ⟨G, 4, none⟩) hG2 _) (fun hH => ?_)
      clear hK K
      have fG := heap_setCell_same _ _ 4 _ _ (.slice (some ⟨gg, 0, none⟩) (j + 1) cap1) fG
      have RO := OwnT.set (i := 4) (a := .slice (some ⟨gg, 0, none⟩) (j + 1) cap1) HO4.out hGB
      have RB := (Hid.out HBX).later2 hH
      have RZ : B <= (w4.setCell ⟨G, 4, none⟩ (.slice (some ⟨gg, 0, none⟩) (j + 1) cap1)).heap.size := by simpa [World.setCell] using sz4
      have RRq : Hid (_ /\ _ /\ _ /\ _) := ⟨RB, fG, RO, RZ⟩
      clear RB fG RO RZ HO4 sz4 hH
      refine wpAnyH_done (by kernel_rfl) ?_ _
      go_wp2
      go_roundg g
      case measure => omega
      case rel => exact ⟨j + 1, _, by omega, by go_num, RRq.out⟩
     ·go_simp
      refine (rbecome_any s v ⟨tk, tn, ts⟩ _ (HV.out.later ((Hid.out HBX).later2 hH).2.2)).mono ?_
      rw [HU.out]
      rintro e Va ⟨rfl, hb⟩
      have fG := (hb.block _ lG).trans fG
      have oT := own_latR oT hb
      have sz := Nat.le_trans sz hb.size
      have lG := lt_step hb lG
      refine hK.out _ _ (hH.trans (hb.mono (by omega))) (fun hH => ?_)
      clear hb hK K
      refine wpAnyH_ready (rs := [1, 9]) (by kernel_rfl) (by simp) ?_
      refine (AllReadyH.cons (o := ⟨_, _, _, _, _, _⟩) rfl (fun K hK => ?_) (AllReadyH.cons (o := ⟨_, _, _, _, _, _⟩) rfl (fun K hK => ?_) AllReadyH.nil))
      ·have c4 := (five fG).2.2.2.2
       go_simp
       clear c4
       refine hK.out _ _ hH (fun hH => ?_)
       clear hK K
       refine wRd 9 (by kernel_rfl) rfl (fun K hK => ?_)
       go_simp
       have fT := heap_alloc_new Va (.cells #[.int .i64 uk, .int .i64 un, .string us] 30)
       have fG := (Below.heap_alloc _ (.cells #[.int .i64 uk, .int .i64 un, .string us] 30) _ lG).trans fG
       have oT := own_latR oT (below1 _ (.cells #[.int .i64 uk, .int .i64 un, .string us] 30))
       have sz : B <= (Va.alloc (.cells #[.int .i64 uk, .int .i64 un, .string us] 30)).heap.size := Nat.le_trans sz (by simp)
       have lG : G < (Va.alloc (.cells #[.int .i64 uk, .int .i64 un, .string us] 30)).heap.size := Nat.lt_of_lt_of_le lG (by simp)
       refine hK.out _ _ (hH.alloc (by omega) _) (fun hH => ?_)
       clear hK K
       revert fT fG oT sz lG hH
       generalize Va.alloc (.cells #[.int .i64 uk, .int .i64 un, .string us] 30) = Vb
       generalize Va.heap.size = T
       intro fT fG oT sz lG hH
       refine wRd 10 (by kernel_rfl) rfl (fun K hK => ?_)
       refine step_append_lies _ rfl _ _ _ rfl B 30 i0 _ 3 32 Tryz.underlying31 hi0 hz0 hz1 hz2 rfl (by omega) u j (tcs (L.take j)) (by rfl) oT ⟨T, 0, none⟩ 1 1 (Tm.cs ⟨uk, un, us⟩) (by rfl) (by rfl) (World.news_of_block (cs := (Tm.cs ⟨uk, un, us⟩).toArray) (t := 30) (fr := (0, 0)) fT) (by simp [Value.oneCell', Tm.cs]) (by omega) (by unfold maxLen; omega) (by omega) sz _ rfl ?_
       intro gg cap1 w4 hown1 hgrow hat hlt1
       have hBB : Below B Vb w4 := (Below.refl _ _).grown hgrow sz (fun q e => (World.ownsRow.lt oT q e).1)
       have fG := (hBB.block _ hGB).trans fG
       have sz4 := Nat.le_trans sz hBB.size
       refine hK.out _ _ (hH.trans (hBB.mono (by omega))) (fun hH => ?_)
       clear hK K hgrow hat hlt1 hBB oT fT
       simp only [wA, wB, wC, wD]
       refine wTl 11 (.pointer (some ⟨G, 4, none⟩)) rfl (by kernel_rfl) (fun _ _ _ h => h) rfl (fun w' _ => by go_simp) hH ?_
       simp only [wA, wB, wC, wD]
       refine wRd 12 (by kernel_rfl) rfl (fun K hK => ?_)
       obtain ⟨⟨c0, c1, c2, c3, c4⟩, f0, f1, f2, f3, f4⟩ := fiveF fG
       have HO4 : Hid (OwnT w4 B (.slice (some ⟨gg, 0, none⟩) (j + 1) cap1) (L.take (j + 1))) := ownT_next HLu.out hown1
       clear hown1
       go_simp
       clear c0 c1 c2 c3 c4 f0 f1 f2 f3 f4
       refine hK.out _ _ (hH.setCell (p := ⟨G, 4, none⟩) hG2 _) (fun hH => ?_)
       clear hK K
       have fG := heap_setCell_same _ _ 4 _ _ (.slice (some ⟨gg, 0, none⟩) (j + 1) cap1) fG
       have RO := OwnT.set (i := 4) (a := .slice (some ⟨gg, 0, none⟩) (j + 1) cap1) HO4.out hGB
       have RB := (Hid.out HBX).later2 hH
       have RZ : B <= (w4.setCell ⟨G, 4, none⟩ (.slice (some ⟨gg, 0, none⟩) (j + 1) cap1)).heap.size := by simpa [World.setCell] using sz4
       have RRq : Hid (_ /\ _ /\ _ /\ _) := ⟨RB, fG, RO, RZ⟩
       clear RB fG RO RZ HO4 sz4 hH
       refine wpAnyH_done (by kernel_rfl) ?_ _
       go_wp2
       go_roundg g
       case measure => omega
       case rel => exact ⟨j + 1, _, by omega, by go_num, RRq.out⟩
      ·go_simp
       have fT := heap_alloc_new Va (.cells #[.int .i64 uk, .int .i64 un, .string us] 30)
       have fG := (Below.heap_alloc _ (.cells #[.int .i64 uk, .int .i64 un, .string us] 30) _ lG).trans fG
       have oT := own_latR oT (below1 _ (.cells #[.int .i64 uk, .int .i64 un, .string us] 30))
       have sz : B <= (Va.alloc (.cells #[.int .i64 uk, .int .i64 un, .string us] 30)).heap.size := Nat.le_trans sz (by simp)
       have lG : G < (Va.alloc (.cells #[.int .i64 uk, .int .i64 un, .string us] 30)).heap.size := Nat.lt_of_lt_of_le lG (by simp)
       refine hK.out _ _ (hH.alloc (by omega) _) (fun hH => ?_)
       clear hK K
       revert fT fG oT sz lG hH
       generalize Va.alloc (.cells #[.int .i64 uk, .int .i64 un, .string us] 30) = Vb
       generalize Va.heap.size = T
       intro fT fG oT sz lG hH
       refine wRd 1 (by kernel_rfl) rfl (fun K hK => ?_)
       have c4 := (five fG).2.2.2.2
       go_simp
       clear c4
       refine hK.out _ _ hH (fun hH => ?_)
       clear hK K
       refine wRd 10 (by kernel_rfl) rfl (fun K hK => ?_)
       refine step_append_lies _ rfl _ _ _ rfl B 30 i0 _ 3 32 Tryz.underlying31 hi0 hz0 hz1 hz2 rfl (by omega) u j (tcs (L.take j)) (by rfl) oT ⟨T, 0, none⟩ 1 1 (Tm.cs ⟨uk, un, us⟩) (by rfl) (by rfl) (World.news_of_block (cs := (Tm.cs ⟨uk, un, us⟩).toArray) (t := 30) (fr := (0, 0)) fT) (by simp [Value.oneCell', Tm.cs]) (by omega) (by unfold maxLen; omega) (by omega) sz _ rfl ?_
       intro gg cap1 w4 hown1 hgrow hat hlt1
       have hBB : Below B Vb w4 := (Below.refl _ _).grown hgrow sz (fun q e => (World.ownsRow.lt oT q e).1)
       have fG := (hBB.block _ hGB).trans fG
       have sz4 := Nat.le_trans sz hBB.size
       refine hK.out _ _ (hH.trans (hBB.mono (by omega))) (fun hH => ?_)
       clear hK K hgrow hat hlt1 hBB oT fT
       simp only [wA, wB, wC, wD]
       refine wTl 11 (.pointer (some ⟨G, 4, none⟩)) rfl (by kernel_rfl) (fun _ _ _ h => h) rfl (fun w' _ => by go_simp) hH ?_
       simp only [wA, wB, wC, wD]
       refine wRd 12 (by kernel_rfl) rfl (fun K hK => ?_)
       obtain ⟨⟨c0, c1, c2, c3, c4⟩, f0, f1, f2, f3, f4⟩ := fiveF fG
       have HO4 : Hid (OwnT w4 B (.slice (some ⟨gg, 0, none⟩) (j + 1) cap1) (L.take (j + 1))) := ownT_next HLu.out hown1
       clear hown1
       go_simp
       clear c0 c1 c2 c3 c4 f0 f1 f2 f3 f4
       refine hK.out _ _ (hH.setCell (p := ⟨G, 4, none⟩) hG2 _) (fun hH => ?_)
       clear hK K
       have fG := heap_setCell_same _ _ 4 _ _ (.slice (some ⟨gg, 0, none⟩) (j + 1) cap1) fG
       have RO := OwnT.set (i := 4) (a := .slice (some ⟨gg, 0, none⟩) (j + 1) cap1) HO4.out hGB
       have RB := (Hid.out HBX).later2 hH
       have RZ : B <= (w4.setCell ⟨G, 4, none⟩ (.slice (some ⟨gg, 0, none⟩) (j + 1) cap1)).heap.size := by simpa [World.setCell] using sz4
       have RRq : Hid (_ /\ _ /\ _ /\ _) := ⟨RB, fG, RO, RZ⟩
       clear RB fG RO RZ HO4 sz4 hH
       refine wpAnyH_done (by kernel_rfl) ?_ _
       go_wp2
       go_roundg g
       case measure => omega
       case rel => exact ⟨j + 1, _, by omega, by go_num, RRq.out⟩
   | zero =>
    have hjl : j = l.length := by omega
    subst hjl
    obtain ⟨ua, un, uc, rfl⟩ := ownT_form3 HO.out
    obtain ⟨⟨q0, q1, q2, q3, q4⟩, f0, f1, f2, f3, f4⟩ := fiveF (Hid.out HBX).2.1
    obtain ⟨r0, r1, r2, r3, r4⟩ := five HG.out
    have hz : ¬ ((l.length : Int) < (l.length : Int)) := by omega
    go_wp2
    refine bodyPost_ret (v := (At.mk ⟨bk, bn, bz⟩ nm L).v (.slice ua un uc)) (by simp [results, Tryz.results73, go_sem, q0, q1, q2, q3, q4]) rfl ⟨.slice ua un uc, ?_, ?_, ?_⟩
    ·rw [HB.out, <- HL.out]
    ·rw [<- HL.out]
     have hO := HO.out
     rw [List.take_of_length_le (by have := HLL.out; omega)] at hO
     exact (OwnT.set (OwnT.set (OwnT.set (OwnT.set (OwnT.set hO (by omega)) (by omega)) (by omega)) (by omega)) (by omega)).mono (by omega)
    ·exact bset (bset (bset (bset (bset (Hid.out HBX).2.2 (by omega)) (by omega)) (by omega)) (by omega)) (by omega)
theorem rapply_any (s : List Bd) (v : Value) (a : At) (x : Value) (w : World) (hv : Bs w v s) (hx : Ts w x a.args) (hl : a.args.length <= 4398046511104) :
  Calls Tryz.prog 73 #[v, a.v x] w fun e w' => ∃ y, e = .returned ((At.mk (become s a.by_) a.name (a.args.map (become s))).v y) /\ Ts w' y (a.args.map (become s)) /\ Below w.heap.size w w' := by
 refine (rapplyO_any s v a x w hv hx hl).mono ?_
 rintro e w' ⟨y, rfl, ho, hb⟩
 exact ⟨y, rfl, OwnT.ts ho (by rw [List.length_map]; omega), hb⟩
end Go.Proofs.YtechceagghcipabGreatDoor
