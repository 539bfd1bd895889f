import Derived.Test.YtechceagghcipaaGreatDoorAA0
import Derived.Test.YtechceagghcipaaGreatDoorEB7
namespace Go.Proofs.YtechceagghcipaaGreatDoor
open Go.RowKit
attribute [local go_sem ↓] Go.wp_at_zero Go.wp_at_succ

def Nr8 (g : Nat) (tv : Value) (mn : Nat) (rm : Value) (T L : List Tm) (Y : World) (e : Ending) (Y' : World) : Prop :=
 ∃ tv' rv, e = .returned rv /\ TB8 g tv' mn rm (ens8 T L) Y' /\ OwI Y' Y.heap.size rv (nm8 (ens8 T L) L) /\ Fr (PB8 g tv mn) Y Y' /\ ∀ b, tv'.ownBlock = some b -> tv.ownBlock = some b ∨ Y.heap.size <= b
set_option maxRecDepth 20000 in
set_option maxHeartbeats 2000000 in
theorem newRow8_any (g : Nat) (tv : Value) (mn : Nat) (rm : Value) (T : List Tm) (a : At) (x : Value) (Y : World) (h : TB8 g tv mn rm T Y) (hx : TsP Y x a.args) (hk : ∀ t ∈ a.pl, KeyT t) (hl : T.length + a.pl.length <= 1000000000) :
  Calls Tryz.prog 31 #[.pointer (some ⟨g, 0, none⟩), a.v x] Y (Nr8 g tv mn rm T a.pl Y) := by
 have hb0 := below1 Y (.cells #[.int .i64 a.by_.k, .int .i64 a.by_.n, .string a.by_.s, .string a.name, x] 27)
 have hm : a.args.length <= 100000000000 := by have : a.pl.length = a.args.length + 1 := rfl; omega
 have HTM : Hid (∀ X : World, Below Y.heap.size Y X -> Calls Tryz.prog 55 #[a.v x] X fun e Y' => ∃ v, e = .returned v /\ OwnT Y' X.heap.size v a.pl /\ Below X.heap.size X Y') := fun X hX => terms8_any a x X (hx.later hX) hm
 have HYG := hm7 (And.intro h.b.lt h.n.lt)
 have H := hm7 h
 have HX0 := Bk.new Y #[.int .i64 a.by_.k, .int .i64 a.by_.n, .string a.by_.s, .string a.name, x] 27
 have q0 := HX0.cell (i := 0) rfl
 have q1 := HX0.cell (i := 1) rfl
 have q2 := HX0.cell (i := 2) rfl
 have q3 := HX0.cell (i := 3) rfl
 have q4 := HX0.cell (i := 4) rfl
 have HB0 := hm7 hb0
 obtain ⟨L, hL⟩ : ∃ L, a.pl = L := ⟨_, rfl⟩
 obtain ⟨n, hn⟩ : ∃ n, L.length = n := ⟨_, rfl⟩
 rw [hL] at HTM hl hk ⊢
 have HN := hm7 hn
 rw [hn] at hl
 obtain ⟨ax, cx, rfl⟩ := hx.shape
 clear h hb0 HX0 hx hm
 obtain ⟨⟨k, m, s⟩, nm, l⟩ := a
 clear hL
 go_enter Tryz.func31, Tryz.ntmps31
 go_wp2_with (go_at_call 55; refine (HTM.out _ HB0.out).mono ?_; clear HTM; rintro e w1 ⟨lv, rfl, ho, hb⟩; obtain ⟨la, lc, elv, -⟩ := row7_form ho; rw [HN.out] at elv; subst elv; have HL1 := hm7 (ho.mono (b' := Y.heap.size) HB0.out.size); have HB1 := hm7 (below_step HB0.out hb); clear ho hb)
 go_loopg [11, 5] n (fun gg i rv wr => ∃ (j : Nat) (tj : Value), j + gg = n /\ i = .int .i64 j /\ NW8 g mn rm tv (.slice la n lc) T L Y j tj rv wr)
 case atStart => exact ⟨0, tv, by omega, rfl, NW8.zero H.out HL1.out HB1.out⟩
 case round =>
  obtain ⟨j, tj, hj, rfl, hw⟩ := hrel
  have HNW := hm7 hw
  cases gk with
  | succ gg =>
   have hlt : (j : Int) < (n : Int) := by omega
   have j0 : (0 : Int) <= (j : Int) := by omega
   obtain ⟨t, ht⟩ : ∃ t, L[j]? = some t := ⟨_, List.getElem?_eq_getElem (by have := HN.out; omega)⟩
   obtain ⟨tk, tn, ts⟩ := t
   have HT := hm7 ht
   have HKT := hm7 (hk _ (List.mem_of_getElem? ht))
   obtain ⟨ra, rc, erv, -⟩ := row7_form hw.r
   obtain ⟨rn, hrn⟩ : ∃ rn, (nm8 (ens8 T (L.take j)) (L.take j)).length = rn := ⟨_, rfl⟩
   rw [hrn] at erv
   subst erv
   have HRN := hm7 hrn
   have HRJ : Hid (rn = j) := by show _ = _; rw [<- hrn, nm8_len, List.length_take]; have := HN.out; omega
   have HLT : Hid ((ens8 T (L.take j)).length < 1000000000) := by show _ < _; have := ens8_len (L.take j) T; rw [List.length_take] at this; have := HN.out; omega
   have HWL := hm7 (fun b (hb : PB8 g tj mn b) => hw.t.lt hb)
   obtain ⟨gl, hgl⟩ : ∃ gl, la = some ⟨gl, 0, none⟩ := by
    rcases hw.l.2 with ⟨h1, h2⟩ | ⟨G, cap', cur, hv, -⟩
    ·simp only [Value.slice.injEq] at h1; omega
    ·simp only [Value.slice.injEq] at hv; exact ⟨G, hv.1⟩
   subst hgl
   obtain ⟨c0, c1, c2⟩ := ownT_cells hw.l j _ ht
   have HW1 : Hid (Bk _ _ _ _) := Bk.new wr #[.int .i64 tk, .int .i64 tn, .string ts] 24
   have HN1 := hm7 (hw.below (below1 wr (.cells #[.int .i64 tk, .int .i64 tn, .string ts] 24)))
   clear hw ht hrn
   go_upto_region 5 with fail
   generalize wr.alloc (.cells #[.int .i64 tk, .int .i64 tn, .string ts] 24) = W1 at *
   refine wp_region_held_drew (S := fun w' => Bk w' wr.heap.size #[.int .i64 tk, .int .i64 tn, .string ts] 24) (by kernel_rfl) (by exact HW1.out) (fun hH => ?_)
   have HNV : Hid (NW8 g mn rm tv (.slice (some ⟨gl, 0, none⟩) n lc) T L Y j tj (.slice ra rn rc) W1.drew) := HN1.out.below (by exact (Below.refl _ _).drew)
   have HSV := hm7 (show wr.heap.size < W1.drew.heap.size from HW1.out.lt)
   generalize W1.drew = V0 at *
   clear HW1 HN1
   refine wTk 0 (.slice ra rn rc) rfl (by kernel_rfl) (fun _ _ _ h => h) (Or.inl ⟨by rfl, fun w' h => by clear h; go_simp⟩) hH ?_
   simp only [wA8, wB8, wC8, wD8]
   refine wTk 1 (.pointer (some ⟨g, 0, none⟩)) rfl (by kernel_rfl) (fun _ _ _ h => h) (Or.inl ⟨by rfl, fun w' h => by clear h; go_simp⟩) hH ?_
   simp only [wA8, wB8, wC8, wD8]
   refine wTk 2 (.pointer (some ⟨g, 0, none⟩)) rfl (by kernel_rfl) (fun _ _ _ h => h) (Or.inl ⟨by rfl, fun w' h => by clear h; go_simp⟩) hH ?_
   simp only [wA8, wB8, wC8, wD8]
   refine wTk 3 (.pointer (some ⟨g, 0, none⟩)) rfl (by kernel_rfl) (fun _ _ _ h => h) (Or.inl ⟨by rfl, fun w' h => by clear h; go_simp⟩) hH ?_
   simp only [wA8, wB8, wC8, wD8]
   refine wTk 4 (.agg #[.int .i64 tk, .int .i64 tn, .string ts]) rfl (by kernel_rfl) (fun _ _ _ h => h) (Or.inl ⟨by rfl, fun w' h => by have q0 := h.cell (i := 0) rfl; have q1 := h.cell (i := 1) rfl; have q2 := h.cell (i := 2) rfl; clear h; go_simp⟩) hH ?_
   simp only [wA8, wB8, wC8, wD8]
   refine wRd 5 (by kernel_rfl) rfl (fun K hK => ?_)
   go_simp
   refine (enter8_any g tj mn rm _ ⟨tk, tn, ts⟩ V0 HNV.out.t HKT.out HLT.out).mono ?_
   rintro e U ⟨tj', T', rfl, hT, eT, hf, ha⟩
   obtain ⟨ho1, hnx⟩ := HNV.out.next HYG.out HT.out hT eT hf ha
   have HO1 := hm7 ho1
   have HNX := hm7 hnx
   have HSU := hm7 (show Y.heap.size <= U.heap.size from Nat.le_trans HNV.out.f.size hf.size)
   refine hK.out _ _ (hH.fr hf fun hp => by have := HWL.out _ hp; omega) (fun hH => ?_)
   clear hK K hT eT hf ha ho1 hnx
   obtain ⟨x, hx⟩ : ∃ x : Int, (((ix8 (ens8 T (L.take j)) ⟨tk, tn, ts⟩).getD (ens8 T (L.take j)).length : Nat) : Int) = x := ⟨_, rfl⟩
   have HXX := hm7 hx
   simp only [hx]
   clear hx
   try simp only [wA8, wB8, wC8, wD8]
   refine wRd 6 (by kernel_rfl) rfl (fun K hK => ?_)
   go_simp
   refine hK.out _ _ (hH.below (below1 _ _)) (fun hH => ?_)
   clear hK K
   try simp only [wA8, wB8, wC8, wD8]
   refine wRd 7 (by kernel_rfl) rfl (fun K hK => ?_)
   refine gstep Tryz.underlying71 Tryz.infoInt7 rfl (by omega) rfl _ _ rfl Y.heap.size (.slice ra rn rc) rn (ibs7 (nm8 (ens8 T (L.take j)) (L.take j))) (by rfl) (row7_below (show U.ownsRow Y.heap.size 3 1 (.slice ra rn rc) rn (ibs7 (nm8 (ens8 T (L.take j)) (L.take j))) by have h9 := HO1.out; unfold OwI at h9; rw [HRN.out] at h9; exact h9) (below1 _ _)) U.heap.size (.int .i64 x) (by rfl) (Bk.new _ _ _) rfl (by have := HRJ.out; omega) (by have := HSU.out; simp; omega) ?_
   intro g2 c2 U2 ho hg hv hl2
   have HN2 : Hid (NW8 g mn rm tv (.slice (some ⟨gl, 0, none⟩) n lc) T L Y (j + 1) tj' (.slice (some ⟨g2, 0, none⟩) (rn + 1) c2) U2) := HNX.out _ _ _ HXX.out.symm (by rw [HRN.out]; exact ho) ((Fr.of (below1 _ _)).tr (Fr.grown hg fun b hb => hb))
   refine hK.out _ _ (hH.fr (Fr.grown (P := fun b => (Value.slice ra rn rc).ownBlock = some b) hg fun b hb => hb) (fun e => by have := (HNW.out.r.lt _ e).2; omega)) (fun hH => ?_)
   clear hK K ho hg hv hl2
   try simp only [wA8, wB8, wC8, wD8]
   refine wTk 8 (.slice (some ⟨g2, 0, none⟩) (rn + 1) c2) rfl (by kernel_rfl) (fun _ _ _ h => h) (Or.inl ⟨by rfl, fun w' h => by clear h; go_simp⟩) hH ?_
   simp only [wA8, wB8, wC8, wD8]
   refine wpAnyH_done (by kernel_rfl) ?_ _
   clear hH
   go_wp2
   go_roundg gg
   case measure => omega
   case rel => exact ⟨j + 1, tj', by omega, by go_num, HN2.out⟩
  | zero =>
   have hlt : ¬ (j : Int) < (n : Int) := by omega
   obtain rfl : j = n := by omega
   clear hw
   go_wp2
   go_ret
   have := HNW.out
   refine ⟨tj, _, rfl, ?_, ?_, this.f, fun b hb => (this.a b hb).2⟩
   ·have q := this.t; rw [List.take_of_length_le (by have := HN.out; omega)] at q; exact q
   ·have q := this.r; rw [List.take_of_length_le (by have := HN.out; omega)] at q; exact q
end Go.Proofs.YtechceagghcipaaGreatDoor
