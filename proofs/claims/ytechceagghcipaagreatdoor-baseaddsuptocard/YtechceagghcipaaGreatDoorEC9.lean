import Derived.Test.YtechceagghcipaaGreatDoorAA0
import Derived.Test.YtechceagghcipaaGreatDoorEC8
namespace Go.Proofs.YtechceagghcipaaGreatDoor
open Go.RowKit
attribute [local go_sem ↓] Go.wp_at_zero Go.wp_at_succ

def fxC (L : List Tm) : List Int := (L.zipIdx.filter fun x => !x.1.var).map fun x => (x.2 : Int)
def fxK (T L : List Tm) : List Int := (L.filter fun t => !t.var).map fun t => (((ix8 T t).getD 0 : Nat) : Int)
def fxB (T L : List Tm) : Bool := L.all fun t => t.var || (ix8 T t).isSome
theorem fxC_snoc (L : List Tm) (t : Tm) : fxC (L ++ [t]) = fxC L ++ if t.var then [] else [(L.length : Int)] := by
 unfold fxC
 rw [List.zipIdx_append]
 cases h : t.var <;> simp [h]
theorem fxK_snoc (T L : List Tm) (t : Tm) : fxK T (L ++ [t]) = fxK T L ++ if t.var then [] else [(((ix8 T t).getD 0 : Nat) : Int)] := by
 unfold fxK
 cases h : t.var <;> simp [h]
theorem fxB_not {T L : List Tm} {t : Tm} {j : Nat} (h : L[j]? = some t) (hv : t.var = false) (hn : ix8 T t = none) : fxB T L = false := by
 unfold fxB
 rw [List.all_eq_false]
 exact ⟨t, List.mem_of_getElem? h, by simp [hn, hv]⟩
theorem fxB_all {T L : List Tm} (h : ∀ t ∈ L, t.var = false -> (ix8 T t).isSome = true) : fxB T L = true := List.all_eq_true.2 fun t ht => by
 cases hv : t.var
 ·simp [h t ht hv]
 ·rfl
theorem fx_len (T L : List Tm) : (fxC L).length <= L.length /\ (fxK T L).length <= L.length := by
 unfold fxC fxK
 rw [List.length_map, List.length_map]
 exact ⟨Nat.le_trans (List.length_filter_le _ _) (by simp), List.length_filter_le _ _⟩
structure FX8 (T L : List Tm) (lv : Value) (Y : World) (j : Nat) (cv kv : Value) (w : World) : Prop where
 al : ∀ t ∈ L.take j, t.var = false -> (ix8 T t).isSome = true
 c : OwI w Y.heap.size cv (fxC (L.take j))
 k : OwI w Y.heap.size kv (fxK T (L.take j))
 n : ∀ b, cv.ownBlock = some b -> kv.ownBlock ≠ some b
 l : OwnT w Y.heap.size lv L
 b : Below Y.heap.size Y w
theorem FX8.below {T L : List Tm} {lv : Value} {Y : World} {j : Nat} {cv kv : Value} {w w' : World} (h : FX8 T L lv Y j cv kv w) (hb : Below w.heap.size w w') : FX8 T L lv Y j cv kv w' := ⟨h.al, row7_below h.c hb, row7_below h.k hb, h.n, row7_below h.l hb, below_step h.b hb⟩
theorem FX8.var {T L : List Tm} {lv : Value} {Y : World} {j : Nat} {cv kv : Value} {w : World} (h : FX8 T L lv Y j cv kv w) {t : Tm} (ht : L[j]? = some t) (hv : t.var = true) : FX8 T L lv Y (j + 1) cv kv w := by
 have et : L.take (j + 1) = L.take j ++ [t] := by rw [List.take_add_one, ht]; rfl
 refine ⟨?_, ?_, ?_, h.n, h.l, h.b⟩
 ·rw [et]
  intro u hu hq
  rcases List.mem_append.1 hu with hu | hu
  ·exact h.al u hu hq
  ·rw [List.mem_singleton.1 hu, hv] at hq; cases hq
 ·rw [et, fxC_snoc, if_pos hv, List.append_nil]; exact h.c
 ·rw [et, fxK_snoc, if_pos hv, List.append_nil]; exact h.k
theorem FX8.con {T L : List Tm} {lv : Value} {Y : World} {j : Nat} {cv kv : Value} {w : World} (h : FX8 T L lv Y j cv kv w) {t : Tm} (ht : L[j]? = some t) (hv : t.var = false) {p : Nat} (hp : ix8 T t = some p) {g2 c2 : Nat} {U2 : World}
  (ho : U2.ownsRow Y.heap.size 3 1 (.slice (some ⟨g2, 0, none⟩) ((fxC (L.take j)).length + 1) c2) ((fxC (L.take j)).length + 1) (ibs7 (fxC (L.take j)) ++ [.int .i64 (j : Int)])) (hf : Fr (fun b => cv.ownBlock = some b) w U2) (hg : cv.ownBlock = some g2 ∨ w.heap.size <= g2) :
  OwI U2 Y.heap.size kv (fxK T (L.take j)) /\ ∀ (g3 c3 : Nat) (U3 : World), U3.ownsRow Y.heap.size 3 1 (.slice (some ⟨g3, 0, none⟩) ((fxK T (L.take j)).length + 1) c3) ((fxK T (L.take j)).length + 1) (ibs7 (fxK T (L.take j)) ++ [.int .i64 (p : Int)]) -> Fr (fun b => kv.ownBlock = some b) U2 U3 -> (kv.ownBlock = some g3 ∨ U2.heap.size <= g3) -> FX8 T L lv Y (j + 1) (.slice (some ⟨g2, 0, none⟩) ((fxC (L.take j)).length + 1) c2) (.slice (some ⟨g3, 0, none⟩) ((fxK T (L.take j)).length + 1) c3) U3 := by
 have et : L.take (j + 1) = L.take j ++ [t] := by rw [List.take_add_one, ht]; rfl
 have hj : (L.take j).length = j := by rw [List.length_take]; have := (List.getElem?_eq_some_iff.1 ht).1; omega
 have hk := row7_fr h.k hf fun b hb e => h.n b e hb
 have hg2 : kv.ownBlock ≠ some g2 := fun e => by
  rcases hg with q | q
  ·exact h.n g2 q e
  ·have := (h.k.lt g2 e).2; omega
 have hl2 := row7_fr h.l hf fun b hb hq => row7_ne h.c h.l (by decide) b hq hb
 refine ⟨hk, fun g3 c3 U3 ho3 hf3 hg3 => ⟨?_, ?_, ?_, ?_, ?_, ?_⟩⟩
 ·rw [et]
  intro u hu hq
  rcases List.mem_append.1 hu with hu | hu
  ·exact h.al u hu hq
  ·rw [List.mem_singleton.1 hu, hp]; rfl
 ·rw [et, fxC_snoc, if_neg (by simp [hv]), hj]
  exact OwI.snoc (row7_fr ho hf3 fun b hb e => by cases hb; exact hg2 e)
 ·rw [et, fxK_snoc, if_neg (by simp [hv]), hp]
  exact OwI.snoc ho3
 ·intro b hb hb'
  cases hb
  cases hb'
  rcases hg3 with q | q
  ·exact hg2 q
  ·have := (ho.lt g2 rfl).2; omega
 ·exact row7_fr hl2 hf3 fun b hb hq => row7_ne hk hl2 (by decide) b hq hb
 ·have q1 : Fr (fun b => Y.heap.size <= b) w U2 := hf.mono fun b _ hq => (h.c.lt b hq).1
  have q2 : Fr (fun b => Y.heap.size <= b) U2 U3 := hf3.mono fun b _ hq => (h.k.lt b hq).1
  exact h.b.trans ((q1.tr q2).low h.b.size)
def Fx8 (T L : List Tm) (Y : World) (e : Ending) (Y' : World) : Prop :=
 ∃ cv kv, e = .returned (.tuple #[cv, kv, .bool (fxB T L)]) /\ (fxB T L = true -> OwI Y' Y.heap.size cv (fxC L) /\ OwI Y' Y.heap.size kv (fxK T L)) /\ Below Y.heap.size Y Y'
set_option maxRecDepth 20000 in
set_option maxHeartbeats 2000000 in
theorem fixed8_any (g : Nat) (tv : Value) (mn : Nat) (rm : Value) (T : List Tm) (a : At) (x : Value) (Y : World) (h : TB8 g tv mn rm T Y) (hx : TsP Y x a.args) (hk : ∀ t ∈ a.pl, t.var = false -> KeyT t) (hl : a.pl.length <= 1000000000) :
  Calls Tryz.prog 53 #[.pointer (some ⟨g, 0, none⟩), a.v x] Y (Fx8 T a.pl Y) := by
 have hb0 := below1 Y (.cells #[.int .i64 a.by_.k, .int .i64 a.by_.n, .string a.by_.s, .string a.name, x] 27)
 have hm : a.args.length <= 100000000000 := by have : a.pl.length = a.args.length + 1 := rfl; omega
 have HTM : Hid (∀ X : World, Below Y.heap.size Y X -> Calls Tryz.prog 55 #[a.v x] X fun e Y' => ∃ v, e = .returned v /\ OwnT Y' X.heap.size v a.pl /\ Below X.heap.size X Y') := fun X hX => terms8_any a x X (hx.later hX) hm
 have H := hm7 h
 obtain ⟨⟨q0, q1⟩, q2, q3, q4⟩ := five8 (Bk.new Y #[.int .i64 a.by_.k, .int .i64 a.by_.n, .string a.by_.s, .string a.name, x] 27)
 have HB0 := hm7 hb0
 obtain ⟨L, hL⟩ : ∃ L, a.pl = L := ⟨_, rfl⟩
 obtain ⟨n, hn⟩ : ∃ n, L.length = n := ⟨_, rfl⟩
 rw [hL] at HTM hl hk ⊢
 have HN := hm7 hn
 rw [hn] at hl
 obtain ⟨ax, cx, rfl⟩ := hx.shape
 clear h hb0 hx hm
 obtain ⟨⟨k, m, s⟩, nm, l⟩ := a
 clear hL
 go_enter Tryz.func53, Tryz.ntmps53
 go_wp2_with (go_at_call 55; refine (HTM.out _ HB0.out).mono ?_; clear HTM; rintro e w1 ⟨lv, rfl, ho, hb⟩; obtain ⟨la, lc, elv, -⟩ := row7_form ho; rw [HN.out] at elv; subst elv; have HL1 := hm7 (ho.mono (b' := Y.heap.size) HB0.out.size); have HB1 := hm7 (below_step HB0.out hb); clear ho hb)
 go_loopg [14, 4, 5] n (fun gg i cv kv wr => ∃ (j : Nat), j + gg = n /\ i = .int .i64 j /\ FX8 T L (.slice la n lc) Y j cv kv wr)
 case atStart => exact ⟨0, by omega, rfl, by simp, OwI.nil _ _, OwI.nil _ _, nofun, HL1.out, HB1.out⟩
 case round =>
  obtain ⟨j, hj, rfl, hw⟩ := hrel
  have HF := hm7 hw
  cases gk with
  | succ gg =>
   have hlt : (j : Int) < (n : Int) := by omega
   have j0 : (0 : Int) <= (j : Int) := by omega
   obtain ⟨t, ht⟩ : ∃ t, L[j]? = some t := ⟨_, List.getElem?_eq_getElem (by have := HN.out; omega)⟩
   have hkt := hk _ (List.mem_of_getElem? ht)
   have hva := var_any t
   obtain ⟨tk, tn, ts⟩ := t
   have HT := hm7 ht
   obtain ⟨ca, cc, ecv, -⟩ := row7_form hw.c
   obtain ⟨ka, kc, ekv, -⟩ := row7_form hw.k
   obtain ⟨rn, hrn⟩ : ∃ rn, (fxC (L.take j)).length = rn := ⟨_, rfl⟩
   obtain ⟨kn, hkn⟩ : ∃ kn, (fxK T (L.take j)).length = kn := ⟨_, rfl⟩
   rw [hrn] at ecv
   rw [hkn] at ekv
   subst ecv ekv
   have HRN := hm7 hrn
   have HKN := hm7 hkn
   have HLE := hm7 (show rn <= 1000000000 /\ kn <= 1000000000 by have := fx_len T (L.take j); rw [List.length_take] at this; omega)
   obtain ⟨gl, hgl⟩ : ∃ gl, la = some ⟨gl, 0, none⟩ := by
    rcases hw.l.2 with ⟨h1, h2⟩ | ⟨G, cap', cur, hv, -⟩
    ·simp only [Value.slice.injEq] at h1; omega
    ·simp only [Value.slice.injEq] at hv; exact ⟨G, hv.1⟩
   subst hgl
   obtain ⟨c0, c1, c2⟩ := ownT_cells hw.l j _ ht
   have HW0 : Hid (Bk _ _ _ _) := Bk.new wr #[.int .i64 tk, .int .i64 tn, .string ts] 24
   have hbw := below1 wr (.cells #[.int .i64 tk, .int .i64 tn, .string ts] 24)
   have HBW := hm7 hbw
   have b0 := HW0.out.cell (i := 0) rfl
   have b1 := HW0.out.cell (i := 1) rfl
   have b2 := HW0.out.cell (i := 2) rfl
   cases hv : (⟨tk, tn, ts⟩ : Tm).var with
   | true =>
    rw [hv] at hva
    have HV := hm7 hv
    have HVA : Hid (∀ X : World, Calls Tryz.prog 51 #[.agg #[.int .i64 tk, .int .i64 tn, .string ts]] X fun e w' => e = .returned (.bool true) /\ Below X.heap.size X w') := fun X => hva X
    clear hw ht hrn hkn hbw hkt hv hva
    go_wp2_with (go_at_call 51; refine (HVA.out _).mono ?_; clear HVA; rintro e w3 ⟨rfl, hb⟩; have HB3 := hm7 hb; clear hb)
    go_roundg gg
    case measure => omega
    case rel => exact ⟨j + 1, by omega, by go_num, ((HF.out.below HBW.out).below HB3.out).var HT.out HV.out⟩
   | false =>
    rw [hv] at hva
    have HV := hm7 hv
    have HVA : Hid (∀ X : World, Calls Tryz.prog 51 #[.agg #[.int .i64 tk, .int .i64 tn, .string ts]] X fun e w' => e = .returned (.bool false) /\ Below X.heap.size X w') := fun X => hva X
    have hkt := hkt hv
    cases hi : ix8 T ⟨tk, tn, ts⟩ with
    | none =>
     have HKN8 := hm7 (fxB_not ht hv hi)
     have HNU : Hid (∀ X : World, Below Y.heap.size Y X -> Calls Tryz.prog 83 #[.pointer (some ⟨g, 0, none⟩), .agg #[.int .i64 tk, .int .i64 tn, .string ts]] X fun e Y' => e = .returned (.tuple #[.int .i64 0, .bool false]) /\ Below X.heap.size X Y') := fun X hX => by
      have := number8_any g tv mn rm T ⟨tk, tn, ts⟩ X (H.out.below hX) hkt
      rw [hi] at this
      exact this
     clear hw ht hrn hkn hbw hkt hv hva hi
     go_upto_region 5 with (go_at_call 51; refine (HVA.out _).mono ?_; clear HVA; rintro e W1 ⟨rfl, hb⟩; have HB3 := hm7 hb; clear hb)
     have HW1 := hm7 (HW0.out.below HB3.out)
     have HF1 := hm7 ((HF.out.below HBW.out).below HB3.out)
     have HNB : Hid (∀ X : World, Below W1.heap.size W1 X -> Calls Tryz.prog 83 #[.pointer (some ⟨g, 0, none⟩), .agg #[.int .i64 tk, .int .i64 tn, .string ts]] X fun e Y' => e = .returned (.tuple #[.int .i64 0, .bool false]) /\ Below X.heap.size X Y') := fun X hX => HNU.out X (below_step HF1.out.b hX)
     clear HNU HW0 HBW HB3 b0 b1 b2 c0 c1 c2
     refine wp_region_held_drew (S := fun w' => Below W1.heap.size W1 w') (by kernel_rfl) (by exact (Below.refl _ _).drew) (fun hH => ?_)
     revert hH
     generalize W1.drew = V0
     intro hH
     refine wTk 0 (.pointer (some ⟨g, 0, none⟩)) rfl (by kernel_rfl) (fun _ _ _ h => h) (Or.inl ⟨by rfl, fun w' h => by clear h; go_simp⟩) hH ?_
     simp only [wA8, wB8, wC8, wD8]
     refine wTk 1 (.pointer (some ⟨g, 0, none⟩)) rfl (by kernel_rfl) (fun _ _ _ h => h) (Or.inl ⟨by rfl, fun w' h => by clear h; go_simp⟩) hH ?_
     simp only [wA8, wB8, wC8, wD8]
     refine wTk 2 (.pointer (some ⟨g, 0, none⟩)) rfl (by kernel_rfl) (fun _ _ _ h => h) (Or.inl ⟨by rfl, fun w' h => by clear h; go_simp⟩) hH ?_
     simp only [wA8, wB8, wC8, wD8]
     refine wTk 3 (.agg #[.int .i64 tk, .int .i64 tn, .string ts]) rfl (by kernel_rfl) (fun _ _ _ h => h) (Or.inl ⟨by rfl, fun w' h => by have q0 := (HW1.out.below h).cell (i := 0) rfl; have q1 := (HW1.out.below h).cell (i := 1) rfl; have q2 := (HW1.out.below h).cell (i := 2) rfl; clear h; go_simp⟩) hH ?_
     simp only [wA8, wB8, wC8, wD8]
     refine wRd 4 (by kernel_rfl) rfl (fun K hK => ?_)
     go_simp
     refine (HNB.out _ hH).mono ?_
     rintro e U ⟨rfl, hb⟩
     refine hK.out _ _ (hH.trans (hb.mono hH.size)) (fun hH => ?_)
     clear hK K hb
     try simp only [wA8, wB8, wC8, wD8]
     refine wTk 5 (.tuple #[.int .i64 0, .bool false]) rfl (by kernel_rfl) (fun _ _ _ h => h) (Or.inl ⟨by rfl, fun w' h => by clear h; go_simp⟩) hH ?_
     simp only [wA8, wB8, wC8, wD8]
     refine wTk 6 (.int .i64 0) rfl (by kernel_rfl) (fun _ _ _ h => h) (Or.inl ⟨by rfl, fun w' h => by clear h; go_simp⟩) hH ?_
     simp only [wA8, wB8, wC8, wD8]
     refine wTk 7 (.bool false) rfl (by kernel_rfl) (fun _ _ _ h => h) (Or.inl ⟨by rfl, fun w' h => by clear h; go_simp⟩) hH ?_
     simp only [wA8, wB8, wC8, wD8]
     refine wTk 8 (.int .i64 0) rfl (by kernel_rfl) (fun _ _ _ h => h) (Or.inl ⟨by rfl, fun w' h => by clear h; go_simp⟩) hH ?_
     simp only [wA8, wB8, wC8, wD8]
     refine wTk 9 (.bool false) rfl (by kernel_rfl) (fun _ _ _ h => h) (Or.inl ⟨by rfl, fun w' h => by clear h; go_simp⟩) hH ?_
     simp only [wA8, wB8, wC8, wD8]
     refine wpAnyH_done (by kernel_rfl) ?_ _
     have HU := hm7 hH
     clear hH
     go_wp2
     go_ret3
     exact ⟨.slice none 0 0, .slice none 0 0, by rw [HKN8.out]; rfl, fun e => (by rw [HKN8.out] at e; cases e), below_step HF1.out.b HU.out⟩
    | some p =>
     have HI := hm7 hi
     have HNU : Hid (∀ X : World, Below Y.heap.size Y X -> Calls Tryz.prog 83 #[.pointer (some ⟨g, 0, none⟩), .agg #[.int .i64 tk, .int .i64 tn, .string ts]] X fun e Y' => e = .returned (.tuple #[.int .i64 (p : Int), .bool true]) /\ Below X.heap.size X Y') := fun X hX => by
      have := number8_any g tv mn rm T ⟨tk, tn, ts⟩ X (H.out.below hX) hkt
      rw [hi] at this
      exact this
     clear hw ht hrn hkn hbw hkt hv hva hi
     go_upto_region 5 with (go_at_call 51; refine (HVA.out _).mono ?_; clear HVA; rintro e W1 ⟨rfl, hb⟩; have HB3 := hm7 hb; clear hb)
     have HW1 := hm7 (HW0.out.below HB3.out)
     have HF1 := hm7 ((HF.out.below HBW.out).below HB3.out)
     have HNB : Hid (∀ X : World, Below W1.heap.size W1 X -> Calls Tryz.prog 83 #[.pointer (some ⟨g, 0, none⟩), .agg #[.int .i64 tk, .int .i64 tn, .string ts]] X fun e Y' => e = .returned (.tuple #[.int .i64 (p : Int), .bool true]) /\ Below X.heap.size X Y') := fun X hX => HNU.out X (below_step HF1.out.b hX)
     clear HNU HW0 HBW HB3 b0 b1 b2 c0 c1 c2
     refine wp_region_held_drew (S := fun w' => Below W1.heap.size W1 w') (by kernel_rfl) (by exact (Below.refl _ _).drew) (fun hH => ?_)
     revert hH
     generalize W1.drew = V0
     intro hH
     refine wTk 0 (.pointer (some ⟨g, 0, none⟩)) rfl (by kernel_rfl) (fun _ _ _ h => h) (Or.inl ⟨by rfl, fun w' h => by clear h; go_simp⟩) hH ?_
     simp only [wA8, wB8, wC8, wD8]
     refine wTk 1 (.pointer (some ⟨g, 0, none⟩)) rfl (by kernel_rfl) (fun _ _ _ h => h) (Or.inl ⟨by rfl, fun w' h => by clear h; go_simp⟩) hH ?_
     simp only [wA8, wB8, wC8, wD8]
     refine wTk 2 (.pointer (some ⟨g, 0, none⟩)) rfl (by kernel_rfl) (fun _ _ _ h => h) (Or.inl ⟨by rfl, fun w' h => by clear h; go_simp⟩) hH ?_
     simp only [wA8, wB8, wC8, wD8]
     refine wTk 3 (.agg #[.int .i64 tk, .int .i64 tn, .string ts]) rfl (by kernel_rfl) (fun _ _ _ h => h) (Or.inl ⟨by rfl, fun w' h => by have q0 := (HW1.out.below h).cell (i := 0) rfl; have q1 := (HW1.out.below h).cell (i := 1) rfl; have q2 := (HW1.out.below h).cell (i := 2) rfl; clear h; go_simp⟩) hH ?_
     simp only [wA8, wB8, wC8, wD8]
     refine wRd 4 (by kernel_rfl) rfl (fun K hK => ?_)
     go_simp
     refine (HNB.out _ hH).mono ?_
     rintro e U ⟨rfl, hb⟩
     refine hK.out _ _ (hH.trans (hb.mono hH.size)) (fun hH => ?_)
     clear hK K hb
     try simp only [wA8, wB8, wC8, wD8]
     refine wTk 5 (.tuple #[.int .i64 (p : Int), .bool true]) rfl (by kernel_rfl) (fun _ _ _ h => h) (Or.inl ⟨by rfl, fun w' h => by clear h; go_simp⟩) hH ?_
     simp only [wA8, wB8, wC8, wD8]
     refine wTk 6 (.int .i64 (p : Int)) rfl (by kernel_rfl) (fun _ _ _ h => h) (Or.inl ⟨by rfl, fun w' h => by clear h; go_simp⟩) hH ?_
     simp only [wA8, wB8, wC8, wD8]
     refine wTk 7 (.bool true) rfl (by kernel_rfl) (fun _ _ _ h => h) (Or.inl ⟨by rfl, fun w' h => by clear h; go_simp⟩) hH ?_
     simp only [wA8, wB8, wC8, wD8]
     refine wTk 8 (.int .i64 (p : Int)) rfl (by kernel_rfl) (fun _ _ _ h => h) (Or.inl ⟨by rfl, fun w' h => by clear h; go_simp⟩) hH ?_
     simp only [wA8, wB8, wC8, wD8]
     refine wTk 9 (.bool true) rfl (by kernel_rfl) (fun _ _ _ h => h) (Or.inl ⟨by rfl, fun w' h => by clear h; go_simp⟩) hH ?_
     simp only [wA8, wB8, wC8, wD8]
     refine wpAnyH_done (by kernel_rfl) ?_ _
     have HU := hm7 hH
     clear hH
     have HFU := hm7 (HF1.out.below HU.out)
     go_wp2_with (first
      | (at_builtin; refine gapp Tryz.underlying71 Tryz.infoInt7 rfl (by omega) rfl _ _ rfl Y.heap.size (.slice ca rn cc) rn (ibs7 (fxC (L.take j))) rfl (row7_below (show U.ownsRow Y.heap.size 3 1 (.slice ca rn cc) rn (ibs7 (fxC (L.take j))) by have h9 := HFU.out.c; unfold OwI at h9; rw [HRN.out] at h9; exact h9) (below1 _ _)) U.heap.size (.int .i64 (j : Int)) rfl (Bk.new _ _ _) rfl (by have := HLE.out; omega) (by have := HFU.out.b.size; simp; omega) ?_; intro g2 c9 U2 ho hg hv hl2; go_must (have HA2 := hm7 (HFU.out.con HT.out HV.out HI.out (g2 := g2) (c2 := c9) (U2 := U2) (by rw [HRN.out]; exact ho) ((Fr.of (below1 _ _)).tr (Fr.grown hg fun b hb => hb)) (hv.imp id fun e => by rw [e]; simp)); have HZ2 := hm7 (show Y.heap.size <= U2.heap.size by have z1 := (Fr.grown (P := fun _ => True) hg fun _ _ => trivial).size; have z2 := HFU.out.b.size; have z3 := (below1 U (.cells #[.int .i64 (j : Int)] 3)).size; omega)); clear ho hg hv hl2)
      | (at_builtin; refine gapp Tryz.underlying71 Tryz.infoInt7 rfl (by omega) rfl _ _ rfl Y.heap.size (.slice ka kn kc) kn (ibs7 (fxK T (L.take j))) rfl (row7_below (show U2.ownsRow Y.heap.size 3 1 (.slice ka kn kc) kn (ibs7 (fxK T (L.take j))) by have h9 := HA2.out.1; unfold OwI at h9; rw [HKN.out] at h9; exact h9) (below1 _ _)) U2.heap.size (.int .i64 (p : Int)) rfl (Bk.new _ _ _) rfl (by have := HLE.out; omega) (by have := HZ2.out; simp; omega) ?_; intro g3 c8 U3 ho hg hv hl2; have HA3 := hm7 (HA2.out.2 g3 c8 U3 (by rw [HKN.out]; exact ho) ((Fr.of (below1 _ _)).tr (Fr.grown hg fun b hb => hb)) (hv.imp id fun e => by rw [e]; simp)); clear ho hg hv hl2))
     go_roundg gg
     case measure => omega
     case rel => exact ⟨j + 1, by omega, by go_num, by have q := HA3.out; rw [HRN.out, HKN.out] at q; exact q⟩
  | zero =>
   have hlt : ¬ (j : Int) < (n : Int) := by omega
   obtain rfl : j = n := by omega
   clear hw
   go_wp2
   go_ret3
   have et : L.take j = L := List.take_of_length_le (by have := HN.out; omega)
   have q := HF.out.c
   have q' := HF.out.k
   have hka := HF.out.al
   rw [et] at q q' hka
   have hka := fxB_all hka
   exact ⟨_, _, by rw [hka]; rfl, fun _ => ⟨q, q'⟩, HF.out.b⟩
end Go.Proofs.YtechceagghcipaaGreatDoor
