import Derived.Test.YtnenadklmjcakaaGreatDoorCU1
import Derived.Test.YtnenadklmjcakaaGreatDoorCM0
import Derived.Test.YtnenadklmjcakaaGreatDoorCP2
import Derived.Test.YtnenadklmjcakaaGreatDoorRC2
import Derived.Test.YtnenadklmjcakaaGreatDoorSD15
namespace Go.Proofs.YtnenadklmjcakaaGreatDoor
open Go.RowKit

theorem flat_byt9 {α : Type} {f : α -> List Int} {l : List α} (h : ∀ x ∈ l, byt (f x)) : byt (l.flatMap f) := fun y hy => by
 obtain ⟨x, hx, hy⟩ := List.mem_flatMap.1 hy
 exact h x hx y hy
theorem kB_byt9 {k : Ck} (h : chkK k = 0) : byt (cB k) := by
 have := cB_byt9 (c := kC k) (by rw [chk_keyK, kC_key]; exact h)
 rwa [kC_key] at this
theorem sBy_byt9 {K : List Ck} (hc : ∀ c ∈ K, chkK c = 0) : byt (sBy K) := by
 unfold sBy
 exact (be_byt _ _).app (flat_byt9 fun c h => kB_byt9 (hc c h))
theorem kB_len9 {k : Ck} (h : chkK k = 0) : (cB k).length <= 20000 := by
 have := cB_len (c := kC k) (by rw [chk_keyK, kC_key]; exact h)
 rwa [kC_key] at this
theorem flatK_le9 : ∀ {K : List Ck}, (∀ c ∈ K, chkK c = 0) -> (K.flatMap cB).length <= K.length * 20000
 | [], _ => by simp
 | k :: K, h => by
  have h1 := kB_len9 (h k (by simp))
  have h2 := flatK_le9 fun c hc => h c (List.mem_cons_of_mem _ hc)
  simp only [List.flatMap_cons, List.length_append, List.length_cons]; omega
theorem sBy_len9 {K : List Ck} (hc : ∀ c ∈ K, chkK c = 0) : (sBy K).length <= K.length * 20000 + 4 := by
 unfold sBy
 simp only [List.length_append, be_len]
 have := flatK_le9 hc
 omega
end Go.Proofs.YtnenadklmjcakaaGreatDoor
namespace Go.Proofs.YtnenadklmjcakaaGreatDoor
open Go.RowKit

def fK : List Ck -> Int
 | [] => 0
 | k :: l => if chkK k = 0 then fK l else chkK k
theorem fErr_fK : ∀ l : List Cm, fErr l = fK (l.map Cm.key)
 | [] => rfl
 | c :: l => by
  rw [List.map_cons]
  unfold fErr fK
  rw [chk_keyK, fErr_fK l]
theorem fK_zero : ∀ {K : List Ck}, fK K = 0 -> ∀ k ∈ K, chkK k = 0
 | [], _, k, hk => by cases hk
 | a :: K, h, k, hk => by
  unfold fK at h
  split at h
  ·rename_i h0
   rcases List.mem_cons.1 hk with rfl | hk
   ·exact h0
   ·exact fK_zero h k hk
  ·rename_i h0
   exact absurd h h0
theorem fK_app : ∀ {a b : List Ck}, (∀ k ∈ a, chkK k = 0) -> fK (a ++ b) = fK b
 | [], _, _ => rfl
 | k :: a, b, h => by
  rw [List.cons_append, show fK (k :: (a ++ b)) = if chkK k = 0 then fK (a ++ b) else chkK k from rfl]
  rw [if_pos (h k (by simp)), fK_app fun k hk => h k (List.mem_cons_of_mem _ hk)]
def sG (K : List Ck) : List Int := if fK K = 0 then sBy K else []
theorem sG_byt (K : List Ck) : byt (sG K) := by
 unfold sG
 split
 ·rename_i h; exact sBy_byt9 (fK_zero h)
 ·intro x hx; cases hx
set_option maxRecDepth 20000 in
set_option maxHeartbeats 800000 in
theorem setG_any (l : List Cm) (v : Value) (w : World) (h : CsP w v l) (hl : l.length <= 4000000) (hz : ∀ c ∈ l, c.sml) (hwf : ∀ k, (∃ c ∈ l, c.key = k) -> ∀ d : Cm, d.key = k -> d.wf) :
  Calls Tryz.prog 7 #[v] w fun e w' => ∃ v' K, e = .returned (.tuple #[v', .int .i64 (fK K)]) /\ SetK K l /\ Bn w' v' (sG K) /\ Below w.heap.size w w' := by
 have HS : Hid (Calls Tryz.prog 26 #[v] w fun e w' => ∃ v' o, e = .returned v' /\ CsP w' v' o /\ o.length <= l.length /\ SetK (o.map Cm.key) l /\ Below w.heap.size w w') := set2_any l v w h (by omega) hz
 have HFE : Hid (∀ (X : World) (u : Value) (o : List Cm), CsP X u o -> o.length <= l.length -> SetK (o.map Cm.key) l -> Calls Tryz.prog 27 #[u] X fun e w' => e = .returned (.int .i64 (fK (o.map Cm.key))) /\ Below X.heap.size X w') := fun X u o h1 h2 h3 => by
  have := firstError_any o u X h1 (fun c hc => hwf c.key ((h3.mem _).1 (List.mem_map_of_mem hc)) c rfl) (by omega)
  rwa [fErr_fK] at this
 have HPC : Hid (∀ (X : World) (u : Value) (o : List Cm), fK (o.map Cm.key) = 0 -> CsP X u o -> o.length <= l.length -> Calls Tryz.prog 28 #[.slice none 0 0, .int .i64 4, u, .func (.func 29) #[] #[]] X fun e w' => ∃ v', e = .returned v' /\ Wr X X.heap.size (sBy (o.map Cm.key)) v' w') := fun X u o h0 h1 h2 => by
  have hc : ∀ c ∈ o, c.chk = 0 := fun c hc => by rw [chk_keyK]; exact fK_zero h0 _ (List.mem_map_of_mem hc)
  have hb := flatC_le9 hc
  have := putClauses_any o hc (by omega) u (.slice none 0 0) [] X.heap.size X (ownB_nil _ _) (by simp only [List.length_nil]; omega) (Nat.le_refl _) h1 (fun Y hY => h1.later hY)
  rw [List.nil_append, flat_key] at this
  unfold sBy
  rwa [List.length_map]
 have HLN : Hid (∀ o : List Cm, fK (o.map Cm.key) = 0 -> o.length <= l.length -> (sBy (o.map Cm.key)).length < 1000000000000000000) := fun o h0 h2 => by
  have := sBy_len9 (fK_zero h0)
  rw [List.length_map] at this
  omega
 obtain ⟨ad, cap, rfl⟩ := h.form
 clear h hz hwf
 go_enter Tryz.func7, Tryz.ntmps7
 go_upto_region 3 with (first
  | (go_at_call 26; refine HS.out.mono ?_; clear HS; rintro e w1 ⟨v1, o, rfl, ho, hol, hok, hb⟩; have HO : Hid (CsP w1 v1 o) := ho; have HOL : Hid (o.length <= l.length) := hol; have HOK : Hid (SetK (o.map Cm.key) l) := hok; have HB1 : Hid (Below w.heap.size w w1) := hb; obtain ⟨oa, oc, rfl⟩ := ho.form; clear ho hol hok hb)
  | (go_at_call 27; refine (HFE.out _ _ _ HO.out HOL.out HOK.out).mono ?_; clear HFE; rintro e w2 ⟨rfl, hb⟩; obtain ⟨E, hE⟩ : ∃ E, fK (o.map Cm.key) = E := ⟨_, rfl⟩; rw [hE]; have HE : Hid (fK (o.map Cm.key) = E) := hE; clear hE; have HO2 : Hid (CsP w2 (.slice oa o.length oc) o) := HO.out.later hb; have HB2 : Hid (Below w.heap.size w w2) := below_step HB1.out hb; clear hb))
 by_cases hz : E = 0
 ·subst hz
  go_wp2_with (go_at_call 28; refine (HPC.out _ _ _ HE.out HO2.out HOL.out).mono ?_; rintro e w3 ⟨v3, rfl, hw3⟩)
  refine bodyPost_ret (v := .tuple #[v3, .int .i64 0]) (by simp [results, Tryz.results7, go_sem]) rfl ⟨v3, o.map Cm.key, by rw [HE.out], HOK.out, ?_, HB2.out.trans (hw3.low.mono HB2.out.size)⟩
  unfold sG
  rw [if_pos HE.out]
  exact hw3.own.bn (HLN.out o HE.out HOL.out)
 ·have h1 : (E == 0) = false := by simpa using hz
  have h2 : (E != 0) = true := by simpa using hz
  have HZ : Hid (E ≠ 0) := hz
  clear hz
  go_wp2
  refine bodyPost_ret (v := .tuple #[.slice none 0 0, .int .i64 E]) (by simp [results, Tryz.results7, go_sem]) rfl ⟨_, o.map Cm.key, by rw [HE.out], HOK.out, ?_, HB2.out⟩
  unfold sG
  rw [if_neg (by rw [HE.out]; exact HZ.out)]
  exact bnP_nil _
end Go.Proofs.YtnenadklmjcakaaGreatDoor
namespace Go.Proofs.YtnenadklmjcakaaGreatDoor
open Go.RowKit

set_option maxRecDepth 20000 in
set_option maxHeartbeats 8000000 in
theorem rclauseB_any (c : Cm) (hc : (∀ a ∈ c.key.1 :: c.key.2.1, Fit a) /\ (∀ e ∈ c.key.2.2, FitE e) /\ c.key.2.1.length <= 8 /\ c.key.2.2.length <= 8) (w : World) (hk : c.ok w) :
  Calls Tryz.prog 33 #[c.v] w fun e w' => ∃ v', e = .returned v' /\ OwnB w' w.heap.size v' (cB c.key) /\ Below w.heap.size w w' := by
 obtain ⟨⟨hd, hv⟩, hb, bv, ts, tv⟩ := c
 obtain ⟨g1, g2, g3, g4⟩ := hc
 simp only [Cm.key, fsts_len8] at g1 g2 g3 g4
 have hTs : ∀ X, Below w.heap.size w X -> (∀ x ∈ hb, Ts X x.2 x.1.args) := fun X hX => by obtain ⟨_, _, _, _, _, h⟩ := hk.b.later hX; exact h
 have HA1 : Hid (∀ X, Below w.heap.size w X -> Calls Tryz.prog 76 #[hd.v hv] X fun e w' => ∃ v', e = .returned v' /\ OwnB w' X.heap.size v' (aB hd) /\ Below X.heap.size X w') := fun X hX => ratomB_any hd (g1 hd (by simp)) hv X (hk.h.later hX)
 have HAS : Hid (∀ x ∈ hb, ∀ X, Below w.heap.size w X -> Calls Tryz.prog 76 #[x.1.v x.2] X fun e w' => ∃ v', e = .returned v' /\ OwnB w' X.heap.size v' (aB x.1) /\ Below X.heap.size X w') := fun x hx X hX => ratomB_any x.1 (g1 x.1 (List.mem_cons_of_mem _ (List.mem_map_of_mem hx))) x.2 X (hTs X hX x hx)
 have HFA : Hid (∀ x ∈ hb, Fit x.1) := fun x hx => g1 x.1 (List.mem_cons_of_mem _ (List.mem_map_of_mem hx))
 have HFE : Hid (∀ x ∈ ts, FitE x) := g2
 have l1 := aB_len8 (g1 hd (by simp))
 have HYB : Hid (∀ X, Below w.heap.size w X -> As X bv hb) := fun X hX => hk.b.later hX
 have HYE : Hid (∀ X, Below w.heap.size w X -> Es X tv ts) := fun X hX => hk.t.later hX
 have hm1 : (hb.length : Int) % 256 = (hb.length : Int) := by omega
 have hm2 : (ts.length : Int) % 256 = (ts.length : Int) := by omega
 have HE : Hid (cB (Cm.key ⟨(hd, hv), hb, bv, ts, tv⟩) = aB hd ++ [(hb.length : Int)] ++ (hb.take hb.length).flatMap (fun x => aB x.1) ++ [(ts.length : Int)] ++ (ts.take ts.length).flatMap eB) := by show _ = _; simp [cB, Cm.key, fsts_len8, fsts_flat8, List.take_length]
 obtain ⟨⟨a1, n1, cap1, x1⟩, ⟨a2, cap2, x2⟩, ⟨a3, cap3, x3⟩, -, -⟩ := hk.shape
 simp only at x1 x2 x3
 subst x1 x2 x3
 clear hk g1 g2 hTs
 obtain ⟨HDB, hHDB⟩ : ∃ T, aB hd = T := ⟨_, rfl⟩
 rw [hHDB] at HA1 HE l1
 clear hHDB
 obtain ⟨⟨k, n, s⟩, nm, ls⟩ := hd
 go_enter Tryz.func33, Tryz.ntmps33
 go_upto_region 3 with (first
  | (go_at_call 76; refine (HA1.out _ (below1 _ _)).mono ?_; rintro e w1 ⟨v1, rfl, ho1, hb1⟩; have HO1 : Hid (OwnB w1 w.heap.size v1 HDB) := ho1.mono (by simp); have HB1 : Hid (Below w.heap.size w w1) := below_step (below1 _ _) hb1; have HK1 : Hid (Blk w1 w.heap.size _ _) := (Blk.new w #[.int .i64 k, .int .i64 n, .string s, .string nm, .slice a1 n1 cap1, .slice a2 hb.length cap2, .slice a3 ts.length cap3] 58).later hb1; obtain ⟨p0, p1, p2, p3, p4, p5, p6⟩ := cseven HK1.out; have hz1 := HB1.out.size; clear ho1 hb1)
  | (at_builtin; refine app8 rfl _ _ rfl w.heap.size v1 HDB rfl (HO1.out.later (below1 _ _)) w1.heap.size [(hb.length : Int)] rfl (heap_alloc_new w1 _) (by simp) (by simp only [List.length_cons, List.length_nil]; omega) (by simp; omega) ?_; intro v2 w2 ho2; have HO2 : Hid (Wr w1 w.heap.size (HDB ++ [(hb.length : Int)]) v2 w2) := Wr.ahead (below1 _ _) hz1 ho2; clear ho2 p0 p1 p2 p3 p4 p5 p6))
 go_wp2
 go_loopg [3, 4] hb.length (fun g u i wr => ∃ j : Nat, j + g = hb.length /\ i = .int .i64 j /\ Wr w1 w.heap.size (HDB ++ [(hb.length : Int)] ++ (hb.take j).flatMap (fun x => aB x.1)) u wr)
 case atStart => exact ⟨0, by omega, rfl, by rw [List.take_zero, List.flatMap_nil, List.append_nil]; exact HO2.out⟩
 case round =>
  obtain ⟨j, hj, rfl, hw⟩ := hrel
  have HWr : Hid (Wr w1 w.heap.size (HDB ++ [(hb.length : Int)] ++ (hb.take j).flatMap (fun x => aB x.1)) u3 wr) := hw
  have hsz := hw.low.size
  have hbw : Below w.heap.size w wr := HB1.out.trans hw.low
  obtain ⟨p0, p1, p2, p3, p4, p5, p6⟩ := cseven (HK1.out.k8 hw.k8 (by decide))
  have hlenA : ((hb.take j).flatMap (fun x => aB x.1)).length <= 8000 := by
   have h1 := flat_len (f := fun x : At × Value => aB x.1) (l := hb.take j) (fun x hx => aB_len8 (HFA.out x (List.mem_of_mem_take hx)))
   rw [List.length_take] at h1
   omega
  clear hw
  cases gk with
  | succ g =>
   have hlt : j < hb.length := by omega
   obtain ⟨t, ht⟩ : ∃ t, hb[j]? = some t := ⟨_, List.getElem?_eq_getElem hlt⟩
   have htm := List.mem_of_getElem? ht
   obtain ⟨ad', cap', hx, -, hxx, hts⟩ := HYB.out _ hbw
   simp only [Value.slice.injEq] at hx
   obtain ⟨rfl, -, rfl⟩ := hx
   rcases hxx with hxx | ⟨b, o, rfl, hbs, hxx⟩
   ·subst hxx; simp at hlt
   ·obtain ⟨c0, c1, c2, c3, c4⟩ := hxx j _ ht
    have hl8 : 0 < (aB t.1).length /\ (aB t.1).length <= 1000 := ⟨by unfold aB; have := (tB_len t.1.by_).1; simp only [List.length_append]; omega, aB_len8 (HFA.out t htm)⟩
    have HS : Hid ((hb.take (j + 1)).flatMap (fun x => aB x.1) = (hb.take j).flatMap (fun x => aB x.1) ++ aB t.1) := flat_succ ht
    have HPT : Hid (Calls Tryz.prog 76 #[t.1.v t.2] wr fun e w' => ∃ v', e = .returned v' /\ OwnB w' wr.heap.size v' (aB t.1) /\ Below wr.heap.size wr w') := HAS.out t htm wr hbw
    obtain ⟨xa, xcap, hxv⟩ : ∃ a cap, t.2 = .slice a t.1.args.length cap := by obtain ⟨a, cap, e, -⟩ := hts t htm; exact ⟨a, cap, e⟩
    obtain ⟨U, hU⟩ : ∃ U, aB t.1 = U := ⟨_, rfl⟩
    rw [hU] at HPT hl8 HS
    clear hU
    obtain ⟨⟨⟨tk, tn, tt⟩, tm, tl⟩, xv⟩ := t
    simp only at c0 c1 c2 c3 c4 hxv
    subst hxv
    clear hxx ht htm hts hbw
    have i1 : (0 : Int) <= (j : Int) := by omega
    have i2 : (j : Int) < (hb.length : Int) := by omega
    go_wp2_with (first
     | (go_at_call 76; refine HPT.out.mono ?_; rintro e w5 ⟨v5, rfl, ho5, hb5⟩; have HO5 : Hid (OwnB w5 _ v5 U) := ho5; have HB5 : Hid (Below wr.heap.size wr w5) := hb5; have hz5 := hb5.size; clear ho5 hb5)
     | (at_builtin; refine app8w rfl _ _ rfl w.heap.size u3 _ rfl (HWr.out.own.later HB5.out) v5 _ U rfl HO5.out hl8.1 (by simp only [List.length_append, List.length_cons, List.length_nil]; omega) (by omega) ?_; intro v6 w6 ho6))
    go_roundg g
    case measure => omega
    case rel =>
     refine ⟨j + 1, by omega, by go_num, ?_⟩
     rw [HS.out, <- List.append_assoc]
     exact HWr.out.step (Wr.ahead HB5.out (by omega) ho6)
  | zero =>
   obtain rfl : j = hb.length := by omega
   have hz : ¬ ((hb.length : Int) < (hb.length : Int)) := by omega
   generalize HF : (HDB ++ [(hb.length : Int)] ++ (hb.take hb.length).flatMap (fun x => aB x.1)) = F at HWr HE
   have hFl : F.length <= 10000 := by rw [<- HF]; simp only [List.length_append, List.length_cons, List.length_nil]; omega
   clear HF hlenA hbw
   go_upto_region 8 with (at_builtin; refine app8 rfl _ _ rfl w.heap.size u3 F rfl (HWr.out.own.later (below1 _ _)) wr.heap.size [(ts.length : Int)] rfl (heap_alloc_new wr _) (by simp) (by simp only [List.length_cons, List.length_nil]; omega) (by simp; omega) ?_; intro v7 w7 ho7; have HO7 : Hid (Wr w1 w.heap.size (F ++ [(ts.length : Int)]) v7 w7) := HWr.out.step (Wr.ahead (below1 _ _) (by omega) ho7); clear ho7 p0 p1 p2 p3 p4 p5 p6)
   go_wp2
   go_loopg [3, 5] ts.length (fun g u i wz => ∃ j : Nat, j + g = ts.length /\ i = .int .i64 j /\ Wr w1 w.heap.size (F ++ [(ts.length : Int)] ++ (ts.take j).flatMap eB) u wz)
   case atStart => exact ⟨0, by omega, rfl, by rw [List.take_zero, List.flatMap_nil, List.append_nil]; exact HO7.out⟩
   case round =>
    obtain ⟨j, hj, rfl, hw⟩ := hrel
    have HWz : Hid (Wr w1 w.heap.size (F ++ [(ts.length : Int)] ++ (ts.take j).flatMap eB) u3 wr) := hw
    have hszz := hw.low.size
    have hbw : Below w.heap.size w wr := HB1.out.trans hw.low
    have HBz : Hid (Below w.heap.size w wr) := hbw
    have HKz : Hid (Blk wr w.heap.size _ _) := HK1.out.k8 hw.k8 (by decide)
    obtain ⟨p0, p1, p2, p3, p4, p5, p6⟩ := cseven HKz.out
    have hlenE : ((ts.take j).flatMap eB).length <= 8000 := by
     have h1 := flat_len (f := eB) (l := ts.take j) (fun x hx => eB_len (HFE.out x (List.mem_of_mem_take hx)))
     rw [List.length_take] at h1
     omega
    clear hw
    cases gk with
    | succ g =>
     have hlt : j < ts.length := by omega
     obtain ⟨t, ht⟩ : ∃ t, ts[j]? = some t := ⟨_, List.getElem?_eq_getElem hlt⟩
     have htm := List.mem_of_getElem? ht
     have HCS : Hid (∀ X, Below w.heap.size w X -> ∃ b o, a3 = some ⟨b, o, none⟩ /\ X.cell? ⟨b, o + j * 7, none⟩ = some (.int .i64 t.op) /\ X.cell? ⟨b, o + j * 7 + 1, none⟩ = some (.int .i64 t.l.k) /\ X.cell? ⟨b, o + j * 7 + 2, none⟩ = some (.int .i64 t.l.n) /\ X.cell? ⟨b, o + j * 7 + 3, none⟩ = some (.string t.l.s) /\ X.cell? ⟨b, o + j * 7 + 4, none⟩ = some (.int .i64 t.r.k) /\ X.cell? ⟨b, o + j * 7 + 5, none⟩ = some (.int .i64 t.r.n) /\ X.cell? ⟨b, o + j * 7 + 6, none⟩ = some (.string t.r.s)) := fun X hX => by
      obtain ⟨ad', cap', hx, -, hxx⟩ := HYE.out X hX
      simp only [Value.slice.injEq] at hx
      obtain ⟨rfl, -, -⟩ := hx
      rcases hxx with hxx | ⟨b, o, e, hbs, hxx⟩
      ·subst hxx; simp at hlt
      ·exact ⟨b, o, e, hxx j _ ht⟩
     have hfe := HFE.out t htm
     have hm3 : t.op % 256 = t.op := by have := hfe.op; omega
     have hll := tB_len t.l
     have hlr := tB_len t.r
     have hls := hfe.l.2
     have hrs := hfe.r.2
     have HPL : Hid (∀ X : World, Calls Tryz.prog 49 #[t.l.v] X fun e w' => ∃ v', e = .returned v' /\ OwnB w' X.heap.size v' (tB t.l) /\ Below X.heap.size X w') := fun X => rterm_any t.l hfe.l X
     have HPR : Hid (∀ X : World, Calls Tryz.prog 49 #[t.r.v] X fun e w' => ∃ v', e = .returned v' /\ OwnB w' X.heap.size v' (tB t.r) /\ Below X.heap.size X w') := fun X => rterm_any t.r hfe.r X
     have HS : Hid ((ts.take (j + 1)).flatMap eB = (ts.take j).flatMap eB ++ ([t.op] ++ tB t.l ++ tB t.r)) := by have := flat_succ (f := eB) ht; show _ = _; rw [this]; simp [eB]
     obtain ⟨UL, hUL⟩ : ∃ U, tB t.l = U := ⟨_, rfl⟩
     obtain ⟨UR, hUR⟩ : ∃ U, tB t.r = U := ⟨_, rfl⟩
     rw [hUL] at HPL hll HS
     rw [hUR] at HPR hlr HS
     obtain ⟨G, hG⟩ : ∃ G, F ++ [(ts.length : Int)] ++ (ts.take j).flatMap eB = G := ⟨_, rfl⟩
     have hGl : G.length <= 30000 := by rw [<- hG]; simp only [List.length_append, List.length_cons, List.length_nil]; omega
     have HGE : Hid (F ++ [(ts.length : Int)] ++ (ts.take (j + 1)).flatMap eB = G ++ [t.op] ++ UL ++ UR) := by show _ = _; rw [HS.out, <- hG]; simp
     rw [hG] at HWz
     clear hUL hUR hG HS hlenE hfe htm ht
     obtain ⟨op, ⟨xk, xn, xs⟩, ⟨yk, yn, ys⟩⟩ := t
     simp only at *
     obtain ⟨b, o, rfl, c0, c1, c2, c3, c4, c5, c6⟩ := HCS.out _ hbw
     clear hbw
     have i1 : (0 : Int) <= (j : Int) := by omega
     have i2 : (j : Int) < (ts.length : Int) := by omega
     go_wp2_with (first
      | (at_builtin; refine app8 rfl _ _ rfl w.heap.size u3 G rfl (HWz.out.own.later (below1 _ _)) wr.heap.size [op] rfl (heap_alloc_new wr _) (by simp) (by simp only [List.length_cons, List.length_nil]; omega) (by simp; omega) ?_; intro v8 w8 ho8; have HW8 : Hid (Wr wr w.heap.size (G ++ [op]) v8 w8) := Wr.ahead (below1 _ _) (by omega) ho8; have hz8 := HW8.out.low.size; have HB8 : Hid (Below w.heap.size w w8) := HBz.out.trans HW8.out.low; have HK8 : Hid (Blk w8 _ _ _) := HKz.out.k8 HW8.out.k8 (by decide); clear p0 p1 p2 p3 p4 p5 p6 c0 c1 c2 c3 c4 c5 c6 ho8; obtain ⟨p0, p1, p2, p3, p4, p5, p6⟩ := cseven HK8.out; obtain ⟨b', o', e', c0, c1, c2, c3, c4, c5, c6⟩ := HCS.out _ HB8.out; cases e')
      | (go_at_call 49; refine (HPL.out _).mono ?_; rintro e w9 ⟨v9, rfl, ho9, hb9⟩; have HO9 : Hid (OwnB w9 _ v9 UL) := ho9; have HB9 : Hid (Below w8.heap.size w8 w9) := hb9; have hz9 := hb9.size; have HK9 : Hid (Blk w9 _ _ _) := HK8.out.later hb9; clear ho9 hb9 HPL)
      | (at_builtin; refine app8w rfl _ _ rfl w.heap.size v8 (G ++ [op]) rfl (HW8.out.own.later HB9.out) v9 _ UL rfl HO9.out hll.1 (by simp only [List.length_append, List.length_cons, List.length_nil]; omega) (by omega) ?_; intro v10 w10 ho10; have HW10 : Hid (Wr wr w.heap.size (G ++ [op] ++ UL) v10 w10) := HW8.out.step (Wr.ahead HB9.out (by omega) ho10); have hz10 := HW10.out.low.size; have HB10 : Hid (Below w.heap.size w w10) := HBz.out.trans HW10.out.low; have HK10 : Hid (Blk w10 _ _ _) := HK9.out.k8 ho10.k8 (by decide); clear p0 p1 p2 p3 p4 p5 p6 c0 c1 c2 c3 c4 c5 c6 ho10 HO9; obtain ⟨p0, p1, p2, p3, p4, p5, p6⟩ := cseven HK10.out; obtain ⟨b', o', e', c0, c1, c2, c3, c4, c5, c6⟩ := HCS.out _ HB10.out; cases e')
      | (go_at_call 49; refine (HPR.out _).mono ?_; rintro e w11 ⟨v11, rfl, ho11, hb11⟩; have HO11 : Hid (OwnB w11 _ v11 UR) := ho11; have HB11 : Hid (Below w10.heap.size w10 w11) := hb11; have hz11 := hb11.size; clear ho11 hb11)
      | (at_builtin; refine app8w rfl _ _ rfl w.heap.size v10 (G ++ [op] ++ UL) rfl (HW10.out.own.later HB11.out) v11 _ UR rfl HO11.out hlr.1 (by simp only [List.length_append, List.length_cons, List.length_nil]; omega) (by omega) ?_; intro v12 w12 ho12; have HW12 : Hid (Wr wr w.heap.size (G ++ [op] ++ UL ++ UR) v12 w12) := HW10.out.step (Wr.ahead HB11.out (by omega) ho12); clear ho12))
     go_roundg g
     case measure => omega
     case rel =>
      refine ⟨j + 1, by omega, by go_num, ?_⟩
      rw [HGE.out]
      exact HWz.out.step HW12.out
    | zero =>
     obtain rfl : j = ts.length := by omega
     have hz2 : ¬ ((ts.length : Int) < (ts.length : Int)) := by omega
     clear hbw
     go_wp2
     go_ret
     exact ⟨_, rfl, by rw [HE.out]; exact HWz.out.own, HBz.out⟩
end Go.Proofs.YtnenadklmjcakaaGreatDoor
namespace Go.Proofs.YtnenadklmjcakaaGreatDoor
open Go.RowKit

set_option maxRecDepth 20000 in
set_option maxHeartbeats 2000000 in
theorem rset_nil (a : Option Addr) (cap : Nat) (w : World) : Calls Tryz.prog 30 #[.slice a 0 cap] w (RSP w []) := by
 have HRS : Hid (RSP w [] (.returned (.slice none 0 0)) w) := rsp_mk (o := []) ⟨Or.inl ⟨rfl, rfl⟩, fun c hc => by cases hc⟩ (fun c hc => by cases hc) (Nat.le_refl _) SetK.nil (Below.refl _ _)
 go_enter Tryz.func30, Tryz.ntmps30
 go_wp2
 go_ret
 exact HRS.out
structure RSL (w : World) (v : Value) (l : List Cm) : Prop where
 c : CsP w v l
 p : ∀ c ∈ l, OKP w c /\ (Ck.terms c.key).length <= 4000000 /\ c.szs
 q : ∀ a n cap, v = .slice a n cap -> n <= cap
theorem OKP.laterS {w w' : World} {c : Cm} (h : OKP w c) (hb : Below w.heap.size w w') : OKP w' c := ⟨h.ok.later hb, h.hh.later hb, fun x hx => (h.hp x hx).later hb, h.bp.later hb⟩
theorem rset_any : ∀ (N : Nat) (l : List Cm) (v : Value) (w : World), l.length <= N -> RSL w v l -> l.length <= 1000000000 -> Calls Tryz.prog 30 #[v] w (RSP w l)
 | N, [], v, w, _, h, _ => by
  obtain ⟨a, cap, rfl⟩ := h.c.form
  exact rset_nil a cap w
 | N, [c], v, w, _, h, _ => by
  obtain ⟨h1, h2, h3⟩ := h.p c (List.mem_singleton.2 rfl)
  refine (rset_one c v w h.c h1 h2).mono fun e w' ⟨v', o, he, hc, hk, hop, hb⟩ => ?_
  subst he
  have hlen : o.length = 1 := by have := congrArg List.length hk; simpa using this
  refine rsp_mk hc (fun d hd => ⟨szs_key (c := c) ?_ h3, hop d hd⟩) (by rw [hlen]; exact Nat.le_refl _) (by rw [hk]; exact SetK.one (c := c) (d := c) rfl) hb
  have : d.key ∈ o.map Cm.key := List.mem_map.2 ⟨d, hd, rfl⟩
  rw [hk] at this
  simpa using this
 | 0, c :: d :: l, v, w, hN, h, hl => by simp at hN
 | N + 1, c :: d :: l, v, w, hN, h, hl => by
  obtain ⟨va, vc, rfl⟩ := h.c.form
  obtain ⟨b, o, rfl, hr⟩ := h.c.get (j := 0) (c := c) rfl
  have hcap := h.q _ _ _ rfl
  have hl2 : (c :: d :: l).length = l.length + 2 := rfl
  refine rset_step b o vc (c :: d :: l) w (by omega) hl hcap (fun X hX => ?_) (fun X hX => ?_)
  ·refine rset_any N _ _ X (by rw [List.length_take]; omega) ⟨(h.c.later hX).take (by omega) vc, fun x hx => ?_, fun a n cp e => ?_⟩ (by rw [List.length_take]; omega)
   ·obtain ⟨h1, h2⟩ := h.p x (List.mem_of_mem_take hx); exact ⟨h1.laterS hX, h2⟩
   ·simp only [Value.slice.injEq] at e; omega
  ·refine rset_any N _ _ X (by rw [List.length_drop]; omega) ⟨(h.c.later hX).drop (by omega) _, fun x hx => ?_, fun a n cp e => ?_⟩ (by rw [List.length_drop]; omega)
   ·obtain ⟨h1, h2⟩ := h.p x (List.mem_of_mem_drop hx); exact ⟨h1.laterS hX, h2⟩
   ·simp only [Value.slice.injEq] at e; omega
end Go.Proofs.YtnenadklmjcakaaGreatDoor
namespace Go.Proofs.YtnenadklmjcakaaGreatDoor
open Go.RowKit

set_option maxRecDepth 20000 in
set_option maxHeartbeats 1600000 in
theorem rsetB_any (l : List Cm) (v : Value) (w : World) (h : RSL w v l) (hl : l.length <= 4000000) :
  Calls Tryz.prog 8 #[v] w fun e w' => ∃ v' K, e = .returned (.tuple #[v', .int .i64 (fK K)]) /\ SetK K l /\ Bn w' v' (sG K) /\ Below w.heap.size w w' := by
 have HS : Hid (Calls Tryz.prog 30 #[v] w (RSP w l)) := rset_any l.length l v w (Nat.le_refl _) h (by omega)
 have HBE : Hid (∀ (n : Int) (X : World), Calls Tryz.prog 31 #[.int .u64 n, .int .i64 4] X fun e w' => ∃ v', e = .returned v' /\ OwnB w' X.heap.size v' (be 4 n) /\ Below X.heap.size X w') := fun n X => rbe_any 4 (by omega) n X
 obtain ⟨va, vc, rfl⟩ := h.c.form
 obtain ⟨vn, hvn⟩ : ∃ n, n = l.length := ⟨_, rfl⟩
 rw [<- hvn] at HS ⊢
 have HLL : Hid (l.length <= 4000000) := hl
 clear h hvn hl
 go_enter Tryz.func8, Tryz.ntmps8
 go_upto_region 3 with (first
  | (go_at_call 30; refine HS.out.mono ?_; clear HS; rintro e w1 ⟨v1, o, rfl, hc, hp, hlo, hk, hb⟩; obtain ⟨oa, oc, rfl⟩ := hc.form; obtain ⟨on, hon⟩ : ∃ n, n = o.length := ⟨_, rfl⟩; rw [<- hon] at hc ⊢; have HC : Hid (CsP w1 (.slice oa on oc) o) := hc; have HP : Hid (∀ c ∈ o, c.szs /\ OKP w1 c) := hp; have HK : Hid (SetK (o.map Cm.key) l) := hk; have HON : Hid (on = o.length /\ on <= 4000000) := ⟨hon, by have := HLL.out; omega⟩; have HB1 : Hid (Below w.heap.size w w1) := hb; have hm1 : (on : Int) % 18446744073709551616 = (on : Int) := (by have := HLL.out; omega); have hon4 : on <= 4000000 := HON.out.2; clear hc hp hlo hk hb hon)
  | (go_at_call 31; refine (HBE.out _ _).mono ?_; clear HBE; rintro e w2 ⟨v2, rfl, ho, hb⟩; have HO2 : Hid (OwnB w2 w1.heap.size v2 (be 4 (on : Int))) := ho; have HB2 : Hid (Below w1.heap.size w1 w2) := hb; clear ho hb))
 go_wp2_with fail
 go_loopg [5, 6] on (fun g u i wr => ∃ (j : Nat), j + g = on /\ i = .int .i64 (j : Int) /\ (∀ c ∈ o.take j, c.chk = 0) /\ OwnB wr w1.heap.size u (be 4 (on : Int) ++ (o.take j).flatMap cBm) /\ Below w1.heap.size w1 wr)
 case atStart => exact ⟨0, by omega, rfl, (fun c hc => by simp at hc), by rw [List.take_zero, List.flatMap_nil, List.append_nil]; exact HO2.out, HB2.out⟩
 case round =>
  obtain ⟨j, hj, rfl, hck, ho, hb⟩ := hrel
  obtain ⟨ua, un, uc, rfl⟩ := ownB_form ho
  have HO : Hid (OwnB wr w1.heap.size (.slice ua un uc) (be 4 (on : Int) ++ (o.take j).flatMap cBm)) := ho
  have HB : Hid (Below w1.heap.size w1 wr) := hb
  have HCK : Hid (∀ c ∈ o.take j, c.chk = 0) := hck
  clear ho hb hck HO2 HB2
  cases gk with
  | succ g =>
   have i1 : (j : Int) < (on : Int) := by omega
   have i0 : (0 : Int) <= (j : Int) := by omega
   obtain ⟨t, ht⟩ : ∃ t, o[j]? = some t := ⟨_, List.getElem?_eq_getElem (by have := HON.out.1; omega)⟩
   obtain ⟨b, oo, rfl, hbs, hr, hok⟩ := HC.out.at_ ht
   obtain ⟨e0, e1, e2, e3, e4, e5, e6⟩ := hr.seven ht
   have htm := List.mem_of_getElem? ht
   have htk : o.take (j + 1) = o.take j ++ [t] := by rw [List.take_add_one, ht]; rfl
   have hdr : o = o.take j ++ t :: o.drop (j + 1) := by
    have h1 : o.drop j = t :: o.drop (j + 1) := by rw [List.drop_eq_getElem_cons (by have := (List.getElem?_eq_some_iff.1 ht).1; omega)]; congr 1; exact (List.getElem?_eq_some_iff.1 ht).2
    rw [<- h1, List.take_append_drop]
   have HKP : Hid (∀ X : World, Below w1.heap.size w1 X -> Calls Tryz.prog 32 #[t.v] X fun e w' => e = .returned (.int .i64 t.chk) /\ Below X.heap.size X w') := fun X hX => by
    have hk := (HP.out t htm).2.later hX
    exact rcheckC_any t X hk.ok hk.hh hk.hp hk.bp
   have HCL : Hid (t.chk = 0 -> ∀ X : World, Below w1.heap.size w1 X -> Calls Tryz.prog 33 #[t.v] X fun e w' => ∃ v', e = .returned v' /\ OwnB w' X.heap.size v' (cB t.key) /\ Below X.heap.size X w') := fun h0 X hX => rclauseB_any t (by
    obtain ⟨g1, g2, g3, g4⟩ := chk_fit h0
    exact ⟨g1, g2, g3, g4⟩) X (hok.later hX)
   have HER : Hid (t.chk ≠ 0 -> fK (o.map Cm.key) = t.chk) := fun h0 => by
    rw [hdr, List.map_append, fK_app (fun k hk => by obtain ⟨c, hc, rfl⟩ := List.mem_map.1 hk; rw [<- chk_keyK]; exact HCK.out c hc), List.map_cons]
    unfold fK
    rw [<- chk_keyK, if_neg h0]
   have HNX : Hid (t.chk = 0 -> (∀ c ∈ o.take (j + 1), c.chk = 0) /\ be 4 (on : Int) ++ (o.take (j + 1)).flatMap cBm = be 4 (on : Int) ++ (o.take j).flatMap cBm ++ cB t.key) := fun h0 => ⟨fun c hc => by
     rw [htk] at hc
     rcases List.mem_append.1 hc with hc | hc
     ·exact HCK.out c hc
     ·rw [List.mem_singleton] at hc; subst hc; exact h0, by rw [htk, List.flatMap_append, List.append_assoc]; congr 1; congr 1; simp [cBm]⟩
   have HLE : Hid (t.chk = 0 -> 0 < (cB t.key).length /\ (be 4 (on : Int) ++ (o.take j).flatMap cBm).length + (cB t.key).length <= 1000000000000) := fun h0 => by
    have h1 := flatC_le9 (l := o.take j) HCK.out
    have h2 := cB_len h0
    have h3 := List.length_pos_iff.2 (cB_ne t.key)
    rw [List.length_take] at h1
    refine ⟨h3, ?_⟩
    rw [List.length_append, be_len]
    have := HON.out
    omega
   obtain ⟨U, hU⟩ : ∃ U, cB t.key = U := ⟨_, rfl⟩
   obtain ⟨E, hE⟩ : ∃ E, t.chk = E := ⟨_, rfl⟩
   rw [hU] at HCL HNX HLE
   rw [hE] at HKP HCL HER HNX HLE
   have hsh := hok.shape
   clear hr hok ht htm htk hdr hU hE
   obtain ⟨⟨⟨⟨tk, tn, ts⟩, tm, tl⟩, tv⟩, tb, tbv, tt, ttv⟩ := t
   obtain ⟨⟨t1, t2, t3, x1⟩, ⟨t4, t6, x2⟩, ⟨t7, t9, x3⟩, -, -⟩ := hsh
   obtain ⟨t5, z5⟩ : ∃ n, n = tb.length := ⟨_, rfl⟩
   obtain ⟨t8, z8⟩ : ∃ n, n = tt.length := ⟨_, rfl⟩
   simp only at e0 e1 e2 e3 e4 e5 e6 x1 x2 x3
   rw [<- z5] at x2
   rw [<- z8] at x3
   subst x1 x2 x3
   clear z5 z8
   have HCE : Hid (∀ X : World, Below w1.heap.size w1 X -> X.cell? ⟨b, oo + j * 7, none⟩ = some (.int .i64 tk) /\ X.cell? ⟨b, oo + j * 7 + 1, none⟩ = some (.int .i64 tn) /\ X.cell? ⟨b, oo + j * 7 + 2, none⟩ = some (.string ts) /\ X.cell? ⟨b, oo + j * 7 + 3, none⟩ = some (.string tm) /\ X.cell? ⟨b, oo + j * 7 + 4, none⟩ = some (.slice t1 t2 t3) /\ X.cell? ⟨b, oo + j * 7 + 5, none⟩ = some (.slice t4 t5 t6) /\ X.cell? ⟨b, oo + j * 7 + 6, none⟩ = some (.slice t7 t8 t9)) := fun X hX => ⟨cell_step hX hbs e0, cell_step hX hbs e1, cell_step hX hbs e2, cell_step hX hbs e3, cell_step hX hbs e4, cell_step hX hbs e5, cell_step hX hbs e6⟩
   clear e0 e1 e2 e3 e4 e5 e6
   obtain ⟨q0, q1, q2, q3, q4, q5, q6⟩ := HCE.out _ HB.out
   go_upto_region 7 with (go_at_call 32; refine (HKP.out _ HB.out).mono ?_; rintro e w3 ⟨rfl, hb⟩; have HO3 : Hid (OwnB w3 w1.heap.size (.slice ua un uc) (be 4 (on : Int) ++ (o.take j).flatMap cBm)) := HO.out.later hb; have HB3 : Hid (Below w1.heap.size w1 w3) := below_step HB.out hb; clear hb q0 q1 q2 q3 q4 q5 q6)
   clear HO HB HKP
   by_cases hz : E = 0
   ·subst hz
    have HCL2 : Hid (∀ X : World, Below w1.heap.size w1 X -> Calls Tryz.prog 33 #[Cm.v ⟨(⟨⟨tk, tn, ts⟩, tm, tl⟩, .slice t1 t2 t3), tb, .slice t4 t5 t6, tt, .slice t7 t8 t9⟩] X fun e w' => ∃ v', e = .returned v' /\ OwnB w' X.heap.size v' U /\ Below X.heap.size X w') := HCL.out rfl
    have HNX2 : Hid ((∀ c ∈ o.take (j + 1), c.chk = 0) /\ be 4 (on : Int) ++ (o.take (j + 1)).flatMap cBm = be 4 (on : Int) ++ (o.take j).flatMap cBm ++ U) := HNX.out rfl
    have HLE2 : Hid (0 < U.length /\ (be 4 (on : Int) ++ (o.take j).flatMap cBm).length + U.length <= 1000000000000) := HLE.out rfl
    clear HCL HNX HLE HER
    obtain ⟨q0, q1, q2, q3, q4, q5, q6⟩ := HCE.out _ HB3.out
    go_wp2_with (first
     | (go_at_call 33; refine (HCL2.out _ HB3.out).mono ?_; rintro e w4 ⟨v4, rfl, ho, hb⟩; obtain ⟨ya, yn, yc, rfl⟩ := ownB_form ho; have HU4 : Hid (OwnB w4 w3.heap.size (.slice ya yn yc) U) := ho; have HO4 : Hid (OwnB w4 w1.heap.size (.slice ua un uc) (be 4 (on : Int) ++ (o.take j).flatMap cBm)) := HO3.out.later hb; have HB4 : Hid (Below w1.heap.size w1 w4) := below_step HB3.out hb; clear ho hb q0 q1 q2 q3 q4 q5 q6)
     | (at_builtin; refine app8w rfl _ _ rfl w1.heap.size (.slice ua un uc) _ rfl HO4.out (.slice ya yn yc) _ U rfl HU4.out HLE2.out.1 HLE2.out.2 HB4.out.size ?_; intro v5 w5 ho5))
    go_roundg g
    case measure => omega
    case rel => exact ⟨j + 1, by omega, by go_num, HNX2.out.1, by rw [HNX2.out.2]; exact ho5.own, HB4.out.trans ho5.low⟩
   ·have h1 : (E == 0) = false := by simpa using hz
    have h2 : (E != 0) = true := by simpa using hz
    have HFK : Hid (fK (o.map Cm.key) = E /\ E ≠ 0) := ⟨HER.out hz, hz⟩
    clear hz
    go_wp2
    refine bodyPost_ret (v := .tuple #[.slice none 0 0, .int .i64 E]) (by simp [results, Tryz.results8, go_sem]) rfl ⟨_, o.map Cm.key, by rw [HFK.out.1], HK.out, ?_, HB1.out.trans (HB3.out.mono HB1.out.size)⟩
    unfold sG
    rw [if_neg (by rw [HFK.out.1]; exact HFK.out.2)]
    exact bnP_nil _
  | zero =>
   obtain rfl : j = on := by omega
   have i1 : ¬ ((j : Int) < (j : Int)) := by omega
   have hall : o.take j = o := List.take_of_length_le (by have := HON.out.1; omega)
   have HFK : Hid (fK (o.map Cm.key) = 0) := by
    have := fK_app (a := o.map Cm.key) (b := []) (fun k hk => by obtain ⟨c, hc, rfl⟩ := List.mem_map.1 hk; rw [<- chk_keyK]; exact HCK.out c (by rw [hall]; exact hc))
    rw [List.append_nil] at this
    exact this
   have HBY : Hid (be 4 (j : Int) ++ (o.take j).flatMap cBm = sBy (o.map Cm.key)) := by
    show _ = _
    rw [hall]
    unfold sBy
    rw [List.length_map, <- HON.out.1, flat_key]
   have HLN : Hid ((sBy (o.map Cm.key)).length < 1000000000000000000) := by
    have := sBy_len9 (fK_zero HFK.out)
    rw [List.length_map, <- HON.out.1] at this
    show _ < _
    omega
   clear hall
   go_wp2
   refine bodyPost_ret (v := .tuple #[.slice ua un uc, .int .i64 0]) (by simp [results, Tryz.results8, go_sem]) rfl ⟨_, o.map Cm.key, by rw [HFK.out], HK.out, ?_, HB1.out.trans (HB.out.mono HB1.out.size)⟩
   unfold sG
   rw [if_pos HFK.out, <- HBY.out]
   exact HO.out.bn (by rw [HBY.out]; exact HLN.out)
end Go.Proofs.YtnenadklmjcakaaGreatDoor
namespace Go.Proofs.YtnenadklmjcakaaGreatDoor
open Go.RowKit

theorem row_hi {e : TypeId} {w w' : World} {base n m : Nat} {v : Value} {xs : List Value} (h : w.ownsRow base e n v m xs) (hb : ∀ k, base <= k -> k < w.heap.size -> w'.heap[k]? = w.heap[k]?) : w'.ownsRow base e n v m xs :=
 row_agree h fun k hk => by
  obtain ⟨h1, cur, h2⟩ := row_block h hk
  exact hb k h1 (Array.getElem?_eq_some_iff.1 h2).1
def Hi (B : Nat) (w w' : World) : Prop := w.heap.size <= w'.heap.size /\ ∀ k, B <= k -> k < w.heap.size -> w'.heap[k]? = w.heap[k]?
theorem Hi.refl (B : Nat) (w : World) : Hi B w w := ⟨Nat.le_refl _, fun _ _ _ => rfl⟩
theorem Hi.set {B : Nat} {w w' : World} {g i : Nat} {u : Value} (h : Hi B w w') (hg : g < B) : Hi B w (w'.setCell ⟨g, i, none⟩ u) :=
 ⟨by simpa using h.1, fun k h1 h2 => (heap_setCell_other _ _ _ _ (by show k ≠ g; omega)).trans (h.2 k h1 h2)⟩
theorem MC8.hi {B B' : Nat} {X X' : World} {d : Cm} (h : MC8 B X d) (hk : Hi B' X X') (hB : B' <= B) : MC8 B X' d :=
 have hk' := fun k (h1 : B <= k) h2 => hk.2 k (by omega) h2
 ⟨row_hi h.h hk', ⟨row_hi h.b.1 hk', fun y hy => row_hi (h.b.2 y hy) hk'⟩, row_hi h.t hk'⟩
theorem OCL.hi {B B' : Nat} {X X' : World} {v : Value} {l : List Cm} (h : OCL X B v l) (hk : Hi B' X X') (hB : B' <= B) : OCL X' B v l :=
 ⟨row_hi h.o fun k h1 h2 => hk.2 k (by omega) h2, fun c hc => ⟨(h.m c hc).1.hi hk hB, (h.m c hc).2⟩⟩
end Go.Proofs.YtnenadklmjcakaaGreatDoor
