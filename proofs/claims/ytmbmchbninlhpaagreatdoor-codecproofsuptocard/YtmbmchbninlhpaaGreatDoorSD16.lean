import Derived.Test.YtmbmchbninlhpaaGreatDoorCV3
import Derived.Test.YtmbmchbninlhpaaGreatDoorCJ4
import Derived.Test.YtmbmchbninlhpaaGreatDoorCL5
import Derived.Test.YtmbmchbninlhpaaGreatDoorCV1
import Derived.Test.YtmbmchbninlhpaaGreatDoorCM0
import Derived.Test.YtmbmchbninlhpaaGreatDoorSD5
import Derived.Test.YtmbmchbninlhpaaGreatDoorCG1
import Derived.Test.YtmbmchbninlhpaaGreatDoorRC2
import Derived.Test.YtmbmchbninlhpaaGreatDoorCR5
namespace Go.Proofs.YtmbmchbninlhpaaGreatDoor
open Go.RowKit

theorem all_take9 {α : Type} {p : α -> Bool} {l : List α} {j : Nat} {t : α} (h : l[j]? = some t) : (l.take (j + 1)).all p = ((l.take j).all p && p t) := by
 rw [List.take_add_one, h, List.all_append]
 simp
set_option maxRecDepth 20000 in
set_option maxHeartbeats 1600000 in
theorem rstepOK_any (s : St) (w : World) (h : s.ok w) :
  Calls Tryz.prog 35 #[s.v] w fun e w' => e = .returned (.bool (wSt s)) /\ Below w.heap.size w w' := by
 obtain ⟨sr, sl, sv, su, sw⟩ := s
 have HT : Hid (Ts w sv sl) := h.t
 have HU : Hid (Ns w sw su) := h.u
 obtain ⟨⟨a1, cap1, x1⟩, ⟨a2, cap2, x2⟩, l1, l2⟩ := h.shape
 simp only at x1 x2 l1 l2
 subst x1 x2
 have HX : Hid (CBlk (w.alloc (.cells #[.int .i64 sr, .slice a1 sl.length cap1, .slice a2 su.length cap2] 50)) w.heap.size #[.int .i64 sr, .slice a1 sl.length cap1, .slice a2 su.length cap2] 50) := CBlk.new _ _ _
 have HW0 : Hid (Below w.heap.size w (w.alloc (.cells #[.int .i64 sr, .slice a1 sl.length cap1, .slice a2 su.length cap2] 50))) := below1 _ _
 clear h
 obtain ⟨b0, hb0⟩ : ∃ b, decide (0 <= sr) = b := ⟨_, rfl⟩
 have HB0 : Hid (decide (0 <= sr) = b0) := hb0
 clear hb0
 go_enter Tryz.func35, Tryz.ntmps35
 obtain ⟨p0, p1, p2⟩ := cthree HX.out
 go_upto_region 2 with fail
 clear p0 p1 p2
 revert HX HW0
 generalize w.alloc (.cells #[.int .i64 sr, .slice a1 sl.length cap1, .slice a2 su.length cap2] 50) = W0
 intro HX HW0
 go_wp2_with fail
 go_loopg [3, 4] sl.length (fun g u i wr => ∃ j : Nat, j + g = sl.length /\ i = .int .i64 (j : Int) /\ u = .bool (decide (0 <= sr) && (sl.take j).all Tm.con) /\ Below W0.heap.size W0 wr)
 case atStart => exact ⟨0, by omega, rfl, by simp, Below.refl _ _⟩
 case round =>
 obtain ⟨j, hj, rfl, hu, hb⟩ := hrel
 have HB : Hid (Below W0.heap.size W0 wr) := hb
 obtain ⟨p0, p1, p2⟩ := cthree (HX.out.later hb)
 clear hb
 obtain ⟨bb, hbb⟩ : ∃ b, (decide (0 <= sr) && (sl.take j).all Tm.con) = b := ⟨_, rfl⟩
 rw [hbb] at hu
 subst hu
 have HBB : Hid ((decide (0 <= sr) && (sl.take j).all Tm.con) = bb) := hbb
 clear hbb
 cases gk with
 | succ g =>
  have hlt : (j : Int) < (sl.length : Int) := by omega
  have j0 : (0 : Int) <= (j : Int) := by omega
  obtain ⟨t, ht⟩ : ∃ t, sl[j]? = some t := ⟨_, List.getElem?_eq_getElem (by omega)⟩
  obtain ⟨ad', cap', hx, -, hxx⟩ := (HT.out.later HW0.out).later HB.out
  simp only [Value.slice.injEq] at hx
  obtain ⟨rfl, -, rfl⟩ := hx
  obtain ⟨b, o, rfl, hbs, hxx⟩ : ∃ b o, a1 = some ⟨b, o, none⟩ /\ TRow wr b o sl := by
   rcases hxx with hxx | h
   ·rw [hxx] at ht; simp at ht
   ·exact h
  obtain ⟨c0, c1, c2⟩ := hxx j _ ht
  have HN : Hid ((decide (0 <= sr) && (sl.take (j + 1)).all Tm.con) = (bb && t.con)) := by show _ = _; rw [all_take9 ht, <- Bool.and_assoc, HBB.out]
  have HCO : Hid (∀ X : World, Calls Tryz.prog 75 #[t.v] X fun e w' => e = .returned (.bool t.con) /\ Below X.heap.size X w') := fun X => rcon_any t X
  obtain ⟨q, hq⟩ : ∃ q, t.con = q := ⟨_, rfl⟩
  rw [hq] at HN HCO
  clear hxx ht hq HBB
  obtain ⟨tk, tn, ts⟩ := t
  simp only at c0 c1 c2
  cases bb
  ·go_wp2
   go_roundg g
   case measure => omega
   case rel => exact ⟨j + 1, by omega, by go_num, by rw [HN.out]; rfl, HB.out⟩
  ·go_wp2_with (go_at_call 75; refine (HCO.out _).mono ?_; rintro e w3 ⟨rfl, hb3⟩; have HB3 : Hid (Below W0.heap.size W0 w3) := below_step HB.out hb3; clear hb3)
   go_roundg g
   case measure => omega
   case rel => exact ⟨j + 1, by omega, by go_num, by rw [HN.out]; rfl, HB3.out⟩
 | zero =>
 obtain rfl : j = sl.length := by omega
 have k1 : ¬ ((sl.length : Int) < (sl.length : Int)) := by omega
 have HV : Hid ((decide (0 <= sr) && sl.all Tm.con) = bb) := by have := HBB.out; rwa [List.take_length] at this
 clear HBB hj
 generalize hwr : wr = W1 at *
 clear hwr
 go_wp2_with fail
 clear p0 p1 p2 k1
 go_loopg [3, 5] su.length (fun g u i wr => ∃ j : Nat, j + g = su.length /\ i = .int .i64 (j : Int) /\ u = .bool (bb && (su.take j).all (fun n => decide (0 <= n))) /\ Below W0.heap.size W0 wr)
 case atStart => exact ⟨0, by omega, rfl, by simp, HB.out⟩
 case round =>
 obtain ⟨j, hj, rfl, hu, hb⟩ := hrel
 clear HB
 have HB : Hid (Below W0.heap.size W0 wr) := hb
 obtain ⟨p0, p1, p2⟩ := cthree (HX.out.later hb)
 clear hb
 obtain ⟨b2, hbb⟩ : ∃ b, (bb && (su.take j).all (fun n => decide (0 <= n))) = b := ⟨_, rfl⟩
 rw [hbb] at hu
 subst hu
 have HBB : Hid ((bb && (su.take j).all (fun n => decide (0 <= n))) = b2) := hbb
 clear hbb
 cases gk with
 | succ g =>
  have hlt : (j : Int) < (su.length : Int) := by omega
  have j0 : (0 : Int) <= (j : Int) := by omega
  obtain ⟨t, ht⟩ : ∃ t, su[j]? = some t := ⟨_, List.getElem?_eq_getElem (by omega)⟩
  obtain ⟨ad', cap', hx, -, hxx⟩ := (HU.out.later HW0.out).later HB.out
  simp only [Value.slice.injEq] at hx
  obtain ⟨rfl, -, rfl⟩ := hx
  obtain ⟨b, o, rfl, hbs, hxx⟩ : ∃ b o, a2 = some ⟨b, o, none⟩ /\ b < wr.heap.size /\ ∀ (i : Nat) (x : Int), su[i]? = some x -> wr.cell? ⟨b, o + i, none⟩ = some (.int .i64 x) := by
   rcases hxx with hxx | h
   ·rw [hxx] at ht; simp at ht
   ·exact h
  have c0 := hxx j _ ht
  have HN : Hid ((bb && (su.take (j + 1)).all (fun n => decide (0 <= n))) = (b2 && decide (0 <= t))) := by show _ = _; rw [all_take9 ht, <- Bool.and_assoc, HBB.out]
  clear hxx ht HBB
  cases b2
  ·go_wp2
   go_roundg g
   case measure => omega
   case rel => exact ⟨j + 1, by omega, by go_num, by rw [HN.out]; rfl, HB.out⟩
  ·go_wp2
   go_roundg g
   case measure => omega
   case rel => exact ⟨j + 1, by omega, by go_num, by rw [HN.out]; simp, HB.out⟩
 | zero =>
 obtain rfl : j = su.length := by omega
 have k1 : ¬ ((su.length : Int) < (su.length : Int)) := by omega
 have HF : Hid (wSt ⟨sr, sl, .slice a1 sl.length cap1, su, .slice a2 su.length cap2⟩ = b2) := by
  have h1 := HBB.out
  rw [List.take_length, <- HV.out] at h1
  show (sl.all Tm.con && (su.all (fun n => decide (0 <= n)) && decide (0 <= sr))) = b2
  rw [<- h1]
  cases decide (0 <= sr) <;> cases sl.all Tm.con <;> cases su.all (fun n => decide (0 <= n)) <;> rfl
 clear HBB
 go_wp2
 go_ret
 rw [HF.out]
 exact ⟨rfl, below_step HW0.out HB.out⟩
end Go.Proofs.YtmbmchbninlhpaaGreatDoor
namespace Go.Proofs.YtmbmchbninlhpaaGreatDoor
open Go.RowKit

theorem flat_byt9 {α : Type} {f : α -> List Int} {l : List α} (h : ∀ x ∈ l, byt (f x)) : byt (l.flatMap f) := fun y hy => by
 obtain ⟨x, hx, hy⟩ := List.mem_flatMap.1 hy
 exact h x hx y hy
theorem kB_byt9 {k : Ck} (h : chkK k = 0) : byt (cB k) := by
 have := cB_byt9 (c := kC k) (by rw [chk_keyK, kC_key]; exact h)
 rwa [kC_key] at this
end Go.Proofs.YtmbmchbninlhpaaGreatDoor
namespace Go.Proofs.YtmbmchbninlhpaaGreatDoor
open Go.RowKit

def fK : List Ck -> Int
 | [] => 0
 | k :: l => if chkK k = 0 then fK l else chkK k
theorem fErr_fK : ∀ l : List Cm, fErr l = fK (l.map Cm.key)
 | [] => rfl
 | c :: l => by
  rw [List.map_cons]
  unfold fErr fK
  rw [chk_keyK, fErr_fK l]
theorem fK_zero : ∀ {K : List Ck}, fK K = 0 -> ∀ k ∈ K, chkK k = 0
 | [], _, k, hk => by cases hk
 | a :: K, h, k, hk => by
  unfold fK at h
  split at h
  ·rename_i h0
   rcases List.mem_cons.1 hk with rfl | hk
   ·exact h0
   ·exact fK_zero h k hk
  ·rename_i h0
   exact absurd h h0
end Go.Proofs.YtmbmchbninlhpaaGreatDoor
namespace Go.Proofs.YtmbmchbninlhpaaGreatDoor
open Go.RowKit

set_option maxRecDepth 20000 in
set_option maxHeartbeats 8000000 in
theorem rclauseB_any (c : Cm) (hc : (∀ a ∈ c.key.1 :: c.key.2.1, Fit a) /\ (∀ e ∈ c.key.2.2, FitE e) /\ c.key.2.1.length <= 8 /\ c.key.2.2.length <= 8) (w : World) (hk : c.ok w) :
  Calls Tryz.prog 34 #[c.v] w fun e w' => ∃ v', e = .returned v' /\ OwnB w' w.heap.size v' (cB c.key) /\ Below w.heap.size w w' := by
 obtain ⟨⟨hd, hv⟩, hb, bv, ts, tv⟩ := c
 obtain ⟨g1, g2, g3, g4⟩ := hc
 simp only [Cm.key, fsts_len8] at g1 g2 g3 g4
 have hTs : ∀ X, Below w.heap.size w X -> (∀ x ∈ hb, Ts X x.2 x.1.args) := fun X hX => by obtain ⟨_, _, _, _, _, h⟩ := hk.b.later hX; exact h
 have HA1 : Hid (∀ X, Below w.heap.size w X -> Calls Tryz.prog 74 #[hd.v hv] X fun e w' => ∃ v', e = .returned v' /\ OwnB w' X.heap.size v' (aB hd) /\ Below X.heap.size X w') := fun X hX => ratomB_any hd (g1 hd (by simp)) hv X (hk.h.later hX)
 have HAS : Hid (∀ x ∈ hb, ∀ X, Below w.heap.size w X -> Calls Tryz.prog 74 #[x.1.v x.2] X fun e w' => ∃ v', e = .returned v' /\ OwnB w' X.heap.size v' (aB x.1) /\ Below X.heap.size X w') := fun x hx X hX => ratomB_any x.1 (g1 x.1 (List.mem_cons_of_mem _ (List.mem_map_of_mem hx))) x.2 X (hTs X hX x hx)
 have HFA : Hid (∀ x ∈ hb, Fit x.1) := fun x hx => g1 x.1 (List.mem_cons_of_mem _ (List.mem_map_of_mem hx))
 have HFE : Hid (∀ x ∈ ts, FitE x) := g2
 have l1 := aB_len8 (g1 hd (by simp))
 have HYB : Hid (∀ X, Below w.heap.size w X -> As X bv hb) := fun X hX => hk.b.later hX
 have HYE : Hid (∀ X, Below w.heap.size w X -> Es X tv ts) := fun X hX => hk.t.later hX
 have hm1 : (hb.length : Int) % 256 = (hb.length : Int) := by omega
 have hm2 : (ts.length : Int) % 256 = (ts.length : Int) := by omega
 have HE : Hid (cB (Cm.key ⟨(hd, hv), hb, bv, ts, tv⟩) = aB hd ++ [(hb.length : Int)] ++ (hb.take hb.length).flatMap (fun x => aB x.1) ++ [(ts.length : Int)] ++ (ts.take ts.length).flatMap eB) := by show _ = _; simp [cB, Cm.key, fsts_len8, fsts_flat8, List.take_length]
 obtain ⟨⟨a1, n1, cap1, x1⟩, ⟨a2, cap2, x2⟩, ⟨a3, cap3, x3⟩, -, -⟩ := hk.shape
 simp only at x1 x2 x3
 subst x1 x2 x3
 clear hk g1 g2 hTs
 obtain ⟨HDB, hHDB⟩ : ∃ T, aB hd = T := ⟨_, rfl⟩
 rw [hHDB] at HA1 HE l1
 clear hHDB
 obtain ⟨⟨k, n, s⟩, nm, ls⟩ := hd
 go_enter Tryz.func34, Tryz.ntmps34
 go_upto_region 3 with (first
  | (go_at_call 74; refine (HA1.out _ (below1 _ _)).mono ?_; rintro e w1 ⟨v1, rfl, ho1, hb1⟩; have HO1 : Hid (OwnB w1 w.heap.size v1 HDB) := ho1.mono (by simp); have HB1 : Hid (Below w.heap.size w w1) := below_step (below1 _ _) hb1; have HK1 : Hid (Blk w1 w.heap.size _ _) := (Blk.new w #[.int .i64 k, .int .i64 n, .string s, .string nm, .slice a1 n1 cap1, .slice a2 hb.length cap2, .slice a3 ts.length cap3] 62).later hb1; obtain ⟨p0, p1, p2, p3, p4, p5, p6⟩ := cseven HK1.out; have hz1 := HB1.out.size; clear ho1 hb1)
  | (at_builtin; refine app8 rfl _ _ rfl w.heap.size v1 HDB rfl (HO1.out.later (below1 _ _)) w1.heap.size [(hb.length : Int)] rfl (heap_alloc_new w1 _) (by simp) (by simp only [List.length_cons, List.length_nil]; omega) (by simp; omega) ?_; intro v2 w2 ho2; have HO2 : Hid (Wr w1 w.heap.size (HDB ++ [(hb.length : Int)]) v2 w2) := Wr.ahead (below1 _ _) hz1 ho2; clear ho2 p0 p1 p2 p3 p4 p5 p6))
 go_wp2
 go_loopg [3, 4] hb.length (fun g u i wr => ∃ j : Nat, j + g = hb.length /\ i = .int .i64 j /\ Wr w1 w.heap.size (HDB ++ [(hb.length : Int)] ++ (hb.take j).flatMap (fun x => aB x.1)) u wr)
 case atStart => exact ⟨0, by omega, rfl, by rw [List.take_zero, List.flatMap_nil, List.append_nil]; exact HO2.out⟩
 case round =>
  obtain ⟨j, hj, rfl, hw⟩ := hrel
  have HWr : Hid (Wr w1 w.heap.size (HDB ++ [(hb.length : Int)] ++ (hb.take j).flatMap (fun x => aB x.1)) u3 wr) := hw
  have hsz := hw.low.size
  have hbw : Below w.heap.size w wr := HB1.out.trans hw.low
  obtain ⟨p0, p1, p2, p3, p4, p5, p6⟩ := cseven (HK1.out.k8 hw.k8 (by decide))
  have hlenA : ((hb.take j).flatMap (fun x => aB x.1)).length <= 8000 := by
   have h1 := flat_len (f := fun x : At × Value => aB x.1) (l := hb.take j) (fun x hx => aB_len8 (HFA.out x (List.mem_of_mem_take hx)))
   rw [List.length_take] at h1
   omega
  clear hw
  cases gk with
  | succ g =>
   have hlt : j < hb.length := by omega
   obtain ⟨t, ht⟩ : ∃ t, hb[j]? = some t := ⟨_, List.getElem?_eq_getElem hlt⟩
   have htm := List.mem_of_getElem? ht
   obtain ⟨ad', cap', hx, -, hxx, hts⟩ := HYB.out _ hbw
   simp only [Value.slice.injEq] at hx
   obtain ⟨rfl, -, rfl⟩ := hx
   rcases hxx with hxx | ⟨b, o, rfl, hbs, hxx⟩
   ·subst hxx; simp at hlt
   ·obtain ⟨c0, c1, c2, c3, c4⟩ := hxx j _ ht
    have hl8 : 0 < (aB t.1).length /\ (aB t.1).length <= 1000 := ⟨by unfold aB; have := (tB_len t.1.by_).1; simp only [List.length_append]; omega, aB_len8 (HFA.out t htm)⟩
    have HS : Hid ((hb.take (j + 1)).flatMap (fun x => aB x.1) = (hb.take j).flatMap (fun x => aB x.1) ++ aB t.1) := flat_succ ht
    have HPT : Hid (Calls Tryz.prog 74 #[t.1.v t.2] wr fun e w' => ∃ v', e = .returned v' /\ OwnB w' wr.heap.size v' (aB t.1) /\ Below wr.heap.size wr w') := HAS.out t htm wr hbw
    obtain ⟨xa, xcap, hxv⟩ : ∃ a cap, t.2 = .slice a t.1.args.length cap := by obtain ⟨a, cap, e, -⟩ := hts t htm; exact ⟨a, cap, e⟩
    obtain ⟨U, hU⟩ : ∃ U, aB t.1 = U := ⟨_, rfl⟩
    rw [hU] at HPT hl8 HS
    clear hU
    obtain ⟨⟨⟨tk, tn, tt⟩, tm, tl⟩, xv⟩ := t
    simp only at c0 c1 c2 c3 c4 hxv
    subst hxv
    clear hxx ht htm hts hbw
    have i1 : (0 : Int) <= (j : Int) := by omega
    have i2 : (j : Int) < (hb.length : Int) := by omega
    go_wp2_with (first
     | (go_at_call 74; refine HPT.out.mono ?_; rintro e w5 ⟨v5, rfl, ho5, hb5⟩; have HO5 : Hid (OwnB w5 _ v5 U) := ho5; have HB5 : Hid (Below wr.heap.size wr w5) := hb5; have hz5 := hb5.size; clear ho5 hb5)
     | (at_builtin; refine app8w rfl _ _ rfl w.heap.size u3 _ rfl (HWr.out.own.later HB5.out) v5 _ U rfl HO5.out hl8.1 (by simp only [List.length_append, List.length_cons, List.length_nil]; omega) (by omega) ?_; intro v6 w6 ho6))
    go_roundg g
    case measure => omega
    case rel =>
     refine ⟨j + 1, by omega, by go_num, ?_⟩
     rw [HS.out, <- List.append_assoc]
     exact HWr.out.step (Wr.ahead HB5.out (by omega) ho6)
  | zero =>
   obtain rfl : j = hb.length := by omega
   have hz : ¬ ((hb.length : Int) < (hb.length : Int)) := by omega
   generalize HF : (HDB ++ [(hb.length : Int)] ++ (hb.take hb.length).flatMap (fun x => aB x.1)) = F at HWr HE
   have hFl : F.length <= 10000 := by rw [<- HF]; simp only [List.length_append, List.length_cons, List.length_nil]; omega
   clear HF hlenA hbw
   go_upto_region 8 with (at_builtin; refine app8 rfl _ _ rfl w.heap.size u3 F rfl (HWr.out.own.later (below1 _ _)) wr.heap.size [(ts.length : Int)] rfl (heap_alloc_new wr _) (by simp) (by simp only [List.length_cons, List.length_nil]; omega) (by simp; omega) ?_; intro v7 w7 ho7; have HO7 : Hid (Wr w1 w.heap.size (F ++ [(ts.length : Int)]) v7 w7) := HWr.out.step (Wr.ahead (below1 _ _) (by omega) ho7); clear ho7 p0 p1 p2 p3 p4 p5 p6)
   go_wp2
   go_loopg [3, 5] ts.length (fun g u i wz => ∃ j : Nat, j + g = ts.length /\ i = .int .i64 j /\ Wr w1 w.heap.size (F ++ [(ts.length : Int)] ++ (ts.take j).flatMap eB) u wz)
   case atStart => exact ⟨0, by omega, rfl, by rw [List.take_zero, List.flatMap_nil, List.append_nil]; exact HO7.out⟩
   case round =>
    obtain ⟨j, hj, rfl, hw⟩ := hrel
    have HWz : Hid (Wr w1 w.heap.size (F ++ [(ts.length : Int)] ++ (ts.take j).flatMap eB) u3 wr) := hw
    have hszz := hw.low.size
    have hbw : Below w.heap.size w wr := HB1.out.trans hw.low
    have HBz : Hid (Below w.heap.size w wr) := hbw
    have HKz : Hid (Blk wr w.heap.size _ _) := HK1.out.k8 hw.k8 (by decide)
    obtain ⟨p0, p1, p2, p3, p4, p5, p6⟩ := cseven HKz.out
    have hlenE : ((ts.take j).flatMap eB).length <= 8000 := by
     have h1 := flat_len (f := eB) (l := ts.take j) (fun x hx => eB_len (HFE.out x (List.mem_of_mem_take hx)))
     rw [List.length_take] at h1
     omega
    clear hw
    cases gk with
    | succ g =>
     have hlt : j < ts.length := by omega
     obtain ⟨t, ht⟩ : ∃ t, ts[j]? = some t := ⟨_, List.getElem?_eq_getElem hlt⟩
     have htm := List.mem_of_getElem? ht
     have HCS : Hid (∀ X, Below w.heap.size w X -> ∃ b o, a3 = some ⟨b, o, none⟩ /\ X.cell? ⟨b, o + j * 7, none⟩ = some (.int .i64 t.op) /\ X.cell? ⟨b, o + j * 7 + 1, none⟩ = some (.int .i64 t.l.k) /\ X.cell? ⟨b, o + j * 7 + 2, none⟩ = some (.int .i64 t.l.n) /\ X.cell? ⟨b, o + j * 7 + 3, none⟩ = some (.string t.l.s) /\ X.cell? ⟨b, o + j * 7 + 4, none⟩ = some (.int .i64 t.r.k) /\ X.cell? ⟨b, o + j * 7 + 5, none⟩ = some (.int .i64 t.r.n) /\ X.cell? ⟨b, o + j * 7 + 6, none⟩ = some (.string t.r.s)) := fun X hX => by
      obtain ⟨ad', cap', hx, -, hxx⟩ := HYE.out X hX
      simp only [Value.slice.injEq] at hx
      obtain ⟨rfl, -, -⟩ := hx
      rcases hxx with hxx | ⟨b, o, e, hbs, hxx⟩
      ·subst hxx; simp at hlt
      ·exact ⟨b, o, e, hxx j _ ht⟩
     have hfe := HFE.out t htm
     have hm3 : t.op % 256 = t.op := by have := hfe.op; omega
     have hll := tB_len t.l
     have hlr := tB_len t.r
     have hls := hfe.l.2
     have hrs := hfe.r.2
     have HPL : Hid (∀ X : World, Calls Tryz.prog 36 #[t.l.v] X fun e w' => ∃ v', e = .returned v' /\ OwnB w' X.heap.size v' (tB t.l) /\ Below X.heap.size X w') := fun X => rterm_any t.l hfe.l X
     have HPR : Hid (∀ X : World, Calls Tryz.prog 36 #[t.r.v] X fun e w' => ∃ v', e = .returned v' /\ OwnB w' X.heap.size v' (tB t.r) /\ Below X.heap.size X w') := fun X => rterm_any t.r hfe.r X
     have HS : Hid ((ts.take (j + 1)).flatMap eB = (ts.take j).flatMap eB ++ ([t.op] ++ tB t.l ++ tB t.r)) := by have := flat_succ (f := eB) ht; show _ = _; rw [this]; simp [eB]
     obtain ⟨UL, hUL⟩ : ∃ U, tB t.l = U := ⟨_, rfl⟩
     obtain ⟨UR, hUR⟩ : ∃ U, tB t.r = U := ⟨_, rfl⟩
     rw [hUL] at HPL hll HS
     rw [hUR] at HPR hlr HS
     obtain ⟨G, hG⟩ : ∃ G, F ++ [(ts.length : Int)] ++ (ts.take j).flatMap eB = G := ⟨_, rfl⟩
     have hGl : G.length <= 30000 := by rw [<- hG]; simp only [List.length_append, List.length_cons, List.length_nil]; omega
     have HGE : Hid (F ++ [(ts.length : Int)] ++ (ts.take (j + 1)).flatMap eB = G ++ [t.op] ++ UL ++ UR) := by show _ = _; rw [HS.out, <- hG]; simp
     rw [hG] at HWz
     clear hUL hUR hG HS hlenE hfe htm ht
     obtain ⟨op, ⟨xk, xn, xs⟩, ⟨yk, yn, ys⟩⟩ := t
     simp only at *
     obtain ⟨b, o, rfl, c0, c1, c2, c3, c4, c5, c6⟩ := HCS.out _ hbw
     clear hbw
     have i1 : (0 : Int) <= (j : Int) := by omega
     have i2 : (j : Int) < (ts.length : Int) := by omega
     go_wp2_with (first
      | (at_builtin; refine app8 rfl _ _ rfl w.heap.size u3 G rfl (HWz.out.own.later (below1 _ _)) wr.heap.size [op] rfl (heap_alloc_new wr _) (by simp) (by simp only [List.length_cons, List.length_nil]; omega) (by simp; omega) ?_; intro v8 w8 ho8; have HW8 : Hid (Wr wr w.heap.size (G ++ [op]) v8 w8) := Wr.ahead (below1 _ _) (by omega) ho8; have hz8 := HW8.out.low.size; have HB8 : Hid (Below w.heap.size w w8) := HBz.out.trans HW8.out.low; have HK8 : Hid (Blk w8 _ _ _) := HKz.out.k8 HW8.out.k8 (by decide); clear p0 p1 p2 p3 p4 p5 p6 c0 c1 c2 c3 c4 c5 c6 ho8; obtain ⟨p0, p1, p2, p3, p4, p5, p6⟩ := cseven HK8.out; obtain ⟨b', o', e', c0, c1, c2, c3, c4, c5, c6⟩ := HCS.out _ HB8.out; cases e')
      | (go_at_call 36; refine (HPL.out _).mono ?_; rintro e w9 ⟨v9, rfl, ho9, hb9⟩; have HO9 : Hid (OwnB w9 _ v9 UL) := ho9; have HB9 : Hid (Below w8.heap.size w8 w9) := hb9; have hz9 := hb9.size; have HK9 : Hid (Blk w9 _ _ _) := HK8.out.later hb9; clear ho9 hb9 HPL)
      | (at_builtin; refine app8w rfl _ _ rfl w.heap.size v8 (G ++ [op]) rfl (HW8.out.own.later HB9.out) v9 _ UL rfl HO9.out hll.1 (by simp only [List.length_append, List.length_cons, List.length_nil]; omega) (by omega) ?_; intro v10 w10 ho10; have HW10 : Hid (Wr wr w.heap.size (G ++ [op] ++ UL) v10 w10) := HW8.out.step (Wr.ahead HB9.out (by omega) ho10); have hz10 := HW10.out.low.size; have HB10 : Hid (Below w.heap.size w w10) := HBz.out.trans HW10.out.low; have HK10 : Hid (Blk w10 _ _ _) := HK9.out.k8 ho10.k8 (by decide); clear p0 p1 p2 p3 p4 p5 p6 c0 c1 c2 c3 c4 c5 c6 ho10 HO9; obtain ⟨p0, p1, p2, p3, p4, p5, p6⟩ := cseven HK10.out; obtain ⟨b', o', e', c0, c1, c2, c3, c4, c5, c6⟩ := HCS.out _ HB10.out; cases e')
      | (go_at_call 36; refine (HPR.out _).mono ?_; rintro e w11 ⟨v11, rfl, ho11, hb11⟩; have HO11 : Hid (OwnB w11 _ v11 UR) := ho11; have HB11 : Hid (Below w10.heap.size w10 w11) := hb11; have hz11 := hb11.size; clear ho11 hb11)
      | (at_builtin; refine app8w rfl _ _ rfl w.heap.size v10 (G ++ [op] ++ UL) rfl (HW10.out.own.later HB11.out) v11 _ UR rfl HO11.out hlr.1 (by simp only [List.length_append, List.length_cons, List.length_nil]; omega) (by omega) ?_; intro v12 w12 ho12; have HW12 : Hid (Wr wr w.heap.size (G ++ [op] ++ UL ++ UR) v12 w12) := HW10.out.step (Wr.ahead HB11.out (by omega) ho12); clear ho12))
     go_roundg g
     case measure => omega
     case rel =>
      refine ⟨j + 1, by omega, by go_num, ?_⟩
      rw [HGE.out]
      exact HWz.out.step HW12.out
    | zero =>
     obtain rfl : j = ts.length := by omega
     have hz2 : ¬ ((ts.length : Int) < (ts.length : Int)) := by omega
     clear hbw
     go_wp2
     go_ret
     exact ⟨_, rfl, by rw [HE.out]; exact HWz.out.own, HBz.out⟩
end Go.Proofs.YtmbmchbninlhpaaGreatDoor
namespace Go.Proofs.YtmbmchbninlhpaaGreatDoor
open Go.RowKit

theorem OKP.laterS {w w' : World} {c : Cm} (h : OKP w c) (hb : Below w.heap.size w w') : OKP w' c := ⟨h.ok.later hb, h.hh.later hb, fun x hx => (h.hp x hx).later hb, h.bp.later hb⟩
end Go.Proofs.YtmbmchbninlhpaaGreatDoor
