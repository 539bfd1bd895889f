import Derived.Test.YtechceagghcipaaGreatDoorAA0
import Derived.Test.YtechceagghcipaaGreatDoorEJ5
import Derived.Test.YtechceagghcipaaGreatDoorEH6
namespace Go.Proofs.YtechceagghcipaaGreatDoor
open Go.RowKit
attribute [local go_sem ↓] Go.wp_at_zero Go.wp_at_succ

theorem tsO_of {w : World} {v : Value} {l : List Tm} (h : TsP w v l) (hl : l.length <= 1000000000) : TsO w v l := by
 rcases h with ⟨rfl, rfl⟩ | ⟨ad, cap, rfl, h⟩
 ·exact Or.inl ⟨rfl, rfl⟩
 ·exact Or.inr ⟨ad, cap, rfl, by omega, h⟩
theorem rlmatch8_any (p f : At) (x y : Value) (X : World) (hx : TsP X x p.args) (hy : TsP X y f.args) (hl : p.args.length <= 1000000000) (hl' : f.args.length <= 1000000000) (sp : Sz8 p) (sf : Sz8 f) : Calls Tryz.prog 114 #[p.v x, f.v y, .slice none 0 0] X fun e X' => ∃ m, e = .returned (.tuple #[m, .bool (mt8 p f)]) /\ Below X.heap.size X X' := by
 refine (rmatch_any p f [] x y (.slice none 0 0) X (tsO_of hx hl) (tsO_of hy hl') (Or.inl ⟨rfl, rfl⟩) (by simp; omega) sp.t sf.t (by simp) sp.n sf.n).mono ?_
 rintro e X' ⟨hb, h⟩
 unfold mt8
 rcases match_same p f [] with ⟨e1, e2⟩ | ⟨out, e1, e2, e3, -⟩
 ·rw [e1]
  rcases h with ⟨-, rfl⟩ | ⟨k1, k2, -⟩
  ·exact ⟨_, rfl, hb⟩
  ·rcases e2 with e2 | e2
   ·rw [e2] at k1; cases k1
   ·exact absurd k2 e2
 ·rw [e1]
  rcases h with ⟨k1, -⟩ | ⟨-, -, v', l, rfl, -⟩
  ·rcases k1 with k1 | k1
   ·rw [e2] at k1; cases k1
   ·exact absurd e3 k1
  ·exact ⟨_, rfl, hb⟩
set_option maxRecDepth 20000 in
set_option maxHeartbeats 2000000 in
theorem rbfind8_any (w0 : World) (A : Nat -> Prop) (r : Nat) (lv : Value) (R : List It8) (parts : Int) (a : At) (x : Value) (Y : World) (h : RB8 w0 A r lv R Y) (hx : TsP Y x a.args) (hal : a.args.length <= 1000000000) (hz : Sz8 a) (hk : Kd8 R) (hl : R.length <= 1000000000) :
  Calls Tryz.prog 79 #[.pointer (some ⟨r, 0, none⟩), .int .i64 parts, a.v x] Y (RF8 (((Ei R).filter fun x => hp7 parts x.2 && mt8 a x.1).map Prod.fst) Y) := by
 obtain ⟨xa, xc, rfl⟩ := hx.shape
 obtain ⟨a0, ha0⟩ : ∃ a0 : At, a0 = a := ⟨_, rfl⟩
 have HTX := hm7 (show TsP Y (.slice xa a.args.length xc) a0.args by rw [ha0]; exact hx)
 have HZ := hm7 (show Sz8 a0 /\ a0.args.length <= 1000000000 by rw [ha0]; exact ⟨hz, hal⟩)
 have HK := hm7 hk
 have H := hm7 h
 have HGO : Hid (∀ (Z : List At), Z = ((((Ei R).filter fun x => hp7 parts x.2).map Prod.fst).filter (mt8 a0)) -> Z = ((Ei R).filter fun x => hp7 parts x.2 && mt8 a0 x.1).map Prod.fst) := fun Z hZ => by
  rw [hZ, List.filter_map, List.filter_filter]
  congr 1
  congr 1
  funext y
  simp [Bool.and_comm, Function.comp]
 rw [show (fun x : At × Int => hp7 parts x.2 && mt8 a x.1) = fun x => hp7 parts x.2 && mt8 a0 x.1 by rw [ha0]]
 clear hx hal hz hk h
 have HA0 := hm7 ha0
 clear ha0
 obtain ⟨⟨ak, an, as_⟩, nm, al⟩ := a
 have HTX2 : Hid (TsP Y (.slice xa al.length xc) a0.args) := HTX.out
 obtain ⟨Y0, hY0⟩ : ∃ Y0, Y.alloc (.cells #[.int .i64 ak, .int .i64 an, .string as_, .string nm, .slice xa al.length xc] 27) = Y0 := ⟨_, rfl⟩
 have hb0 : Below Y.heap.size Y Y0 := by rw [<- hY0]; exact below1 _ _
 have HBX : Hid (Bk Y0 Y.heap.size #[.int .i64 ak, .int .i64 an, .string as_, .string nm, .slice xa al.length xc] 27) := by show Bk _ _ _ _; rw [<- hY0]; exact Bk.new _ _ _
 have HB0 := hm7 hb0
 have HFC := hm7 (rbfacts8_any w0 A r lv R parts Y0 (H.out.below hb0) hl)
 clear hb0 HTX
 go_enter Tryz.func79, Tryz.ntmps79
 go_upto_region 2 with fail
 first | rw [hY0] | skip
 go_upto_region 3 with (go_at_call 77; refine HFC.out.mono ?_; rintro e W1 ⟨v8, Q, rfl, hf, hq, hb⟩; have HF := hm7 hf; have HQ := hm7 hq; have HB1 := hm7 hb; clear hf hq hb HFC)
 have HQL : Hid (Q.length <= 1000000000) := by
  have h1 := congrArg List.length HQ.out
  rw [List.length_map, List.length_map] at h1
  have h2 := List.length_filter_le (fun x : At × Int => hp7 parts x.2) (Ei R)
  rw [Ei_len] at h2
  show _ <= _
  omega
 have HAS := hm7 (HF.out.as HQL.out)
 obtain ⟨qa, qc, hqv⟩ := HF.out.o.form
 subst hqv
 have HQZ : Hid (∀ x ∈ Q, Sz8 x.1) := fun x hx => by
  have hm : x.1 ∈ Q.map Prod.fst := List.mem_map.2 ⟨x, hx, rfl⟩
  rw [HQ.out] at hm
  obtain ⟨y, hy, e⟩ := List.mem_map.1 hm
  obtain ⟨z, hz, rfl⟩ := List.mem_map.1 (List.mem_filter.1 hy).1
  rw [<- e]
  exact Sz8.of (HK.out z hz).1 (HK.out z hz).2
 have hzz := (HB0.out.trans (HB1.out.mono HB0.out.size)).size
 go_wp2
 go_loopg [9, 7, 10, 11] Q.length (fun g1 i v _ _ wr => ∃ (k : Nat) (Q' : List (At × Value)), k + g1 = Q.length /\ i = .int .i64 k /\ OwnA wr W1.heap.size v Q' /\ (∀ x ∈ Q', x ∈ Q) /\ Q'.length <= k /\ Q'.map Prod.fst = ((Q.take k).map Prod.fst).filter (mt8 a0) /\ Below W1.heap.size W1 wr)
 case atStart => exact ⟨0, [], by omega, rfl, World.ownsRow_nil _ _ _ _, nofun, by simp, by simp, Below.refl _ _⟩
 case round =>
  obtain ⟨k, Q', hk, rfl, ho, hin, hln, hm, hb⟩ := hrel
  have HB := hm7 hb
  have HO := hm7 ho
  have HIN := hm7 hin
  have HM := hm7 hm
  cases gk with
  | succ g1 =>
   have hlt : (k : Int) < (Q.length : Int) := by omega
   have k0 : (0 : Int) <= (k : Int) := by omega
   obtain ⟨y, hy⟩ : ∃ y, Q[k]? = some y := ⟨_, List.getElem?_eq_getElem (by omega)⟩
   obtain ⟨qb, qo, fa, fc, rfl, hsh, hc⟩ := As.get8 HAS.out hy
   have hmy := List.mem_of_getElem? hy
   have hts := (HF.out.t y hmy).1.tsP
   have hfl := (HF.out.t y hmy).2
   have HMY := hm7 hmy
   have HTK := hm7 (show (Q.take (k + 1)).map Prod.fst = (Q.take k).map Prod.fst ++ [y.1] by rw [List.take_add_one, hy]; simp)
   have HM0 := fun (X : World) (hX : Below wr.heap.size wr X) => rlmatch8_any a0 y.1 (.slice xa al.length xc) y.2 X (HTX2.out.later ((HB0.out.trans (HB1.out.mono HB0.out.size)).trans ((hb.trans (hX.mono hb.size)).mono hzz))) ((hts.later hb).later hX) HZ.out.2 hfl HZ.out.1 (HQZ.out y hmy)
   have HXP : Hid (∀ X : World, Below wr.heap.size wr X -> X.cell? ⟨Y.heap.size, 0, none⟩ = some (.int .i64 ak) /\ X.cell? ⟨Y.heap.size, 1, none⟩ = some (.int .i64 an) /\ X.cell? ⟨Y.heap.size, 2, none⟩ = some (.string as_) /\ X.cell? ⟨Y.heap.size, 3, none⟩ = some (.string nm) /\ X.cell? ⟨Y.heap.size, 4, none⟩ = some (.slice xa al.length xc)) := fun X hX => by
    obtain ⟨⟨q0, q1⟩, q2, q3, q4⟩ := five8 (((HBX.out.below HB1.out).below HB.out).below hX)
    exact ⟨q0, q1, q2, q3, q4⟩
   obtain ⟨va, vc, rfl⟩ := ho.form
   obtain ⟨⟨⟨fk, fn, fs⟩, fnm, fl⟩, fv7⟩ := y
   simp only at hsh hc HM0 HTK
   subst hsh
   have HXF := hm7 (fun (X : World) (hX : Below wr.heap.size wr X) => hc X (hb.trans (hX.mono hb.size)))
   obtain ⟨b, hbm⟩ : ∃ b, mt8 a0 ⟨⟨fk, fn, fs⟩, fnm, fl⟩ = b := ⟨_, rfl⟩
   have HMT : Hid (∀ X : World, Below wr.heap.size wr X -> Calls Tryz.prog 114 #[.agg #[.int .i64 ak, .int .i64 an, .string as_, .string nm, .slice xa al.length xc], .agg #[.int .i64 fk, .int .i64 fn, .string fs, .string fnm, .slice fa fl.length fc], .slice none 0 0] X fun e X' => ∃ m, e = .returned (.tuple #[m, .bool b]) /\ Below X.heap.size X X') := fun X hX => by
    have := HM0 X hX
    rw [hbm, HA0.out] at this
    exact this
   have HBM := hm7 hbm
   have HHK := hm7 hk
   have hq9 := HQL.out
   have hw1 := hb.size
   clear hy hc hts hfl HM0 hbm ho hin hm hk hb hmy
   go_upto_region 6 with fail
   refine wp_region_held_drew (S := fun w' => Below wr.heap.size wr w') (by kernel_rfl) (by exact (Below.refl _ _).drew) (fun hH => ?_)
   revert hH
   generalize wr.drew = V
   intro hH
   refine wTk 0 (.agg #[.int .i64 ak, .int .i64 an, .string as_, .string nm, .slice xa al.length xc]) rfl (by kernel_rfl) (fun _ _ _ h => h) (Or.inl ⟨by rfl, fun w' h => by obtain ⟨p0, p1, p2, p3, p4⟩ := HXP.out w' h; clear h; go_simp⟩) hH ?_
   simp only [wA8, wB8, wC8, wD8]
   refine wTk 1 (.slice (some ⟨qb, qo, none⟩) Q.length qc) rfl (by kernel_rfl) (fun _ _ _ h => h) (Or.inl ⟨by rfl, fun w' h => by clear h; go_simp⟩) hH ?_
   simp only [wA8, wB8, wC8, wD8]
   refine wTk 2 (.int .i64 (k : Int)) rfl (by kernel_rfl) (fun _ _ _ h => h) (Or.inl ⟨by rfl, fun w' h => by clear h; go_simp⟩) hH ?_
   simp only [wA8, wB8, wC8, wD8]
   refine wTk 3 (.pointer (some ⟨qb, qo + k * 5, none⟩)) rfl (by kernel_rfl) (fun _ _ _ h => h) (Or.inl ⟨by rfl, fun w' h => by clear h; go_simp⟩) hH ?_
   simp only [wA8, wB8, wC8, wD8]
   refine wTk 4 (.agg #[.int .i64 fk, .int .i64 fn, .string fs, .string fnm, .slice fa fl.length fc]) rfl (by kernel_rfl) (fun _ _ _ h => h) (Or.inl ⟨by rfl, fun w' h => by obtain ⟨p0, p1, p2, p3, p4⟩ := HXF.out w' h; clear h; go_simp⟩) hH ?_
   simp only [wA8, wB8, wC8, wD8]
   refine wRd 5 (by kernel_rfl) rfl (fun K hK => ?_)
   go_simp
   refine (HMT.out _ hH).mono ?_
   rintro e V1 ⟨mv, rfl, hb⟩
   refine hK.out _ _ (hH.trans (hb.mono hH.size)) (fun hH => ?_)
   clear hK hb
   try simp only [wA8, wB8, wC8, wD8]
   refine wTk 6 (.tuple #[mv, .bool b]) rfl (by kernel_rfl) (fun _ _ _ h => h) (Or.inl ⟨by rfl, fun w' h => by clear h; go_simp⟩) hH ?_
   simp only [wA8, wB8, wC8, wD8]
   refine wTk 7 (mv) rfl (by kernel_rfl) (fun _ _ _ h => h) (Or.inl ⟨by rfl, fun w' h => by clear h; go_simp⟩) hH ?_
   simp only [wA8, wB8, wC8, wD8]
   refine wTk 8 (.bool b) rfl (by kernel_rfl) (fun _ _ _ h => h) (Or.inl ⟨by rfl, fun w' h => by clear h; go_simp⟩) hH ?_
   simp only [wA8, wB8, wC8, wD8]
   refine wTk 9 (mv) rfl (by kernel_rfl) (fun _ _ _ h => h) (Or.inl ⟨by rfl, fun w' h => by clear h; go_simp⟩) hH ?_
   simp only [wA8, wB8, wC8, wD8]
   refine wTk 10 (.bool b) rfl (by kernel_rfl) (fun _ _ _ h => h) (Or.inl ⟨by rfl, fun w' h => by clear h; go_simp⟩) hH ?_
   simp only [wA8, wB8, wC8, wD8]
   refine wpAnyH_done (by kernel_rfl) ?_ _
   have HV := hm7 hH
   clear hH
   have HBV := hm7 (HB.out.trans (HV.out.mono HB.out.size))
   obtain ⟨p0, p1, p2, p3, p4⟩ := HXF.out _ HV.out
   have hwv := HV.out.size
   cases b with
   | false =>
    clear p0 p1 p2 p3 p4
    go_wp2
    go_roundg g1
    case measure => omega
    case rel => exact ⟨k + 1, Q', by have := HHK.out; omega, by go_num, HO.out.later HV.out, HIN.out, by omega, by rw [HTK.out, List.filter_append, <- HM.out]; simp [HBM.out], HBV.out⟩
   | true =>
    go_wp2_with (at_builtin; refine aapp_one rfl _ _ rfl W1.heap.size (.slice va Q'.length vc) Q' rfl ((HO.out.later HV.out).later (below1 _ _)) _ (⟨⟨fk, fn, fs⟩, fnm, fl⟩, .slice fa fl.length fc) rfl (CBlk.new _ _ _) (acell_one _ _ _ _) (by omega) (by simp; omega) ?_; intro v2 w2 ho2 hb2 hg2 hk2; have HO2 := hm7 ho2; have HB2 := hm7 (HBV.out.trans (((below1 _ _).mono (by omega)).trans hb2)); clear ho2 hb2 hg2 hk2)
    go_roundg g1
    case measure => omega
    case rel =>
     refine ⟨k + 1, _, by have := HHK.out; omega, by go_num, HO2.out, fun x hx => ?_, by simp; omega, by rw [HTK.out, List.filter_append, <- HM.out, List.map_append]; simp [HBM.out], HB2.out⟩
     rcases List.mem_append.1 hx with hx | hx
     ·exact HIN.out x hx
     ·rw [List.mem_singleton.1 hx]; exact HMY.out
  | zero =>
   have hlt : ¬ (k : Int) < (Q.length : Int) := by omega
   obtain rfl : k = Q.length := by omega
   clear ho hin hm hk hb
   go_wp2
   go_ret
   refine ⟨_, Q', rfl, ⟨HO.out.mono (by omega), fun x hx => ⟨(((HF.out.t x (HIN.out x hx)).1.later HB.out).mono (by have := HB0.out.size; omega)), (HF.out.t x (HIN.out x hx)).2⟩⟩, ?_, (HB0.out.trans (HB1.out.mono HB0.out.size)).trans (HB.out.mono hzz)⟩
   have := HM.out
   rw [List.take_length, HQ.out] at this
   exact HGO.out _ this
end Go.Proofs.YtechceagghcipaaGreatDoor
