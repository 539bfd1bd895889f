import Derived.Test.YtechceagghcipabGreatDoorRA2
import Derived.Test.YtechceagghcipabGreatDoorS2
namespace Go.Proofs.YtechceagghcipabGreatDoor
open Go.RowKit Go.Shelf
attribute [local go_sem] Oper.semAt_some
def FQ8 (w0 : World) (g : Nat) (tv : Value) (mn mr : Nat) (ga : Pd -> Nat) (B : Pd -> Nat -> Prop) (m : Nat) (T : List Tm) (K : List Pd) (s : Pd -> St7) (L : List At) (Y : World) (e : Ending) (Y' : World) : Prop :=
 ∃ fv Q B', e = .returned fv /\ AL8 Y' Y.heap.size fv Q /\ srtC8 Q /\ (Q.map Prod.fst).Perm L /\ BS w0 g tv mn mr ga B' m T K s Y' /\ Fr (PA8 g tv mn mr B K) Y Y' /\ (∀ b, PA8 g tv mn mr B' K b -> PA8 g tv mn mr B K b ∨ Y.heap.size <= b) /\ ∀ b, (fv.ownBlock = some b ∨ ∃ x ∈ Q, x.2 = b) -> ¬ PA8 g tv mn mr B' K b
def mt8 (a f : At) : Bool := (mRes a f []).isSome
open Classical in
noncomputable def fo8 (T : List Tm) (K : List Pd) (s : Pd -> St7) (parts : Int) (a : At) : List At :=
 if a.pd8 ∈ K /\ fxB T a.pl = true then ((fnd8 (s a.pd8) parts (fxC a.pl) (fxK T a.pl)).map (at8 T a.name)).filter (mt8 a) else []
theorem FQ8.none {w0 : World} {g : Nat} {tv : Value} {mn mr : Nat} {ga : Pd -> Nat} {B : Pd -> Nat -> Prop} {m : Nat} {T : List Tm} {K : List Pd} {s : Pd -> St7} {Y Y' : World} (h : BS w0 g tv mn mr ga B m T K s Y) (hb : Below Y.heap.size Y Y') : FQ8 w0 g tv mn mr ga B (m + 1) T K s [] Y (.returned (.slice none 0 0)) Y' :=
 ⟨_, [], B, rfl, AL8.nil _ _, List.Pairwise.nil, List.Perm.refl _, (h.below hb).up (Nat.le_succ m), Fr.of hb, fun b hb => Or.inl hb, fun b hb => by rcases hb with hb | ⟨x, hx, -⟩; cases hb; cases hx⟩
theorem fnd8_len {s : St7} (ho : s.Ok) (parts : Int) (cols keys : List Int) : (fnd8 s parts cols keys).length <= 100000000000 := by
 unfold fnd8
 refine Nat.le_trans (List.length_filter_le ..) ?_
 rw [(srt7_perm _).length_eq]
 have h1' := sel_len s.rows (pls7 s [] []) (sts7 s parts)
 have h2' := pls7_len ho [] []
 have h3' := sts7_len s parts
 have := Nat.mul_le_mul h3' h2'
 unfold sel7
 omega
theorem fxC_w {L : List Tm} (h : L.length <= 1000000000) : w64 (fxC L) := fun x hx => by
 unfold fxC at hx
 obtain ⟨y, hy, rfl⟩ := List.mem_map.1 hx
 have h1 := (List.mem_filter.1 hy).1
 have h2 := List.mem_zipIdx h1
 exact wf_of8 (by omega) (by have := h2; omega)
theorem fxK_w {T L : List Tm} (hT : T.length <= 1000000000) : w64 (fxK T L) := fun x hx => by
 unfold fxK at hx
 obtain ⟨t, -, rfl⟩ := List.mem_map.1 hx
 have : (ix8 T t).getD 0 <= 1000000000 := by
  cases h : ix8 T t with
  | none => simp
  | some i => have := ix8_lt h; simp; omega
 generalize (ix8 T t).getD 0 = n at this
 exact wf_of8 (by omega) (by omega)
set_option maxRecDepth 100000 in
set_option maxHeartbeats 1000000 in
theorem found8_go (w0 : World) (g : Nat) (tv : Value) (mn mr : Nat) (ga : Pd -> Nat) (B : Pd -> Nat -> Prop) (m : Nat) (T : List Tm) (K : List Pd) (s : Pd -> St7) (parts : Int) (a : At) (k i : Int) (z nm : ByteArray) (n : Nat) (hk1 : a.by_.k = k) (hk2 : a.by_.n = i) (hk3 : a.by_.s = z) (hk4 : a.name = nm) (hk5 : a.args.length = n) (ax : Option Addr) (cx : Nat) (Y : World) (h : BS w0 g tv mn mr ga B m T K s Y) (hx : ∀ X : World, Fr (PA8 g tv mn mr B K) Y X -> TsP X (.slice ax n cx) a.args) (hk : ∀ t ∈ a.pl, t.var = false -> KeyT t) (hkp : KeyP a.pd8) (hl : a.pl.length <= 1000000000) (hm : m <= 100000000000000)
  (hrow : a.pd8 ∈ K -> ∀ r ∈ (s a.pd8).rows, RowOf T nm n r) :
  Calls Tryz.prog 89 #[.pointer (some ⟨g, 0, none⟩), .int .i64 parts, .agg #[.int .i64 k, .int .i64 i, .string z, .string nm, .slice ax n cx]] Y (FQ8 w0 g tv mn mr ga B (m + 1) T K s (fo8 T K s parts a) Y) := by
 have hap : a.pl.length = n + 1 := by rw [<- hk5]; rfl
 have ev : a.v (.slice ax n cx) = .agg #[.int .i64 k, .int .i64 i, .string z, .string nm, .slice ax n cx] := by rw [<- hk1, <- hk2, <- hk3, <- hk4]
 have ep : a.pd8 = ⟨nm, (n : Int)⟩ := by unfold At.pd8; rw [hk4, hk5]
 obtain ⟨nn, -⟩ : ∃ n : Nat, True := ⟨0, trivial⟩
 refine (callsIn_wide (n := nn)).1 ?_
 obtain ⟨W0, hW0⟩ : ∃ W0, Y.alloc (.cells #[.int .i64 k, .int .i64 i, .string z, .string nm, .slice ax n cx] 33) = W0 := ⟨_, rfl⟩
 have hb0 : Below Y.heap.size Y W0 := by rw [<- hW0]; exact below1 _ _
 have hz0 : W0.heap.size = Y.heap.size + 1 := by rw [<- hW0]; simp
 have HBX : Hid (Bk W0 Y.heap.size #[.int .i64 k, .int .i64 i, .string z, .string nm, .slice ax n cx] 33) := by show Bk _ _ _ _; rw [<- hW0]; exact Bk.new _ _ _
 have HB0 := hm7 hb0
 have HS := hm7 h
 have HPR : Hid (∀ X : World, Calls Tryz.prog 35 #[.agg #[.int .i64 k, .int .i64 i, .string z, .string nm, .slice ax n cx]] X fun e Y' => e = .returned (.agg #[.string nm, .int .i64 (n : Int)]) /\ Below X.heap.size X Y') := fun X => by
  have := predOf8_any a (.slice ax n cx) X ⟨ax, cx, by rw [hk5]⟩
  rw [ev, hk4, hk5] at this
  exact this
 have HFX : Hid (∀ X : World, Below Y.heap.size Y X -> Calls Tryz.prog 119 #[.pointer (some ⟨g, 0, none⟩), .agg #[.int .i64 k, .int .i64 i, .string z, .string nm, .slice ax n cx]] X (Fx8 T a.pl X)) := fun X hX => by
  have := fixed8_any g tv mn _ T a (.slice ax n cx) X (h.t.below hX) (hx X (Fr.of hX)) hk hl
  rw [ev] at this
  exact this
 have HMA : Hid (∀ (X : World) (f : At) (y : Value), Fr (PA8 g tv mn mr B K) Y X -> Ts X y f.args -> Calls Tryz.prog 120 #[.agg #[.int .i64 k, .int .i64 i, .string z, .string nm, .slice ax n cx], f.v y, .slice none 0 0] X (MPost X (mRes a f []))) := fun X f y hX hy => by
  have := match_all a f [] (.slice ax n cx) y (.slice none 0 0) X ((hx X hX).ts (by omega)) hy ⟨none, 0, rfl, by simp, Or.inl rfl⟩ (by simp; omega)
  rw [ev] at this
  exact this
 have HLK : Hid (∀ X : World, Below Y.heap.size Y X -> (Instr.lookup 42 (.map (some mr)) (.agg #[.string nm, .int .i64 (n : Int)]) false).run Tryz.prog X = .ok ((rlF ga K ⟨nm, (n : Int)⟩).getD (.pointer none)) X) := fun X hX => (h.below hX).look (p := ⟨nm, (n : Int)⟩) (by rw [<- ep]; exact hkp)
 have HBK := hm7 h.t.b
 have HT := hm7 (show T.length <= 1000000000 from h.t.l)
 have HROW := hm7 hrow
 obtain ⟨pt, hpt⟩ : ∃ pt, (rlF ga K ⟨nm, (n : Int)⟩).getD (.pointer none) = pt := ⟨_, rfl⟩
 rw [hpt] at HLK
 have HPT := hm7 hpt
 obtain ⟨L, hL⟩ : ∃ L, fo8 T K s parts a = L := ⟨_, rfl⟩
 rw [hL]
 have HL := hm7 hL
 have HEP := hm7 ep
 have HNM := hm7 (And.intro hk4 hk5)
 have hln : n + 1 <= 1000000000 := by omega
 have HPL := hm7 hap
 clear h hx hk hkp hl hb0 hpt hL hrow ev ep hk1 hk2 hk3 hk4 hk5 hap
 refine callsIn_of_wp_marks Tryz.func89 rfl trivial ?_ rfl
 simp only [Tryz.ntmps89, List.size_toArray, List.length_cons, List.length_nil, Nat.reduceAdd, Nat.reduceSub, Array.replicate_succ, Array.replicate_zero, List.push_toArray, List.append_toArray, List.nil_append, List.cons_append]
 obtain ⟨⟨q0, q1⟩, q2, q3, q4⟩ := five8 HBX.out
 gi_wp2
 try rw [hW0]
 refine ⟨trivial, fun h => (by cases h), (callsIn_wide.2 (HPR.out _)).mono ?_⟩
 rintro e W1 ⟨rfl, hb1⟩
 obtain ⟨W2, hW2⟩ : ∃ W2, W1.alloc (.cells #[.string nm, .int .i64 (n : Int)] 72) = W2 := ⟨_, rfl⟩
 have hb2 : Below W1.heap.size W1 W2 := by rw [<- hW2]; exact below1 _ _
 have hz2 : W2.heap.size = W1.heap.size + 1 := by rw [<- hW2]; simp
 have HPB : Hid (Bk W2 W1.heap.size #[.string nm, .int .i64 (n : Int)] 72) := by show Bk _ _ _ _; rw [<- hW2]; exact Bk.new _ _ _
 have HB2 := hm7 (below_step (below_step HB0.out hb1) hb2)
 have HBX2 := hm7 ((HBX.out.below hb1).below hb2)
 have hz1 := hb1.size
 clear hb1 hb2 HPR q0 q1 q2 q3 q4
 gi_wp2
 try rw [hW2]
 clear hW2 hW0
 obtain ⟨bq, hbq⟩ : ∃ bq : Bool, (bq = true /\ pt = .pointer none) ∨ (bq = false /\ pt = .pointer (some ⟨ga ⟨nm, (n : Int)⟩, 0, none⟩)) := by
  by_cases hp : (⟨nm, (n : Int)⟩ : Pd) ∈ K
  ·exact ⟨false, Or.inr ⟨rfl, by rw [<- HPT.out, rlF_in hp]; rfl⟩⟩
  ·exact ⟨true, Or.inl ⟨rfl, by rw [<- HPT.out, rlF_out hp]; rfl⟩⟩
 have HEQ : Hid (∀ w' : World, (eqGuard .eql 69 (.tmp 22) (.const (.pointer none)) pt (.pointer none)).run Tryz.prog w' = .ok () w' /\ (binOp .eql 69 pt (.pointer none)).run Tryz.prog w' = .ok (.bool bq) w') := fun w' => by
  rcases hbq with ⟨rfl, rfl⟩ | ⟨rfl, rfl⟩
  ·exact ⟨by go_simp, by go_simp⟩
  ·exact ⟨by go_simp, by go_simp⟩
 have HBQ := hm7 hbq
 clear hbq
 refine wpIn_mono (Q := NQ fun a' V2 => a' = { tmps := #[.pointer (some ⟨g, 0, none⟩), .int .i64 parts, .agg #[.int .i64 k, .int .i64 i, .string z, .string nm, .slice ax n cx], undef, undef, .pointer (some ⟨Y.heap.size, 0, none⟩), .slice none 0 0, .pointer (some ⟨W1.heap.size, 0, none⟩), undef, undef, undef, undef, undef, undef, undef, .agg #[.int .i64 k, .int .i64 i, .string z, .string nm, .slice ax n cx], .agg #[.string nm, .int .i64 (n : Int)], .pointer (some ⟨g, 0, none⟩), .pointer (some ⟨g, 0, none⟩), .pointer (some ⟨g, 2, none⟩), .map (some mr), .agg #[.string nm, .int .i64 (n : Int)], pt, .bool bq, undef, undef, undef, undef, undef, undef, undef, undef, undef, undef, undef, undef, undef, undef, undef, undef, undef, undef, undef, undef, undef, undef, undef, undef, undef, undef, undef, undef, undef, undef], defers := [] } /\ Below W2.heap.size W2 V2) ?_ ?_
 ·refine wpIn_region_heldZ (S := fun w' => Below W2.heap.size W2 w') (by kernel_rfl) (by exact (Below.refl _ _).drew) (fun hH => ?_)
  revert hH
  generalize W2.drew = V2
  intro hH
  refine wpAnyZ_take (i := 0) (oi := ⟨_, _, _, _, _, _⟩) (v := .pointer (some ⟨g, 0, none⟩)) (by kernel_rfl) rfl (by kernel_rfl) (by kernel_rfl) (by kernel_rfl) (fun _ _ _ h => h) (fun _ => rfl) (Or.inl ⟨by rfl, fun w' h => by clear h; go_simp⟩) hH ?_
  simp only [wA, wB, wC, wD]
  refine wpAnyZ_take (i := 1) (oi := ⟨_, _, _, _, _, _⟩) (v := .pointer (some ⟨g, 0, none⟩)) (by kernel_rfl) rfl (by kernel_rfl) (by kernel_rfl) (by kernel_rfl) (fun _ _ _ h => h) (fun _ => rfl) (Or.inl ⟨by rfl, fun w' h => by clear h; go_simp⟩) hH ?_
  simp only [wA, wB, wC, wD]
  refine wpAnyZ_take (i := 2) (oi := ⟨_, _, _, _, _, _⟩) (v := .pointer (some ⟨g, 2, none⟩)) (by kernel_rfl) rfl (by kernel_rfl) (by kernel_rfl) (by kernel_rfl) (fun _ _ _ h => h) (fun _ => rfl) (Or.inl ⟨by rfl, fun w' h => by clear h; go_simp⟩) hH ?_
  simp only [wA, wB, wC, wD]
  refine wpAnyZ_take (i := 3) (oi := ⟨_, _, _, _, _, _⟩) (v := .map (some mr)) (by kernel_rfl) rfl (by kernel_rfl) (by kernel_rfl) (by kernel_rfl) (fun _ _ _ h => h) (fun _ => rfl) (Or.inl ⟨by rfl, fun w' h => by have q := ((HBK.out.below HB2.out).below h).cell (i := 2) rfl; clear h; go_simp⟩) hH ?_
  simp only [wA, wB, wC, wD]
  refine wpAnyZ_take (i := 4) (oi := ⟨_, _, _, _, _, _⟩) (v := .agg #[.string nm, .int .i64 (n : Int)]) (by kernel_rfl) rfl (by kernel_rfl) (by kernel_rfl) (by kernel_rfl) (fun _ _ _ h => h) (fun _ => rfl) (Or.inl ⟨by rfl, fun w' h => by have q := (HPB.out.below h).cell (i := 0) rfl; have q1 := (HPB.out.below h).cell (i := 1) rfl; clear h; go_simp⟩) hH ?_
  simp only [wA, wB, wC, wD]
  refine wpAnyZ_take (i := 5) (oi := ⟨_, _, _, _, _, _⟩) (v := pt) (by kernel_rfl) rfl (by kernel_rfl) (by kernel_rfl) (by kernel_rfl) (fun _ _ _ h => h) (fun _ => rfl) (Or.inl ⟨by rfl, fun w' h => by have q := HLK.out w' (below_step HB2.out h); clear h; go_simp⟩) hH ?_
  simp only [wA, wB, wC, wD]
  refine wpAnyZ_take (i := 6) (oi := ⟨_, _, _, _, _, _⟩) (v := .bool bq) (by kernel_rfl) rfl (by kernel_rfl) (by kernel_rfl) (by kernel_rfl) (fun _ _ _ h => h) (fun _ => rfl) (Or.inl ⟨by rfl, fun w' h => by have q := (HEQ.out w').1; have q2 := (HEQ.out w').2; clear h; go_simp⟩) hH ?_
  simp only [wA, wB, wC, wD]
  refine wpAnyZ_done (by kernel_rfl) ?_ _
  exact ⟨rfl, hH⟩
 rintro e a1 V2 hq
 cases e <;> first | exact hq.elim | skip
 obtain ⟨rfl, hv2⟩ := hq
 have hzV := hv2.size
 have HV2 := hm7 (below_step HB2.out hv2)
 have HPB2 := hm7 (HPB.out.below hv2)
 have HBX3 := hm7 (HBX2.out.below hv2)
 clear hv2 HLK HEQ HPB HBX2
 rcases HBQ.out with ⟨rfl, hp0⟩ | ⟨rfl, hp0⟩
 ·have HE : Hid (L = []) := by
   show L = []
   rw [<- HL.out]
   refine if_neg fun hc => ?_
   rw [HEP.out] at hc
   have := HPT.out
   rw [rlF_in hc.1, hp0] at this
   cases this
  clear hp0
  gi_wp2
  refine ⟨_, results_tmp rfl _ _ _, ?_⟩
  rw [HE.out]
  exact FQ8.none HS.out HV2.out
 ·have HP : Hid ((⟨nm, (n : Int)⟩ : Pd) ∈ K) := Classical.byContradiction fun hc => by
   have := HPT.out
   rw [rlF_out hc, hp0] at this
   cases this
  clear hp0
  obtain ⟨⟨q0, q1⟩, q2, q3, q4⟩ := five8 HBX3.out
  gi_wp2
  refine ⟨trivial, fun h => (by cases h), (callsIn_wide.2 (HFX.out _ HV2.out)).mono ?_⟩
  rintro e V3 ⟨cv, kv, rfl, hck, hb3⟩
  have HB3 := hm7 (below_step HV2.out hb3)
  have HPB3 := hm7 (HPB2.out.below hb3)
  have HBX4 := hm7 (HBX3.out.below hb3)
  have HCK := hm7 hck
  have hz3 := hb3.size
  clear hb3 hck q0 q1 q2 q3 q4 HFX HPB2 HBX3
  obtain ⟨fq, hfq⟩ : ∃ fq, fxB T a.pl = fq := ⟨_, rfl⟩
  rw [hfq] at HCK ⊢
  have HFQ := hm7 hfq
  clear hfq
  cases fq with
  | false =>
   have HE : Hid (L = []) := by
    show L = []
    rw [<- HL.out]
    exact if_neg fun hc => by rw [HFQ.out] at hc; cases hc.2
   gi_wp2
   refine ⟨_, results_tmp rfl _ _ _, ?_⟩
   rw [HE.out]
   exact FQ8.none HS.out HB3.out
  | true =>
   obtain ⟨hc1, hc2⟩ := HCK.out rfl
   obtain ⟨ca, cc, ec, -⟩ := row7_form hc1
   obtain ⟨ka, kc, ek, -⟩ := row7_form hc2
   obtain ⟨cn, hcn⟩ : ∃ cn, (fxC a.pl).length = cn := ⟨_, rfl⟩
   obtain ⟨kn, hkn⟩ : ∃ kn, (fxK T a.pl).length = kn := ⟨_, rfl⟩
   rw [hcn] at ec
   rw [hkn] at ek
   subst ec ek
   have HC1 := hm7 hc1
   have HC2 := hm7 hc2
   clear hc1 hc2 HCK hcn hkn
   obtain ⟨V4, hV4⟩ : ∃ V4, V3.alloc (.cells #[.slice none 0 0] 56) = V4 := ⟨_, rfl⟩
   have hb4 : Below V3.heap.size V3 V4 := by rw [<- hV4]; exact below1 _ _
   have hz4 : V4.heap.size = V3.heap.size + 1 := by rw [<- hV4]; simp
   have HFB : Hid (Bk V4 V3.heap.size #[.slice none 0 0] 56) := by show Bk _ _ _ _; rw [<- hV4]; exact Bk.new _ _ _
   have HB4 := hm7 (below_step HB3.out hb4)
   have p0 := (HPB3.out.below hb4).cell (i := 0) rfl
   have p1 := (HPB3.out.below hb4).cell (i := 1) rfl
   have HPB4 := hm7 (HPB3.out.below hb4)
   have HBX5 := hm7 (HBX4.out.below hb4)
   have HC3 := hm7 (row7_below HC1.out hb4)
   have HC4 := hm7 (row7_below HC2.out hb4)
   clear hb4 HPB3 HBX4 HC1 HC2
   gi_wp2
   try rw [hV4]
   clear hV4
   refine ⟨trivial, fun h => (by cases h), (callsIn_wide.2 (having8_any g nm n parts ca ka cn cc kn kc V4)).mono ?_⟩
   rintro e V5 ⟨rfl, hhv, hb5⟩
   have HHV := hm7 hhv
   have HB5 := hm7 (below_step HB4.out hb5)
   have HBX6 := hm7 (HBX5.out.below hb5)
   have HFB5 := hm7 (HFB.out.below hb5)
   have HC5 := hm7 (row7_below HC3.out hb5)
   have HC6 := hm7 (row7_below HC4.out hb5)
   have hz5 := hb5.size
   clear hhv hb5 p0 p1 HPB4 HBX5 HFB HC3 HC4
   gi_wp2
   obtain ⟨fb, hfb⟩ : ∃ fb, V3.heap.size = fb := ⟨_, rfl⟩
   rw [hfb] at HFB5 hz4 ⊢
   have hYf : Y.heap.size < fb := by omega
   have hf5 : fb < V5.heap.size := HFB5.out.lt
   have hPl : ∀ b, PA8 g tv mn mr B K b -> b < Y.heap.size := fun b hb => (HS.out.lt hb).2
   have hw0 := HS.out.bl.size
   rw [hz4] at HHV
   clear hfb
   obtain ⟨XF, hXF⟩ : ∃ XF : Nat -> Prop, ∀ b, XF b ↔ b = fb := ⟨fun b => b = fb, fun b => Iff.rfl⟩
   have HXF := hm7 hXF
   clear hXF
   refine range_having (w0 := w0) (g := g) (tv := tv) (mn := mn) (mr := mr) (ga := ga) (B := B) (m := m) (T := T) (K := K) (s := s) (nm := nm) (ar := n) (parts := parts) (cols := fxC a.pl) (keys := fxK T a.pl) (bb := fb + 1) (X := XF) rfl rfl (HS.out.below HB5.out) HP.out HHV.out (OwI.li HC5.out (fxC_w (by have := HPL.out; omega))) (OwI.li HC6.out (fxK_w HT.out)) (fxK_w HT.out) (fxC_w (by have := HPL.out; omega)) (by have := (fx_len T a.pl).1; have := HPL.out; omega) hm (by omega) (fun r hr => HROW.out (by rw [HEP.out]; exact HP.out) r (by rw [HEP.out]; exact hr))
    (fun j hj => ⟨fun hc => by have := hPl _ hc; omega, fun hc => by have := (HXF.out _).1 hc; omega⟩) (fun b hb => by have hb' := (HXF.out b).1 hb; exact ⟨by omega, by omega, fun hc => by have := hPl _ hc; omega⟩)
    (fun E pre V => GA8 fb (fb + 1) XF (pre.filter (mt8 a)) E V) (fun E pre => GA8.only) (fun E => ⟨_, [], HFB5.out, AL8.nil _ _, rfl, (fun b hb => by rcases hb with hb | ⟨x, hx, -⟩ <;> first | cases hb | cases hx), (HXF.out fb).2 rfl, by omega⟩)
    (fun v C => { tmps := #[.pointer (some ⟨g, 0, none⟩), .int .i64 parts, .agg #[.int .i64 k, .int .i64 i, .string z, .string nm, .slice ax n cx], undef, undef, .pointer (some ⟨Y.heap.size, 0, none⟩), .slice none 0 0, .pointer (some ⟨W1.heap.size, 0, none⟩), .slice ca cn cc, .slice ka kn kc, .bool true, .pointer (some ⟨fb, 0, none⟩), .pointer (some ⟨C, 0, none⟩), undef, undef, .agg #[.int .i64 k, .int .i64 i, .string z, .string nm, .slice ax n cx], .agg #[.string nm, .int .i64 (n : Int)], .pointer (some ⟨g, 0, none⟩), .pointer (some ⟨g, 0, none⟩), .pointer (some ⟨g, 2, none⟩), .map (some mr), .agg #[.string nm, .int .i64 (n : Int)], pt, .bool false, .tuple #[.slice ca cn cc, .slice ka kn kc, .bool true], .pointer (some ⟨g, 0, none⟩), .agg #[.int .i64 k, .int .i64 i, .string z, .string nm, .slice ax n cx], .tuple #[.slice ca cn cc, .slice ka kn kc, .bool true], .slice ca cn cc, .slice ka kn kc, .bool true, .bool true, .bool false, .pointer (some ⟨g, 0, none⟩), .agg #[.string nm, .int .i64 (n : Int)], .int .i64 parts, .slice ca cn cc, .slice ka kn kc, hav8 (fb + 1), v, undef, undef, undef, undef, undef, undef, undef, undef, undef, undef, undef, undef, undef, undef], defers := [] }) ?assign ?body ?done
   case assign =>
    rintro l mm ⟨⟨xk, xn, xs⟩, xnm, xl⟩ A V KK hKK
    gi_wp2
    exact hKK
   case body =>
    rintro l mm E pre x A C V hpre ⟨V0, ⟨fv, Q, g1, g2, g3, g4, g5, g6⟩, k1, k2, k3⟩ hA hAE hC hCE hE ⟨F, hF, hfr⟩ hEV
    have hQA : ∀ y ∈ Q, y.2 ≠ A := fun y hy e => by have := (g2.lt (Or.inr ⟨y, hy, rfl⟩)).2; omega
    have g1 : Bk V fb #[fv] 56 := (k3 fb (Or.inl g5) g1.lt).trans g1
    have g2 : AL8 V (fb + 1) fv Q := g2.same fun b hb => k3 b (g4 b hb) (g2.lt hb).2
    have hfY : Fr (PA8 g tv mn mr B K) Y V := (Fr.of HB5.out).trans hfr fun b hl hq => hq.elim (fun h => hF b h) fun h => by have := (HXF.out b).1 h; omega
    have hxl : x.args.length <= 1000000000 := by
     obtain ⟨r, hr, rfl⟩ := List.mem_map.1 (hpre.subset (by simp : x ∈ pre ++ [x]))
     have := (HROW.out (by rw [HEP.out]; exact HP.out) r (by rw [HEP.out]; exact fnd8_mem r hr)).at
     omega
    have HMT := hm7 (HMA.out V x (.slice (some ⟨A, 0, none⟩) x.args.length x.args.length) hfY (hA.ts rfl (by omega)))
    have hbx : Bk V Y.heap.size #[.int .i64 k, .int .i64 i, .string z, .string nm, .slice ax n cx] 33 := HBX6.out.fr hfr fun h => h.elim (fun h => by have := hPl _ (hF _ h); omega) fun h => by have := (HXF.out _).1 h; omega
    obtain ⟨⟨q0, q1⟩, q2, q3, q4⟩ := five8 hbx
    have HG := hm7 (And.intro g1 (And.intro g2 (And.intro g3 (And.intro g4 (And.intro g5 g6)))))
    have HA := hm7 hA
    have HC := hm7 hC
    have HXL := hm7 hxl
    have hCV := hC.lt
    obtain ⟨xn, hxn⟩ : ∃ xn, x.args.length = xn := ⟨_, rfl⟩
    obtain ⟨⟨xk, xi, xz⟩, xnm, xl⟩ := x
    simp only at hxn
    obtain ⟨⟨c0, c1⟩, c2, c3, c4⟩ := five8 (show Bk V C #[.int .i64 xk, .int .i64 xi, .string xz, .string xnm, .slice (some ⟨A, 0, none⟩) xl.length xl.length] 33 from hC)
    rw [hxn] at c4 HMT ⊢
    have HXN := hm7 hxn
    have HNA := hm7 hQA
    clear hA hC hxl hfY hbx g1 g2 g3 g4 g5 g6 hxn
    gi_wp2
    refine ⟨trivial, fun h => (by cases h), (CallsIn.inRound l (callsIn_wide.2 HMT.out)).mono ?_⟩
    rintro e V6 ⟨hb6, hres⟩
    have HB6 := hm7 hb6
    obtain ⟨rs, hrs⟩ : ∃ rs, mRes a ⟨⟨xk, xi, xz⟩, xnm, xl⟩ [] = rs := ⟨_, rfl⟩
    rw [hrs] at hres
    cases rs with
    | none =>
     have HMB : Hid ((pre ++ [(⟨⟨xk, xi, xz⟩, xnm, xl⟩ : At)]).filter (mt8 a) = pre.filter (mt8 a)) := by
      show _ = _
      simp [List.filter_append, mt8, hrs]
     simp only at hres
     subst hres
     clear hb6 hrs q0 q1 q2 q3 q4 c0 c1 c2 c3 c4
     gi_wp2
     obtain ⟨g1, g2, g3, g4, g5, g6⟩ := HG.out
     refine ⟨Fr.of HB6.out, ?_⟩
     show GA8 _ _ _ ((pre ++ [(⟨⟨xk, xi, xz⟩, xnm, xl⟩ : At)]).filter (mt8 a)) _ _
     rw [HMB.out]
     exact ⟨fv, Q, g1.below HB6.out, g2.below HB6.out, g3, g4, g5, g6⟩
    | some out =>
     have HMB : Hid ((pre ++ [(⟨⟨xk, xi, xz⟩, xnm, xl⟩ : At)]).filter (mt8 a) = pre.filter (mt8 a) ++ [(⟨⟨xk, xi, xz⟩, xnm, xl⟩ : At)]) := by
      show _ = _
      simp [List.filter_append, mt8, hrs]
     obtain ⟨v', out', rfl, -, -, -⟩ := hres
     have f0 := (HG.out.1.below hb6).cell (i := 0) rfl
     have fz := (HG.out.1.below hb6).froz 0
     have fl := (HG.out.1.below hb6).lt
     obtain ⟨⟨c0, c1⟩, c2, c3, c4⟩ := five8 (show Bk V6 C #[.int .i64 xk, .int .i64 xi, .string xz, .string xnm, .slice (some ⟨A, 0, none⟩) xl.length xl.length] 33 from HC.out.below hb6)
     rw [HXN.out] at c4
     obtain ⟨fa, fc, efv, -⟩ := row7_form HG.out.2.1.o
     subst efv
     clear hb6 hrs q0 q1 q2 q3 q4
     have hqn : Q.length <= 1000000000000 := by
      have h1 : Q.length = (pre.filter (mt8 a)).length := by rw [<- HG.out.2.2.1, List.length_map]
      have h2 := List.length_filter_le (mt8 a) pre
      have h3 := (List.IsPrefix.length_le hpre)
      rw [List.length_map, List.length_append] at h3
      have h4 := fnd8_len (HS.out.pt _ HP.out).ok parts (fxC a.pl) (fxK T a.pl)
      omega
     gi_wp2_with (gi_at_builtin; (refine aappIn rfl _ _ rfl (fb + 1) (.slice fa Q.length fc) (Q.map enc8) rfl ((HG.out.2.1.below (below_step HB6.out (below1 _ _))).o.a) V6.heap.size (⟨⟨xk, xi, xz⟩, xnm, xl⟩, .slice (some ⟨A, 0, none⟩) xn xn) rfl (Bk.new _ _ _) (one8 _ _ _ _) (by rw [List.length_map]; omega) (by simp; omega) ?_); intro v2 w7 ho7 hg7 hv7; (have HPUT := hm7 (GA8.put (x := ⟨⟨xk, xi, xz⟩, xnm, xl⟩) HG.out.1 HG.out.2.1 HG.out.2.2.1 HG.out.2.2.2.1 HG.out.2.2.2.2.1 HG.out.2.2.2.2.2 HA.out hAE (by omega) HXL.out HNA.out hEV (below_step HB6.out (below1 _ _)) (by simp only [HXN.out]; exact ho7) hg7 hv7)); (have hk7 : Bk w7 fb #[.slice fa Q.length fc] 56 := (hg7.block fb (by simp; omega) (fun e => by have := (HG.out.2.1.lt (Or.inl e.symm)).1; omega)).trans ((HG.out.1.below HB6.out).below (below1 _ _))); have f7 := hk7.cell (i := 0) rfl; have z7 := hk7.froz 0; have l7 := hk7.lt; obtain ⟨a7, n7, e7⟩ := OwnA.form ho7; rw [List.length_append, List.length_map, List.length_singleton] at e7; subst e7; clear ho7 hg7 hv7 hk7)
     exact ⟨HPUT.out.2, by show GA8 _ _ _ ((pre ++ [(⟨⟨xk, xi, xz⟩, xnm, xl⟩ : At)]).filter (mt8 a)) _ _; rw [HMB.out]; exact HPUT.out.1⟩
   case done =>
    rintro E V ⟨fv, Q, g1, g2, g3, g4, g5, g6⟩ ⟨N, hbs, hN⟩ ⟨F, hF, hfr⟩ hE hEV hD
    have hqn : Q.length <= 1000000000000 := by
     have h1 : Q.length = (((fnd8 (s ⟨nm, (n : Int)⟩) parts (fxC a.pl) (fxK T a.pl)).map (at8 T nm)).filter (mt8 a)).length := by rw [<- g3, List.length_map]
     have h2 := List.length_filter_le (mt8 a) ((fnd8 (s ⟨nm, (n : Int)⟩) parts (fxC a.pl) (fxK T a.pl)).map (at8 T nm))
     rw [List.length_map] at h2
     have h4 := fnd8_len (HS.out.pt _ HP.out).ok parts (fxC a.pl) (fxK T a.pl)
     omega
    have HSO := hm7 (sortA8_any (fb + 1) fv Q V g2 hqn)
    have f0 := g1.cell (i := 0) rfl
    have HG := hm7 (And.intro g1 (And.intro g2 (And.intro g3 g4)))
    have HBS := hm7 (And.intro hbs hN)
    have HFR : Hid (Fr (PA8 g tv mn mr B K) Y V) := (Fr.of HB5.out).trans hfr fun b hl hq => hq.elim (fun h => Or.inr (Or.inr ⟨_, HP.out, hF b h⟩)) fun h => by have := (HXF.out b).1 h; omega
    have HD := hm7 hD
    obtain ⟨fa, fc, efv, -⟩ := row7_form g2.o
    subst efv
    clear g1 g2 g3 g4 g5 g6 hbs hN hfr hD hF
    gi_wp2
    refine ⟨trivial, fun h => (by cases h), (callsIn_wide.2 HSO.out).mono ?_⟩
    rintro e V6 ⟨rfl, Q', h1, h2, h3, h4⟩
    have hfbn : (Value.slice fa Q.length fc).ownBlock ≠ some fb := fun e => by have := (HG.out.2.1.lt (Or.inl e)).1; omega
    have f6 := (HG.out.1.fr h4 hfbn).cell (i := 0) rfl
    have HSQ := hm7 (And.intro h1 (And.intro h2 (And.intro h3 h4)))
    clear f0 h1 h2 h3 h4
    gi_wp2
    obtain ⟨h1, h2, h3, h4⟩ := HSQ.out
    obtain ⟨g1, g2, g3, g4⟩ := HG.out
    obtain ⟨hbs, hN⟩ := HBS.out
    have hDne : ∀ b, ((Value.slice fa Q.length fc).ownBlock = some b ∨ ∃ x ∈ Q', x.2 = b) -> b ≠ V5.heap.size := fun b hb e => by
     have hQ : (Value.slice fa Q.length fc).ownBlock = some b ∨ ∃ x ∈ Q, x.2 = b := hb.imp id fun ⟨x, hx, e⟩ => ⟨x, h2.mem_iff.1 hx, e⟩
     rcases g4 b hQ with q | q
     ·have := (HXF.out b).1 q; omega
     ·omega
    have hD6 : V6.heap[V5.heap.size]? = some (.deferred (some [])) := (h4.block _ (by omega) fun hb => hDne _ (Or.inl hb) rfl).trans HD.out
    have hpn : ∀ b, PA8 g tv mn mr (up8 B ⟨nm, (n : Int)⟩ N) K b -> PA8 g tv mn mr B K b ∨ (V5.heap.size + 2 <= b /\ b < E) := fun b hb => by
     rcases PA8.up8 hb with q | q
     ·exact Or.inl q
     ·exact (hN b q).imp (fun q => Or.inr (Or.inr ⟨_, HP.out, q⟩)) id
    have hax : ∀ b, ((Value.slice fa Q.length fc).ownBlock = some b ∨ ∃ x ∈ Q', x.2 = b) -> ¬ PA8 g tv mn mr (up8 B ⟨nm, (n : Int)⟩ N) K b := fun b hb hc => by
     have hQ : (Value.slice fa Q.length fc).ownBlock = some b ∨ ∃ x ∈ Q, x.2 = b := hb.imp id fun ⟨x, hx, e⟩ => ⟨x, h2.mem_iff.1 hx, e⟩
     rcases hpn b hc with q | q
     ·have := hPl b q; have := (g2.lt hQ).1; omega
     ·rcases g4 b hQ with q' | q'
      ·have := (HXF.out b).1 q'; omega
      ·omega
    have hbs6 := hbs.fr h4 (fun b hb _ hc => hax b (Or.inl hb) hc) (fun b hb _ => by have := (g2.lt (Or.inl hb)).1; omega)
    have hfp := fr_put V6 V5.heap.size (.deferred none)
    refine ⟨by simp, .inl ⟨_, _, rfl, run_takeDeferred hD6, ⟨_, results_tmp rfl _ _ _, ⟨.slice fa Q.length fc, Q', up8 B ⟨nm, (n : Int)⟩ N, rfl, ?_, h3, ?_, hbs6.fr hfp (fun b e _ hc => ?_) (fun b e _ => by omega), ?_, fun b hb => ?_, hax⟩⟩⟩⟩
    ·exact (h1.same fun b hb => World.putObj_heap_other (hDne b hb)).mono (by omega)
    ·have := HL.out
     unfold fo8 at this
     rw [HEP.out, HNM.out.1, if_pos ⟨HP.out, HFQ.out⟩] at this
     rw [<- this, <- g3]
     exact h2.map _
    ·rcases hpn b hc with q | q
     ·have := hPl b q; omega
     ·omega
    ·refine (HFR.out.trans h4 fun b hl hb => ?_).trans hfp fun b hl e => by omega
     have := (g2.lt (Or.inl hb)).1
     omega
    ·exact (hpn b hb).imp id fun h => by omega
theorem found8_any (w0 : World) (g : Nat) (tv : Value) (mn mr : Nat) (ga : Pd -> Nat) (B : Pd -> Nat -> Prop) (m : Nat) (T : List Tm) (K : List Pd) (s : Pd -> St7) (parts : Int) (a : At) (x : Value) (Y : World) (h : BS w0 g tv mn mr ga B m T K s Y) (hx : ∀ X : World, Fr (PA8 g tv mn mr B K) Y X -> TsP X x a.args) (hk : ∀ t ∈ a.pl, t.var = false -> KeyT t) (hkp : KeyP a.pd8) (hl : a.pl.length <= 1000000000) (hm : m <= 100000000000000)
  (hrow : a.pd8 ∈ K -> ∀ r ∈ (s a.pd8).rows, RowOf T a.name a.args.length r) :
  Calls Tryz.prog 89 #[.pointer (some ⟨g, 0, none⟩), .int .i64 parts, a.v x] Y (FQ8 w0 g tv mn mr ga B (m + 1) T K s (fo8 T K s parts a) Y) := by
 obtain ⟨ax, cx, rfl⟩ := (hx Y (Fr.refl _ _)).shape
 exact found8_go w0 g tv mn mr ga B m T K s parts a _ _ _ _ _ rfl rfl rfl rfl rfl ax cx Y h hx hk hkp hl hm hrow
end Go.Proofs.YtechceagghcipabGreatDoor
