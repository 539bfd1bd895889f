import Derived.Test.YtechceagghcipabGreatDoorEE4
import Derived.Test.YtechceagghcipabGreatDoorEB6
import Derived.Deep.RegionHeld3
import Derived.BigQuiet
import Derived.Test.YtechceagghcipabGreatDoorRA2
import Derived.Test.YtechceagghcipabGreatDoorEJ9
namespace Go.Proofs.YtechceagghcipabGreatDoor
open Go.RowKit
attribute [local go_sem ↓] Go.wp_at_zero Go.wp_at_succ
def bN : ByteArray := ⟨#[98, 101, 104, 105, 110, 100]⟩
def bT : Tm := ⟨901, 902, bN⟩
theorem TsP.form {w : World} {v : Value} {l : List Tm} (h : TsP w v l) : ∃ a cap, v = .slice a l.length cap := by
 rcases h with ⟨rfl, rfl⟩ | ⟨ad, cap, rfl, _⟩
 ·exact ⟨none, 0, rfl⟩
 ·exact ⟨some ad, cap, rfl⟩
theorem ownT_some {w : World} {base : Nat} {v : Value} {l : List Tm} {d : Tm} (h : OwnT w base v (l ++ [d])) : ∃ g cap, v = .slice (some ⟨g, 0, none⟩) (l.length + 1) cap /\ l.length + 1 <= cap := by
 rcases h.2 with ⟨_, hn⟩ | ⟨g, cap, cur, hv, _, _, hn, _⟩
 ·simp at hn
 ·rw [List.length_append, List.length_singleton] at hv hn; exact ⟨g, cap, hv, hn⟩
def LentT (X : World) (B : Nat) (v : Value) (l : List Tm) : Prop := ∃ g cap, v = .slice (some ⟨g, 0, none⟩) l.length cap /\ OwnT X B (.slice (some ⟨g, 0, none⟩) (l.length + 1) cap) (l ++ [bT])
theorem LentT.later {X X' : World} {B : Nat} {v : Value} {l : List Tm} (h : LentT X B v l) (hb : Below X.heap.size X X') : LentT X' B v l := by
 obtain ⟨g, cap, e, ho⟩ := h
 exact ⟨g, cap, e, ho.later hb⟩
theorem LentT.mono {X : World} {B B' : Nat} {v : Value} {l : List Tm} (h : LentT X B v l) (hb : B' <= B) : LentT X B' v l := by
 obtain ⟨g, cap, e, ho⟩ := h
 exact ⟨g, cap, e, ho.mono hb⟩
theorem LentT.ts {X : World} {B : Nat} {v : Value} {l : List Tm} (h : LentT X B v l) (hl : l.length < 1000000000000000000) : Ts X v l := by
 obtain ⟨g, cap, rfl, ho⟩ := h
 exact ownT_pre ho hl
end Go.Proofs.YtechceagghcipabGreatDoor
namespace Go.Proofs.YtechceagghcipabGreatDoor
open Go.RowKit
attribute [local go_sem ↓] Go.wp_at_zero Go.wp_at_succ
structure BehA (w : World) : Prop where
 lt : 0 < w.heap.size
 le : True
 t0 : w.cell? ⟨0, 0, none⟩ = some (.int .i64 901)
 t1 : w.cell? ⟨0, 1, none⟩ = some (.int .i64 902)
 t2 : w.cell? ⟨0, 2, none⟩ = some (.string ⟨#[98, 101, 104, 105, 110, 100]⟩)
 e0 : True
theorem BehA.later {w w' : World} (h : BehA w) (hb : Below w.heap.size w w') : BehA w' :=
 ⟨Nat.lt_of_lt_of_le h.lt hb.size, trivial, cell_step hb h.lt h.t0, cell_step hb h.lt h.t1, cell_step hb h.lt h.t2, trivial⟩
set_option maxRecDepth 20000 in
set_option maxHeartbeats 2000000 in
theorem lendT8_any (l : List Tm) (v : Value) (w : World) (h : TsP w v l) (hl : l.length <= 3900000000000) (hB : BehA w) :
  Calls Tryz.prog 31 #[v] w fun e w' => ∃ g cap, e = .returned (.slice (some ⟨g, 0, none⟩) l.length cap) /\ OwnT w' w.heap.size (.slice (some ⟨g, 0, none⟩) (l.length + 1) cap) (l ++ [bT]) /\ Below w.heap.size w w' := by
 have HP : Hid (TsP w v l) := h
 have HB : Hid (BehA w) := hB
 obtain ⟨ad, cap, rfl⟩ := h.form
 have z0 : (0 : Int) <= (l.length : Int) := by omega
 clear h hB
 go_enter Tryz.func31, Tryz.ntmps31
 go_upto_region 3 with (at_builtin; refine app_terms rfl _ _ rfl w.heap.size (.slice none 0 0) [] (by rfl) (ownT_nil _ _) _ l (by rfl) HP.out (by simp only [List.length_nil]; omega) (Nat.le_refl _) ?_; intro v1 w1 hown hb hg; rw [List.nil_append] at hown; have HO : Hid (OwnT w1 w.heap.size v1 l) := hown; have HW : Hid (Below w.heap.size w w1) := hb; clear hown hb hg)
 obtain ⟨-, -, t0, t1, t2, -⟩ := HB.out.later HW.out
 have HG3 : Hid (CBlk (w1.alloc (.cells #[.int .i64 901, .int .i64 902, .string ⟨#[98, 101, 104, 105, 110, 100]⟩] 30)) w1.heap.size #[.int .i64 901, .int .i64 902, .string ⟨#[98, 101, 104, 105, 110, 100]⟩] 30) := CBlk.new _ _ _
 have HL3 : Hid (OwnT (w1.alloc (.cells #[.int .i64 901, .int .i64 902, .string ⟨#[98, 101, 104, 105, 110, 100]⟩] 30)) w.heap.size v1 l) := HO.out.later (below1 _ _)
 have HW3 : Hid (Below w.heap.size w (w1.alloc (.cells #[.int .i64 901, .int .i64 902, .string ⟨#[98, 101, 104, 105, 110, 100]⟩] 30))) := below_step HW.out (below1 _ _)
 go_wp2_with (at_builtin; refine app_terms rfl _ _ rfl w.heap.size v1 l (by rfl) HL3.out (.slice (some ⟨w1.heap.size, 0, none⟩) 1 1) [bT] (by rfl) (TsP.one (t := bT) HG3.out) (by simp only [List.length_cons, List.length_nil]; omega) HW3.out.size ?_; intro v2 w2 hown hb hg; obtain ⟨g, cap2, rfl, hcap⟩ := ownT_some hown; have hcap' : (l.length : Int) <= (cap2 : Int) := (by omega); have HO2 : Hid (OwnT w2 w.heap.size (.slice (some ⟨g, 0, none⟩) (l.length + 1) cap2) (l ++ [bT])) := hown; have HW2 : Hid (Below w.heap.size w w2) := HW3.out.trans hb; clear hown hb hg t0 t1 t2)
 go_ret
 exact ⟨g, cap2, rfl, HO2.out, HW2.out⟩
set_option maxRecDepth 20000 in
set_option maxHeartbeats 1000000 in
theorem keptT8_any (l : List Tm) (v y : Value) (base : Nat) (w : World) (h : Ts w y l) (ho : LentT w base v l) (hB : BehA w) :
  Calls Tryz.prog 57 #[v, y] w fun e w' => e = .returned (.bool true) /\ Below w.heap.size w w' := by
 obtain ⟨g, cap, rfl, ho⟩ := ho
 have hs : l.length < 1000000000000000000 := by obtain ⟨_, _, _, h, _⟩ := h; exact h
 have hcap := ownT_cap ho
 have HS0 := sameTerms_any l l _ y w (ownT_pre ho hs) h
 rw [decide_eq_true rfl] at HS0
 have HS : Hid (Calls Tryz.prog 58 #[.slice (some ⟨g, 0, none⟩) l.length cap, y] w fun e w' => e = .returned (.bool true) /\ Below w.heap.size w w') := HS0
 have HO : Hid (OwnT w base (.slice (some ⟨g, 0, none⟩) (l.length + 1) cap) (l ++ [bT])) := ho
 have HB : Hid (BehA w) := hB
 obtain ⟨ad, cap', rfl, -, -⟩ := h
 have he := run_eql_tm ⟨901, 902, ⟨#[98, 101, 104, 105, 110, 100]⟩⟩ ⟨901, 902, ⟨#[98, 101, 104, 105, 110, 100]⟩⟩
 rw [decide_eq_true rfl] at he
 have i0 : (0 : Int) <= (l.length : Int) := by omega
 have i1 : (l.length : Int) < (l.length : Int) + 1 := by omega
 have hcap' : (l.length : Int) + 1 <= (cap : Int) := by omega
 clear ho hB HS0
 go_enter Tryz.func57, Tryz.ntmps57
 go_wp2_with (go_at_call 58; refine HS.out.mono ?_; rintro e w1 ⟨rfl, hb1⟩; obtain ⟨-, -, t0, t1, t2, -⟩ := HB.out.later hb1; obtain ⟨c0, c1, c2⟩ := ownT_cells (HO.out.later hb1) l.length bT (by simp); simp only [bT, bN] at c0 c1 c2; have HW1 : Hid (Below w.heap.size w w1) := hb1; clear hb1)
 go_quiet (fail)
 go_wp2
 go_ret
 exact ⟨ret_b rfl, below_drewN HW1.out _⟩
set_option maxRecDepth 20000 in
set_option maxHeartbeats 2000000 in
theorem lendA8_any (a : At) (v : Value) (w : World) (h : TsP w v a.args) (hl : a.args.length <= 3900000000000) (hB : BehA w) :
  Calls Tryz.prog 11 #[a.v v] w fun e w' => ∃ u, e = .returned (a.v u) /\ LentT w' w.heap.size u a.args /\ Below w.heap.size w w' := by
 obtain ⟨⟨k, n, ss⟩, nm, l⟩ := a
 simp only at h hl ⊢
 have HLT0 : ∀ X : World, Below w.heap.size w X -> Calls Tryz.prog 31 #[v] X fun e w' => ∃ g cap, e = .returned (.slice (some ⟨g, 0, none⟩) l.length cap) /\ OwnT w' X.heap.size (.slice (some ⟨g, 0, none⟩) (l.length + 1) cap) (l ++ [bT]) /\ Below X.heap.size X w' := fun X hX => lendT8_any l v X (h.later hX) hl (hB.later hX)
 obtain ⟨ad, cap, rfl⟩ := h.form
 have z1 : (w.alloc (.cells #[.int .i64 k, .int .i64 n, .string ss, .string nm, .slice ad l.length cap] 33)).heap.size = w.heap.size + 1 := by simp
 have hb1 : CBlk ((w.alloc (.cells #[.int .i64 k, .int .i64 n, .string ss, .string nm, .slice ad l.length cap] 33)).alloc (.cells #[.int .i64 0, .int .i64 0, .string ⟨#[]⟩, .string ⟨#[]⟩, .slice none 0 0] 33)) w.heap.size #[.int .i64 k, .int .i64 n, .string ss, .string nm, .slice ad l.length cap] 33 := (CBlk.new w #[.int .i64 k, .int .i64 n, .string ss, .string nm, .slice ad l.length cap] 33).later (below1 _ _)
 have hb2 : CBlk ((w.alloc (.cells #[.int .i64 k, .int .i64 n, .string ss, .string nm, .slice ad l.length cap] 33)).alloc (.cells #[.int .i64 0, .int .i64 0, .string ⟨#[]⟩, .string ⟨#[]⟩, .slice none 0 0] 33)) (w.heap.size + 1) #[.int .i64 0, .int .i64 0, .string ⟨#[]⟩, .string ⟨#[]⟩, .slice none 0 0] 33 := by
  have := CBlk.new (w.alloc (.cells #[.int .i64 k, .int .i64 n, .string ss, .string nm, .slice ad l.length cap] 33)) #[.int .i64 0, .int .i64 0, .string ⟨#[]⟩, .string ⟨#[]⟩, .slice none 0 0] 33
  rwa [z1] at this
 have HB1 : Hid (CBlk ((w.alloc (.cells #[.int .i64 k, .int .i64 n, .string ss, .string nm, .slice ad l.length cap] 33)).alloc (.cells #[.int .i64 0, .int .i64 0, .string ⟨#[]⟩, .string ⟨#[]⟩, .slice none 0 0] 33)) w.heap.size #[.int .i64 k, .int .i64 n, .string ss, .string nm, .slice ad l.length cap] 33) := hb1
 have HB2 : Hid (CBlk ((w.alloc (.cells #[.int .i64 k, .int .i64 n, .string ss, .string nm, .slice ad l.length cap] 33)).alloc (.cells #[.int .i64 0, .int .i64 0, .string ⟨#[]⟩, .string ⟨#[]⟩, .slice none 0 0] 33)) (w.heap.size + 1) #[.int .i64 0, .int .i64 0, .string ⟨#[]⟩, .string ⟨#[]⟩, .slice none 0 0] 33) := hb2
 have HW0 : Hid (Below w.heap.size w ((w.alloc (.cells #[.int .i64 k, .int .i64 n, .string ss, .string nm, .slice ad l.length cap] 33)).alloc (.cells #[.int .i64 0, .int .i64 0, .string ⟨#[]⟩, .string ⟨#[]⟩, .slice none 0 0] 33))) := below2 _ _ _
 clear h hB hb1 hb2 z1
 go_enter Tryz.func11, Tryz.ntmps11
 go_upto_region 1 with fail
 revert HB1 HB2 HW0
 generalize (w.alloc (.cells #[.int .i64 k, .int .i64 n, .string ss, .string nm, .slice ad l.length cap] 33)).alloc (.cells #[.int .i64 0, .int .i64 0, .string ⟨#[]⟩, .string ⟨#[]⟩, .slice none 0 0] 33) = W0
 intro HB1 HB2 HW0
 have HLT : Hid (∀ X : World, Below w.heap.size w X -> Calls Tryz.prog 31 #[.slice ad l.length cap] X fun e w' => ∃ g cap, e = .returned (.slice (some ⟨g, 0, none⟩) l.length cap) /\ OwnT w' X.heap.size (.slice (some ⟨g, 0, none⟩) (l.length + 1) cap) (l ++ [bT]) /\ Below X.heap.size X w') := HLT0
 clear HLT0
 have HB2d : Hid (CBlk W0.drew (w.heap.size + 1) #[.int .i64 0, .int .i64 0, .string ⟨#[]⟩, .string ⟨#[]⟩, .slice none 0 0] 33) := HB2.out.later (Below.refl _ _).drew
 refine wp_region_held_drew (S := fun w' => Below w.heap.size w w' /\ CBlk w' w.heap.size #[.int .i64 k, .int .i64 n, .string ss, .string nm, .slice ad l.length cap] 33) (by kernel_rfl) ⟨below_step HW0.out (Below.refl _ _).drew, HB1.out.later (Below.refl _ _).drew⟩ (fun hH => ?_)
 revert hH HB2d
 generalize W0.drew = V0
 intro HB2d hH
 clear HB1 HB2 HW0
 refine wTl 0 (.pointer (some ⟨w.heap.size, 0, none⟩)) rfl (by kernel_rfl) (fun _ _ _ h => h) rfl (fun w' h => by clear h; go_simp) hH ?_
 simp only [wA, wB, wC, wD]
 refine wTl 1 (.agg #[.int .i64 k, .int .i64 n, .string ss]) rfl (by kernel_rfl) (fun _ _ _ h => h) rfl (fun w' h => by obtain ⟨c0, c1, c2, c3, c4⟩ := cfive h.2; clear h; go_simp) hH ?_
 simp only [wA, wB, wC, wD]
 refine wTl 2 (.pointer (some ⟨w.heap.size, 3, none⟩)) rfl (by kernel_rfl) (fun _ _ _ h => h) rfl (fun w' h => by clear h; go_simp) hH ?_
 simp only [wA, wB, wC, wD]
 refine wTl 3 (.string nm) rfl (by kernel_rfl) (fun _ _ _ h => h) rfl (fun w' h => by obtain ⟨c0, c1, c2, c3, c4⟩ := cfive h.2; clear h; go_simp) hH ?_
 simp only [wA, wB, wC, wD]
 refine wTl 4 (.pointer (some ⟨w.heap.size, 4, none⟩)) rfl (by kernel_rfl) (fun _ _ _ h => h) rfl (fun w' h => by clear h; go_simp) hH ?_
 simp only [wA, wB, wC, wD]
 refine wTl 5 (.slice ad l.length cap) rfl (by kernel_rfl) (fun _ _ _ h => h) rfl (fun w' h => by obtain ⟨c0, c1, c2, c3, c4⟩ := cfive h.2; clear h; go_simp) hH ?_
 simp only [wA, wB, wC, wD]
 refine wRd 6 (by kernel_rfl) rfl (fun K hK => ?_)
 go_simp
 refine (HLT.out _ hH.1).mono ?_
 rintro x V1 ⟨g, cap1, rfl, ho, hb⟩
 have HO : Hid (OwnT V1 V0.heap.size (.slice (some ⟨g, 0, none⟩) (l.length + 1) cap1) (l ++ [bT])) := ho
 have HLV : Hid (w.heap.size + 1 < V0.heap.size) := HB2d.out.lt
 have HB2v : Hid (CBlk V1 (w.heap.size + 1) #[.int .i64 0, .int .i64 0, .string ⟨#[]⟩, .string ⟨#[]⟩, .slice none 0 0] 33) := HB2d.out.later hb
 refine hK.out _ _ ⟨below_step hH.1 hb, hH.2.later hb⟩ (fun hH => ?_)
 clear hK K hb ho
 try simp only [wA, wB, wC, wD]
 refine wTl 7 (.agg #[.int .i64 k, .int .i64 n, .string ss, .string nm, .slice (some ⟨g, 0, none⟩) l.length cap1]) rfl (by kernel_rfl) (fun _ _ _ h => h) rfl (fun w' h => by clear h; go_simp) hH ?_
 simp only [wA, wB, wC, wD]
 refine wRd 8 (by kernel_rfl) rfl (fun K hK => ?_)
 obtain ⟨c0, c1, c2, c3, c4⟩ := cfive HB2v.out
 have f0 : V1.frozen? ⟨w.heap.size + 1, 0, none⟩ = false := HB2v.out.froz
 have f1 : V1.frozen? ⟨w.heap.size + 1, 1, none⟩ = false := HB2v.out.froz
 have f2 : V1.frozen? ⟨w.heap.size + 1, 2, none⟩ = false := HB2v.out.froz
 have f3 : V1.frozen? ⟨w.heap.size + 1, 3, none⟩ = false := HB2v.out.froz
 have f4 : V1.frozen? ⟨w.heap.size + 1, 4, none⟩ = false := HB2v.out.froz
 go_simp
 have nw : w.heap.size <= w.heap.size + 1 := by omega
 have ng : w.heap.size ≠ w.heap.size + 1 := by omega
 refine hK.out _ _ ⟨((((hH.1.setCell nw _).setCell nw _).setCell nw _).setCell nw _).setCell nw _, ((((hH.2.off ng).off ng).off ng).off ng).off ng⟩ (fun hH2 => ?_)
 clear hK K
 refine wpAnyH_done (by kernel_rfl) ?_ _
 have HV : Hid _ := hH2.1
 clear hH hH2
 go_wp2
 refine bodyPost_ret (v := At.v ⟨⟨k, n, ss⟩, nm, l⟩ (.slice (some ⟨g, 0, none⟩) l.length cap1)) (by simp [results, Tryz.results11, go_sem, c0, c1, c2, c3, c4]) rfl ⟨_, rfl, ⟨g, cap1, rfl, ?_⟩, ?_⟩
 ·have hlv := HLV.out
  exact (((((HO.out.set hlv).set hlv).set hlv).set hlv).set hlv).mono (by omega)
 ·exact HV.out
set_option maxRecDepth 20000 in
set_option maxHeartbeats 1000000 in
theorem keptA8_any (a : At) (v y : Value) (base : Nat) (w : World) (h : Ts w y a.args) (ho : LentT w base v a.args) (hB : BehA w) :
  Calls Tryz.prog 28 #[a.v v, a.v y] w fun e w' => e = .returned (.bool true) /\ Below w.heap.size w w' := by
 obtain ⟨⟨k, n, ss⟩, nm, l⟩ := a
 simp only at h ho ⊢
 have HK : Hid (∀ X : World, Below w.heap.size w X -> Calls Tryz.prog 57 #[v, y] X fun e w' => e = .returned (.bool true) /\ Below X.heap.size X w') := fun X hX => keptT8_any l v y base X (h.later hX) (ho.later hX) (hB.later hX)
 obtain ⟨g, cap, rfl, ho⟩ := ho
 obtain ⟨ad, cap', rfl, -, -⟩ := h
 have he := run_eql_tm ⟨k, n, ss⟩ ⟨k, n, ss⟩
 rw [decide_eq_true rfl] at he
 clear ho hB
 go_enter Tryz.func28, Tryz.ntmps28
 go_wp2_with (go_at_call 57; refine (HK.out _ (below2 _ _ _)).mono ?_; rintro e w1 ⟨rfl, hb1⟩)
 go_ret
 exact ⟨rfl, below_step (below2 _ _ _) hb1⟩
end Go.Proofs.YtechceagghcipabGreatDoor
namespace Go.Proofs.YtechceagghcipabGreatDoor
open Go.RowKit
theorem LentT.tsP {X : World} {B : Nat} {v : Value} {l : List Tm} (h : LentT X B v l) (hl : l.length < 1000000000000000000) : TsP X v l := by
 have ht := h.ts hl
 obtain ⟨g, cap, rfl, ho⟩ := h
 obtain ⟨a, c, e, -, hr⟩ := ht
 cases e
 refine Or.inr ⟨⟨g, 0, none⟩, cap, rfl, ?_⟩
 rcases hr with hr | ⟨b, o, e, hr⟩
 ·exact Or.inl hr
 ·cases e
  exact Or.inr ⟨_, _, rfl, hr⟩
theorem LentT.fr {P : Nat -> Prop} {X X' : World} {B : Nat} {v : Value} {l : List Tm} (h : LentT X B v l) (hf : Fr P X X') (hn : ∀ b, P b -> b < B) : LentT X' B v l := by
 obtain ⟨g, cap, e, ho⟩ := h
 exact ⟨g, cap, e, row7_fr ho hf fun b hb hp => by have h1 := (World.ownsRow.lt ho b hb).1; have h2 := hn b hp; omega⟩
theorem facts_eq {Q : List (At × Nat)} {L : List At} (hs : srtC8 Q) (hp : (Q.map Prod.fst).Perm L) (hL : L.Pairwise fun a b => a.cmp b < 0) : Q.map Prod.fst = L := by
 have h1 : (Q.map Prod.fst).Pairwise fun a b => a.cmp b <= 0 := by rw [List.pairwise_map]; exact hs
 exact List.Perm.eq_of_pairwise (fun a b _ _ h1 h2 => by
  have := ord_at.neg a b
  exact ord_at.zero a b (by omega)) h1 (hL.imp fun h => by omega) hp
theorem so9_filter {R : List It8} (h : so9 R) (p : At × Int -> Bool) : (((Ei R).filter p).map Prod.fst).Pairwise fun a b => a.cmp b < 0 := by
 rw [List.pairwise_map]
 refine List.Pairwise.filter p ?_
 unfold Ei
 rw [List.pairwise_map]
 exact h
theorem so9_turn {R : List It8} (h : so9 R) : so9 (R.map tI8) := by
 unfold so9
 rw [List.pairwise_map]
 exact h
theorem Kd8.perm {R R' : List It8} {f : At} (h : Kd8 R) (hf : (∀ t ∈ f.pl, KeyT t) /\ KeyP f.pd8) (hp : (Ei R').Perm (aE8 (Ei R) f)) : Kd8 R' := fun x hx => by
 have h1 : (x.1.1, x.2) ∈ aE8 (Ei R) f := hp.mem_iff.1 (List.mem_map.2 ⟨x, hx, rfl⟩)
 unfold aE8 at h1
 have h2 : (x.1.1, x.2) ∈ Ei R -> (∀ t ∈ x.1.1.pl, KeyT t) /\ KeyP x.1.1.pd8 := fun hm => by
  obtain ⟨z, hz, e⟩ := List.mem_map.1 hm
  simp only [Prod.mk.injEq] at e
  rw [<- e.1]
  exact h z hz
 split at h1
 ·exact h2 h1
 ·rcases List.mem_append.1 h1 with h1 | h1
  ·exact h2 h1
  ·have : x.1.1 = f := by have := List.mem_singleton.1 h1; simp only [Prod.mk.injEq] at this; exact this.1
   rw [this]; exact hf
theorem Kd8.turn {R : List It8} (h : Kd8 R) : Kd8 (R.map tI8) := fun x hx => by
 obtain ⟨y, hy, rfl⟩ := List.mem_map.1 hx
 exact h y hy
structure DO8 (w : World) (A B : Nat -> Prop) (b r M T : Nat) (R : List It8) (Y : World) : Prop where
 p : BP8 w A b M T (Ei R) Y
 q : ∃ lv, RB8 w B r lv R Y
 d : ∀ x, A x -> ¬ B x
 so : so9 R
 kd : Kd8 R
theorem DO8.fr {w : World} {A B P : Nat -> Prop} {b r M T : Nat} {R : List It8} {Y Y' : World} (h : DO8 w A B b r M T R Y) (hf : Fr P Y Y') (hn : ∀ x, P x -> x < Y.heap.size -> (¬ A x /\ ¬ B x) /\ w.heap.size <= x) : DO8 w A B b r M T R Y' := by
 obtain ⟨lv, hq⟩ := h.q
 exact ⟨h.p.fr hf fun x hx hl => ⟨(hn x hx hl).1.1, (hn x hx hl).2⟩, ⟨lv, hq.fr hf fun x hx hl => ⟨(hn x hx hl).1.2, (hn x hx hl).2⟩⟩, h.d, h.so, h.kd⟩
theorem DO8.below {w : World} {A B : Nat -> Prop} {b r M T : Nat} {R : List It8} {Y Y' : World} (h : DO8 w A B b r M T R Y) (hb : Below Y.heap.size Y Y') : DO8 w A B b r M T R Y' := h.fr (P := fun _ => False) (Fr.of hb) fun _ h => h.elim
theorem DO8.lt {w : World} {A B : Nat -> Prop} {b r M T : Nat} {R : List It8} {Y : World} (h : DO8 w A B b r M T R Y) {x : Nat} (hx : A x ∨ B x) : w.heap.size <= x /\ x < Y.heap.size := by
 rcases hx with hx | hx
 ·exact h.p.lt hx
 ·obtain ⟨lv, hq⟩ := h.q; exact hq.lt hx
def DoQ (w : World) (A B : Nat -> Prop) (b r M T : Nat) (R : List It8) (f : At) (Y : World) (e : Ending) (Y' : World) : Prop :=
 e = .returned (.bool true) /\ ∃ A' B' M' T' R', DO8 w A' B' b r M' T' R' Y' /\ M' <= M + 1048577 /\ T' <= T + f.pl.length /\ sz8 (Ei R') <= sz8 (Ei R) + f.pl.length /\ Fr (fun x => A x ∨ B x) Y Y' /\ ∀ x, A' x ∨ B' x -> (A x ∨ B x) ∨ Y.heap.size <= x
structure DM8 (w Y : World) (oc fc : Array Value) (u : Value) (l : List Tm) (G : Nat) (Z : World) : Prop where
 bo : Bk Z Y.heap.size oc 35
 bf : Bk Z G fc 33
 g : Y.heap.size <= G
 lt : LentT Z Y.heap.size u l
 bl : Below w.heap.size w Z
theorem DM8.fr {w Y : World} {oc fc : Array Value} {u : Value} {l : List Tm} {G : Nat} {P : Nat -> Prop} {Z Z' : World} (h : DM8 w Y oc fc u l G Z) (hf : Fr P Z Z') (hn : ∀ x, P x -> w.heap.size <= x /\ x < Y.heap.size) : DM8 w Y oc fc u l G Z' :=
 ⟨h.bo.fr hf fun hp => by have := hn _ hp; omega, h.bf.fr hf fun hp => by have := hn _ hp; have := h.g; omega, h.g, h.lt.fr hf fun x hx => (hn x hx).2, h.bl.trans (Fr.low (hf.mono (Q := fun x => w.heap.size <= x) fun x _ hx => (hn x hx).1) h.bl.size)⟩
theorem DM8.below {w Y : World} {oc fc : Array Value} {u : Value} {l : List Tm} {G : Nat} {Z Z' : World} (h : DM8 w Y oc fc u l G Z) (hb : Below Z.heap.size Z Z') : DM8 w Y oc fc u l G Z' := h.fr (P := fun _ => False) (Fr.of hb) fun _ h => h.elim
end Go.Proofs.YtechceagghcipabGreatDoor
namespace Go.Proofs.YtechceagghcipabGreatDoor
open Go.RowKit
structure MI8 (w : World) (A B : Nat -> Prop) (b r M T : Nat) (E : List (At × Int)) (R : List It8) (Z Z1 : World) : Prop where
 x : ∃ A', BP8 w A' b M T E Z1 /\ (∀ x, A' x -> A x ∨ Z.heap.size <= x) /\ ∀ x, A' x -> ¬ B x
 q : ∃ lv, RB8 w B r lv R Z1
 f : Fr A Z Z1
def EN8 (w : World) (A B : Nat -> Prop) (b r M T : Nat) (R : List It8) (Z Z2 : World) : Prop :=
 ∃ A' B', DO8 w A' B' b r M T R Z2 /\ Fr (fun x => A x ∨ B x) Z Z2 /\ ∀ x, A' x ∨ B' x -> (A x ∨ B x) ∨ Z.heap.size <= x
section
variable {w : World} {A B : Nat -> Prop} {b r M T M' T' : Nat} {E : List (At × Int)} {R R' : List It8} {Z Z1 Z2 : World}
theorem DO8.mi (h : DO8 w A B b r M T R Z) {A' : Nat -> Prop} (hp : BP8 w A' b M' T' E Z1) (hf : Fr A Z Z1) (hn : ∀ x, A' x -> A x ∨ Z.heap.size <= x) : MI8 w A B b r M' T' E R Z Z1 := by
 obtain ⟨lv, hq⟩ := h.q
 refine ⟨⟨A', hp, hn, fun x hx hb => ?_⟩, ⟨lv, hq.fr hf fun x hx _ => ⟨h.d x hx, (h.p.lt hx).1⟩⟩, hf⟩
 rcases hn x hx with h1 | h1
 ·exact h.d x h1 hb
 ·have := (hq.lt hb).2; omega
theorem MI8.en (h : MI8 w A B b r M T E R Z Z1) (hr : RW8 w B r R' Z1 Z2) (hE : (Ei R').Perm E) (hs : so9 R') (hk : Kd8 R') : EN8 w A B b r M T R' Z Z2 := by
 obtain ⟨⟨A', h1, h2, h3⟩, ⟨lv, h4⟩, h5⟩ := h
 obtain ⟨B', lv', k1, k2, k3⟩ := hr
 refine ⟨A', B', ⟨(h1.fr k2 fun x hx _ => ⟨fun ha => h3 x ha hx, (h4.lt hx).1⟩).perm hE, ⟨lv', k1⟩, fun x ha hb => ?_, hs, hk⟩, (h5.mono fun x _ hx => Or.inl hx).trans k2 fun x _ hx => Or.inr hx, fun x hx => ?_⟩
 ·rcases k3 x hb with h | h
  ·exact h3 x ha h
  ·have := (h1.lt ha).2; omega
 ·have hz := h5.size
  rcases hx with hx | hx
  ·exact (h2 x hx).imp Or.inl id
  ·rcases k3 x hx with h | h
   ·exact Or.inl (Or.inr h)
   ·exact Or.inr (by omega)
theorem MI8.look (h : MI8 w A B b r M T (Ei R) R Z Z1) (hb : Below Z1.heap.size Z1 Z2) (hs : so9 R) (hk : Kd8 R) : EN8 w A B b r M T R Z Z2 := by
 obtain ⟨lv, hq⟩ := h.q
 exact h.en ⟨B, lv, hq.below hb, Fr.of hb, fun x hx => Or.inl hx⟩ (List.Perm.refl _) hs hk
theorem DO8.look (h : DO8 w A B b r M T R Z) (hb : Below Z.heap.size Z Z2) : EN8 w A B b r M T R Z Z2 := ⟨A, B, h.below hb, Fr.of hb, fun _ hx => Or.inl hx⟩
theorem dturn1 (h : DO8 w A B b r M T R Z) (hl : R.length <= 1048576) : Calls Tryz.prog 14 #[.pointer (some ⟨b, 0, none⟩)] Z fun e Z1 => e = .returned (.int .i64 (((Ei R).filter fun x => hp7 4 x.2).length : Int)) /\ MI8 w A B b r M T (Ei (R.map tI8)) R Z Z1 := by
 refine (bp_turn h.p (by rw [Ei_len]; omega)).mono ?_
 rintro e Z1 ⟨rfl, A', h1, h2, h3⟩
 rw [Ei_turn] at h1
 exact ⟨rfl, h.mi h1 h2 h3⟩
theorem dturn2 (h : DO8 w A B b r M T R Z) (hm : MI8 w A B b r M T (Ei (R.map tI8)) R Z Z1) (hl : R.length <= 1048576) : Calls Tryz.prog 15 #[.pointer (some ⟨r, 0, none⟩)] Z1 fun e Z2 => e = .returned (.int .i64 (((Ei R).filter fun x => hp7 4 x.2).length : Int)) /\ EN8 w A B b r M T (R.map tI8) Z Z2 /\ Fr B Z1 Z2 := by
 obtain ⟨lv, hq⟩ := hm.q
 refine (rbturn8_any w B r lv R Z1 hq (fun x hx => h.p.pos (x.1.1, x.2) (List.mem_map.2 ⟨x, hx, rfl⟩)) (by omega)).mono ?_
 rintro e Z2 ⟨rfl, h1, h2⟩
 exact ⟨rfl, hm.en ⟨B, lv, h1, h2, fun x hx => Or.inl hx⟩ (List.Perm.refl _) (so9_turn h.so) h.kd.turn, h2⟩
theorem dadd1 (h : DO8 w A B b r M T R Z) (hl : R.length <= 1048576) (f : At) (x : Value) (hx : TsP Z x f.args) (hf : f.fact = true) (hk : ∀ t ∈ f.pl, KeyT t) (hkp : KeyP f.pd8) (hn : f.pl.length <= 1048576) (ht : T + f.pl.length <= 100000000) :
  Calls Tryz.prog 12 #[.pointer (some ⟨b, 0, none⟩), f.v x] Z fun e Z1 => e = .returned (.tuple #[.bool (decide (f ∉ (Ei R).map Prod.fst)), .int .i64 0]) /\ MI8 w A B b r M (T + f.pl.length) (aE8 (Ei R) f) R Z Z1 := by
 refine (bp_add h.p f x hx hf hk hkp (by simp [At.pl] at hn; omega) (by omega) (by rw [Ei_len]; omega)).mono ?_
 rintro e Z1 ⟨c, hc, rfl, A', h1, h2, h3⟩
 refine ⟨?_, h.mi h1 h2 h3⟩
 congr 5
 cases c with
 | true => exact (decide_eq_true (hc.1 rfl)).symm
 | false => exact (decide_eq_false fun hm => by have := hc.2 hm; cases this).symm
theorem dadd2 (h : DO8 w A B b r M T R Z) (hl : R.length <= 1048576) (f : At) (hm : MI8 w A B b r M (T + f.pl.length) (aE8 (Ei R) f) R Z Z1) (x : Value) (hx : TsP Z1 x f.args) (hf : f.fact = true) (hk : ∀ t ∈ f.pl, KeyT t) (hkp : KeyP f.pd8) (hn : f.pl.length <= 1048576) :
  Calls Tryz.prog 13 #[.pointer (some ⟨r, 0, none⟩), f.v x] Z1 fun e Z2 => e = .returned (.tuple #[.bool (decide (f ∉ (Ei R).map Prod.fst)), .int .i64 0]) /\ (∃ R', EN8 w A B b r M (T + f.pl.length) R' Z Z2 /\ sz8 (Ei R') <= sz8 (Ei R) + f.pl.length) /\ Fr B Z1 Z2 := by
 obtain ⟨lv, hq⟩ := hm.q
 refine (rbadd8_any w B r lv R f x Z1 hq hx (by simp [At.pl] at hn; omega) hf (Sz8.of hk hkp) h.kd h.so (by omega)).mono ?_
 rintro e Z2 ⟨c, R', hc, rfl, h1, h2, h3⟩
 refine ⟨?_, ⟨R', hm.en h3 h2 h1 (h.kd.perm ⟨hk, hkp⟩ h2), ?_⟩, ?_⟩
 ·congr 5
  cases c with
  | true => exact (decide_eq_true (hc.1 rfl)).symm
  | false => exact (decide_eq_false fun hm => by have := hc.2 hm; cases this).symm
 ·rw [sz8_perm h2, sz8_add]
  split <;> omega
 ·obtain ⟨B', lv', -, k2, -⟩ := h3
  exact k2
theorem dfacts1 (h : DO8 w A B b r M T R Z) (hl : R.length <= 1048576) (hM : M <= 5000000000000) (parts : Int) : Calls Tryz.prog 21 #[.pointer (some ⟨b, 0, none⟩), .int .i64 parts] Z fun e Z1 => ∃ fv Q, e = .returned fv /\ AL8 Z1 Z.heap.size fv Q /\ Q.map Prod.fst = ((Ei R).filter fun x => hp7 parts x.2).map Prod.fst /\ Q.length <= 1048576 /\ MI8 w A B b r (M + (Ei R).length) T (Ei R) R Z Z1 := by
 refine (bp_facts h.p parts (by rw [Ei_len]; omega) (by omega)).mono ?_
 rintro e Z1 ⟨fv, Q, A', rfl, h1, h2, h3, h4, h5, h6, -⟩
 have e := facts_eq h2 h3 (so9_filter h.so _)
 refine ⟨fv, Q, rfl, h1, e, ?_, h.mi h4 h5 h6⟩
 have h7 := congrArg List.length e
 rw [List.length_map, List.length_map] at h7
 have h8 := List.length_filter_le (fun x : At × Int => hp7 parts x.2) (Ei R)
 rw [Ei_len] at h8
 omega
theorem dfind1 (h : DO8 w A B b r M T R Z) (hl : R.length <= 1048576) (hM : M <= 5000000000000) (parts : Int) (f : At) (x : Value) (hx : TsP Z x f.args) (hk : ∀ t ∈ f.pl, KeyT t) (hkp : KeyP f.pd8) (hn : f.pl.length <= 1048576) : Calls Tryz.prog 26 #[.pointer (some ⟨b, 0, none⟩), .int .i64 parts, f.v x] Z fun e Z1 => ∃ fv Q, e = .returned fv /\ AL8 Z1 Z.heap.size fv Q /\ Q.map Prod.fst = ((Ei R).filter fun x => hp7 parts x.2 && mt8 f x.1).map Prod.fst /\ Q.length <= 1048576 /\ MI8 w A B b r (M + 1) T (Ei R) R Z Z1 := by
 refine (bp_lfound h.p parts f x hx (fun t ht _ => hk t ht) hkp (by omega) (by rw [Ei_len]; omega) (by omega)).mono ?_
 rintro e Z1 ⟨fv, Q, A', rfl, h1, h2, h3, h4, h5, h6, -⟩
 have e := facts_eq h2 h3 (so9_filter h.so _)
 refine ⟨fv, Q, rfl, h1, e, ?_, h.mi h4 h5 h6⟩
 have h7 := congrArg List.length e
 rw [List.length_map, List.length_map] at h7
 have h8 := List.length_filter_le (fun x : At × Int => hp7 parts x.2 && mt8 f x.1) (Ei R)
 rw [Ei_len] at h8
 omega
end
theorem same8 {V : World} {base base' : Nat} {fv v : Value} {Q : List (At × Nat)} {Q' : List (At × Value)} {L : List At} (h : AL8 V base fv Q) (h' : FL8 V base' v Q') (e : Q.map Prod.fst = L) (e' : Q'.map Prod.fst = L) (hl : Q.length <= 1048576) : Calls Tryz.prog 20 #[fv, v] V fun e w' => e = .returned (.bool true) /\ Below V.heap.size V w' := by
 have hl' : Q'.length = Q.length := by
  have := congrArg List.length (e.trans e'.symm)
  rw [List.length_map, List.length_map] at this
  exact this.symm
 have := sameAtoms_any (Q.map enc8) Q' fv v V (h.as (by omega)) (h'.as (by omega))
 rw [decide_eq_true (show fsts (Q.map enc8) = fsts Q' by
  show (Q.map enc8).map Prod.fst = Q'.map Prod.fst
  rw [e', <- e, List.map_map]; rfl)] at this
 exact this
end Go.Proofs.YtechceagghcipabGreatDoor
namespace Go.Proofs.YtechceagghcipabGreatDoor
open Go.RowKit
theorem EN8.doq {w : World} {A B : Nat -> Prop} {b r M T M' T' : Nat} {R R' : List It8} {f : At} {Y Z Z2 ZE : World} (h : EN8 w A B b r M' T' R' Z Z2) (hb : Below Y.heap.size Y Z) (hz : Below Z2.heap.size Z2 ZE) (hM : M' <= M + 1048577) (hT : T' <= T + f.pl.length) (hs : sz8 (Ei R') <= sz8 (Ei R) + f.pl.length) : DoQ w A B b r M T R f Y (.returned (.bool true)) ZE := by
 obtain ⟨A', B', h1, h2, h3⟩ := h
 have := hb.size
 exact ⟨rfl, A', B', M', T', R', h1.below hz, hM, hT, hs, ((Fr.of hb).trans h2 fun _ _ h => h).then hz, fun x hx => (h3 x hx).imp id fun h => by omega⟩
end Go.Proofs.YtechceagghcipabGreatDoor
