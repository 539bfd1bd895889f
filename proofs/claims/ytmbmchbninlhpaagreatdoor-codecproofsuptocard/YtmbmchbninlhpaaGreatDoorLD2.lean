import Derived.Test.YtmbmchbninlhpaaGreatDoorCL1
import Derived.Test.YtmbmchbninlhpaaGreatDoorMD8
import Derived.Test.YtmbmchbninlhpaaGreatDoorMD2
import Derived.Deep.RegionHeld3
import Derived.BigQuiet
namespace Go.Proofs.YtmbmchbninlhpaaGreatDoor
open Go.RowKit
attribute [local go_sem ↓] Go.wp_at_zero Go.wp_at_succ

def bN : ByteArray := ⟨#[98, 101, 104, 105, 110, 100]⟩
def bT : Tm := ⟨901, 902, bN⟩
def bE : Te := ⟨903, zt, zt⟩
structure BehOk (w : World) : Prop where
 lt : 0 < w.heap.size
 le : 1 < w.heap.size
 t0 : w.cell? ⟨0, 0, none⟩ = some (.int .i64 901)
 t1 : w.cell? ⟨0, 1, none⟩ = some (.int .i64 902)
 t2 : w.cell? ⟨0, 2, none⟩ = some (.string ⟨#[98, 101, 104, 105, 110, 100]⟩)
 e0 : w.cell? ⟨1, 0, none⟩ = some (.int .i64 903)
 e1 : w.cell? ⟨1, 1, none⟩ = some (.int .i64 0)
 e2 : w.cell? ⟨1, 2, none⟩ = some (.int .i64 0)
 e3 : w.cell? ⟨1, 3, none⟩ = some (.string ⟨#[]⟩)
 e4 : w.cell? ⟨1, 4, none⟩ = some (.int .i64 0)
 e5 : w.cell? ⟨1, 5, none⟩ = some (.int .i64 0)
 e6 : w.cell? ⟨1, 6, none⟩ = some (.string ⟨#[]⟩)
theorem BehOk.later {w w' : World} (h : BehOk w) (hb : Below w.heap.size w w') : BehOk w' :=
 ⟨Nat.lt_of_lt_of_le h.lt hb.size, Nat.lt_of_lt_of_le h.le hb.size, cell_step hb h.lt h.t0, cell_step hb h.lt h.t1, cell_step hb h.lt h.t2, cell_step hb h.le h.e0, cell_step hb h.le h.e1, cell_step hb h.le h.e2, cell_step hb h.le h.e3, cell_step hb h.le h.e4, cell_step hb h.le h.e5, cell_step hb h.le h.e6⟩
theorem TsP.form {w : World} {v : Value} {l : List Tm} (h : TsP w v l) : ∃ a cap, v = .slice a l.length cap := by
 rcases h with ⟨rfl, rfl⟩ | ⟨ad, cap, rfl, _⟩
 ·exact ⟨none, 0, rfl⟩
 ·exact ⟨some ad, cap, rfl⟩
theorem ownT_some {w : World} {base : Nat} {v : Value} {l : List Tm} {d : Tm} (h : OwnT w base v (l ++ [d])) : ∃ g cap, v = .slice (some ⟨g, 0, none⟩) (l.length + 1) cap /\ l.length + 1 <= cap := by
 rcases h.2 with ⟨_, hn⟩ | ⟨g, cap, cur, hv, _, _, hn, _⟩
 ·simp at hn
 ·rw [List.length_append, List.length_singleton] at hv hn; exact ⟨g, cap, hv, hn⟩
def LentT (X : World) (B : Nat) (v : Value) (l : List Tm) : Prop := ∃ g cap, v = .slice (some ⟨g, 0, none⟩) l.length cap /\ OwnT X B (.slice (some ⟨g, 0, none⟩) (l.length + 1) cap) (l ++ [bT])
theorem LentT.later {X X' : World} {B : Nat} {v : Value} {l : List Tm} (h : LentT X B v l) (hb : Below X.heap.size X X') : LentT X' B v l := by
 obtain ⟨g, cap, e, ho⟩ := h
 exact ⟨g, cap, e, ho.later hb⟩
theorem LentT.mono {X : World} {B B' : Nat} {v : Value} {l : List Tm} (h : LentT X B v l) (hb : B' <= B) : LentT X B' v l := by
 obtain ⟨g, cap, e, ho⟩ := h
 exact ⟨g, cap, e, ho.mono hb⟩
theorem LentT.lt {X : World} {B : Nat} {v : Value} {l : List Tm} (h : LentT X B v l) : ∀ k, v.ownBlock = some k -> B <= k /\ k < X.heap.size := by
 obtain ⟨g, cap, rfl, ho⟩ := h
 exact fun k hk => ho.lt k hk
theorem LentT.grown {X X' : World} {B : Nat} {v : Value} {l : List Tm} {row : Option Nat} (h : LentT X B v l) (hg : X.grownBy X' row) (hne : ∀ k, v.ownBlock = some k -> row ≠ some k) : LentT X' B v l := by
 obtain ⟨g, cap, rfl, ho⟩ := h
 exact ⟨g, cap, rfl, OwnT.grown ho hg fun k hk => hne k hk⟩
theorem LentT.ts {X : World} {B : Nat} {v : Value} {l : List Tm} (h : LentT X B v l) (hl : l.length < 1000000000000000000) : Ts X v l := by
 obtain ⟨g, cap, rfl, ho⟩ := h
 exact ownT_pre ho hl
set_option maxRecDepth 20000 in
set_option maxHeartbeats 2000000 in
theorem lendT_any (l : List Tm) (v : Value) (w : World) (h : TsP w v l) (hl : l.length <= 3900000000000) (hB : BehOk w) :
  Calls Tryz.prog 25 #[v] w fun e w' => ∃ g cap, e = .returned (.slice (some ⟨g, 0, none⟩) l.length cap) /\ OwnT w' w.heap.size (.slice (some ⟨g, 0, none⟩) (l.length + 1) cap) (l ++ [bT]) /\ Below w.heap.size w w' := by
 have HP : Hid (TsP w v l) := h
 have HB : Hid (BehOk w) := hB
 obtain ⟨ad, cap, rfl⟩ := h.form
 have z0 : (0 : Int) <= (l.length : Int) := by omega
 clear h hB
 go_enter Tryz.func25, Tryz.ntmps25
 go_upto_region 3 with (at_builtin; refine app_terms rfl _ _ rfl w.heap.size (.slice none 0 0) [] (by rfl) (ownT_nil _ _) _ l (by rfl) HP.out (by simp only [List.length_nil]; omega) (Nat.le_refl _) ?_; intro v1 w1 hown hb hg; rw [List.nil_append] at hown; have HO : Hid (OwnT w1 w.heap.size v1 l) := hown; have HW : Hid (Below w.heap.size w w1) := hb; clear hown hb hg)
 obtain ⟨-, -, t0, t1, t2, -⟩ := HB.out.later HW.out
 have HG3 : Hid (CBlk (w1.alloc (.cells #[.int .i64 901, .int .i64 902, .string ⟨#[98, 101, 104, 105, 110, 100]⟩] 56)) w1.heap.size #[.int .i64 901, .int .i64 902, .string ⟨#[98, 101, 104, 105, 110, 100]⟩] 56) := CBlk.new _ _ _
 have HL3 : Hid (OwnT (w1.alloc (.cells #[.int .i64 901, .int .i64 902, .string ⟨#[98, 101, 104, 105, 110, 100]⟩] 56)) w.heap.size v1 l) := HO.out.later (below1 _ _)
 have HW3 : Hid (Below w.heap.size w (w1.alloc (.cells #[.int .i64 901, .int .i64 902, .string ⟨#[98, 101, 104, 105, 110, 100]⟩] 56))) := below_step HW.out (below1 _ _)
 go_wp2_with (at_builtin; refine app_terms rfl _ _ rfl w.heap.size v1 l (by rfl) HL3.out (.slice (some ⟨w1.heap.size, 0, none⟩) 1 1) [bT] (by rfl) (TsP.one (t := bT) HG3.out) (by simp only [List.length_cons, List.length_nil]; omega) HW3.out.size ?_; intro v2 w2 hown hb hg; obtain ⟨g, cap2, rfl, hcap⟩ := ownT_some hown; have hcap' : (l.length : Int) <= (cap2 : Int) := (by omega); have HO2 : Hid (OwnT w2 w.heap.size (.slice (some ⟨g, 0, none⟩) (l.length + 1) cap2) (l ++ [bT])) := hown; have HW2 : Hid (Below w.heap.size w w2) := HW3.out.trans hb; clear hown hb hg t0 t1 t2)
 go_ret
 exact ⟨g, cap2, rfl, HO2.out, HW2.out⟩
set_option maxRecDepth 20000 in
set_option maxHeartbeats 1000000 in
theorem keptT_any (l : List Tm) (v y : Value) (base : Nat) (w : World) (h : Ts w y l) (ho : LentT w base v l) (hB : BehOk w) :
  Calls Tryz.prog 38 #[v, y] w fun e w' => e = .returned (.bool true) /\ Below w.heap.size w w' := by
 obtain ⟨g, cap, rfl, ho⟩ := ho
 have hs : l.length < 1000000000000000000 := by obtain ⟨_, _, _, h, _⟩ := h; exact h
 have hcap := ownT_cap ho
 have HS0 := sameTerms_any l l _ y w (ownT_pre ho hs) h
 rw [decide_eq_true rfl] at HS0
 have HS : Hid (Calls Tryz.prog 76 #[.slice (some ⟨g, 0, none⟩) l.length cap, y] w fun e w' => e = .returned (.bool true) /\ Below w.heap.size w w') := HS0
 have HO : Hid (OwnT w base (.slice (some ⟨g, 0, none⟩) (l.length + 1) cap) (l ++ [bT])) := ho
 have HB : Hid (BehOk w) := hB
 obtain ⟨ad, cap', rfl, -, -⟩ := h
 have he := run_eql_tm ⟨901, 902, ⟨#[98, 101, 104, 105, 110, 100]⟩⟩ ⟨901, 902, ⟨#[98, 101, 104, 105, 110, 100]⟩⟩
 rw [decide_eq_true rfl] at he
 have i0 : (0 : Int) <= (l.length : Int) := by omega
 have i1 : (l.length : Int) < (l.length : Int) + 1 := by omega
 have hcap' : (l.length : Int) + 1 <= (cap : Int) := by omega
 clear ho hB HS0
 go_enter Tryz.func38, Tryz.ntmps38
 go_wp2_with (go_at_call 76; refine HS.out.mono ?_; rintro e w1 ⟨rfl, hb1⟩; obtain ⟨-, -, t0, t1, t2, -⟩ := HB.out.later hb1; obtain ⟨c0, c1, c2⟩ := ownT_cells (HO.out.later hb1) l.length bT (by simp); simp only [bT, bN] at c0 c1 c2; have HW1 : Hid (Below w.heap.size w w1) := hb1; clear hb1)
 go_quiet (fail)
 go_wp2
 go_ret
 exact ⟨ret_b rfl, below_drewN HW1.out _⟩
set_option maxRecDepth 20000 in
set_option maxHeartbeats 2000000 in
theorem lendA_any (a : At) (v : Value) (w : World) (h : TsP w v a.args) (hl : a.args.length <= 3900000000000) (hB : BehOk w) :
  Calls Tryz.prog 91 #[a.v v] w fun e w' => ∃ u, e = .returned (a.v u) /\ LentT w' w.heap.size u a.args /\ Below w.heap.size w w' := by
 obtain ⟨⟨k, n, ss⟩, nm, l⟩ := a
 simp only at h hl ⊢
 have HLT0 : ∀ X : World, Below w.heap.size w X -> Calls Tryz.prog 25 #[v] X fun e w' => ∃ g cap, e = .returned (.slice (some ⟨g, 0, none⟩) l.length cap) /\ OwnT w' X.heap.size (.slice (some ⟨g, 0, none⟩) (l.length + 1) cap) (l ++ [bT]) /\ Below X.heap.size X w' := fun X hX => lendT_any l v X (h.later hX) hl (hB.later hX)
 obtain ⟨ad, cap, rfl⟩ := h.form
 have z1 : (w.alloc (.cells #[.int .i64 k, .int .i64 n, .string ss, .string nm, .slice ad l.length cap] 58)).heap.size = w.heap.size + 1 := by simp
 have hb1 : CBlk ((w.alloc (.cells #[.int .i64 k, .int .i64 n, .string ss, .string nm, .slice ad l.length cap] 58)).alloc (.cells #[.int .i64 0, .int .i64 0, .string ⟨#[]⟩, .string ⟨#[]⟩, .slice none 0 0] 58)) w.heap.size #[.int .i64 k, .int .i64 n, .string ss, .string nm, .slice ad l.length cap] 58 := (CBlk.new w #[.int .i64 k, .int .i64 n, .string ss, .string nm, .slice ad l.length cap] 58).later (below1 _ _)
 have hb2 : CBlk ((w.alloc (.cells #[.int .i64 k, .int .i64 n, .string ss, .string nm, .slice ad l.length cap] 58)).alloc (.cells #[.int .i64 0, .int .i64 0, .string ⟨#[]⟩, .string ⟨#[]⟩, .slice none 0 0] 58)) (w.heap.size + 1) #[.int .i64 0, .int .i64 0, .string ⟨#[]⟩, .string ⟨#[]⟩, .slice none 0 0] 58 := by
  have := CBlk.new (w.alloc (.cells #[.int .i64 k, .int .i64 n, .string ss, .string nm, .slice ad l.length cap] 58)) #[.int .i64 0, .int .i64 0, .string ⟨#[]⟩, .string ⟨#[]⟩, .slice none 0 0] 58
  rwa [z1] at this
 have HB1 : Hid (CBlk ((w.alloc (.cells #[.int .i64 k, .int .i64 n, .string ss, .string nm, .slice ad l.length cap] 58)).alloc (.cells #[.int .i64 0, .int .i64 0, .string ⟨#[]⟩, .string ⟨#[]⟩, .slice none 0 0] 58)) w.heap.size #[.int .i64 k, .int .i64 n, .string ss, .string nm, .slice ad l.length cap] 58) := hb1
 have HB2 : Hid (CBlk ((w.alloc (.cells #[.int .i64 k, .int .i64 n, .string ss, .string nm, .slice ad l.length cap] 58)).alloc (.cells #[.int .i64 0, .int .i64 0, .string ⟨#[]⟩, .string ⟨#[]⟩, .slice none 0 0] 58)) (w.heap.size + 1) #[.int .i64 0, .int .i64 0, .string ⟨#[]⟩, .string ⟨#[]⟩, .slice none 0 0] 58) := hb2
 have HW0 : Hid (Below w.heap.size w ((w.alloc (.cells #[.int .i64 k, .int .i64 n, .string ss, .string nm, .slice ad l.length cap] 58)).alloc (.cells #[.int .i64 0, .int .i64 0, .string ⟨#[]⟩, .string ⟨#[]⟩, .slice none 0 0] 58))) := below2 _ _ _
 clear h hB hb1 hb2 z1
 go_enter Tryz.func91, Tryz.ntmps91
 go_upto_region 1 with fail
 revert HB1 HB2 HW0
 generalize (w.alloc (.cells #[.int .i64 k, .int .i64 n, .string ss, .string nm, .slice ad l.length cap] 58)).alloc (.cells #[.int .i64 0, .int .i64 0, .string ⟨#[]⟩, .string ⟨#[]⟩, .slice none 0 0] 58) = W0
 intro HB1 HB2 HW0
 have HLT : Hid (∀ X : World, Below w.heap.size w X -> Calls Tryz.prog 25 #[.slice ad l.length cap] X fun e w' => ∃ g cap, e = .returned (.slice (some ⟨g, 0, none⟩) l.length cap) /\ OwnT w' X.heap.size (.slice (some ⟨g, 0, none⟩) (l.length + 1) cap) (l ++ [bT]) /\ Below X.heap.size X w') := HLT0
 clear HLT0
 have HB2d : Hid (CBlk W0.drew (w.heap.size + 1) #[.int .i64 0, .int .i64 0, .string ⟨#[]⟩, .string ⟨#[]⟩, .slice none 0 0] 58) := HB2.out.later (Below.refl _ _).drew
 refine wp_region_held_drew (S := fun w' => Below w.heap.size w w' /\ CBlk w' w.heap.size #[.int .i64 k, .int .i64 n, .string ss, .string nm, .slice ad l.length cap] 58) (by kernel_rfl) ⟨below_step HW0.out (Below.refl _ _).drew, HB1.out.later (Below.refl _ _).drew⟩ (fun hH => ?_)
 revert hH HB2d
 generalize W0.drew = V0
 intro HB2d hH
 clear HB1 HB2 HW0
 refine wTk 0 (.pointer (some ⟨w.heap.size, 0, none⟩)) rfl (by kernel_rfl) (fun _ _ _ h => h) (Or.inl ⟨by rfl, fun w' h => by clear h; go_simp⟩) hH ?_
 simp only [wA8, wB8, wC8, wD8]
 refine wTk 1 (.agg #[.int .i64 k, .int .i64 n, .string ss]) rfl (by kernel_rfl) (fun _ _ _ h => h) (Or.inl ⟨by rfl, fun w' h => by obtain ⟨c0, c1, c2, c3, c4⟩ := cfive h.2; clear h; go_simp⟩) hH ?_
 simp only [wA8, wB8, wC8, wD8]
 refine wTk 2 (.pointer (some ⟨w.heap.size, 3, none⟩)) rfl (by kernel_rfl) (fun _ _ _ h => h) (Or.inl ⟨by rfl, fun w' h => by clear h; go_simp⟩) hH ?_
 simp only [wA8, wB8, wC8, wD8]
 refine wTk 3 (.string nm) rfl (by kernel_rfl) (fun _ _ _ h => h) (Or.inl ⟨by rfl, fun w' h => by obtain ⟨c0, c1, c2, c3, c4⟩ := cfive h.2; clear h; go_simp⟩) hH ?_
 simp only [wA8, wB8, wC8, wD8]
 refine wTk 4 (.pointer (some ⟨w.heap.size, 4, none⟩)) rfl (by kernel_rfl) (fun _ _ _ h => h) (Or.inl ⟨by rfl, fun w' h => by clear h; go_simp⟩) hH ?_
 simp only [wA8, wB8, wC8, wD8]
 refine wTk 5 (.slice ad l.length cap) rfl (by kernel_rfl) (fun _ _ _ h => h) (Or.inl ⟨by rfl, fun w' h => by obtain ⟨c0, c1, c2, c3, c4⟩ := cfive h.2; clear h; go_simp⟩) hH ?_
 simp only [wA8, wB8, wC8, wD8]
 refine wRd 6 (by kernel_rfl) rfl (fun K hK => ?_)
 go_simp
 refine (HLT.out _ hH.1).mono ?_
 rintro x V1 ⟨g, cap1, rfl, ho, hb⟩
 have HO : Hid (OwnT V1 V0.heap.size (.slice (some ⟨g, 0, none⟩) (l.length + 1) cap1) (l ++ [bT])) := ho
 have HLV : Hid (w.heap.size + 1 < V0.heap.size) := HB2d.out.lt
 have HB2v : Hid (CBlk V1 (w.heap.size + 1) #[.int .i64 0, .int .i64 0, .string ⟨#[]⟩, .string ⟨#[]⟩, .slice none 0 0] 58) := HB2d.out.later hb
 refine hK.out _ _ ⟨below_step hH.1 hb, hH.2.later hb⟩ (fun hH => ?_)
 clear hK K hb ho
 try simp only [wA8, wB8, wC8, wD8]
 refine wTk 7 (.agg #[.int .i64 k, .int .i64 n, .string ss, .string nm, .slice (some ⟨g, 0, none⟩) l.length cap1]) rfl (by kernel_rfl) (fun _ _ _ h => h) (Or.inl ⟨by rfl, fun w' h => by clear h; go_simp⟩) hH ?_
 simp only [wA8, wB8, wC8, wD8]
 refine wRd 8 (by kernel_rfl) rfl (fun K hK => ?_)
 obtain ⟨c0, c1, c2, c3, c4⟩ := cfive HB2v.out
 have f0 : V1.frozen? ⟨w.heap.size + 1, 0, none⟩ = false := HB2v.out.froz
 have f1 : V1.frozen? ⟨w.heap.size + 1, 1, none⟩ = false := HB2v.out.froz
 have f2 : V1.frozen? ⟨w.heap.size + 1, 2, none⟩ = false := HB2v.out.froz
 have f3 : V1.frozen? ⟨w.heap.size + 1, 3, none⟩ = false := HB2v.out.froz
 have f4 : V1.frozen? ⟨w.heap.size + 1, 4, none⟩ = false := HB2v.out.froz
 go_simp
 have nw : w.heap.size <= w.heap.size + 1 := by omega
 have ng : w.heap.size ≠ w.heap.size + 1 := by omega
 refine hK.out _ _ ⟨((((hH.1.setCell nw _).setCell nw _).setCell nw _).setCell nw _).setCell nw _, ((((hH.2.off ng).off ng).off ng).off ng).off ng⟩ (fun hH2 => ?_)
 clear hK K
 refine wpAnyH_done (by kernel_rfl) ?_ _
 have HV : Hid _ := hH2.1
 clear hH hH2
 go_wp2
 refine bodyPost_ret (v := At.v ⟨⟨k, n, ss⟩, nm, l⟩ (.slice (some ⟨g, 0, none⟩) l.length cap1)) (by simp [results, Tryz.results91, go_sem, c0, c1, c2, c3, c4]) rfl ⟨_, rfl, ⟨g, cap1, rfl, ?_⟩, ?_⟩
 ·have hlv := HLV.out
  exact (((((HO.out.set hlv).set hlv).set hlv).set hlv).set hlv).mono (by omega)
 ·exact HV.out
set_option maxRecDepth 20000 in
set_option maxHeartbeats 1000000 in
theorem keptA_any (a : At) (v y : Value) (base : Nat) (w : World) (h : Ts w y a.args) (ho : LentT w base v a.args) (hB : BehOk w) :
  Calls Tryz.prog 98 #[a.v v, a.v y] w fun e w' => e = .returned (.bool true) /\ Below w.heap.size w w' := by
 obtain ⟨⟨k, n, ss⟩, nm, l⟩ := a
 simp only at h ho ⊢
 have HK : Hid (∀ X : World, Below w.heap.size w X -> Calls Tryz.prog 38 #[v, y] X fun e w' => e = .returned (.bool true) /\ Below X.heap.size X w') := fun X hX => keptT_any l v y base X (h.later hX) (ho.later hX) (hB.later hX)
 obtain ⟨g, cap, rfl, ho⟩ := ho
 obtain ⟨ad, cap', rfl, -, -⟩ := h
 have he := run_eql_tm ⟨k, n, ss⟩ ⟨k, n, ss⟩
 rw [decide_eq_true rfl] at he
 clear ho hB
 go_enter Tryz.func98, Tryz.ntmps98
 go_wp2_with (go_at_call 38; refine (HK.out _ (below2 _ _ _)).mono ?_; rintro e w1 ⟨rfl, hb1⟩)
 go_ret
 exact ⟨rfl, below_step (below2 _ _ _) hb1⟩
end Go.Proofs.YtmbmchbninlhpaaGreatDoor
namespace Go.Proofs.YtmbmchbninlhpaaGreatDoor
open Go.RowKit
attribute [local go_sem ↓] Go.wp_at_zero Go.wp_at_succ

def bA : At := ⟨zt, bN, []⟩
structure LA (W X : World) (u : Value) (LB : List (At × Value)) : Prop where
 ow : OwnA X W.heap.size u LB
 ts : ∀ x ∈ LB, LentT X W.heap.size x.2 x.1.args
 ap : ∀ x ∈ LB, ∀ k, u.ownBlock = some k -> x.2.ownBlock ≠ some k
 bw : Below W.heap.size W X
theorem LA.later {W X X' : World} {u : Value} {LB : List (At × Value)} (h : LA W X u LB) (hb : Below X.heap.size X X') : LA W X' u LB := ⟨h.ow.later hb, fun x hx => (h.ts x hx).later hb, h.ap, below_step h.bw hb⟩
theorem LA.grow {W X X1 X2 X3 : World} {u v' u' : Value} {LB : List (At × Value)} {x : At} (h : LA W X u LB) (hb1 : Below X.heap.size X X1) (hl : LentT X1 X.heap.size u' x.args) (hb2 : Below X1.heap.size X1 X2) (ho : OwnA X3 W.heap.size v' (LB ++ [(x, u')]))
  (hb : Below W.heap.size X2 X3) (hg : X2.grownBy X3 u.ownBlock) (ha : ∀ k, v'.ownBlock = some k -> u.ownBlock = some k ∨ X2.heap.size <= k) : LA W X3 v' (LB ++ [(x, u')]) := by
 have hsz := h.bw.size
 have h12 : Below X.heap.size X X2 := below_step hb1 hb2
 have hul : ∀ k, u.ownBlock = some k -> k < X.heap.size := fun k hk => (h.ow.lt k hk).2
 have h2 := hl.later hb2
 have hs1 := hb1.size
 have hs2 := hb2.size
 refine ⟨ho, fun y hy => ?_, fun y hy k hk => ?_, (h.bw.trans (h12.mono hsz)).trans hb⟩
 ·rcases List.mem_append.1 hy with hy | hy
  ·exact ((h.ts y hy).later h12).grown hg fun k hk e => h.ap y hy k e hk
  ·rw [List.mem_singleton] at hy
   subst hy
   exact (h2.grown hg fun k hk e => by have := (h2.lt k hk).1; have := hul k e; omega).mono hsz
 ·rcases List.mem_append.1 hy with hy | hy
  ·intro e
   have hlt := ((h.ts y hy).lt k e).2
   rcases ha k hk with hk | hk
   ·exact h.ap y hy k hk e
   ·omega
  ·rw [List.mem_singleton] at hy
   subst hy
   intro e
   have hlt := hl.lt k e
   rcases ha k hk with hk | hk
   ·have := hul k hk; omega
   ·omega
structure LentA (X : World) (B : Nat) (v : Value) (LB : List (At × Value)) : Prop where
 o : ∃ g cap, v = .slice (some ⟨g, 0, none⟩) LB.length cap /\ OwnA X B (.slice (some ⟨g, 0, none⟩) (LB.length + 1) cap) (LB ++ [(bA, .slice none 0 0)])
 ts : ∀ x ∈ LB, LentT X B x.2 x.1.args
theorem LentA.later {X X' : World} {B : Nat} {v : Value} {LB : List (At × Value)} (h : LentA X B v LB) (hb : Below X.heap.size X X') : LentA X' B v LB := by
 obtain ⟨⟨g, cap, e, ho⟩, ht⟩ := h
 exact ⟨⟨g, cap, e, ho.later hb⟩, fun x hx => (ht x hx).later hb⟩
theorem LentA.mono {X : World} {B B' : Nat} {v : Value} {LB : List (At × Value)} (h : LentA X B v LB) (hb : B' <= B) : LentA X B' v LB := by
 obtain ⟨⟨g, cap, e, ho⟩, ht⟩ := h
 exact ⟨⟨g, cap, e, ho.mono hb⟩, fun x hx => (ht x hx).mono hb⟩
theorem LentA.lt {X : World} {B : Nat} {v : Value} {LB : List (At × Value)} (h : LentA X B v LB) : ∀ k, v.ownBlock = some k -> B <= k /\ k < X.heap.size := by
 obtain ⟨⟨g, cap, rfl, ho⟩, ht⟩ := h
 exact fun k hk => ho.lt k hk
theorem ownA_some {w : World} {base : Nat} {v : Value} {l : List (At × Value)} {d : At × Value} (h : OwnA w base v (l ++ [d])) : ∃ g cap, v = .slice (some ⟨g, 0, none⟩) (l.length + 1) cap /\ l.length + 1 <= cap := by
 rcases h.2 with ⟨_, hn⟩ | ⟨g, cap, cur, hv, _, _, hn, _⟩
 ·simp at hn
 ·rw [List.length_append, List.length_singleton] at hv hn; exact ⟨g, cap, hv, hn⟩
theorem ownA_cap {w : World} {base g cap n : Nat} {l : List (At × Value)} (h : OwnA w base (.slice (some ⟨g, 0, none⟩) n cap) l) : l.length <= cap := by
 rcases h.2 with ⟨h, _⟩ | ⟨g', c, cur, hv, _, _, hn, _⟩
 ·cases h
 ·simp only [Value.slice.injEq] at hv; omega
theorem LentA.row {X : World} {B g cap n : Nat} {LB : List (At × Value)} (ho : OwnA X B (.slice (some ⟨g, 0, none⟩) n cap) (LB ++ [(bA, .slice none 0 0)])) : ARow X g 0 LB := by
 refine ⟨(ho.lt g rfl).2, fun i x hx => ?_⟩
 have hi := (List.getElem?_eq_some_iff.1 hx).1
 have hx' : (LB ++ [(bA, .slice none 0 0)])[i]? = some x := by rw [List.getElem?_append_left hi]; exact hx
 rw [Nat.zero_add]
 exact ⟨ho.cells i x hx' 0 (by omega), ho.cells i x hx' 1 (by omega), ho.cells i x hx' 2 (by omega), ho.cells i x hx' 3 (by omega), ho.cells i x hx' 4 (by omega)⟩
theorem LentA.as {X : World} {B : Nat} {v : Value} {LB : List (At × Value)} (h : LentA X B v LB) (hl : LB.length < 1000000000000000000) (hx : ∀ x ∈ LB, x.1.args.length < 1000000000000000000) : As X v LB := by
 obtain ⟨⟨g, cap, rfl, ho⟩, ht⟩ := h
 exact ⟨_, cap, rfl, hl, Or.inr ⟨g, 0, rfl, LentA.row ho⟩, fun x hm => (ht x hm).ts (hx x hm)⟩
theorem fsts_take {l : List (At × Value)} {j : Nat} {x : At × Value} (h : l[j]? = some x) {LB : List (At × Value)} {u : Value} (hf : fsts LB = fsts (l.take j)) : fsts (LB ++ [(x.1, u)]) = fsts (l.take (j + 1)) := by
 rw [List.take_add_one, h]
 unfold fsts at hf ⊢
 rw [List.map_append, hf]; simp
set_option maxRecDepth 20000 in
set_option maxHeartbeats 4000000 in
theorem lendAs_any (l : List (At × Value)) (v : Value) (w : World) (h : As w v l) (hp : ∀ x ∈ l, TsP w x.2 x.1.args) (hl : l.length <= 1700000000000) (hx : ∀ x ∈ l, x.1.args.length <= 3900000000000) (hB : BehOk w) :
  Calls Tryz.prog 92 #[v] w fun e w' => ∃ u LB, e = .returned u /\ fsts LB = fsts l /\ LentA w' w.heap.size u LB /\ Below w.heap.size w w' := by
 have HP : Hid (∀ x ∈ l, TsP w x.2 x.1.args) := hp
 have HX : Hid (∀ x ∈ l, x.1.args.length <= 3900000000000) := hx
 have HB : Hid (BehOk w) := hB
 obtain ⟨ad, cap, rfl, -, h, -⟩ := h
 clear hp hx hB
 go_enter Tryz.func92, Tryz.ntmps92
 go_wp2
 go_loopg [3, 4] l.length (fun g u i wr => ∃ j : Nat, j + g = l.length /\ i = .int .i64 j /\ ∃ LB, fsts LB = fsts (l.take j) /\ LA w wr u LB)
 case atStart => exact ⟨0, by omega, rfl, [], rfl, OwnA.nil _ _, fun x hx => (by cases hx), fun x hx => (by cases hx), Below.refl _ _⟩
 case round =>
  obtain ⟨j, hj, rfl, LB, hf, hla⟩ := hrel
  have HLA : Hid (LA w wr u3 LB) := hla
  have HF : Hid (fsts LB = fsts (l.take j)) := hf
  have hlb : LB.length = j := by have := congrArg List.length hf; simp [fsts] at this; omega
  have HLB : Hid (LB.length = j) := hlb
  clear hf hla
  cases gk with
  | succ g =>
   have hlt : (j : Int) < (l.length : Int) := by omega
   have j0 : (0 : Int) <= (j : Int) := by omega
   obtain ⟨t, ht⟩ : ∃ t, l[j]? = some t := ⟨_, List.getElem?_eq_getElem (by omega)⟩
   have hm := List.mem_of_getElem? ht
   rcases h with h | ⟨b1, o1, rfl, h⟩
   ·subst h; simp at ht
   obtain ⟨p0, p1, p2, p3, p4⟩ := (h.later HLA.out.bw).2 j t ht
   have HT : Hid (l[j]? = some t) := ht
   have htp := (HP.out t hm).later HLA.out.bw
   have HLN : Hid (∀ u, fsts (LB ++ [(t.1, u)]) = fsts (l.take (j + 1))) := fun u => fsts_take ht HF.out
   have HC : Hid (Calls Tryz.prog 91 #[t.1.v t.2] wr fun e w' => ∃ u, e = .returned (t.1.v u) /\ LentT w' wr.heap.size u t.1.args /\ Below wr.heap.size wr w') := lendA_any t.1 t.2 wr htp (HX.out t hm) (HB.out.later HLA.out.bw)
   obtain ⟨ax, cx, hax⟩ := htp.form
   clear ht hm htp h HF HT
   obtain ⟨⟨⟨kx, mx, sx⟩, nx, lx⟩, vx⟩ := t
   simp only at hax p0 p1 p2 p3 p4
   subst hax
   go_wp2_with (first
    | (go_at_call 91; refine HC.out.mono ?_; rintro e w1 ⟨u', rfl, hlt', hb1⟩; have HL1 : Hid (LentT w1 wr.heap.size u' lx) := hlt'; have HB1 : Hid (Below wr.heap.size wr w1) := hb1; obtain ⟨gu, cu, hgu, -⟩ := hlt'; subst hgu; have HG : Hid (CBlk (w1.alloc (.cells #[.int .i64 kx, .int .i64 mx, .string sx, .string nx, .slice (some ⟨gu, 0, none⟩) lx.length cu] 58)) w1.heap.size #[.int .i64 kx, .int .i64 mx, .string sx, .string nx, .slice (some ⟨gu, 0, none⟩) lx.length cu] 58) := CBlk.new _ _ _; have HO1 : Hid (OwnA (w1.alloc (.cells #[.int .i64 kx, .int .i64 mx, .string sx, .string nx, .slice (some ⟨gu, 0, none⟩) lx.length cu] 58)) w.heap.size u3 LB) := HLA.out.ow.later (below_step hb1 (below1 _ _)); have HS1 : Hid (w.heap.size <= (w1.alloc (.cells #[.int .i64 kx, .int .i64 mx, .string sx, .string nx, .slice (some ⟨gu, 0, none⟩) lx.length cu] 58)).heap.size) := Nat.le_trans HLA.out.bw.size (below_step hb1 (below1 _ _)).size; clear hb1 p0 p1 p2 p3 p4)
    | (at_builtin; refine aapp_one rfl _ _ rfl w.heap.size u3 LB (by rfl) HO1.out w1.heap.size (⟨⟨kx, mx, sx⟩, nx, lx⟩, .slice (some ⟨gu, 0, none⟩) lx.length cu) (by rfl) HG.out (acell_one _ _ _ _) (by have := HLB.out; omega) HS1.out ?_; intro v' w4 hown hb3 hg3 ha3; have HL4 : Hid (LA w w4 v' (LB ++ [(⟨⟨kx, mx, sx⟩, nx, lx⟩, .slice (some ⟨gu, 0, none⟩) lx.length cu)])) := LA.grow HLA.out HB1.out HL1.out (below1 _ _) hown hb3 hg3 ha3; clear hown hb3 hg3 ha3 HO1 HG HS1 HL1 HB1))
   go_roundg g
   case measure => omega
   case rel => exact ⟨j + 1, by omega, by go_num, _, HLN.out _, HL4.out⟩
  | zero =>
   have hjl : j = l.length := by omega
   have hz : ¬ ((j : Int) < (l.length : Int)) := by omega
   have HFF : Hid (fsts LB = fsts l) := by have := HF.out; rw [hjl, List.take_length] at this; exact this
   have HG : Hid (CBlk (wr.alloc (.cells #[.int .i64 0, .int .i64 0, .string ⟨#[]⟩, .string ⟨#[98, 101, 104, 105, 110, 100]⟩, .slice none 0 0] 58)) wr.heap.size #[.int .i64 0, .int .i64 0, .string ⟨#[]⟩, .string ⟨#[98, 101, 104, 105, 110, 100]⟩, .slice none 0 0] 58) := CBlk.new _ _ _
   have HL1 : Hid (LA w (wr.alloc (.cells #[.int .i64 0, .int .i64 0, .string ⟨#[]⟩, .string ⟨#[98, 101, 104, 105, 110, 100]⟩, .slice none 0 0] 58)) u3 LB) := HLA.out.later (below1 _ _)
   clear h HF
   go_wp2_with (at_builtin; refine aapp_one rfl _ _ rfl w.heap.size u3 LB (by rfl) HL1.out.ow wr.heap.size (bA, .slice none 0 0) (by rfl) HG.out (acell_one _ _ _ _) (by have := HLB.out; omega) HL1.out.bw.size ?_; intro v' w4 hown hb3 hg3 ha3; obtain ⟨g, cap2, rfl, hcap⟩ := ownA_some hown; have hcap' : (l.length : Int) <= (cap2 : Int) := (by have := HLB.out; omega); have hll : (l.length : Int) = (LB.length : Int) := (by have := HLB.out; omega); have HO4 : Hid (OwnA w4 w.heap.size (.slice (some ⟨g, 0, none⟩) (LB.length + 1) cap2) (LB ++ [(bA, .slice none 0 0)])) := hown; have HT4 : Hid (∀ x ∈ LB, LentT w4 w.heap.size x.2 x.1.args) := (fun x hx => (HL1.out.ts x hx).grown hg3 fun k hk e => HL1.out.ap x hx k e hk); have HW4 : Hid (Below w.heap.size w w4) := HL1.out.bw.trans hb3; clear hown hb3 hg3 ha3 HL1 HG)
   go_ret
   have hlb2 : LB.length = l.length := by have := HLB.out; omega
   exact ⟨_, rfl, LB, HFF.out, ⟨⟨g, cap2, by rw [hlb2]; rfl, HO4.out⟩, HT4.out⟩, HW4.out⟩
set_option maxRecDepth 20000 in
set_option maxHeartbeats 4000000 in
theorem keptAs_any (p LB : List (At × Value)) (v y : Value) (base : Nat) (w : World) (h : As w y p) (ho : LentA w base v LB) (hf : fsts LB = fsts p) (hB : BehOk w) :
  Calls Tryz.prog 99 #[v, y] w fun e w' => e = .returned (.bool true) /\ Below w.heap.size w w' := by
 have hlen : LB.length = p.length := by have := congrArg List.length hf; simpa [fsts] using this
 have HF : Hid (fsts LB = fsts p) := hf
 obtain ⟨⟨g0, cap, rfl, ho⟩, hts⟩ := ho
 obtain ⟨ad', cap', rfl, hl', h', hts'⟩ := h
 have hrow := LentA.row ho
 have HROW : Hid (ARow w g0 0 LB) := hrow
 have HTS : Hid (∀ x ∈ LB, LentT w base x.2 x.1.args) := hts
 have HTS' : Hid (∀ x ∈ p, Ts w x.2 x.1.args) := hts'
 have HB : Hid (BehOk w) := hB
 have HO : Hid (OwnA w base (.slice (some ⟨g0, 0, none⟩) (LB.length + 1) cap) (LB ++ [(bA, .slice none 0 0)])) := ho
 have hcap := ownA_cap ho
 rw [List.length_append, List.length_singleton] at hcap
 have hcap' : (p.length : Int) + 1 <= (cap : Int) := by omega
 have HLL : Hid (LB.length = p.length) := hlen
 have hq3 : ((p.length : Int) != (p.length : Int)) = false := by simp
 rw [hlen]
 clear ho hts hts' hB hrow hcap hf hlen
 go_enter Tryz.func99, Tryz.ntmps99
 go_wp2
 go_loopg [5] p.length (fun g i wr => ∃ j : Nat, j + g = p.length /\ i = .int .i64 j /\ Below w.heap.size w wr)
 case atStart => exact ⟨0, by omega, rfl, Below.refl _ _⟩
 case round =>
  obtain ⟨j, hj, rfl, hb⟩ := hrel
  have HBr : Hid (Below w.heap.size w wr) := hb
  cases gk with
  | succ g =>
   have hlt : (j : Int) < (p.length : Int) := by omega
   have j0 : (0 : Int) <= (j : Int) := by omega
   obtain ⟨t, ht⟩ : ∃ t, LB[j]? = some t := ⟨_, List.getElem?_eq_getElem (by have := HLL.out; omega)⟩
   obtain ⟨u, hu⟩ : ∃ u, p[j]? = some u := ⟨_, List.getElem?_eq_getElem (by omega)⟩
   have htu : t.1 = u.1 := by
    have e := congrArg (fun l => l[j]?) HF.out
    simp only [fsts, List.getElem?_map, ht, hu, Option.map_some] at e
    exact Option.some.inj e
   rcases h' with h' | ⟨b2, o2, rfl, h'⟩
   ·subst h'; simp at hu
   have k1 := (HROW.out.later hb).2 j t ht
   have k2 := (h'.later hb).2 j u hu
   have HZ1 : Hid (g0 < wr.heap.size) := (HROW.out.later hb).1
   have HZ2 : Hid (b2 < wr.heap.size) := (h'.later hb).1
   have t1 := (HTS.out t (List.mem_of_getElem? ht)).later hb
   have t2 := (HTS'.out u (List.mem_of_getElem? hu)).later hb
   rw [<- htu] at t2 k2
   have HC0 := fun (X : World) (hX : Below wr.heap.size wr X) => keptA_any t.1 t.2 u.2 base X (t2.later hX) (t1.later hX) ((HB.out.later hb).later hX)
   obtain ⟨gx, cx, hax, -⟩ := t1
   obtain ⟨ay, cy, hay, -⟩ := t2
   clear ht hu htu h' hb
   obtain ⟨⟨⟨kx, mx, sx⟩, nx, lx⟩, vx⟩ := t
   obtain ⟨uu, vy⟩ := u
   simp only [Nat.zero_add] at hax hay k1 k2 HC0
   subst hax hay
   have HE : Hid _ := k1
   have HD : Hid _ := k2
   have HC : Hid (∀ (X : World), Below wr.heap.size wr X -> Calls Tryz.prog 98 #[.agg #[.int .i64 kx, .int .i64 mx, .string sx, .string nx, .slice (some ⟨gx, 0, none⟩) lx.length cx], .agg #[.int .i64 kx, .int .i64 mx, .string sx, .string nx, .slice ay lx.length cy]] X fun e w' => e = .returned (.bool true) /\ Below X.heap.size X w') := HC0
   clear k1 k2 HC0
   go_upto_region 6 with fail
   refine wp_region_held_drew (S := fun w' => Below wr.heap.size wr w') (by kernel_rfl) (Below.refl _ _).drew (fun hH => ?_)
   revert hH
   generalize wr.drew = V0
   intro hH
   refine wTk 0 (.slice (some ⟨g0, 0, none⟩) p.length cap) rfl (by kernel_rfl) (fun _ _ _ h => h) (Or.inl ⟨by rfl, fun w' h => by clear h; go_simp⟩) hH ?_
   simp only [wA8, wB8, wC8, wD8]
   refine wTk 1 (.int .i64 (j : Int)) rfl (by kernel_rfl) (fun _ _ _ h => h) (Or.inl ⟨by rfl, fun w' h => by clear h; go_simp⟩) hH ?_
   simp only [wA8, wB8, wC8, wD8]
   refine wTk 2 (.pointer (some ⟨g0, j * 5, none⟩)) rfl (by kernel_rfl) (fun _ _ _ h => h) (Or.inl ⟨by rfl, fun w' h => by clear h; go_simp⟩) hH ?_
   simp only [wA8, wB8, wC8, wD8]
   refine wTk 3 (.agg #[.int .i64 kx, .int .i64 mx, .string sx, .string nx, .slice (some ⟨gx, 0, none⟩) lx.length cx]) rfl (by kernel_rfl) (fun _ _ _ h => h) (Or.inl ⟨by rfl, fun w' h => by obtain ⟨p0, p1, p2, p3, p4⟩ := HE.out; have z := HZ1.out; have a0 := cell_step h z p0; have a1 := cell_step h z p1; have a2 := cell_step h z p2; have a3 := cell_step h z p3; have a4 := cell_step h z p4; clear h p0 p1 p2 p3 p4; go_simp⟩) hH ?_
   simp only [wA8, wB8, wC8, wD8]
   refine wTk 4 ((.slice (some ⟨b2, o2, none⟩) p.length cap')) rfl (by kernel_rfl) (fun _ _ _ h => h) (Or.inl ⟨by rfl, fun w' h => by clear h; go_simp⟩) hH ?_
   simp only [wA8, wB8, wC8, wD8]
   refine wTk 5 (.int .i64 (j : Int)) rfl (by kernel_rfl) (fun _ _ _ h => h) (Or.inl ⟨by rfl, fun w' h => by clear h; go_simp⟩) hH ?_
   simp only [wA8, wB8, wC8, wD8]
   refine wTk 6 (.pointer (some ⟨b2, o2 + j * 5, none⟩)) rfl (by kernel_rfl) (fun _ _ _ h => h) (Or.inl ⟨by rfl, fun w' h => by clear h; go_simp⟩) hH ?_
   simp only [wA8, wB8, wC8, wD8]
   refine wTk 7 (.agg #[.int .i64 kx, .int .i64 mx, .string sx, .string nx, .slice ay lx.length cy]) rfl (by kernel_rfl) (fun _ _ _ h => h) (Or.inl ⟨by rfl, fun w' h => by obtain ⟨p0, p1, p2, p3, p4⟩ := HD.out; have z := HZ2.out; have a0 := cell_step h z p0; have a1 := cell_step h z p1; have a2 := cell_step h z p2; have a3 := cell_step h z p3; have a4 := cell_step h z p4; clear h p0 p1 p2 p3 p4; go_simp⟩) hH ?_
   simp only [wA8, wB8, wC8, wD8]
   refine wRd 8 (by kernel_rfl) rfl (fun K hK => ?_)
   go_simp
   refine (HC.out _ hH).mono ?_
   rintro x1 V1 ⟨rfl, hb⟩
   refine hK.out _ _ (below_step hH hb) (fun hH => ?_)
   clear hK K hb
   try simp only [wA8, wB8, wC8, wD8]
   refine wTk 9 (.bool false) rfl (by kernel_rfl) (fun _ _ _ h => h) (Or.inl ⟨by rfl, fun w' h => by clear h; go_simp⟩) hH ?_
   simp only [wA8, wB8, wC8, wD8]
   refine wpAnyH_done (by kernel_rfl) ?_ _
   have HV : Hid (Below wr.heap.size wr V1) := hH
   clear hH
   go_wp2
   go_roundg g
   case measure => omega
   case rel => exact ⟨j + 1, by omega, by go_num, below_step HBr.out HV.out⟩
  | zero =>
   have hz : ¬ ((j : Int) < (p.length : Int)) := by omega
   have i1 : (p.length : Int) < (p.length : Int) + 1 := by omega
   have i0 : (0 : Int) <= (p.length : Int) := by omega
   have hoL := HO.out.later hb
   have hgl : (LB ++ [(bA, Value.slice none 0 0)])[p.length]? = some (bA, .slice none 0 0) := by rw [<- HLL.out]; simp
   have q3 := hoL.cells p.length _ hgl 3 (by omega)
   have q4 := hoL.cells p.length _ hgl 4 (by omega)
   simp only [acell, bA, bN, List.getElem?_cons_succ, List.getElem?_cons_zero] at q3 q4
   clear h' hb hoL hgl
   go_wp2
   go_ret
   exact ⟨rfl, HBr.out⟩
end Go.Proofs.YtmbmchbninlhpaaGreatDoor
