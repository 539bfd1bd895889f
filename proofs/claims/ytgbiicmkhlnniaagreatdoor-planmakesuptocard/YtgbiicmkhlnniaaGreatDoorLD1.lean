/-
  Lists lent, with a term behind them, and looked at: terms, atoms. (Written by LD1.py.)
-/
import Derived.Test.YtgbiicmkhlnniaaGreatDoorMD8
import Derived.Test.YtgbiicmkhlnniaaGreatDoorFA1
import Derived.Deep.RegionHeld3
import Derived.BigQuiet
namespace Go.Proofs.YtgbiicmkhlnniaaGreatDoor
open Go.RowKit
attribute [local go_sem ↓] Go.wp_at_zero Go.wp_at_succ

def bN : ByteArray := ⟨#[98, 101, 104, 105, 110, 100]⟩
def bT : Tm := ⟨901, 902, bN⟩
def bE : Te := ⟨903, zt, zt⟩
/-- What the two variables hold. -/
structure BehOk (w : World) : Prop where
  lt : 1 < w.heap.size
  le : 0 < w.heap.size
  t0 : w.cell? ⟨1, 0, none⟩ = some (.int .i64 901)
  t1 : w.cell? ⟨1, 1, none⟩ = some (.int .i64 902)
  t2 : w.cell? ⟨1, 2, none⟩ = some (.string ⟨#[98, 101, 104, 105, 110, 100]⟩)
  e0 : w.cell? ⟨0, 0, none⟩ = some (.int .i64 903)
  e1 : w.cell? ⟨0, 1, none⟩ = some (.int .i64 0)
  e2 : w.cell? ⟨0, 2, none⟩ = some (.int .i64 0)
  e3 : w.cell? ⟨0, 3, none⟩ = some (.string ⟨#[]⟩)
  e4 : w.cell? ⟨0, 4, none⟩ = some (.int .i64 0)
  e5 : w.cell? ⟨0, 5, none⟩ = some (.int .i64 0)
  e6 : w.cell? ⟨0, 6, none⟩ = some (.string ⟨#[]⟩)
theorem BehOk.later {w w' : World} (h : BehOk w) (hb : Below w.heap.size w w') : BehOk w' :=
  ⟨Nat.lt_of_lt_of_le h.lt hb.size, Nat.lt_of_lt_of_le h.le hb.size, cell_step hb h.lt h.t0, cell_step hb h.lt h.t1, cell_step hb h.lt h.t2, cell_step hb h.le h.e0, cell_step hb h.le h.e1, cell_step hb h.le h.e2, cell_step hb h.le h.e3, cell_step hb h.le h.e4, cell_step hb h.le h.e5, cell_step hb h.le h.e6⟩
theorem TsP.form {w : World} {v : Value} {l : List Tm} (h : TsP w v l) : ∃ a cap, v = .slice a l.length cap := by
  rcases h with ⟨rfl, rfl⟩ | ⟨ad, cap, rfl, _⟩
  · exact ⟨none, 0, rfl⟩
  · exact ⟨some ad, cap, rfl⟩
theorem ownT_some {w : World} {base : Nat} {v : Value} {l : List Tm} {d : Tm} (h : OwnT w base v (l ++ [d])) : ∃ g cap, v = .slice (some ⟨g, 0, none⟩) (l.length + 1) cap ∧ l.length + 1 ≤ cap := by
  rcases h.2 with ⟨_, hn⟩ | ⟨g, cap, cur, hv, _, _, hn, _⟩
  · simp at hn
  · rw [List.length_append, List.length_singleton] at hv hn; exact ⟨g, cap, hv, hn⟩
/-- A list of terms lent. -/
def LentT (X : World) (B : Nat) (v : Value) (l : List Tm) : Prop := ∃ g cap, v = .slice (some ⟨g, 0, none⟩) l.length cap ∧ OwnT X B (.slice (some ⟨g, 0, none⟩) (l.length + 1) cap) (l ++ [bT])
theorem LentT.later {X X' : World} {B : Nat} {v : Value} {l : List Tm} (h : LentT X B v l) (hb : Below X.heap.size X X') : LentT X' B v l := by
  obtain ⟨g, cap, e, ho⟩ := h
  exact ⟨g, cap, e, ho.later hb⟩
theorem LentT.mono {X : World} {B B' : Nat} {v : Value} {l : List Tm} (h : LentT X B v l) (hb : B' ≤ B) : LentT X B' v l := by
  obtain ⟨g, cap, e, ho⟩ := h
  exact ⟨g, cap, e, ho.mono hb⟩
theorem LentT.lt {X : World} {B : Nat} {v : Value} {l : List Tm} (h : LentT X B v l) : ∀ k, v.ownBlock = some k → B ≤ k ∧ k < X.heap.size := by
  obtain ⟨g, cap, rfl, ho⟩ := h
  exact fun k hk => ho.lt k hk
theorem LentT.grown {X X' : World} {B : Nat} {v : Value} {l : List Tm} {row : Option Nat} (h : LentT X B v l) (hg : X.grownBy X' row) (hne : ∀ k, v.ownBlock = some k → row ≠ some k) : LentT X' B v l := by
  obtain ⟨g, cap, rfl, ho⟩ := h
  exact ⟨g, cap, rfl, OwnT.grown ho hg fun k hk => hne k hk⟩
theorem LentT.ts {X : World} {B : Nat} {v : Value} {l : List Tm} (h : LentT X B v l) (hl : l.length < 1000000000000000000) : Ts X v l := by
  obtain ⟨g, cap, rfl, ho⟩ := h
  exact ownT_pre ho hl
set_option maxRecDepth 20000 in
set_option maxHeartbeats 2000000 in
theorem lendT_any (l : List Tm) (v : Value) (w : World) (h : TsP w v l) (hl : l.length ≤ 3900000000000) (hB : BehOk w) :
    Calls Tryz.prog 29 #[v] w fun e w' => ∃ g cap, e = .returned (.slice (some ⟨g, 0, none⟩) l.length cap) ∧ OwnT w' w.heap.size (.slice (some ⟨g, 0, none⟩) (l.length + 1) cap) (l ++ [bT]) ∧ Below w.heap.size w w' := by
  have HP : Hid (TsP w v l) := h
  have HB : Hid (BehOk w) := hB
  obtain ⟨ad, cap, rfl⟩ := h.form
  have z0 : (0 : Int) ≤ (l.length : Int) := by omega
  clear h hB
  go_enter Tryz.func29, Tryz.ntmps29
  go_upto_region 3 with (at_builtin; refine app_terms rfl _ _ rfl w.heap.size (.slice none 0 0) [] (by rfl) (ownT_nil _ _) _ l (by rfl) HP.out (by simp only [List.length_nil]; omega) (Nat.le_refl _) ?_; intro v1 w1 hown hb hg; rw [List.nil_append] at hown; have HO : Hid (OwnT w1 w.heap.size v1 l) := hown; have HW : Hid (Below w.heap.size w w1) := hb; clear hown hb hg)
  obtain ⟨-, -, t0, t1, t2, -⟩ := HB.out.later HW.out
  have HG3 : Hid (CBlk (w1.alloc (.cells #[.int .i64 901, .int .i64 902, .string ⟨#[98, 101, 104, 105, 110, 100]⟩] 23)) w1.heap.size #[.int .i64 901, .int .i64 902, .string ⟨#[98, 101, 104, 105, 110, 100]⟩] 23) := CBlk.new _ _ _
  have HL3 : Hid (OwnT (w1.alloc (.cells #[.int .i64 901, .int .i64 902, .string ⟨#[98, 101, 104, 105, 110, 100]⟩] 23)) w.heap.size v1 l) := HO.out.later (below1 _ _)
  have HW3 : Hid (Below w.heap.size w (w1.alloc (.cells #[.int .i64 901, .int .i64 902, .string ⟨#[98, 101, 104, 105, 110, 100]⟩] 23))) := below_step HW.out (below1 _ _)
  go_wp2_with (at_builtin; refine app_terms rfl _ _ rfl w.heap.size v1 l (by rfl) HL3.out (.slice (some ⟨w1.heap.size, 0, none⟩) 1 1) [bT] (by rfl) (TsP.one (t := bT) HG3.out) (by simp only [List.length_cons, List.length_nil]; omega) HW3.out.size ?_; intro v2 w2 hown hb hg; obtain ⟨g, cap2, rfl, hcap⟩ := ownT_some hown; have hcap' : (l.length : Int) ≤ (cap2 : Int) := (by omega); have HO2 : Hid (OwnT w2 w.heap.size (.slice (some ⟨g, 0, none⟩) (l.length + 1) cap2) (l ++ [bT])) := hown; have HW2 : Hid (Below w.heap.size w w2) := HW3.out.trans hb; clear hown hb hg t0 t1 t2)
  go_ret
  exact ⟨g, cap2, rfl, HO2.out, HW2.out⟩
set_option maxRecDepth 20000 in
set_option maxHeartbeats 1000000 in
theorem keptT_any (l : List Tm) (v y : Value) (base : Nat) (w : World) (h : Ts w y l) (ho : LentT w base v l) (hB : BehOk w) :
    Calls Tryz.prog 41 #[v, y] w fun e w' => e = .returned (.bool true) ∧ Below w.heap.size w w' := by
  obtain ⟨g, cap, rfl, ho⟩ := ho
  have hs : l.length < 1000000000000000000 := by obtain ⟨_, _, _, h, _⟩ := h; exact h
  have hcap := ownT_cap ho
  have HS0 := sameTerms_any l l _ y w (ownT_pre ho hs) h
  rw [decide_eq_true rfl] at HS0
  have HS : Hid (Calls Tryz.prog 73 #[.slice (some ⟨g, 0, none⟩) l.length cap, y] w fun e w' => e = .returned (.bool true) ∧ Below w.heap.size w w') := HS0
  have HO : Hid (OwnT w base (.slice (some ⟨g, 0, none⟩) (l.length + 1) cap) (l ++ [bT])) := ho
  have HB : Hid (BehOk w) := hB
  obtain ⟨ad, cap', rfl, -, -⟩ := h
  have he := run_eql_tm ⟨901, 902, ⟨#[98, 101, 104, 105, 110, 100]⟩⟩ ⟨901, 902, ⟨#[98, 101, 104, 105, 110, 100]⟩⟩
  rw [decide_eq_true rfl] at he
  have i0 : (0 : Int) ≤ (l.length : Int) := by omega
  have i1 : (l.length : Int) < (l.length : Int) + 1 := by omega
  have hcap' : (l.length : Int) + 1 ≤ (cap : Int) := by omega
  clear ho hB HS0
  go_enter Tryz.func41, Tryz.ntmps41
  go_wp2_with (go_at_call 73; refine HS.out.mono ?_; rintro e w1 ⟨rfl, hb1⟩; obtain ⟨-, -, t0, t1, t2, -⟩ := HB.out.later hb1; obtain ⟨c0, c1, c2⟩ := ownT_cells (HO.out.later hb1) l.length bT (by simp); simp only [bT, bN] at c0 c1 c2; have HW1 : Hid (Below w.heap.size w w1) := hb1; clear hb1)
  go_quiet (fail)
  go_wp2
  go_ret
  exact ⟨ret_b rfl, below_drewN HW1.out _⟩
set_option maxRecDepth 20000 in
set_option maxHeartbeats 2000000 in
theorem lendA_any (a : At) (v : Value) (w : World) (h : TsP w v a.args) (hl : a.args.length ≤ 3900000000000) (hB : BehOk w) :
    Calls Tryz.prog 10 #[a.v v] w fun e w' => ∃ u, e = .returned (a.v u) ∧ LentT w' w.heap.size u a.args ∧ Below w.heap.size w w' := by
  obtain ⟨⟨k, n, ss⟩, nm, l⟩ := a
  simp only at h hl ⊢
  have HLT0 : ∀ X : World, Below w.heap.size w X → Calls Tryz.prog 29 #[v] X fun e w' => ∃ g cap, e = .returned (.slice (some ⟨g, 0, none⟩) l.length cap) ∧ OwnT w' X.heap.size (.slice (some ⟨g, 0, none⟩) (l.length + 1) cap) (l ++ [bT]) ∧ Below X.heap.size X w' := fun X hX => lendT_any l v X (h.later hX) hl (hB.later hX)
  obtain ⟨ad, cap, rfl⟩ := h.form
  have z1 : (w.alloc (.cells #[.int .i64 k, .int .i64 n, .string ss, .string nm, .slice ad l.length cap] 26)).heap.size = w.heap.size + 1 := by simp
  have hb1 : CBlk ((w.alloc (.cells #[.int .i64 k, .int .i64 n, .string ss, .string nm, .slice ad l.length cap] 26)).alloc (.cells #[.int .i64 0, .int .i64 0, .string ⟨#[]⟩, .string ⟨#[]⟩, .slice none 0 0] 26)) w.heap.size #[.int .i64 k, .int .i64 n, .string ss, .string nm, .slice ad l.length cap] 26 := (CBlk.new w #[.int .i64 k, .int .i64 n, .string ss, .string nm, .slice ad l.length cap] 26).later (below1 _ _)
  have hb2 : CBlk ((w.alloc (.cells #[.int .i64 k, .int .i64 n, .string ss, .string nm, .slice ad l.length cap] 26)).alloc (.cells #[.int .i64 0, .int .i64 0, .string ⟨#[]⟩, .string ⟨#[]⟩, .slice none 0 0] 26)) (w.heap.size + 1) #[.int .i64 0, .int .i64 0, .string ⟨#[]⟩, .string ⟨#[]⟩, .slice none 0 0] 26 := by
    have := CBlk.new (w.alloc (.cells #[.int .i64 k, .int .i64 n, .string ss, .string nm, .slice ad l.length cap] 26)) #[.int .i64 0, .int .i64 0, .string ⟨#[]⟩, .string ⟨#[]⟩, .slice none 0 0] 26
    rwa [z1] at this
  have HB1 : Hid (CBlk ((w.alloc (.cells #[.int .i64 k, .int .i64 n, .string ss, .string nm, .slice ad l.length cap] 26)).alloc (.cells #[.int .i64 0, .int .i64 0, .string ⟨#[]⟩, .string ⟨#[]⟩, .slice none 0 0] 26)) w.heap.size #[.int .i64 k, .int .i64 n, .string ss, .string nm, .slice ad l.length cap] 26) := hb1
  have HB2 : Hid (CBlk ((w.alloc (.cells #[.int .i64 k, .int .i64 n, .string ss, .string nm, .slice ad l.length cap] 26)).alloc (.cells #[.int .i64 0, .int .i64 0, .string ⟨#[]⟩, .string ⟨#[]⟩, .slice none 0 0] 26)) (w.heap.size + 1) #[.int .i64 0, .int .i64 0, .string ⟨#[]⟩, .string ⟨#[]⟩, .slice none 0 0] 26) := hb2
  have HW0 : Hid (Below w.heap.size w ((w.alloc (.cells #[.int .i64 k, .int .i64 n, .string ss, .string nm, .slice ad l.length cap] 26)).alloc (.cells #[.int .i64 0, .int .i64 0, .string ⟨#[]⟩, .string ⟨#[]⟩, .slice none 0 0] 26))) := below2 _ _ _
  clear h hB hb1 hb2 z1
  go_enter Tryz.func10, Tryz.ntmps10
  go_upto_region 1 with fail
  revert HB1 HB2 HW0
  generalize (w.alloc (.cells #[.int .i64 k, .int .i64 n, .string ss, .string nm, .slice ad l.length cap] 26)).alloc (.cells #[.int .i64 0, .int .i64 0, .string ⟨#[]⟩, .string ⟨#[]⟩, .slice none 0 0] 26) = W0
  intro HB1 HB2 HW0
  have HLT : Hid (∀ X : World, Below w.heap.size w X → Calls Tryz.prog 29 #[.slice ad l.length cap] X fun e w' => ∃ g cap, e = .returned (.slice (some ⟨g, 0, none⟩) l.length cap) ∧ OwnT w' X.heap.size (.slice (some ⟨g, 0, none⟩) (l.length + 1) cap) (l ++ [bT]) ∧ Below X.heap.size X w') := HLT0
  clear HLT0
  have HB2d : Hid (CBlk W0.drew (w.heap.size + 1) #[.int .i64 0, .int .i64 0, .string ⟨#[]⟩, .string ⟨#[]⟩, .slice none 0 0] 26) := HB2.out.later (Below.refl _ _).drew
  refine wp_region_held_drew (S := fun w' => Below w.heap.size w w' ∧ CBlk w' w.heap.size #[.int .i64 k, .int .i64 n, .string ss, .string nm, .slice ad l.length cap] 26) (by kernel_rfl) ⟨below_step HW0.out (Below.refl _ _).drew, HB1.out.later (Below.refl _ _).drew⟩ (fun hH => ?_)
  revert hH HB2d
  generalize W0.drew = V0
  intro HB2d hH
  clear HB1 HB2 HW0
  refine wpAnyH_take (i := 0) (oi := ⟨_, _, _, _, _, _⟩) (v := .pointer (some ⟨w.heap.size, 0, none⟩)) rfl (by kernel_rfl) (by kernel_rfl) (by kernel_rfl) (fun _ _ _ h => h) (Or.inl ⟨by rfl, fun w' h => by clear h; go_simp⟩) hH ?_
  simp only [Act.put, List.setIfInBounds_toArray, List.set_cons_zero, List.set_cons_succ]
  refine wpAnyH_take (i := 1) (oi := ⟨_, _, _, _, _, _⟩) (v := .agg #[.int .i64 k, .int .i64 n, .string ss]) rfl (by kernel_rfl) (by kernel_rfl) (by kernel_rfl) (fun _ _ _ h => h) (Or.inl ⟨by rfl, fun w' h => by obtain ⟨c0, c1, c2, c3, c4⟩ := cfive h.2; clear h; go_simp⟩) hH ?_
  simp only [Act.put, List.setIfInBounds_toArray, List.set_cons_zero, List.set_cons_succ]
  refine wpAnyH_take (i := 2) (oi := ⟨_, _, _, _, _, _⟩) (v := .pointer (some ⟨w.heap.size, 3, none⟩)) rfl (by kernel_rfl) (by kernel_rfl) (by kernel_rfl) (fun _ _ _ h => h) (Or.inl ⟨by rfl, fun w' h => by clear h; go_simp⟩) hH ?_
  simp only [Act.put, List.setIfInBounds_toArray, List.set_cons_zero, List.set_cons_succ]
  refine wpAnyH_take (i := 3) (oi := ⟨_, _, _, _, _, _⟩) (v := .string nm) rfl (by kernel_rfl) (by kernel_rfl) (by kernel_rfl) (fun _ _ _ h => h) (Or.inl ⟨by rfl, fun w' h => by obtain ⟨c0, c1, c2, c3, c4⟩ := cfive h.2; clear h; go_simp⟩) hH ?_
  simp only [Act.put, List.setIfInBounds_toArray, List.set_cons_zero, List.set_cons_succ]
  refine wpAnyH_take (i := 4) (oi := ⟨_, _, _, _, _, _⟩) (v := .pointer (some ⟨w.heap.size, 4, none⟩)) rfl (by kernel_rfl) (by kernel_rfl) (by kernel_rfl) (fun _ _ _ h => h) (Or.inl ⟨by rfl, fun w' h => by clear h; go_simp⟩) hH ?_
  simp only [Act.put, List.setIfInBounds_toArray, List.set_cons_zero, List.set_cons_succ]
  refine wpAnyH_take (i := 5) (oi := ⟨_, _, _, _, _, _⟩) (v := .slice ad l.length cap) rfl (by kernel_rfl) (by kernel_rfl) (by kernel_rfl) (fun _ _ _ h => h) (Or.inl ⟨by rfl, fun w' h => by obtain ⟨c0, c1, c2, c3, c4⟩ := cfive h.2; clear h; go_simp⟩) hH ?_
  simp only [Act.put, List.setIfInBounds_toArray, List.set_cons_zero, List.set_cons_succ]
  refine wpAnyH_ready (rs := [6]) (by kernel_rfl) (by simp) ?_
  refine (AllReadyH.cons (o := ⟨_, _, _, _, _, _⟩) rfl (fun K hK => ?_) AllReadyH.nil)
  go_simp
  refine (HLT.out _ hH.1).mono ?_
  rintro x V1 ⟨g, cap1, rfl, ho, hb⟩
  have HO : Hid (OwnT V1 V0.heap.size (.slice (some ⟨g, 0, none⟩) (l.length + 1) cap1) (l ++ [bT])) := ho
  have HLV : Hid (w.heap.size + 1 < V0.heap.size) := HB2d.out.lt
  have HB2v : Hid (CBlk V1 (w.heap.size + 1) #[.int .i64 0, .int .i64 0, .string ⟨#[]⟩, .string ⟨#[]⟩, .slice none 0 0] 26) := HB2d.out.later hb
  refine hK.out _ _ ⟨below_step hH.1 hb, hH.2.later hb⟩ (fun hH => ?_)
  clear hK K hb ho
  try simp only [Act.put, List.setIfInBounds_toArray, List.set_cons_zero, List.set_cons_succ]
  refine wpAnyH_take (i := 7) (oi := ⟨_, _, _, _, _, _⟩) (v := .agg #[.int .i64 k, .int .i64 n, .string ss, .string nm, .slice (some ⟨g, 0, none⟩) l.length cap1]) rfl (by kernel_rfl) (by kernel_rfl) (by kernel_rfl) (fun _ _ _ h => h) (Or.inl ⟨by rfl, fun w' h => by clear h; go_simp⟩) hH ?_
  simp only [Act.put, List.setIfInBounds_toArray, List.set_cons_zero, List.set_cons_succ]
  refine wpAnyH_ready (rs := [8]) (by kernel_rfl) (by simp) ?_
  refine (AllReadyH.cons (o := ⟨_, _, _, _, _, _⟩) rfl (fun K hK => ?_) AllReadyH.nil)
  obtain ⟨c0, c1, c2, c3, c4⟩ := cfive HB2v.out
  have f0 : V1.frozen? ⟨w.heap.size + 1, 0, none⟩ = false := HB2v.out.froz
  have f1 : V1.frozen? ⟨w.heap.size + 1, 1, none⟩ = false := HB2v.out.froz
  have f2 : V1.frozen? ⟨w.heap.size + 1, 2, none⟩ = false := HB2v.out.froz
  have f3 : V1.frozen? ⟨w.heap.size + 1, 3, none⟩ = false := HB2v.out.froz
  have f4 : V1.frozen? ⟨w.heap.size + 1, 4, none⟩ = false := HB2v.out.froz
  go_simp
  have nw : w.heap.size ≤ w.heap.size + 1 := by omega
  have ng : w.heap.size ≠ w.heap.size + 1 := by omega
  refine hK.out _ _ ⟨((((hH.1.setCell nw _).setCell nw _).setCell nw _).setCell nw _).setCell nw _, ((((hH.2.off ng).off ng).off ng).off ng).off ng⟩ (fun hH2 => ?_)
  clear hK K
  refine wpAnyH_done (by kernel_rfl) ?_ _
  have HV : Hid _ := hH2.1
  clear hH hH2
  go_wp2
  refine bodyPost_ret (v := At.v ⟨⟨k, n, ss⟩, nm, l⟩ (.slice (some ⟨g, 0, none⟩) l.length cap1)) (by simp [results, Tryz.results10, go_sem, c0, c1, c2, c3, c4]) rfl ⟨_, rfl, ⟨g, cap1, rfl, ?_⟩, ?_⟩
  · have hlv := HLV.out
    exact (((((HO.out.set hlv).set hlv).set hlv).set hlv).set hlv).mono (by omega)
  · exact HV.out
set_option maxRecDepth 20000 in
set_option maxHeartbeats 1000000 in
theorem keptA_any (a : At) (v y : Value) (base : Nat) (w : World) (h : Ts w y a.args) (ho : LentT w base v a.args) (hB : BehOk w) :
    Calls Tryz.prog 23 #[a.v v, a.v y] w fun e w' => e = .returned (.bool true) ∧ Below w.heap.size w w' := by
  obtain ⟨⟨k, n, ss⟩, nm, l⟩ := a
  simp only at h ho ⊢
  have HK : Hid (∀ X : World, Below w.heap.size w X → Calls Tryz.prog 41 #[v, y] X fun e w' => e = .returned (.bool true) ∧ Below X.heap.size X w') := fun X hX => keptT_any l v y base X (h.later hX) (ho.later hX) (hB.later hX)
  obtain ⟨g, cap, rfl, ho⟩ := ho
  obtain ⟨ad, cap', rfl, -, -⟩ := h
  have he := run_eql_tm ⟨k, n, ss⟩ ⟨k, n, ss⟩
  rw [decide_eq_true rfl] at he
  clear ho hB
  go_enter Tryz.func23, Tryz.ntmps23
  go_wp2_with (go_at_call 41; refine (HK.out _ (below2 _ _ _)).mono ?_; rintro e w1 ⟨rfl, hb1⟩)
  go_ret
  exact ⟨rfl, below_step (below2 _ _ _) hb1⟩
end Go.Proofs.YtgbiicmkhlnniaaGreatDoor
