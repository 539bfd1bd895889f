/-
  hearsaylaw12: text, variable, four. (Written by HC9.py.)
-/
import Derived.Test.YtbhdalchnbfohaaHC8
namespace Go.Proofs.Ytbhdalchnbfohaa
open Go.RowKit
attribute [local go_sem ↓] Go.wp_at_zero Go.wp_at_succ

theorem text12_any (s : ByteArray) (w : World) : Calls Try.prog 8 #[.string s] w fun e w' => e = .returned (.agg #[.int .i64 2, .int .i64 0, .string s]) ∧ Below w.heap.size w w' := by
  go_enter Try.func8, Try.ntmps8
  go_wp2
  exact bodyPost_ret (v := .agg #[.int .i64 2, .int .i64 0, .string s]) (by simp [results, Try.results8, go_sem]) rfl ⟨rfl, below1 _ _⟩
theorem var12_any (n : Int) (w : World) : Calls Try.prog 12 #[.int .i64 n] w fun e w' => e = .returned (.agg #[.int .i64 3, .int .i64 n, .string ⟨#[]⟩]) ∧ Below w.heap.size w w' := by
  go_enter Try.func12, Try.ntmps12
  go_wp2
  exact bodyPost_ret (v := .agg #[.int .i64 3, .int .i64 n, .string ⟨#[]⟩]) (by simp [results, Try.results12, go_sem]) rfl ⟨rfl, below1 _ _⟩
theorem own_tms {w : World} {g : Nat} {l : List Tm} {c : Array Value} (h : CBlk w g c 27) (hc : c.toList = tcs l) (hl : l.length ≤ 1000) : OwnT w 0 (.slice (some ⟨g, 0, none⟩) l.length l.length) l := by
  have hz : (tcs l).length = l.length * 3 := tcs_len l
  refine ⟨hz, Or.inr ⟨g, l.length, c, rfl, Nat.zero_le _, h, Nat.le_refl _, by unfold maxLen; omega, ?_, ?_⟩⟩
  · rw [← hz, ← hc]; simp
  · rw [← hz, hc, List.take_length]
theorem ts_tms {w : World} {g n : Nat} {l : List Tm} {c : Array Value} (h : CBlk w g c 27) (hc : c.toList = tcs l) (hn : l.length = n) (hl : n ≤ 1000) : Ts w (.slice (some ⟨g, 0, none⟩) n n) l := by
  subst hn
  exact (own_tms h hc hl).tsP.ts (by omega)
theorem kp_tms {B : Nat} {w : World} {g n : Nat} {l : List Tm} {c : Array Value} (hB : B ≤ g) (h : CBlk w g c 27) (hc : c.toList = tcs l) (hn : l.length = n) (hl : n ≤ 1000) : KpT B w (.slice (some ⟨g, 0, none⟩) n n) l :=
  fun Y _ ha => ts_tms (w := Y) ((ha g hB h.lt).trans h) hc hn hl
def fa1 : At := ⟨⟨0, 0, ⟨#[]⟩⟩, ⟨#[102, 114, 105, 101, 110, 100]⟩, [⟨2, 0, ⟨#[97, 110, 110]⟩⟩, ⟨2, 0, ⟨#[98, 111, 98]⟩⟩]⟩
def fa2 : At := ⟨⟨0, 0, ⟨#[]⟩⟩, ⟨#[102, 114, 105, 101, 110, 100]⟩, [⟨2, 0, ⟨#[97, 110, 110]⟩⟩, ⟨3, 0, ⟨#[]⟩⟩]⟩
def fa3 : At := ⟨⟨0, 0, ⟨#[]⟩⟩, ⟨#[103, 111, 111, 100]⟩, [⟨3, 0, ⟨#[]⟩⟩]⟩
def fa4 : At := ⟨⟨0, 0, ⟨#[]⟩⟩, ⟨#[109, 97, 121]⟩, [⟨3, 0, ⟨#[]⟩⟩]⟩
def fa5 : At := ⟨⟨3, 1, ⟨#[]⟩⟩, ⟨#[111, 107]⟩, [⟨3, 0, ⟨#[]⟩⟩]⟩
def fa6 : At := ⟨⟨2, 0, ⟨#[99, 97, 114, 108]⟩⟩, ⟨#[111, 107]⟩, [⟨2, 0, ⟨#[98, 111, 98]⟩⟩]⟩
/-- The rules of the chapter's examples. -/
def K4 : List Ck := [(fa1, [], []), (fa3, [fa2], [⟨2, ⟨3, 0, ⟨#[]⟩⟩, ⟨2, 0, ⟨#[97, 110, 110]⟩⟩⟩]), (fa4, [fa3, fa5], []), (fa6, [], [])]
/-- What four leaves: it stays wherever the blocks from the call on stay. -/
def P4 (w : World) (e : Ending) (w' : World) : Prop := ∃ (g : Nat) (l : List Cm), e = .returned (.slice (some ⟨g, 0, none⟩) 4 4) ∧ (∀ Y : World, w'.heap.size ≤ Y.heap.size → (∀ b, w.heap.size ≤ b → b < w'.heap.size → Y.heap[b]? = w'.heap[b]?) → CsP Y (.slice (some ⟨g, 0, none⟩) 4 4) l) ∧ (∀ c ∈ l, c.wf) ∧ l.map Cm.key = K4 ∧ Below w.heap.size w w'
theorem blk_cell {w : World} {g i : Nat} {c : Array Value} {v : Value} {t : TypeId} (h : CBlk w g c t) (hi : c[i]? = some v) : w.cell? ⟨g, i, none⟩ = some v := by rw [cell_of_row _ _ _ _ _ _ h]; exact hi
theorem four_fin {w V : World} {L1 L2 L3 L4 L5 L6 ga gb gc gd : Nat} (k1 : KpT w.heap.size V (.slice (some ⟨L1, 0, none⟩) 2 2) fa1.args) (k2 : KpT w.heap.size V (.slice (some ⟨L2, 0, none⟩) 2 2) fa2.args) (k3 : KpT w.heap.size V (.slice (some ⟨L3, 0, none⟩) 1 1) fa3.args) (k4 : KpT w.heap.size V (.slice (some ⟨L4, 0, none⟩) 1 1) fa4.args) (k5 : KpT w.heap.size V (.slice (some ⟨L5, 0, none⟩) 1 1) fa5.args) (k6 : KpT w.heap.size V (.slice (some ⟨L6, 0, none⟩) 1 1) fa6.args)
    (hA : CBlk V ga #[.int .i64 0, .int .i64 0, .string ⟨#[]⟩, .string ⟨#[102, 114, 105, 101, 110, 100]⟩, .slice (some ⟨L2, 0, none⟩) 2 2] 30) (hB : CBlk V gb #[.int .i64 2, .int .i64 3, .int .i64 0, .string ⟨#[]⟩, .int .i64 2, .int .i64 0, .string ⟨#[97, 110, 110]⟩] 52) (hC : CBlk V gc #[.int .i64 0, .int .i64 0, .string ⟨#[]⟩, .string ⟨#[103, 111, 111, 100]⟩, .slice (some ⟨L3, 0, none⟩) 1 1, .int .i64 3, .int .i64 1, .string ⟨#[]⟩, .string ⟨#[111, 107]⟩, .slice (some ⟨L5, 0, none⟩) 1 1] 30) (hD : CBlk V gd #[.int .i64 0, .int .i64 0, .string ⟨#[]⟩, .string ⟨#[102, 114, 105, 101, 110, 100]⟩, .slice (some ⟨L1, 0, none⟩) 2 2, .slice none 0 0, .slice none 0 0, .int .i64 0, .int .i64 0, .string ⟨#[]⟩, .string ⟨#[103, 111, 111, 100]⟩, .slice (some ⟨L3, 0, none⟩) 1 1, .slice (some ⟨ga, 0, none⟩) 1 1, .slice (some ⟨gb, 0, none⟩) 1 1, .int .i64 0, .int .i64 0, .string ⟨#[]⟩, .string ⟨#[109, 97, 121]⟩, .slice (some ⟨L4, 0, none⟩) 1 1, .slice (some ⟨gc, 0, none⟩) 2 2, .slice none 0 0, .int .i64 2, .int .i64 0, .string ⟨#[99, 97, 114, 108]⟩, .string ⟨#[111, 107]⟩, .slice (some ⟨L6, 0, none⟩) 1 1, .slice none 0 0, .slice none 0 0] 50) (hw : Below w.heap.size w V) (ba : w.heap.size ≤ ga) (bb : w.heap.size ≤ gb) (bc : w.heap.size ≤ gc) (bd : w.heap.size ≤ gd) : P4 w (.returned (.slice (some ⟨gd, 0, none⟩) 4 4)) V := by
  refine ⟨gd, [(⟨(fa1, .slice (some ⟨L1, 0, none⟩) 2 2), [], .slice none 0 0, [], .slice none 0 0⟩ : Cm), (⟨(fa3, .slice (some ⟨L3, 0, none⟩) 1 1), [(fa2, .slice (some ⟨L2, 0, none⟩) 2 2)], .slice (some ⟨ga, 0, none⟩) 1 1, [⟨2, ⟨3, 0, ⟨#[]⟩⟩, ⟨2, 0, ⟨#[97, 110, 110]⟩⟩⟩], .slice (some ⟨gb, 0, none⟩) 1 1⟩ : Cm), (⟨(fa4, .slice (some ⟨L4, 0, none⟩) 1 1), [(fa3, .slice (some ⟨L3, 0, none⟩) 1 1), (fa5, .slice (some ⟨L5, 0, none⟩) 1 1)], .slice (some ⟨gc, 0, none⟩) 2 2, [], .slice none 0 0⟩ : Cm), (⟨(fa6, .slice (some ⟨L6, 0, none⟩) 1 1), [], .slice none 0 0, [], .slice none 0 0⟩ : Cm)], rfl, fun Y hs ha => ?_, fun c hc => ?_, rfl, hw⟩
  rotate_left
  · refine ⟨fun t ht _ => ?_, ?_⟩
    · simp only [List.mem_cons, List.not_mem_nil, or_false] at hc
      rcases hc with rfl | rfl | rfl | rfl <;> simp [Cm.terms, Cm.atoms, At.pl, fa1, fa2, fa3, fa4, fa5, fa6] at ht <;> rcases ht with rfl | rfl | rfl | rfl | rfl | rfl | rfl <;> rfl
    · simp only [List.mem_cons, List.not_mem_nil, or_false] at hc
      rcases hc with rfl | rfl | rfl | rfl <;> simp [Cm.terms, Cm.atoms, At.pl, fa1, fa2, fa3, fa4, fa5, fa6]
  have t1 := k1 Y hs ha
  have t2 := k2 Y hs ha
  have t3 := k3 Y hs ha
  have t4 := k4 Y hs ha
  have t5 := k5 Y hs ha
  have t6 := k6 Y hs ha
  replace hA : CBlk Y ga _ _ := (ha ga ba hA.lt).trans hA
  replace hB : CBlk Y gb _ _ := (ha gb bb hB.lt).trans hB
  replace hC : CBlk Y gc _ _ := (ha gc bc hC.lt).trans hC
  replace hD : CBlk Y gd _ _ := (ha gd bd hD.lt).trans hD
  refine ⟨Or.inr ⟨⟨gd, 0, none⟩, 4, rfl, Or.inr ⟨gd, 0, rfl, hD.lt, fun i c hc k u hu => ?_⟩⟩, fun c hc => ?_⟩
  · have hk : k < 7 := (List.getElem?_eq_some_iff.1 hu).1
    rw [cell_of_row _ _ _ _ _ _ hD, Nat.zero_add, ← hu, ← ccs_get _ i c hc k hk, ← Array.getElem?_toList]
    congr 1
  have n0 : As Y (.slice none 0 0) [] := ⟨none, 0, rfl, by simp, Or.inl rfl, fun x hx => by cases hx⟩
  have m0 : Es Y (.slice none 0 0) [] := ⟨none, 0, rfl, by simp, Or.inl rfl⟩
  simp only [List.mem_cons, List.not_mem_nil, or_false] at hc
  rcases hc with rfl | rfl | rfl | rfl
  · exact ⟨t1, n0, m0⟩
  · refine ⟨t3, ⟨some ⟨ga, 0, none⟩, 1, rfl, by simp, Or.inr ⟨ga, 0, rfl, hA.lt, fun i x hx => ?_⟩, fun x hx => ?_⟩, ⟨some ⟨gb, 0, none⟩, 1, rfl, by simp, Or.inr ⟨gb, 0, rfl, hB.lt, fun i x hx => ?_⟩⟩⟩
    · match i, hx with
      | 0, hx => cases hx; exact cfive hA
    · rw [List.mem_singleton] at hx; subst hx; exact t2
    · match i, hx with
      | 0, hx => cases hx; exact cseven hB
  · refine ⟨t4, ⟨some ⟨gc, 0, none⟩, 2, rfl, by simp, Or.inr ⟨gc, 0, rfl, hC.lt, fun i x hx => ?_⟩, fun x hx => ?_⟩, m0⟩
    · match i, hx with
      | 0, hx => cases hx; exact ⟨blk_cell hC rfl, blk_cell hC rfl, blk_cell hC rfl, blk_cell hC rfl, blk_cell hC rfl⟩
      | 1, hx => cases hx; exact ⟨blk_cell hC rfl, blk_cell hC rfl, blk_cell hC rfl, blk_cell hC rfl, blk_cell hC rfl⟩
    · simp only [List.mem_cons, List.not_mem_nil, or_false] at hx
      rcases hx with rfl | rfl
      · exact t3
      · exact t5
  · exact ⟨t6, n0, m0⟩
set_option maxRecDepth 20000 in
set_option maxHeartbeats 4000000 in
theorem four_any (w : World) : Calls Try.prog 6 #[] w (P4 w) := by
  have HB0 : Hid (Below w.heap.size w w) := Below.refl _ _
  go_enter Try.func6, Try.ntmps6
  go_upto_region 2 with (go_at_call 8; first | (have h0 := HQ1.out; clear h0; refine (text12_any _ _).mono ?_; rintro e c2 ⟨rfl, hb⟩; have HQ2 : Hid (Below w.heap.size w c2) := below_step HQ1.out hb; clear hb) | (refine (text12_any _ _).mono ?_; rintro e c1 ⟨rfl, hb⟩; have HQ1 : Hid (Below w.heap.size w c1) := hb; clear hb))
  have hz1 : (c2.alloc (.cells #[.int .i64 2, .int .i64 0, .string ⟨#[97, 110, 110]⟩, .int .i64 2, .int .i64 0, .string ⟨#[98, 111, 98]⟩] 27)).heap.size = c2.heap.size + 1 := by simp
  have HT1 : Hid (KpT w.heap.size ((c2.alloc (.cells #[.int .i64 2, .int .i64 0, .string ⟨#[97, 110, 110]⟩, .int .i64 2, .int .i64 0, .string ⟨#[98, 111, 98]⟩] 27)).alloc (.cells #[.int .i64 0, .int .i64 0, .string ⟨#[]⟩, .string ⟨#[102, 114, 105, 101, 110, 100]⟩, .slice (some ⟨c2.heap.size, 0, none⟩) 2 2] 30)) (.slice (some ⟨c2.heap.size, 0, none⟩) 2 2) fa1.args) := (kp_tms (l := fa1.args) (Nat.le_trans HB0.out.size HQ2.out.size) (CBlk.new c2 #[.int .i64 2, .int .i64 0, .string ⟨#[97, 110, 110]⟩, .int .i64 2, .int .i64 0, .string ⟨#[98, 111, 98]⟩] 27) rfl rfl (by decide)).later (below1 _ _)
  have HA1 : Hid (CBlk ((c2.alloc (.cells #[.int .i64 2, .int .i64 0, .string ⟨#[97, 110, 110]⟩, .int .i64 2, .int .i64 0, .string ⟨#[98, 111, 98]⟩] 27)).alloc (.cells #[.int .i64 0, .int .i64 0, .string ⟨#[]⟩, .string ⟨#[102, 114, 105, 101, 110, 100]⟩, .slice (some ⟨c2.heap.size, 0, none⟩) 2 2] 30)) (c2.heap.size + 1) #[.int .i64 0, .int .i64 0, .string ⟨#[]⟩, .string ⟨#[102, 114, 105, 101, 110, 100]⟩, .slice (some ⟨c2.heap.size, 0, none⟩) 2 2] 30) := by have := CBlk.new (c2.alloc (.cells #[.int .i64 2, .int .i64 0, .string ⟨#[97, 110, 110]⟩, .int .i64 2, .int .i64 0, .string ⟨#[98, 111, 98]⟩] 27)) #[.int .i64 0, .int .i64 0, .string ⟨#[]⟩, .string ⟨#[102, 114, 105, 101, 110, 100]⟩, .slice (some ⟨c2.heap.size, 0, none⟩) 2 2] 30; rwa [hz1] at this
  have HY1 : Hid (Below w.heap.size w ((c2.alloc (.cells #[.int .i64 2, .int .i64 0, .string ⟨#[97, 110, 110]⟩, .int .i64 2, .int .i64 0, .string ⟨#[98, 111, 98]⟩] 27)).alloc (.cells #[.int .i64 0, .int .i64 0, .string ⟨#[]⟩, .string ⟨#[102, 114, 105, 101, 110, 100]⟩, .slice (some ⟨c2.heap.size, 0, none⟩) 2 2] 30))) := below_step (below_step HQ2.out (below1 _ _)) (below1 _ _)
  clear hz1
  clear HQ2
  clear HQ1
  revert HT1 HA1 HY1
  generalize (c2.alloc (.cells #[.int .i64 2, .int .i64 0, .string ⟨#[97, 110, 110]⟩, .int .i64 2, .int .i64 0, .string ⟨#[98, 111, 98]⟩] 27)).alloc (.cells #[.int .i64 0, .int .i64 0, .string ⟨#[]⟩, .string ⟨#[102, 114, 105, 101, 110, 100]⟩, .slice (some ⟨c2.heap.size, 0, none⟩) 2 2] 30) = X1
  generalize c2.heap.size + 1 = G1
  generalize c2.heap.size = L1
  intro HT1 HA1 HY1
  have HB1 : Hid (Below w.heap.size w X1) := below_step HB0.out HY1.out
  clear HY1
  go_upto_region 3 with (first | (go_at_call 8; refine (text12_any _ _).mono ?_; rintro e c1 ⟨rfl, hb⟩; have HQ1 : Hid (Below X1.heap.size X1 c1) := hb; clear hb) | (go_at_call 12; refine (var12_any _ _).mono ?_; rintro e c2 ⟨rfl, hb⟩; have HQ2 : Hid (Below X1.heap.size X1 c2) := below_step HQ1.out hb; clear hb))
  have hz2 : (c2.alloc (.cells #[.int .i64 2, .int .i64 0, .string ⟨#[97, 110, 110]⟩, .int .i64 3, .int .i64 0, .string ⟨#[]⟩] 27)).heap.size = c2.heap.size + 1 := by simp
  have HT2 : Hid (KpT w.heap.size ((c2.alloc (.cells #[.int .i64 2, .int .i64 0, .string ⟨#[97, 110, 110]⟩, .int .i64 3, .int .i64 0, .string ⟨#[]⟩] 27)).alloc (.cells #[.int .i64 0, .int .i64 0, .string ⟨#[]⟩, .string ⟨#[102, 114, 105, 101, 110, 100]⟩, .slice (some ⟨c2.heap.size, 0, none⟩) 2 2] 30)) (.slice (some ⟨c2.heap.size, 0, none⟩) 2 2) fa2.args) := (kp_tms (l := fa2.args) (Nat.le_trans HB1.out.size HQ2.out.size) (CBlk.new c2 #[.int .i64 2, .int .i64 0, .string ⟨#[97, 110, 110]⟩, .int .i64 3, .int .i64 0, .string ⟨#[]⟩] 27) rfl rfl (by decide)).later (below1 _ _)
  have HA2 : Hid (CBlk ((c2.alloc (.cells #[.int .i64 2, .int .i64 0, .string ⟨#[97, 110, 110]⟩, .int .i64 3, .int .i64 0, .string ⟨#[]⟩] 27)).alloc (.cells #[.int .i64 0, .int .i64 0, .string ⟨#[]⟩, .string ⟨#[102, 114, 105, 101, 110, 100]⟩, .slice (some ⟨c2.heap.size, 0, none⟩) 2 2] 30)) (c2.heap.size + 1) #[.int .i64 0, .int .i64 0, .string ⟨#[]⟩, .string ⟨#[102, 114, 105, 101, 110, 100]⟩, .slice (some ⟨c2.heap.size, 0, none⟩) 2 2] 30) := by have := CBlk.new (c2.alloc (.cells #[.int .i64 2, .int .i64 0, .string ⟨#[97, 110, 110]⟩, .int .i64 3, .int .i64 0, .string ⟨#[]⟩] 27)) #[.int .i64 0, .int .i64 0, .string ⟨#[]⟩, .string ⟨#[102, 114, 105, 101, 110, 100]⟩, .slice (some ⟨c2.heap.size, 0, none⟩) 2 2] 30; rwa [hz2] at this
  have HY2 : Hid (Below X1.heap.size X1 ((c2.alloc (.cells #[.int .i64 2, .int .i64 0, .string ⟨#[97, 110, 110]⟩, .int .i64 3, .int .i64 0, .string ⟨#[]⟩] 27)).alloc (.cells #[.int .i64 0, .int .i64 0, .string ⟨#[]⟩, .string ⟨#[102, 114, 105, 101, 110, 100]⟩, .slice (some ⟨c2.heap.size, 0, none⟩) 2 2] 30))) := below_step (below_step HQ2.out (below1 _ _)) (below1 _ _)
  clear hz2
  clear HQ2
  clear HQ1
  revert HT2 HA2 HY2
  generalize (c2.alloc (.cells #[.int .i64 2, .int .i64 0, .string ⟨#[97, 110, 110]⟩, .int .i64 3, .int .i64 0, .string ⟨#[]⟩] 27)).alloc (.cells #[.int .i64 0, .int .i64 0, .string ⟨#[]⟩, .string ⟨#[102, 114, 105, 101, 110, 100]⟩, .slice (some ⟨c2.heap.size, 0, none⟩) 2 2] 30) = X2
  generalize c2.heap.size + 1 = G2
  generalize c2.heap.size = L2
  intro HT2 HA2 HY2
  have HB2 : Hid (Below w.heap.size w X2) := below_step HB1.out HY2.out
  have HT1 : Hid (KpT w.heap.size X2 (.slice (some ⟨L1, 0, none⟩) 2 2) fa1.args) := HT1.out.later HY2.out
  have HA1 : Hid (CBlk X2 G1 #[.int .i64 0, .int .i64 0, .string ⟨#[]⟩, .string ⟨#[102, 114, 105, 101, 110, 100]⟩, .slice (some ⟨L1, 0, none⟩) 2 2] 30) := HA1.out.later HY2.out
  clear HY2
  go_upto_region 4 with (first | (go_at_call 12; refine (var12_any _ _).mono ?_; rintro e c1 ⟨rfl, hb⟩; have HQ1 : Hid (Below X2.heap.size X2 c1) := hb; clear hb))
  have hz3 : (c1.alloc (.cells #[.int .i64 3, .int .i64 0, .string ⟨#[]⟩] 27)).heap.size = c1.heap.size + 1 := by simp
  have HT3 : Hid (KpT w.heap.size ((c1.alloc (.cells #[.int .i64 3, .int .i64 0, .string ⟨#[]⟩] 27)).alloc (.cells #[.int .i64 0, .int .i64 0, .string ⟨#[]⟩, .string ⟨#[103, 111, 111, 100]⟩, .slice (some ⟨c1.heap.size, 0, none⟩) 1 1] 30)) (.slice (some ⟨c1.heap.size, 0, none⟩) 1 1) fa3.args) := (kp_tms (l := fa3.args) (Nat.le_trans HB2.out.size HQ1.out.size) (CBlk.new c1 #[.int .i64 3, .int .i64 0, .string ⟨#[]⟩] 27) rfl rfl (by decide)).later (below1 _ _)
  have HA3 : Hid (CBlk ((c1.alloc (.cells #[.int .i64 3, .int .i64 0, .string ⟨#[]⟩] 27)).alloc (.cells #[.int .i64 0, .int .i64 0, .string ⟨#[]⟩, .string ⟨#[103, 111, 111, 100]⟩, .slice (some ⟨c1.heap.size, 0, none⟩) 1 1] 30)) (c1.heap.size + 1) #[.int .i64 0, .int .i64 0, .string ⟨#[]⟩, .string ⟨#[103, 111, 111, 100]⟩, .slice (some ⟨c1.heap.size, 0, none⟩) 1 1] 30) := by have := CBlk.new (c1.alloc (.cells #[.int .i64 3, .int .i64 0, .string ⟨#[]⟩] 27)) #[.int .i64 0, .int .i64 0, .string ⟨#[]⟩, .string ⟨#[103, 111, 111, 100]⟩, .slice (some ⟨c1.heap.size, 0, none⟩) 1 1] 30; rwa [hz3] at this
  have HY3 : Hid (Below X2.heap.size X2 ((c1.alloc (.cells #[.int .i64 3, .int .i64 0, .string ⟨#[]⟩] 27)).alloc (.cells #[.int .i64 0, .int .i64 0, .string ⟨#[]⟩, .string ⟨#[103, 111, 111, 100]⟩, .slice (some ⟨c1.heap.size, 0, none⟩) 1 1] 30))) := below_step (below_step HQ1.out (below1 _ _)) (below1 _ _)
  clear hz3
  clear HQ1
  revert HT3 HA3 HY3
  generalize (c1.alloc (.cells #[.int .i64 3, .int .i64 0, .string ⟨#[]⟩] 27)).alloc (.cells #[.int .i64 0, .int .i64 0, .string ⟨#[]⟩, .string ⟨#[103, 111, 111, 100]⟩, .slice (some ⟨c1.heap.size, 0, none⟩) 1 1] 30) = X3
  generalize c1.heap.size + 1 = G3
  generalize c1.heap.size = L3
  intro HT3 HA3 HY3
  have HB3 : Hid (Below w.heap.size w X3) := below_step HB2.out HY3.out
  have HT1 : Hid (KpT w.heap.size X3 (.slice (some ⟨L1, 0, none⟩) 2 2) fa1.args) := HT1.out.later HY3.out
  have HA1 : Hid (CBlk X3 G1 #[.int .i64 0, .int .i64 0, .string ⟨#[]⟩, .string ⟨#[102, 114, 105, 101, 110, 100]⟩, .slice (some ⟨L1, 0, none⟩) 2 2] 30) := HA1.out.later HY3.out
  have HT2 : Hid (KpT w.heap.size X3 (.slice (some ⟨L2, 0, none⟩) 2 2) fa2.args) := HT2.out.later HY3.out
  have HA2 : Hid (CBlk X3 G2 #[.int .i64 0, .int .i64 0, .string ⟨#[]⟩, .string ⟨#[102, 114, 105, 101, 110, 100]⟩, .slice (some ⟨L2, 0, none⟩) 2 2] 30) := HA2.out.later HY3.out
  clear HY3
  go_upto_region 5 with (first | (go_at_call 12; refine (var12_any _ _).mono ?_; rintro e c1 ⟨rfl, hb⟩; have HQ1 : Hid (Below X3.heap.size X3 c1) := hb; clear hb))
  have hz4 : (c1.alloc (.cells #[.int .i64 3, .int .i64 0, .string ⟨#[]⟩] 27)).heap.size = c1.heap.size + 1 := by simp
  have HT4 : Hid (KpT w.heap.size ((c1.alloc (.cells #[.int .i64 3, .int .i64 0, .string ⟨#[]⟩] 27)).alloc (.cells #[.int .i64 0, .int .i64 0, .string ⟨#[]⟩, .string ⟨#[109, 97, 121]⟩, .slice (some ⟨c1.heap.size, 0, none⟩) 1 1] 30)) (.slice (some ⟨c1.heap.size, 0, none⟩) 1 1) fa4.args) := (kp_tms (l := fa4.args) (Nat.le_trans HB3.out.size HQ1.out.size) (CBlk.new c1 #[.int .i64 3, .int .i64 0, .string ⟨#[]⟩] 27) rfl rfl (by decide)).later (below1 _ _)
  have HA4 : Hid (CBlk ((c1.alloc (.cells #[.int .i64 3, .int .i64 0, .string ⟨#[]⟩] 27)).alloc (.cells #[.int .i64 0, .int .i64 0, .string ⟨#[]⟩, .string ⟨#[109, 97, 121]⟩, .slice (some ⟨c1.heap.size, 0, none⟩) 1 1] 30)) (c1.heap.size + 1) #[.int .i64 0, .int .i64 0, .string ⟨#[]⟩, .string ⟨#[109, 97, 121]⟩, .slice (some ⟨c1.heap.size, 0, none⟩) 1 1] 30) := by have := CBlk.new (c1.alloc (.cells #[.int .i64 3, .int .i64 0, .string ⟨#[]⟩] 27)) #[.int .i64 0, .int .i64 0, .string ⟨#[]⟩, .string ⟨#[109, 97, 121]⟩, .slice (some ⟨c1.heap.size, 0, none⟩) 1 1] 30; rwa [hz4] at this
  have HY4 : Hid (Below X3.heap.size X3 ((c1.alloc (.cells #[.int .i64 3, .int .i64 0, .string ⟨#[]⟩] 27)).alloc (.cells #[.int .i64 0, .int .i64 0, .string ⟨#[]⟩, .string ⟨#[109, 97, 121]⟩, .slice (some ⟨c1.heap.size, 0, none⟩) 1 1] 30))) := below_step (below_step HQ1.out (below1 _ _)) (below1 _ _)
  clear hz4
  clear HQ1
  revert HT4 HA4 HY4
  generalize (c1.alloc (.cells #[.int .i64 3, .int .i64 0, .string ⟨#[]⟩] 27)).alloc (.cells #[.int .i64 0, .int .i64 0, .string ⟨#[]⟩, .string ⟨#[109, 97, 121]⟩, .slice (some ⟨c1.heap.size, 0, none⟩) 1 1] 30) = X4
  generalize c1.heap.size + 1 = G4
  generalize c1.heap.size = L4
  intro HT4 HA4 HY4
  have HB4 : Hid (Below w.heap.size w X4) := below_step HB3.out HY4.out
  have HT1 : Hid (KpT w.heap.size X4 (.slice (some ⟨L1, 0, none⟩) 2 2) fa1.args) := HT1.out.later HY4.out
  have HA1 : Hid (CBlk X4 G1 #[.int .i64 0, .int .i64 0, .string ⟨#[]⟩, .string ⟨#[102, 114, 105, 101, 110, 100]⟩, .slice (some ⟨L1, 0, none⟩) 2 2] 30) := HA1.out.later HY4.out
  have HT2 : Hid (KpT w.heap.size X4 (.slice (some ⟨L2, 0, none⟩) 2 2) fa2.args) := HT2.out.later HY4.out
  have HA2 : Hid (CBlk X4 G2 #[.int .i64 0, .int .i64 0, .string ⟨#[]⟩, .string ⟨#[102, 114, 105, 101, 110, 100]⟩, .slice (some ⟨L2, 0, none⟩) 2 2] 30) := HA2.out.later HY4.out
  have HT3 : Hid (KpT w.heap.size X4 (.slice (some ⟨L3, 0, none⟩) 1 1) fa3.args) := HT3.out.later HY4.out
  have HA3 : Hid (CBlk X4 G3 #[.int .i64 0, .int .i64 0, .string ⟨#[]⟩, .string ⟨#[103, 111, 111, 100]⟩, .slice (some ⟨L3, 0, none⟩) 1 1] 30) := HA3.out.later HY4.out
  clear HY4
  go_upto_region 6 with (go_at_call 12; first | (have h0 := HQ1.out; clear h0; refine (var12_any _ _).mono ?_; rintro e c2 ⟨rfl, hb⟩; have HQ2 : Hid (Below X4.heap.size X4 c2) := below_step HQ1.out hb; clear hb) | (refine (var12_any _ _).mono ?_; rintro e c1 ⟨rfl, hb⟩; have HQ1 : Hid (Below X4.heap.size X4 c1) := hb; clear hb))
  have hz5 : (c2.alloc (.cells #[.int .i64 3, .int .i64 0, .string ⟨#[]⟩] 27)).heap.size = c2.heap.size + 1 := by simp
  have HT5 : Hid (KpT w.heap.size ((c2.alloc (.cells #[.int .i64 3, .int .i64 0, .string ⟨#[]⟩] 27)).alloc (.cells #[.int .i64 3, .int .i64 1, .string ⟨#[]⟩, .string ⟨#[111, 107]⟩, .slice (some ⟨c2.heap.size, 0, none⟩) 1 1] 30)) (.slice (some ⟨c2.heap.size, 0, none⟩) 1 1) fa5.args) := (kp_tms (l := fa5.args) (Nat.le_trans HB4.out.size HQ2.out.size) (CBlk.new c2 #[.int .i64 3, .int .i64 0, .string ⟨#[]⟩] 27) rfl rfl (by decide)).later (below1 _ _)
  have HA5 : Hid (CBlk ((c2.alloc (.cells #[.int .i64 3, .int .i64 0, .string ⟨#[]⟩] 27)).alloc (.cells #[.int .i64 3, .int .i64 1, .string ⟨#[]⟩, .string ⟨#[111, 107]⟩, .slice (some ⟨c2.heap.size, 0, none⟩) 1 1] 30)) (c2.heap.size + 1) #[.int .i64 3, .int .i64 1, .string ⟨#[]⟩, .string ⟨#[111, 107]⟩, .slice (some ⟨c2.heap.size, 0, none⟩) 1 1] 30) := by have := CBlk.new (c2.alloc (.cells #[.int .i64 3, .int .i64 0, .string ⟨#[]⟩] 27)) #[.int .i64 3, .int .i64 1, .string ⟨#[]⟩, .string ⟨#[111, 107]⟩, .slice (some ⟨c2.heap.size, 0, none⟩) 1 1] 30; rwa [hz5] at this
  have HY5 : Hid (Below X4.heap.size X4 ((c2.alloc (.cells #[.int .i64 3, .int .i64 0, .string ⟨#[]⟩] 27)).alloc (.cells #[.int .i64 3, .int .i64 1, .string ⟨#[]⟩, .string ⟨#[111, 107]⟩, .slice (some ⟨c2.heap.size, 0, none⟩) 1 1] 30))) := below_step (below_step HQ2.out (below1 _ _)) (below1 _ _)
  clear hz5
  clear HQ2
  clear HQ1
  revert HT5 HA5 HY5
  generalize (c2.alloc (.cells #[.int .i64 3, .int .i64 0, .string ⟨#[]⟩] 27)).alloc (.cells #[.int .i64 3, .int .i64 1, .string ⟨#[]⟩, .string ⟨#[111, 107]⟩, .slice (some ⟨c2.heap.size, 0, none⟩) 1 1] 30) = X5
  generalize c2.heap.size + 1 = G5
  generalize c2.heap.size = L5
  intro HT5 HA5 HY5
  have HB5 : Hid (Below w.heap.size w X5) := below_step HB4.out HY5.out
  have HT1 : Hid (KpT w.heap.size X5 (.slice (some ⟨L1, 0, none⟩) 2 2) fa1.args) := HT1.out.later HY5.out
  have HA1 : Hid (CBlk X5 G1 #[.int .i64 0, .int .i64 0, .string ⟨#[]⟩, .string ⟨#[102, 114, 105, 101, 110, 100]⟩, .slice (some ⟨L1, 0, none⟩) 2 2] 30) := HA1.out.later HY5.out
  have HT2 : Hid (KpT w.heap.size X5 (.slice (some ⟨L2, 0, none⟩) 2 2) fa2.args) := HT2.out.later HY5.out
  have HA2 : Hid (CBlk X5 G2 #[.int .i64 0, .int .i64 0, .string ⟨#[]⟩, .string ⟨#[102, 114, 105, 101, 110, 100]⟩, .slice (some ⟨L2, 0, none⟩) 2 2] 30) := HA2.out.later HY5.out
  have HT3 : Hid (KpT w.heap.size X5 (.slice (some ⟨L3, 0, none⟩) 1 1) fa3.args) := HT3.out.later HY5.out
  have HA3 : Hid (CBlk X5 G3 #[.int .i64 0, .int .i64 0, .string ⟨#[]⟩, .string ⟨#[103, 111, 111, 100]⟩, .slice (some ⟨L3, 0, none⟩) 1 1] 30) := HA3.out.later HY5.out
  have HT4 : Hid (KpT w.heap.size X5 (.slice (some ⟨L4, 0, none⟩) 1 1) fa4.args) := HT4.out.later HY5.out
  have HA4 : Hid (CBlk X5 G4 #[.int .i64 0, .int .i64 0, .string ⟨#[]⟩, .string ⟨#[109, 97, 121]⟩, .slice (some ⟨L4, 0, none⟩) 1 1] 30) := HA4.out.later HY5.out
  clear HY5
  go_upto_region 7 with (go_at_call 8; first | (have h0 := HQ1.out; clear h0; refine (text12_any _ _).mono ?_; rintro e c2 ⟨rfl, hb⟩; have HQ2 : Hid (Below X5.heap.size X5 c2) := below_step HQ1.out hb; clear hb) | (refine (text12_any _ _).mono ?_; rintro e c1 ⟨rfl, hb⟩; have HQ1 : Hid (Below X5.heap.size X5 c1) := hb; clear hb))
  have hz6 : (c2.alloc (.cells #[.int .i64 2, .int .i64 0, .string ⟨#[98, 111, 98]⟩] 27)).heap.size = c2.heap.size + 1 := by simp
  have HT6 : Hid (KpT w.heap.size ((c2.alloc (.cells #[.int .i64 2, .int .i64 0, .string ⟨#[98, 111, 98]⟩] 27)).alloc (.cells #[.int .i64 2, .int .i64 0, .string ⟨#[99, 97, 114, 108]⟩, .string ⟨#[111, 107]⟩, .slice (some ⟨c2.heap.size, 0, none⟩) 1 1] 30)) (.slice (some ⟨c2.heap.size, 0, none⟩) 1 1) fa6.args) := (kp_tms (l := fa6.args) (Nat.le_trans HB5.out.size HQ2.out.size) (CBlk.new c2 #[.int .i64 2, .int .i64 0, .string ⟨#[98, 111, 98]⟩] 27) rfl rfl (by decide)).later (below1 _ _)
  have HA6 : Hid (CBlk ((c2.alloc (.cells #[.int .i64 2, .int .i64 0, .string ⟨#[98, 111, 98]⟩] 27)).alloc (.cells #[.int .i64 2, .int .i64 0, .string ⟨#[99, 97, 114, 108]⟩, .string ⟨#[111, 107]⟩, .slice (some ⟨c2.heap.size, 0, none⟩) 1 1] 30)) (c2.heap.size + 1) #[.int .i64 2, .int .i64 0, .string ⟨#[99, 97, 114, 108]⟩, .string ⟨#[111, 107]⟩, .slice (some ⟨c2.heap.size, 0, none⟩) 1 1] 30) := by have := CBlk.new (c2.alloc (.cells #[.int .i64 2, .int .i64 0, .string ⟨#[98, 111, 98]⟩] 27)) #[.int .i64 2, .int .i64 0, .string ⟨#[99, 97, 114, 108]⟩, .string ⟨#[111, 107]⟩, .slice (some ⟨c2.heap.size, 0, none⟩) 1 1] 30; rwa [hz6] at this
  have HY6 : Hid (Below X5.heap.size X5 ((c2.alloc (.cells #[.int .i64 2, .int .i64 0, .string ⟨#[98, 111, 98]⟩] 27)).alloc (.cells #[.int .i64 2, .int .i64 0, .string ⟨#[99, 97, 114, 108]⟩, .string ⟨#[111, 107]⟩, .slice (some ⟨c2.heap.size, 0, none⟩) 1 1] 30))) := below_step (below_step HQ2.out (below1 _ _)) (below1 _ _)
  clear hz6
  clear HQ2
  clear HQ1
  revert HT6 HA6 HY6
  generalize (c2.alloc (.cells #[.int .i64 2, .int .i64 0, .string ⟨#[98, 111, 98]⟩] 27)).alloc (.cells #[.int .i64 2, .int .i64 0, .string ⟨#[99, 97, 114, 108]⟩, .string ⟨#[111, 107]⟩, .slice (some ⟨c2.heap.size, 0, none⟩) 1 1] 30) = X6
  generalize c2.heap.size + 1 = G6
  generalize c2.heap.size = L6
  intro HT6 HA6 HY6
  have HB6 : Hid (Below w.heap.size w X6) := below_step HB5.out HY6.out
  have HT1 : Hid (KpT w.heap.size X6 (.slice (some ⟨L1, 0, none⟩) 2 2) fa1.args) := HT1.out.later HY6.out
  have HA1 : Hid (CBlk X6 G1 #[.int .i64 0, .int .i64 0, .string ⟨#[]⟩, .string ⟨#[102, 114, 105, 101, 110, 100]⟩, .slice (some ⟨L1, 0, none⟩) 2 2] 30) := HA1.out.later HY6.out
  have HT2 : Hid (KpT w.heap.size X6 (.slice (some ⟨L2, 0, none⟩) 2 2) fa2.args) := HT2.out.later HY6.out
  have HA2 : Hid (CBlk X6 G2 #[.int .i64 0, .int .i64 0, .string ⟨#[]⟩, .string ⟨#[102, 114, 105, 101, 110, 100]⟩, .slice (some ⟨L2, 0, none⟩) 2 2] 30) := HA2.out.later HY6.out
  have HT3 : Hid (KpT w.heap.size X6 (.slice (some ⟨L3, 0, none⟩) 1 1) fa3.args) := HT3.out.later HY6.out
  have HA3 : Hid (CBlk X6 G3 #[.int .i64 0, .int .i64 0, .string ⟨#[]⟩, .string ⟨#[103, 111, 111, 100]⟩, .slice (some ⟨L3, 0, none⟩) 1 1] 30) := HA3.out.later HY6.out
  have HT4 : Hid (KpT w.heap.size X6 (.slice (some ⟨L4, 0, none⟩) 1 1) fa4.args) := HT4.out.later HY6.out
  have HA4 : Hid (CBlk X6 G4 #[.int .i64 0, .int .i64 0, .string ⟨#[]⟩, .string ⟨#[109, 97, 121]⟩, .slice (some ⟨L4, 0, none⟩) 1 1] 30) := HA4.out.later HY6.out
  have HT5 : Hid (KpT w.heap.size X6 (.slice (some ⟨L5, 0, none⟩) 1 1) fa5.args) := HT5.out.later HY6.out
  have HA5 : Hid (CBlk X6 G5 #[.int .i64 3, .int .i64 1, .string ⟨#[]⟩, .string ⟨#[111, 107]⟩, .slice (some ⟨L5, 0, none⟩) 1 1] 30) := HA5.out.later HY6.out
  clear HY6
  refine wp_region_held_drew (S := fun w' => Below X6.heap.size X6 w') (by kernel_rfl) (Below.refl _ _).drew (fun hH => ?_)
  revert hH
  generalize X6.drew = V0
  intro hH
  refine wpAnyH_take (i := 0) (oi := ⟨_, _, _, _, _, _⟩) (v := .agg #[.int .i64 0, .int .i64 0, .string ⟨#[]⟩, .string ⟨#[102, 114, 105, 101, 110, 100]⟩, .slice (some ⟨L1, 0, none⟩) 2 2]) rfl (by kernel_rfl) (by kernel_rfl) (by kernel_rfl) (fun _ _ _ h => h) (Or.inl ⟨by rfl, fun w' h => by obtain ⟨q0, q1, q2, q3, q4⟩ := cfive (HA1.out.later h); clear h; go_simp⟩) hH ?_
  simp only [Act.put, List.setIfInBounds_toArray, List.set_cons_zero, List.set_cons_succ]
  refine wpAnyH_take (i := 1) (oi := ⟨_, _, _, _, _, _⟩) (v := .agg #[.int .i64 0, .int .i64 0, .string ⟨#[]⟩, .string ⟨#[102, 114, 105, 101, 110, 100]⟩, .slice (some ⟨L1, 0, none⟩) 2 2, .slice none 0 0, .slice none 0 0]) rfl (by kernel_rfl) (by kernel_rfl) (by kernel_rfl) (fun _ _ _ h => h) (Or.inl ⟨by rfl, fun w' h => by clear h; go_simp⟩) hH ?_
  simp only [Act.put, List.setIfInBounds_toArray, List.set_cons_zero, List.set_cons_succ]
  refine wpAnyH_take (i := 2) (oi := ⟨_, _, _, _, _, _⟩) (v := .agg #[.int .i64 0, .int .i64 0, .string ⟨#[]⟩, .string ⟨#[103, 111, 111, 100]⟩, .slice (some ⟨L3, 0, none⟩) 1 1]) rfl (by kernel_rfl) (by kernel_rfl) (by kernel_rfl) (fun _ _ _ h => h) (Or.inl ⟨by rfl, fun w' h => by obtain ⟨q0, q1, q2, q3, q4⟩ := cfive (HA3.out.later h); clear h; go_simp⟩) hH ?_
  simp only [Act.put, List.setIfInBounds_toArray, List.set_cons_zero, List.set_cons_succ]
  refine wpAnyH_take (i := 3) (oi := ⟨_, _, _, _, _, _⟩) (v := .agg #[.int .i64 0, .int .i64 0, .string ⟨#[]⟩, .string ⟨#[102, 114, 105, 101, 110, 100]⟩, .slice (some ⟨L2, 0, none⟩) 2 2]) rfl (by kernel_rfl) (by kernel_rfl) (by kernel_rfl) (fun _ _ _ h => h) (Or.inl ⟨by rfl, fun w' h => by obtain ⟨q0, q1, q2, q3, q4⟩ := cfive (HA2.out.later h); clear h; go_simp⟩) hH ?_
  simp only [Act.put, List.setIfInBounds_toArray, List.set_cons_zero, List.set_cons_succ]
  refine wpAnyH_take (i := 10) (oi := ⟨_, _, _, _, _, _⟩) (v := .agg #[.int .i64 0, .int .i64 0, .string ⟨#[]⟩, .string ⟨#[109, 97, 121]⟩, .slice (some ⟨L4, 0, none⟩) 1 1]) rfl (by kernel_rfl) (by kernel_rfl) (by kernel_rfl) (fun _ _ _ h => h) (Or.inl ⟨by rfl, fun w' h => by obtain ⟨q0, q1, q2, q3, q4⟩ := cfive (HA4.out.later h); clear h; go_simp⟩) hH ?_
  simp only [Act.put, List.setIfInBounds_toArray, List.set_cons_zero, List.set_cons_succ]
  refine wpAnyH_take (i := 11) (oi := ⟨_, _, _, _, _, _⟩) (v := .agg #[.int .i64 0, .int .i64 0, .string ⟨#[]⟩, .string ⟨#[103, 111, 111, 100]⟩, .slice (some ⟨L3, 0, none⟩) 1 1]) rfl (by kernel_rfl) (by kernel_rfl) (by kernel_rfl) (fun _ _ _ h => h) (Or.inl ⟨by rfl, fun w' h => by obtain ⟨q0, q1, q2, q3, q4⟩ := cfive (HA3.out.later h); clear h; go_simp⟩) hH ?_
  simp only [Act.put, List.setIfInBounds_toArray, List.set_cons_zero, List.set_cons_succ]
  refine wpAnyH_take (i := 12) (oi := ⟨_, _, _, _, _, _⟩) (v := .agg #[.int .i64 3, .int .i64 1, .string ⟨#[]⟩, .string ⟨#[111, 107]⟩, .slice (some ⟨L5, 0, none⟩) 1 1]) rfl (by kernel_rfl) (by kernel_rfl) (by kernel_rfl) (fun _ _ _ h => h) (Or.inl ⟨by rfl, fun w' h => by obtain ⟨q0, q1, q2, q3, q4⟩ := cfive (HA5.out.later h); clear h; go_simp⟩) hH ?_
  simp only [Act.put, List.setIfInBounds_toArray, List.set_cons_zero, List.set_cons_succ]
  refine wpAnyH_take (i := 15) (oi := ⟨_, _, _, _, _, _⟩) (v := .agg #[.int .i64 2, .int .i64 0, .string ⟨#[99, 97, 114, 108]⟩, .string ⟨#[111, 107]⟩, .slice (some ⟨L6, 0, none⟩) 1 1]) rfl (by kernel_rfl) (by kernel_rfl) (by kernel_rfl) (fun _ _ _ h => h) (Or.inl ⟨by rfl, fun w' h => by obtain ⟨q0, q1, q2, q3, q4⟩ := cfive (HA6.out.later h); clear h; go_simp⟩) hH ?_
  simp only [Act.put, List.setIfInBounds_toArray, List.set_cons_zero, List.set_cons_succ]
  refine wpAnyH_take (i := 16) (oi := ⟨_, _, _, _, _, _⟩) (v := .agg #[.int .i64 2, .int .i64 0, .string ⟨#[99, 97, 114, 108]⟩, .string ⟨#[111, 107]⟩, .slice (some ⟨L6, 0, none⟩) 1 1, .slice none 0 0, .slice none 0 0]) rfl (by kernel_rfl) (by kernel_rfl) (by kernel_rfl) (fun _ _ _ h => h) (Or.inl ⟨by rfl, fun w' h => by clear h; go_simp⟩) hH ?_
  simp only [Act.put, List.setIfInBounds_toArray, List.set_cons_zero, List.set_cons_succ]
  refine wpAnyH_ready (rs := [4, 5, 13]) (by kernel_rfl) (by simp) ?_
  refine (AllReadyH.cons (o := ⟨_, _, _, _, _, _⟩) rfl (fun K hK => ?_) (AllReadyH.cons (o := ⟨_, _, _, _, _, _⟩) rfl (fun K hK => ?_) (AllReadyH.cons (o := ⟨_, _, _, _, _, _⟩) rfl (fun K hK => ?_) AllReadyH.nil)))
  · go_simp
    have HKA : Hid (CBlk (V0.alloc (.cells #[.int .i64 0, .int .i64 0, .string ⟨#[]⟩, .string ⟨#[102, 114, 105, 101, 110, 100]⟩, .slice (some ⟨L2, 0, none⟩) 2 2] 30)) V0.heap.size #[.int .i64 0, .int .i64 0, .string ⟨#[]⟩, .string ⟨#[102, 114, 105, 101, 110, 100]⟩, .slice (some ⟨L2, 0, none⟩) 2 2] 30) := CBlk.new _ _ _
    have HGA : Hid (w.heap.size ≤ V0.heap.size) := Nat.le_trans HB6.out.size hH.size
    refine hK.out _ _ (below_step hH (below1 _ _)) (fun hH => ?_)
    clear hK K
    try simp only [Act.put, List.setIfInBounds_toArray, List.set_cons_zero, List.set_cons_succ]
    revert hH
    revert HKA
    revert HGA
    generalize V0.alloc (.cells #[.int .i64 0, .int .i64 0, .string ⟨#[]⟩, .string ⟨#[102, 114, 105, 101, 110, 100]⟩, .slice (some ⟨L2, 0, none⟩) 2 2] 30) = V1
    generalize V0.heap.size = ga
    intro HGA HKA  hH
    refine wpAnyH_ready (rs := [5, 13]) (by kernel_rfl) (by simp) ?_
    refine (AllReadyH.cons (o := ⟨_, _, _, _, _, _⟩) rfl (fun K hK => ?_) (AllReadyH.cons (o := ⟨_, _, _, _, _, _⟩) rfl (fun K hK => ?_) AllReadyH.nil))
    · go_simp
      refine (var12_any _ _).mono ?_
      rintro e V2 ⟨rfl, hb⟩
      have HKA : Hid (CBlk V2 ga #[.int .i64 0, .int .i64 0, .string ⟨#[]⟩, .string ⟨#[102, 114, 105, 101, 110, 100]⟩, .slice (some ⟨L2, 0, none⟩) 2 2] 30) := HKA.out.later hb
      refine hK.out _ _ (below_step hH hb) (fun hH => ?_)
      clear hK K hb
      try simp only [Act.put, List.setIfInBounds_toArray, List.set_cons_zero, List.set_cons_succ]
      refine wpAnyH_ready (rs := [6, 13]) (by kernel_rfl) (by simp) ?_
      refine (AllReadyH.cons (o := ⟨_, _, _, _, _, _⟩) rfl (fun K hK => ?_) (AllReadyH.cons (o := ⟨_, _, _, _, _, _⟩) rfl (fun K hK => ?_) AllReadyH.nil))
      · go_simp
        refine (text12_any _ _).mono ?_
        rintro e V3 ⟨rfl, hb⟩
        have HKA : Hid (CBlk V3 ga #[.int .i64 0, .int .i64 0, .string ⟨#[]⟩, .string ⟨#[102, 114, 105, 101, 110, 100]⟩, .slice (some ⟨L2, 0, none⟩) 2 2] 30) := HKA.out.later hb
        refine hK.out _ _ (below_step hH hb) (fun hH => ?_)
        clear hK K hb
        try simp only [Act.put, List.setIfInBounds_toArray, List.set_cons_zero, List.set_cons_succ]
        refine wpAnyH_take (i := 7) (oi := ⟨_, _, _, _, _, _⟩) (v := .agg #[.int .i64 2, .int .i64 3, .int .i64 0, .string ⟨#[]⟩, .int .i64 2, .int .i64 0, .string ⟨#[97, 110, 110]⟩]) rfl (by kernel_rfl) (by kernel_rfl) (by kernel_rfl) (fun _ _ _ h => h) (Or.inl ⟨by rfl, fun w' h => by clear h; go_simp⟩) hH ?_
        simp only [Act.put, List.setIfInBounds_toArray, List.set_cons_zero, List.set_cons_succ]
        refine wpAnyH_ready (rs := [8, 13]) (by kernel_rfl) (by simp) ?_
        refine (AllReadyH.cons (o := ⟨_, _, _, _, _, _⟩) rfl (fun K hK => ?_) (AllReadyH.cons (o := ⟨_, _, _, _, _, _⟩) rfl (fun K hK => ?_) AllReadyH.nil))
        · go_simp
          have HKB : Hid (CBlk (V3.alloc (.cells #[.int .i64 2, .int .i64 3, .int .i64 0, .string ⟨#[]⟩, .int .i64 2, .int .i64 0, .string ⟨#[97, 110, 110]⟩] 52)) V3.heap.size #[.int .i64 2, .int .i64 3, .int .i64 0, .string ⟨#[]⟩, .int .i64 2, .int .i64 0, .string ⟨#[97, 110, 110]⟩] 52) := CBlk.new _ _ _
          have HGB : Hid (w.heap.size ≤ V3.heap.size) := Nat.le_trans HB6.out.size hH.size
          have HKA : Hid (CBlk (V3.alloc (.cells #[.int .i64 2, .int .i64 3, .int .i64 0, .string ⟨#[]⟩, .int .i64 2, .int .i64 0, .string ⟨#[97, 110, 110]⟩] 52)) ga #[.int .i64 0, .int .i64 0, .string ⟨#[]⟩, .string ⟨#[102, 114, 105, 101, 110, 100]⟩, .slice (some ⟨L2, 0, none⟩) 2 2] 30) := HKA.out.later (below1 _ _)
          refine hK.out _ _ (below_step hH (below1 _ _)) (fun hH => ?_)
          clear hK K
          try simp only [Act.put, List.setIfInBounds_toArray, List.set_cons_zero, List.set_cons_succ]
          revert hH
          revert HKA
          revert HKB
          revert HGB
          generalize V3.alloc (.cells #[.int .i64 2, .int .i64 3, .int .i64 0, .string ⟨#[]⟩, .int .i64 2, .int .i64 0, .string ⟨#[97, 110, 110]⟩] 52) = V4
          generalize V3.heap.size = gb
          intro HGB HKB HKA hH
          refine wpAnyH_take (i := 9) (oi := ⟨_, _, _, _, _, _⟩) (v := .agg #[.int .i64 0, .int .i64 0, .string ⟨#[]⟩, .string ⟨#[103, 111, 111, 100]⟩, .slice (some ⟨L3, 0, none⟩) 1 1, .slice (some ⟨ga, 0, none⟩) 1 1, .slice (some ⟨gb, 0, none⟩) 1 1]) rfl (by kernel_rfl) (by kernel_rfl) (by kernel_rfl) (fun _ _ _ h => h) (Or.inl ⟨by rfl, fun w' h => by clear h; go_simp⟩) hH ?_
          simp only [Act.put, List.setIfInBounds_toArray, List.set_cons_zero, List.set_cons_succ]
          refine wpAnyH_ready (rs := [13]) (by kernel_rfl) (by simp) ?_
          refine (AllReadyH.cons (o := ⟨_, _, _, _, _, _⟩) rfl (fun K hK => ?_) AllReadyH.nil)
          go_simp
          have HKC : Hid (CBlk (V4.alloc (.cells #[.int .i64 0, .int .i64 0, .string ⟨#[]⟩, .string ⟨#[103, 111, 111, 100]⟩, .slice (some ⟨L3, 0, none⟩) 1 1, .int .i64 3, .int .i64 1, .string ⟨#[]⟩, .string ⟨#[111, 107]⟩, .slice (some ⟨L5, 0, none⟩) 1 1] 30)) V4.heap.size #[.int .i64 0, .int .i64 0, .string ⟨#[]⟩, .string ⟨#[103, 111, 111, 100]⟩, .slice (some ⟨L3, 0, none⟩) 1 1, .int .i64 3, .int .i64 1, .string ⟨#[]⟩, .string ⟨#[111, 107]⟩, .slice (some ⟨L5, 0, none⟩) 1 1] 30) := CBlk.new _ _ _
          have HGC : Hid (w.heap.size ≤ V4.heap.size) := Nat.le_trans HB6.out.size hH.size
          have HKA : Hid (CBlk (V4.alloc (.cells #[.int .i64 0, .int .i64 0, .string ⟨#[]⟩, .string ⟨#[103, 111, 111, 100]⟩, .slice (some ⟨L3, 0, none⟩) 1 1, .int .i64 3, .int .i64 1, .string ⟨#[]⟩, .string ⟨#[111, 107]⟩, .slice (some ⟨L5, 0, none⟩) 1 1] 30)) ga #[.int .i64 0, .int .i64 0, .string ⟨#[]⟩, .string ⟨#[102, 114, 105, 101, 110, 100]⟩, .slice (some ⟨L2, 0, none⟩) 2 2] 30) := HKA.out.later (below1 _ _)
          have HKB : Hid (CBlk (V4.alloc (.cells #[.int .i64 0, .int .i64 0, .string ⟨#[]⟩, .string ⟨#[103, 111, 111, 100]⟩, .slice (some ⟨L3, 0, none⟩) 1 1, .int .i64 3, .int .i64 1, .string ⟨#[]⟩, .string ⟨#[111, 107]⟩, .slice (some ⟨L5, 0, none⟩) 1 1] 30)) gb #[.int .i64 2, .int .i64 3, .int .i64 0, .string ⟨#[]⟩, .int .i64 2, .int .i64 0, .string ⟨#[97, 110, 110]⟩] 52) := HKB.out.later (below1 _ _)
          refine hK.out _ _ (below_step hH (below1 _ _)) (fun hH => ?_)
          clear hK K
          try simp only [Act.put, List.setIfInBounds_toArray, List.set_cons_zero, List.set_cons_succ]
          revert hH
          revert HKA
          revert HKB
          revert HKC
          revert HGC
          generalize V4.alloc (.cells #[.int .i64 0, .int .i64 0, .string ⟨#[]⟩, .string ⟨#[103, 111, 111, 100]⟩, .slice (some ⟨L3, 0, none⟩) 1 1, .int .i64 3, .int .i64 1, .string ⟨#[]⟩, .string ⟨#[111, 107]⟩, .slice (some ⟨L5, 0, none⟩) 1 1] 30) = V5
          generalize V4.heap.size = gc
          intro HGC HKC HKB HKA hH
          refine wpAnyH_take (i := 14) (oi := ⟨_, _, _, _, _, _⟩) (v := .agg #[.int .i64 0, .int .i64 0, .string ⟨#[]⟩, .string ⟨#[109, 97, 121]⟩, .slice (some ⟨L4, 0, none⟩) 1 1, .slice (some ⟨gc, 0, none⟩) 2 2, .slice none 0 0]) rfl (by kernel_rfl) (by kernel_rfl) (by kernel_rfl) (fun _ _ _ h => h) (Or.inl ⟨by rfl, fun w' h => by clear h; go_simp⟩) hH ?_
          simp only [Act.put, List.setIfInBounds_toArray, List.set_cons_zero, List.set_cons_succ]
          refine wpAnyH_ready (rs := [17]) (by kernel_rfl) (by simp) ?_
          refine (AllReadyH.cons (o := ⟨_, _, _, _, _, _⟩) rfl (fun K hK => ?_) AllReadyH.nil)
          go_simp
          have HKD : Hid (CBlk (V5.alloc (.cells #[.int .i64 0, .int .i64 0, .string ⟨#[]⟩, .string ⟨#[102, 114, 105, 101, 110, 100]⟩, .slice (some ⟨L1, 0, none⟩) 2 2, .slice none 0 0, .slice none 0 0, .int .i64 0, .int .i64 0, .string ⟨#[]⟩, .string ⟨#[103, 111, 111, 100]⟩, .slice (some ⟨L3, 0, none⟩) 1 1, .slice (some ⟨ga, 0, none⟩) 1 1, .slice (some ⟨gb, 0, none⟩) 1 1, .int .i64 0, .int .i64 0, .string ⟨#[]⟩, .string ⟨#[109, 97, 121]⟩, .slice (some ⟨L4, 0, none⟩) 1 1, .slice (some ⟨gc, 0, none⟩) 2 2, .slice none 0 0, .int .i64 2, .int .i64 0, .string ⟨#[99, 97, 114, 108]⟩, .string ⟨#[111, 107]⟩, .slice (some ⟨L6, 0, none⟩) 1 1, .slice none 0 0, .slice none 0 0] 50)) V5.heap.size #[.int .i64 0, .int .i64 0, .string ⟨#[]⟩, .string ⟨#[102, 114, 105, 101, 110, 100]⟩, .slice (some ⟨L1, 0, none⟩) 2 2, .slice none 0 0, .slice none 0 0, .int .i64 0, .int .i64 0, .string ⟨#[]⟩, .string ⟨#[103, 111, 111, 100]⟩, .slice (some ⟨L3, 0, none⟩) 1 1, .slice (some ⟨ga, 0, none⟩) 1 1, .slice (some ⟨gb, 0, none⟩) 1 1, .int .i64 0, .int .i64 0, .string ⟨#[]⟩, .string ⟨#[109, 97, 121]⟩, .slice (some ⟨L4, 0, none⟩) 1 1, .slice (some ⟨gc, 0, none⟩) 2 2, .slice none 0 0, .int .i64 2, .int .i64 0, .string ⟨#[99, 97, 114, 108]⟩, .string ⟨#[111, 107]⟩, .slice (some ⟨L6, 0, none⟩) 1 1, .slice none 0 0, .slice none 0 0] 50) := CBlk.new _ _ _
          have hgd : X6.heap.size ≤ V5.heap.size := hH.size
          refine hK.out _ _ (below_step hH (below1 _ _)) (fun hH => ?_)
          clear hK K
          try simp only [Act.put, List.setIfInBounds_toArray, List.set_cons_zero, List.set_cons_succ]
          refine wpAnyH_take (i := 18) (oi := ⟨_, _, _, _, _, _⟩) (v := .slice (some ⟨V5.heap.size, 0, none⟩) 4 4) rfl (by kernel_rfl) (by kernel_rfl) (by kernel_rfl) (fun _ _ _ h => h) (Or.inl ⟨by rfl, fun w' h => by clear h; go_simp⟩) hH ?_
          simp only [Act.put, List.setIfInBounds_toArray, List.set_cons_zero]
          refine wpAnyH_done (by kernel_rfl) ?_ _
          go_wp2_with fail
          exact bodyPost_ret (v := .slice (some ⟨V5.heap.size, 0, none⟩) 4 4) (by simp [results, Try.results6, go_sem]) rfl (four_fin (HT1.out.later hH) (HT2.out.later hH) (HT3.out.later hH) (HT4.out.later hH) (HT5.out.later hH) (HT6.out.later hH) (HKA.out.later (below1 _ _)) (HKB.out.later (below1 _ _)) (HKC.out.later (below1 _ _)) HKD.out (below_step HB6.out hH) HGA.out HGB.out HGC.out (Nat.le_trans HB6.out.size hgd))
        · go_simp
          have HKC : Hid (CBlk (V3.alloc (.cells #[.int .i64 0, .int .i64 0, .string ⟨#[]⟩, .string ⟨#[103, 111, 111, 100]⟩, .slice (some ⟨L3, 0, none⟩) 1 1, .int .i64 3, .int .i64 1, .string ⟨#[]⟩, .string ⟨#[111, 107]⟩, .slice (some ⟨L5, 0, none⟩) 1 1] 30)) V3.heap.size #[.int .i64 0, .int .i64 0, .string ⟨#[]⟩, .string ⟨#[103, 111, 111, 100]⟩, .slice (some ⟨L3, 0, none⟩) 1 1, .int .i64 3, .int .i64 1, .string ⟨#[]⟩, .string ⟨#[111, 107]⟩, .slice (some ⟨L5, 0, none⟩) 1 1] 30) := CBlk.new _ _ _
          have HGC : Hid (w.heap.size ≤ V3.heap.size) := Nat.le_trans HB6.out.size hH.size
          have HKA : Hid (CBlk (V3.alloc (.cells #[.int .i64 0, .int .i64 0, .string ⟨#[]⟩, .string ⟨#[103, 111, 111, 100]⟩, .slice (some ⟨L3, 0, none⟩) 1 1, .int .i64 3, .int .i64 1, .string ⟨#[]⟩, .string ⟨#[111, 107]⟩, .slice (some ⟨L5, 0, none⟩) 1 1] 30)) ga #[.int .i64 0, .int .i64 0, .string ⟨#[]⟩, .string ⟨#[102, 114, 105, 101, 110, 100]⟩, .slice (some ⟨L2, 0, none⟩) 2 2] 30) := HKA.out.later (below1 _ _)
          refine hK.out _ _ (below_step hH (below1 _ _)) (fun hH => ?_)
          clear hK K
          try simp only [Act.put, List.setIfInBounds_toArray, List.set_cons_zero, List.set_cons_succ]
          revert hH
          revert HKA
          revert HKC
          revert HGC
          generalize V3.alloc (.cells #[.int .i64 0, .int .i64 0, .string ⟨#[]⟩, .string ⟨#[103, 111, 111, 100]⟩, .slice (some ⟨L3, 0, none⟩) 1 1, .int .i64 3, .int .i64 1, .string ⟨#[]⟩, .string ⟨#[111, 107]⟩, .slice (some ⟨L5, 0, none⟩) 1 1] 30) = V6
          generalize V3.heap.size = gc
          intro HGC HKC HKA hH
          refine wpAnyH_take (i := 14) (oi := ⟨_, _, _, _, _, _⟩) (v := .agg #[.int .i64 0, .int .i64 0, .string ⟨#[]⟩, .string ⟨#[109, 97, 121]⟩, .slice (some ⟨L4, 0, none⟩) 1 1, .slice (some ⟨gc, 0, none⟩) 2 2, .slice none 0 0]) rfl (by kernel_rfl) (by kernel_rfl) (by kernel_rfl) (fun _ _ _ h => h) (Or.inl ⟨by rfl, fun w' h => by clear h; go_simp⟩) hH ?_
          simp only [Act.put, List.setIfInBounds_toArray, List.set_cons_zero, List.set_cons_succ]
          refine wpAnyH_ready (rs := [8]) (by kernel_rfl) (by simp) ?_
          refine (AllReadyH.cons (o := ⟨_, _, _, _, _, _⟩) rfl (fun K hK => ?_) AllReadyH.nil)
          go_simp
          have HKB : Hid (CBlk (V6.alloc (.cells #[.int .i64 2, .int .i64 3, .int .i64 0, .string ⟨#[]⟩, .int .i64 2, .int .i64 0, .string ⟨#[97, 110, 110]⟩] 52)) V6.heap.size #[.int .i64 2, .int .i64 3, .int .i64 0, .string ⟨#[]⟩, .int .i64 2, .int .i64 0, .string ⟨#[97, 110, 110]⟩] 52) := CBlk.new _ _ _
          have HGB : Hid (w.heap.size ≤ V6.heap.size) := Nat.le_trans HB6.out.size hH.size
          have HKA : Hid (CBlk (V6.alloc (.cells #[.int .i64 2, .int .i64 3, .int .i64 0, .string ⟨#[]⟩, .int .i64 2, .int .i64 0, .string ⟨#[97, 110, 110]⟩] 52)) ga #[.int .i64 0, .int .i64 0, .string ⟨#[]⟩, .string ⟨#[102, 114, 105, 101, 110, 100]⟩, .slice (some ⟨L2, 0, none⟩) 2 2] 30) := HKA.out.later (below1 _ _)
          have HKC : Hid (CBlk (V6.alloc (.cells #[.int .i64 2, .int .i64 3, .int .i64 0, .string ⟨#[]⟩, .int .i64 2, .int .i64 0, .string ⟨#[97, 110, 110]⟩] 52)) gc #[.int .i64 0, .int .i64 0, .string ⟨#[]⟩, .string ⟨#[103, 111, 111, 100]⟩, .slice (some ⟨L3, 0, none⟩) 1 1, .int .i64 3, .int .i64 1, .string ⟨#[]⟩, .string ⟨#[111, 107]⟩, .slice (some ⟨L5, 0, none⟩) 1 1] 30) := HKC.out.later (below1 _ _)
          refine hK.out _ _ (below_step hH (below1 _ _)) (fun hH => ?_)
          clear hK K
          try simp only [Act.put, List.setIfInBounds_toArray, List.set_cons_zero, List.set_cons_succ]
          revert hH
          revert HKA
          revert HKC
          revert HKB
          revert HGB
          generalize V6.alloc (.cells #[.int .i64 2, .int .i64 3, .int .i64 0, .string ⟨#[]⟩, .int .i64 2, .int .i64 0, .string ⟨#[97, 110, 110]⟩] 52) = V7
          generalize V6.heap.size = gb
          intro HGB HKB HKC HKA hH
          refine wpAnyH_take (i := 9) (oi := ⟨_, _, _, _, _, _⟩) (v := .agg #[.int .i64 0, .int .i64 0, .string ⟨#[]⟩, .string ⟨#[103, 111, 111, 100]⟩, .slice (some ⟨L3, 0, none⟩) 1 1, .slice (some ⟨ga, 0, none⟩) 1 1, .slice (some ⟨gb, 0, none⟩) 1 1]) rfl (by kernel_rfl) (by kernel_rfl) (by kernel_rfl) (fun _ _ _ h => h) (Or.inl ⟨by rfl, fun w' h => by clear h; go_simp⟩) hH ?_
          simp only [Act.put, List.setIfInBounds_toArray, List.set_cons_zero, List.set_cons_succ]
          refine wpAnyH_ready (rs := [17]) (by kernel_rfl) (by simp) ?_
          refine (AllReadyH.cons (o := ⟨_, _, _, _, _, _⟩) rfl (fun K hK => ?_) AllReadyH.nil)
          go_simp
          have HKD : Hid (CBlk (V7.alloc (.cells #[.int .i64 0, .int .i64 0, .string ⟨#[]⟩, .string ⟨#[102, 114, 105, 101, 110, 100]⟩, .slice (some ⟨L1, 0, none⟩) 2 2, .slice none 0 0, .slice none 0 0, .int .i64 0, .int .i64 0, .string ⟨#[]⟩, .string ⟨#[103, 111, 111, 100]⟩, .slice (some ⟨L3, 0, none⟩) 1 1, .slice (some ⟨ga, 0, none⟩) 1 1, .slice (some ⟨gb, 0, none⟩) 1 1, .int .i64 0, .int .i64 0, .string ⟨#[]⟩, .string ⟨#[109, 97, 121]⟩, .slice (some ⟨L4, 0, none⟩) 1 1, .slice (some ⟨gc, 0, none⟩) 2 2, .slice none 0 0, .int .i64 2, .int .i64 0, .string ⟨#[99, 97, 114, 108]⟩, .string ⟨#[111, 107]⟩, .slice (some ⟨L6, 0, none⟩) 1 1, .slice none 0 0, .slice none 0 0] 50)) V7.heap.size #[.int .i64 0, .int .i64 0, .string ⟨#[]⟩, .string ⟨#[102, 114, 105, 101, 110, 100]⟩, .slice (some ⟨L1, 0, none⟩) 2 2, .slice none 0 0, .slice none 0 0, .int .i64 0, .int .i64 0, .string ⟨#[]⟩, .string ⟨#[103, 111, 111, 100]⟩, .slice (some ⟨L3, 0, none⟩) 1 1, .slice (some ⟨ga, 0, none⟩) 1 1, .slice (some ⟨gb, 0, none⟩) 1 1, .int .i64 0, .int .i64 0, .string ⟨#[]⟩, .string ⟨#[109, 97, 121]⟩, .slice (some ⟨L4, 0, none⟩) 1 1, .slice (some ⟨gc, 0, none⟩) 2 2, .slice none 0 0, .int .i64 2, .int .i64 0, .string ⟨#[99, 97, 114, 108]⟩, .string ⟨#[111, 107]⟩, .slice (some ⟨L6, 0, none⟩) 1 1, .slice none 0 0, .slice none 0 0] 50) := CBlk.new _ _ _
          have hgd : X6.heap.size ≤ V7.heap.size := hH.size
          refine hK.out _ _ (below_step hH (below1 _ _)) (fun hH => ?_)
          clear hK K
          try simp only [Act.put, List.setIfInBounds_toArray, List.set_cons_zero, List.set_cons_succ]
          refine wpAnyH_take (i := 18) (oi := ⟨_, _, _, _, _, _⟩) (v := .slice (some ⟨V7.heap.size, 0, none⟩) 4 4) rfl (by kernel_rfl) (by kernel_rfl) (by kernel_rfl) (fun _ _ _ h => h) (Or.inl ⟨by rfl, fun w' h => by clear h; go_simp⟩) hH ?_
          simp only [Act.put, List.setIfInBounds_toArray, List.set_cons_zero]
          refine wpAnyH_done (by kernel_rfl) ?_ _
          go_wp2_with fail
          exact bodyPost_ret (v := .slice (some ⟨V7.heap.size, 0, none⟩) 4 4) (by simp [results, Try.results6, go_sem]) rfl (four_fin (HT1.out.later hH) (HT2.out.later hH) (HT3.out.later hH) (HT4.out.later hH) (HT5.out.later hH) (HT6.out.later hH) (HKA.out.later (below1 _ _)) (HKB.out.later (below1 _ _)) (HKC.out.later (below1 _ _)) HKD.out (below_step HB6.out hH) HGA.out HGB.out HGC.out (Nat.le_trans HB6.out.size hgd))
      · go_simp
        have HKC : Hid (CBlk (V2.alloc (.cells #[.int .i64 0, .int .i64 0, .string ⟨#[]⟩, .string ⟨#[103, 111, 111, 100]⟩, .slice (some ⟨L3, 0, none⟩) 1 1, .int .i64 3, .int .i64 1, .string ⟨#[]⟩, .string ⟨#[111, 107]⟩, .slice (some ⟨L5, 0, none⟩) 1 1] 30)) V2.heap.size #[.int .i64 0, .int .i64 0, .string ⟨#[]⟩, .string ⟨#[103, 111, 111, 100]⟩, .slice (some ⟨L3, 0, none⟩) 1 1, .int .i64 3, .int .i64 1, .string ⟨#[]⟩, .string ⟨#[111, 107]⟩, .slice (some ⟨L5, 0, none⟩) 1 1] 30) := CBlk.new _ _ _
        have HGC : Hid (w.heap.size ≤ V2.heap.size) := Nat.le_trans HB6.out.size hH.size
        have HKA : Hid (CBlk (V2.alloc (.cells #[.int .i64 0, .int .i64 0, .string ⟨#[]⟩, .string ⟨#[103, 111, 111, 100]⟩, .slice (some ⟨L3, 0, none⟩) 1 1, .int .i64 3, .int .i64 1, .string ⟨#[]⟩, .string ⟨#[111, 107]⟩, .slice (some ⟨L5, 0, none⟩) 1 1] 30)) ga #[.int .i64 0, .int .i64 0, .string ⟨#[]⟩, .string ⟨#[102, 114, 105, 101, 110, 100]⟩, .slice (some ⟨L2, 0, none⟩) 2 2] 30) := HKA.out.later (below1 _ _)
        refine hK.out _ _ (below_step hH (below1 _ _)) (fun hH => ?_)
        clear hK K
        try simp only [Act.put, List.setIfInBounds_toArray, List.set_cons_zero, List.set_cons_succ]
        revert hH
        revert HKA
        revert HKC
        revert HGC
        generalize V2.alloc (.cells #[.int .i64 0, .int .i64 0, .string ⟨#[]⟩, .string ⟨#[103, 111, 111, 100]⟩, .slice (some ⟨L3, 0, none⟩) 1 1, .int .i64 3, .int .i64 1, .string ⟨#[]⟩, .string ⟨#[111, 107]⟩, .slice (some ⟨L5, 0, none⟩) 1 1] 30) = V8
        generalize V2.heap.size = gc
        intro HGC HKC HKA hH
        refine wpAnyH_take (i := 14) (oi := ⟨_, _, _, _, _, _⟩) (v := .agg #[.int .i64 0, .int .i64 0, .string ⟨#[]⟩, .string ⟨#[109, 97, 121]⟩, .slice (some ⟨L4, 0, none⟩) 1 1, .slice (some ⟨gc, 0, none⟩) 2 2, .slice none 0 0]) rfl (by kernel_rfl) (by kernel_rfl) (by kernel_rfl) (fun _ _ _ h => h) (Or.inl ⟨by rfl, fun w' h => by clear h; go_simp⟩) hH ?_
        simp only [Act.put, List.setIfInBounds_toArray, List.set_cons_zero, List.set_cons_succ]
        refine wpAnyH_ready (rs := [6]) (by kernel_rfl) (by simp) ?_
        refine (AllReadyH.cons (o := ⟨_, _, _, _, _, _⟩) rfl (fun K hK => ?_) AllReadyH.nil)
        go_simp
        refine (text12_any _ _).mono ?_
        rintro e V9 ⟨rfl, hb⟩
        have HKA : Hid (CBlk V9 ga #[.int .i64 0, .int .i64 0, .string ⟨#[]⟩, .string ⟨#[102, 114, 105, 101, 110, 100]⟩, .slice (some ⟨L2, 0, none⟩) 2 2] 30) := HKA.out.later hb
        have HKC : Hid (CBlk V9 gc #[.int .i64 0, .int .i64 0, .string ⟨#[]⟩, .string ⟨#[103, 111, 111, 100]⟩, .slice (some ⟨L3, 0, none⟩) 1 1, .int .i64 3, .int .i64 1, .string ⟨#[]⟩, .string ⟨#[111, 107]⟩, .slice (some ⟨L5, 0, none⟩) 1 1] 30) := HKC.out.later hb
        refine hK.out _ _ (below_step hH hb) (fun hH => ?_)
        clear hK K hb
        try simp only [Act.put, List.setIfInBounds_toArray, List.set_cons_zero, List.set_cons_succ]
        refine wpAnyH_take (i := 7) (oi := ⟨_, _, _, _, _, _⟩) (v := .agg #[.int .i64 2, .int .i64 3, .int .i64 0, .string ⟨#[]⟩, .int .i64 2, .int .i64 0, .string ⟨#[97, 110, 110]⟩]) rfl (by kernel_rfl) (by kernel_rfl) (by kernel_rfl) (fun _ _ _ h => h) (Or.inl ⟨by rfl, fun w' h => by clear h; go_simp⟩) hH ?_
        simp only [Act.put, List.setIfInBounds_toArray, List.set_cons_zero, List.set_cons_succ]
        refine wpAnyH_ready (rs := [8]) (by kernel_rfl) (by simp) ?_
        refine (AllReadyH.cons (o := ⟨_, _, _, _, _, _⟩) rfl (fun K hK => ?_) AllReadyH.nil)
        go_simp
        have HKB : Hid (CBlk (V9.alloc (.cells #[.int .i64 2, .int .i64 3, .int .i64 0, .string ⟨#[]⟩, .int .i64 2, .int .i64 0, .string ⟨#[97, 110, 110]⟩] 52)) V9.heap.size #[.int .i64 2, .int .i64 3, .int .i64 0, .string ⟨#[]⟩, .int .i64 2, .int .i64 0, .string ⟨#[97, 110, 110]⟩] 52) := CBlk.new _ _ _
        have HGB : Hid (w.heap.size ≤ V9.heap.size) := Nat.le_trans HB6.out.size hH.size
        have HKA : Hid (CBlk (V9.alloc (.cells #[.int .i64 2, .int .i64 3, .int .i64 0, .string ⟨#[]⟩, .int .i64 2, .int .i64 0, .string ⟨#[97, 110, 110]⟩] 52)) ga #[.int .i64 0, .int .i64 0, .string ⟨#[]⟩, .string ⟨#[102, 114, 105, 101, 110, 100]⟩, .slice (some ⟨L2, 0, none⟩) 2 2] 30) := HKA.out.later (below1 _ _)
        have HKC : Hid (CBlk (V9.alloc (.cells #[.int .i64 2, .int .i64 3, .int .i64 0, .string ⟨#[]⟩, .int .i64 2, .int .i64 0, .string ⟨#[97, 110, 110]⟩] 52)) gc #[.int .i64 0, .int .i64 0, .string ⟨#[]⟩, .string ⟨#[103, 111, 111, 100]⟩, .slice (some ⟨L3, 0, none⟩) 1 1, .int .i64 3, .int .i64 1, .string ⟨#[]⟩, .string ⟨#[111, 107]⟩, .slice (some ⟨L5, 0, none⟩) 1 1] 30) := HKC.out.later (below1 _ _)
        refine hK.out _ _ (below_step hH (below1 _ _)) (fun hH => ?_)
        clear hK K
        try simp only [Act.put, List.setIfInBounds_toArray, List.set_cons_zero, List.set_cons_succ]
        revert hH
        revert HKA
        revert HKC
        revert HKB
        revert HGB
        generalize V9.alloc (.cells #[.int .i64 2, .int .i64 3, .int .i64 0, .string ⟨#[]⟩, .int .i64 2, .int .i64 0, .string ⟨#[97, 110, 110]⟩] 52) = V10
        generalize V9.heap.size = gb
        intro HGB HKB HKC HKA hH
        refine wpAnyH_take (i := 9) (oi := ⟨_, _, _, _, _, _⟩) (v := .agg #[.int .i64 0, .int .i64 0, .string ⟨#[]⟩, .string ⟨#[103, 111, 111, 100]⟩, .slice (some ⟨L3, 0, none⟩) 1 1, .slice (some ⟨ga, 0, none⟩) 1 1, .slice (some ⟨gb, 0, none⟩) 1 1]) rfl (by kernel_rfl) (by kernel_rfl) (by kernel_rfl) (fun _ _ _ h => h) (Or.inl ⟨by rfl, fun w' h => by clear h; go_simp⟩) hH ?_
        simp only [Act.put, List.setIfInBounds_toArray, List.set_cons_zero, List.set_cons_succ]
        refine wpAnyH_ready (rs := [17]) (by kernel_rfl) (by simp) ?_
        refine (AllReadyH.cons (o := ⟨_, _, _, _, _, _⟩) rfl (fun K hK => ?_) AllReadyH.nil)
        go_simp
        have HKD : Hid (CBlk (V10.alloc (.cells #[.int .i64 0, .int .i64 0, .string ⟨#[]⟩, .string ⟨#[102, 114, 105, 101, 110, 100]⟩, .slice (some ⟨L1, 0, none⟩) 2 2, .slice none 0 0, .slice none 0 0, .int .i64 0, .int .i64 0, .string ⟨#[]⟩, .string ⟨#[103, 111, 111, 100]⟩, .slice (some ⟨L3, 0, none⟩) 1 1, .slice (some ⟨ga, 0, none⟩) 1 1, .slice (some ⟨gb, 0, none⟩) 1 1, .int .i64 0, .int .i64 0, .string ⟨#[]⟩, .string ⟨#[109, 97, 121]⟩, .slice (some ⟨L4, 0, none⟩) 1 1, .slice (some ⟨gc, 0, none⟩) 2 2, .slice none 0 0, .int .i64 2, .int .i64 0, .string ⟨#[99, 97, 114, 108]⟩, .string ⟨#[111, 107]⟩, .slice (some ⟨L6, 0, none⟩) 1 1, .slice none 0 0, .slice none 0 0] 50)) V10.heap.size #[.int .i64 0, .int .i64 0, .string ⟨#[]⟩, .string ⟨#[102, 114, 105, 101, 110, 100]⟩, .slice (some ⟨L1, 0, none⟩) 2 2, .slice none 0 0, .slice none 0 0, .int .i64 0, .int .i64 0, .string ⟨#[]⟩, .string ⟨#[103, 111, 111, 100]⟩, .slice (some ⟨L3, 0, none⟩) 1 1, .slice (some ⟨ga, 0, none⟩) 1 1, .slice (some ⟨gb, 0, none⟩) 1 1, .int .i64 0, .int .i64 0, .string ⟨#[]⟩, .string ⟨#[109, 97, 121]⟩, .slice (some ⟨L4, 0, none⟩) 1 1, .slice (some ⟨gc, 0, none⟩) 2 2, .slice none 0 0, .int .i64 2, .int .i64 0, .string ⟨#[99, 97, 114, 108]⟩, .string ⟨#[111, 107]⟩, .slice (some ⟨L6, 0, none⟩) 1 1, .slice none 0 0, .slice none 0 0] 50) := CBlk.new _ _ _
        have hgd : X6.heap.size ≤ V10.heap.size := hH.size
        refine hK.out _ _ (below_step hH (below1 _ _)) (fun hH => ?_)
        clear hK K
        try simp only [Act.put, List.setIfInBounds_toArray, List.set_cons_zero, List.set_cons_succ]
        refine wpAnyH_take (i := 18) (oi := ⟨_, _, _, _, _, _⟩) (v := .slice (some ⟨V10.heap.size, 0, none⟩) 4 4) rfl (by kernel_rfl) (by kernel_rfl) (by kernel_rfl) (fun _ _ _ h => h) (Or.inl ⟨by rfl, fun w' h => by clear h; go_simp⟩) hH ?_
        simp only [Act.put, List.setIfInBounds_toArray, List.set_cons_zero]
        refine wpAnyH_done (by kernel_rfl) ?_ _
        go_wp2_with fail
        exact bodyPost_ret (v := .slice (some ⟨V10.heap.size, 0, none⟩) 4 4) (by simp [results, Try.results6, go_sem]) rfl (four_fin (HT1.out.later hH) (HT2.out.later hH) (HT3.out.later hH) (HT4.out.later hH) (HT5.out.later hH) (HT6.out.later hH) (HKA.out.later (below1 _ _)) (HKB.out.later (below1 _ _)) (HKC.out.later (below1 _ _)) HKD.out (below_step HB6.out hH) HGA.out HGB.out HGC.out (Nat.le_trans HB6.out.size hgd))
    · go_simp
      have HKC : Hid (CBlk (V1.alloc (.cells #[.int .i64 0, .int .i64 0, .string ⟨#[]⟩, .string ⟨#[103, 111, 111, 100]⟩, .slice (some ⟨L3, 0, none⟩) 1 1, .int .i64 3, .int .i64 1, .string ⟨#[]⟩, .string ⟨#[111, 107]⟩, .slice (some ⟨L5, 0, none⟩) 1 1] 30)) V1.heap.size #[.int .i64 0, .int .i64 0, .string ⟨#[]⟩, .string ⟨#[103, 111, 111, 100]⟩, .slice (some ⟨L3, 0, none⟩) 1 1, .int .i64 3, .int .i64 1, .string ⟨#[]⟩, .string ⟨#[111, 107]⟩, .slice (some ⟨L5, 0, none⟩) 1 1] 30) := CBlk.new _ _ _
      have HGC : Hid (w.heap.size ≤ V1.heap.size) := Nat.le_trans HB6.out.size hH.size
      have HKA : Hid (CBlk (V1.alloc (.cells #[.int .i64 0, .int .i64 0, .string ⟨#[]⟩, .string ⟨#[103, 111, 111, 100]⟩, .slice (some ⟨L3, 0, none⟩) 1 1, .int .i64 3, .int .i64 1, .string ⟨#[]⟩, .string ⟨#[111, 107]⟩, .slice (some ⟨L5, 0, none⟩) 1 1] 30)) ga #[.int .i64 0, .int .i64 0, .string ⟨#[]⟩, .string ⟨#[102, 114, 105, 101, 110, 100]⟩, .slice (some ⟨L2, 0, none⟩) 2 2] 30) := HKA.out.later (below1 _ _)
      refine hK.out _ _ (below_step hH (below1 _ _)) (fun hH => ?_)
      clear hK K
      try simp only [Act.put, List.setIfInBounds_toArray, List.set_cons_zero, List.set_cons_succ]
      revert hH
      revert HKA
      revert HKC
      revert HGC
      generalize V1.alloc (.cells #[.int .i64 0, .int .i64 0, .string ⟨#[]⟩, .string ⟨#[103, 111, 111, 100]⟩, .slice (some ⟨L3, 0, none⟩) 1 1, .int .i64 3, .int .i64 1, .string ⟨#[]⟩, .string ⟨#[111, 107]⟩, .slice (some ⟨L5, 0, none⟩) 1 1] 30) = V11
      generalize V1.heap.size = gc
      intro HGC HKC HKA hH
      refine wpAnyH_take (i := 14) (oi := ⟨_, _, _, _, _, _⟩) (v := .agg #[.int .i64 0, .int .i64 0, .string ⟨#[]⟩, .string ⟨#[109, 97, 121]⟩, .slice (some ⟨L4, 0, none⟩) 1 1, .slice (some ⟨gc, 0, none⟩) 2 2, .slice none 0 0]) rfl (by kernel_rfl) (by kernel_rfl) (by kernel_rfl) (fun _ _ _ h => h) (Or.inl ⟨by rfl, fun w' h => by clear h; go_simp⟩) hH ?_
      simp only [Act.put, List.setIfInBounds_toArray, List.set_cons_zero, List.set_cons_succ]
      refine wpAnyH_ready (rs := [5]) (by kernel_rfl) (by simp) ?_
      refine (AllReadyH.cons (o := ⟨_, _, _, _, _, _⟩) rfl (fun K hK => ?_) AllReadyH.nil)
      go_simp
      refine (var12_any _ _).mono ?_
      rintro e V12 ⟨rfl, hb⟩
      have HKA : Hid (CBlk V12 ga #[.int .i64 0, .int .i64 0, .string ⟨#[]⟩, .string ⟨#[102, 114, 105, 101, 110, 100]⟩, .slice (some ⟨L2, 0, none⟩) 2 2] 30) := HKA.out.later hb
      have HKC : Hid (CBlk V12 gc #[.int .i64 0, .int .i64 0, .string ⟨#[]⟩, .string ⟨#[103, 111, 111, 100]⟩, .slice (some ⟨L3, 0, none⟩) 1 1, .int .i64 3, .int .i64 1, .string ⟨#[]⟩, .string ⟨#[111, 107]⟩, .slice (some ⟨L5, 0, none⟩) 1 1] 30) := HKC.out.later hb
      refine hK.out _ _ (below_step hH hb) (fun hH => ?_)
      clear hK K hb
      try simp only [Act.put, List.setIfInBounds_toArray, List.set_cons_zero, List.set_cons_succ]
      refine wpAnyH_ready (rs := [6]) (by kernel_rfl) (by simp) ?_
      refine (AllReadyH.cons (o := ⟨_, _, _, _, _, _⟩) rfl (fun K hK => ?_) AllReadyH.nil)
      go_simp
      refine (text12_any _ _).mono ?_
      rintro e V13 ⟨rfl, hb⟩
      have HKA : Hid (CBlk V13 ga #[.int .i64 0, .int .i64 0, .string ⟨#[]⟩, .string ⟨#[102, 114, 105, 101, 110, 100]⟩, .slice (some ⟨L2, 0, none⟩) 2 2] 30) := HKA.out.later hb
      have HKC : Hid (CBlk V13 gc #[.int .i64 0, .int .i64 0, .string ⟨#[]⟩, .string ⟨#[103, 111, 111, 100]⟩, .slice (some ⟨L3, 0, none⟩) 1 1, .int .i64 3, .int .i64 1, .string ⟨#[]⟩, .string ⟨#[111, 107]⟩, .slice (some ⟨L5, 0, none⟩) 1 1] 30) := HKC.out.later hb
      refine hK.out _ _ (below_step hH hb) (fun hH => ?_)
      clear hK K hb
      try simp only [Act.put, List.setIfInBounds_toArray, List.set_cons_zero, List.set_cons_succ]
      refine wpAnyH_take (i := 7) (oi := ⟨_, _, _, _, _, _⟩) (v := .agg #[.int .i64 2, .int .i64 3, .int .i64 0, .string ⟨#[]⟩, .int .i64 2, .int .i64 0, .string ⟨#[97, 110, 110]⟩]) rfl (by kernel_rfl) (by kernel_rfl) (by kernel_rfl) (fun _ _ _ h => h) (Or.inl ⟨by rfl, fun w' h => by clear h; go_simp⟩) hH ?_
      simp only [Act.put, List.setIfInBounds_toArray, List.set_cons_zero, List.set_cons_succ]
      refine wpAnyH_ready (rs := [8]) (by kernel_rfl) (by simp) ?_
      refine (AllReadyH.cons (o := ⟨_, _, _, _, _, _⟩) rfl (fun K hK => ?_) AllReadyH.nil)
      go_simp
      have HKB : Hid (CBlk (V13.alloc (.cells #[.int .i64 2, .int .i64 3, .int .i64 0, .string ⟨#[]⟩, .int .i64 2, .int .i64 0, .string ⟨#[97, 110, 110]⟩] 52)) V13.heap.size #[.int .i64 2, .int .i64 3, .int .i64 0, .string ⟨#[]⟩, .int .i64 2, .int .i64 0, .string ⟨#[97, 110, 110]⟩] 52) := CBlk.new _ _ _
      have HGB : Hid (w.heap.size ≤ V13.heap.size) := Nat.le_trans HB6.out.size hH.size
      have HKA : Hid (CBlk (V13.alloc (.cells #[.int .i64 2, .int .i64 3, .int .i64 0, .string ⟨#[]⟩, .int .i64 2, .int .i64 0, .string ⟨#[97, 110, 110]⟩] 52)) ga #[.int .i64 0, .int .i64 0, .string ⟨#[]⟩, .string ⟨#[102, 114, 105, 101, 110, 100]⟩, .slice (some ⟨L2, 0, none⟩) 2 2] 30) := HKA.out.later (below1 _ _)
      have HKC : Hid (CBlk (V13.alloc (.cells #[.int .i64 2, .int .i64 3, .int .i64 0, .string ⟨#[]⟩, .int .i64 2, .int .i64 0, .string ⟨#[97, 110, 110]⟩] 52)) gc #[.int .i64 0, .int .i64 0, .string ⟨#[]⟩, .string ⟨#[103, 111, 111, 100]⟩, .slice (some ⟨L3, 0, none⟩) 1 1, .int .i64 3, .int .i64 1, .string ⟨#[]⟩, .string ⟨#[111, 107]⟩, .slice (some ⟨L5, 0, none⟩) 1 1] 30) := HKC.out.later (below1 _ _)
      refine hK.out _ _ (below_step hH (below1 _ _)) (fun hH => ?_)
      clear hK K
      try simp only [Act.put, List.setIfInBounds_toArray, List.set_cons_zero, List.set_cons_succ]
      revert hH
      revert HKA
      revert HKC
      revert HKB
      revert HGB
      generalize V13.alloc (.cells #[.int .i64 2, .int .i64 3, .int .i64 0, .string ⟨#[]⟩, .int .i64 2, .int .i64 0, .string ⟨#[97, 110, 110]⟩] 52) = V14
      generalize V13.heap.size = gb
      intro HGB HKB HKC HKA hH
      refine wpAnyH_take (i := 9) (oi := ⟨_, _, _, _, _, _⟩) (v := .agg #[.int .i64 0, .int .i64 0, .string ⟨#[]⟩, .string ⟨#[103, 111, 111, 100]⟩, .slice (some ⟨L3, 0, none⟩) 1 1, .slice (some ⟨ga, 0, none⟩) 1 1, .slice (some ⟨gb, 0, none⟩) 1 1]) rfl (by kernel_rfl) (by kernel_rfl) (by kernel_rfl) (fun _ _ _ h => h) (Or.inl ⟨by rfl, fun w' h => by clear h; go_simp⟩) hH ?_
      simp only [Act.put, List.setIfInBounds_toArray, List.set_cons_zero, List.set_cons_succ]
      refine wpAnyH_ready (rs := [17]) (by kernel_rfl) (by simp) ?_
      refine (AllReadyH.cons (o := ⟨_, _, _, _, _, _⟩) rfl (fun K hK => ?_) AllReadyH.nil)
      go_simp
      have HKD : Hid (CBlk (V14.alloc (.cells #[.int .i64 0, .int .i64 0, .string ⟨#[]⟩, .string ⟨#[102, 114, 105, 101, 110, 100]⟩, .slice (some ⟨L1, 0, none⟩) 2 2, .slice none 0 0, .slice none 0 0, .int .i64 0, .int .i64 0, .string ⟨#[]⟩, .string ⟨#[103, 111, 111, 100]⟩, .slice (some ⟨L3, 0, none⟩) 1 1, .slice (some ⟨ga, 0, none⟩) 1 1, .slice (some ⟨gb, 0, none⟩) 1 1, .int .i64 0, .int .i64 0, .string ⟨#[]⟩, .string ⟨#[109, 97, 121]⟩, .slice (some ⟨L4, 0, none⟩) 1 1, .slice (some ⟨gc, 0, none⟩) 2 2, .slice none 0 0, .int .i64 2, .int .i64 0, .string ⟨#[99, 97, 114, 108]⟩, .string ⟨#[111, 107]⟩, .slice (some ⟨L6, 0, none⟩) 1 1, .slice none 0 0, .slice none 0 0] 50)) V14.heap.size #[.int .i64 0, .int .i64 0, .string ⟨#[]⟩, .string ⟨#[102, 114, 105, 101, 110, 100]⟩, .slice (some ⟨L1, 0, none⟩) 2 2, .slice none 0 0, .slice none 0 0, .int .i64 0, .int .i64 0, .string ⟨#[]⟩, .string ⟨#[103, 111, 111, 100]⟩, .slice (some ⟨L3, 0, none⟩) 1 1, .slice (some ⟨ga, 0, none⟩) 1 1, .slice (some ⟨gb, 0, none⟩) 1 1, .int .i64 0, .int .i64 0, .string ⟨#[]⟩, .string ⟨#[109, 97, 121]⟩, .slice (some ⟨L4, 0, none⟩) 1 1, .slice (some ⟨gc, 0, none⟩) 2 2, .slice none 0 0, .int .i64 2, .int .i64 0, .string ⟨#[99, 97, 114, 108]⟩, .string ⟨#[111, 107]⟩, .slice (some ⟨L6, 0, none⟩) 1 1, .slice none 0 0, .slice none 0 0] 50) := CBlk.new _ _ _
      have hgd : X6.heap.size ≤ V14.heap.size := hH.size
      refine hK.out _ _ (below_step hH (below1 _ _)) (fun hH => ?_)
      clear hK K
      try simp only [Act.put, List.setIfInBounds_toArray, List.set_cons_zero, List.set_cons_succ]
      refine wpAnyH_take (i := 18) (oi := ⟨_, _, _, _, _, _⟩) (v := .slice (some ⟨V14.heap.size, 0, none⟩) 4 4) rfl (by kernel_rfl) (by kernel_rfl) (by kernel_rfl) (fun _ _ _ h => h) (Or.inl ⟨by rfl, fun w' h => by clear h; go_simp⟩) hH ?_
      simp only [Act.put, List.setIfInBounds_toArray, List.set_cons_zero]
      refine wpAnyH_done (by kernel_rfl) ?_ _
      go_wp2_with fail
      exact bodyPost_ret (v := .slice (some ⟨V14.heap.size, 0, none⟩) 4 4) (by simp [results, Try.results6, go_sem]) rfl (four_fin (HT1.out.later hH) (HT2.out.later hH) (HT3.out.later hH) (HT4.out.later hH) (HT5.out.later hH) (HT6.out.later hH) (HKA.out.later (below1 _ _)) (HKB.out.later (below1 _ _)) (HKC.out.later (below1 _ _)) HKD.out (below_step HB6.out hH) HGA.out HGB.out HGC.out (Nat.le_trans HB6.out.size hgd))
  · go_simp
    refine (var12_any _ _).mono ?_
    rintro e V15 ⟨rfl, hb⟩
    refine hK.out _ _ (below_step hH hb) (fun hH => ?_)
    clear hK K hb
    try simp only [Act.put, List.setIfInBounds_toArray, List.set_cons_zero, List.set_cons_succ]
    refine wpAnyH_ready (rs := [4, 6, 13]) (by kernel_rfl) (by simp) ?_
    refine (AllReadyH.cons (o := ⟨_, _, _, _, _, _⟩) rfl (fun K hK => ?_) (AllReadyH.cons (o := ⟨_, _, _, _, _, _⟩) rfl (fun K hK => ?_) (AllReadyH.cons (o := ⟨_, _, _, _, _, _⟩) rfl (fun K hK => ?_) AllReadyH.nil)))
    · go_simp
      have HKA : Hid (CBlk (V15.alloc (.cells #[.int .i64 0, .int .i64 0, .string ⟨#[]⟩, .string ⟨#[102, 114, 105, 101, 110, 100]⟩, .slice (some ⟨L2, 0, none⟩) 2 2] 30)) V15.heap.size #[.int .i64 0, .int .i64 0, .string ⟨#[]⟩, .string ⟨#[102, 114, 105, 101, 110, 100]⟩, .slice (some ⟨L2, 0, none⟩) 2 2] 30) := CBlk.new _ _ _
      have HGA : Hid (w.heap.size ≤ V15.heap.size) := Nat.le_trans HB6.out.size hH.size
      refine hK.out _ _ (below_step hH (below1 _ _)) (fun hH => ?_)
      clear hK K
      try simp only [Act.put, List.setIfInBounds_toArray, List.set_cons_zero, List.set_cons_succ]
      revert hH
      revert HKA
      revert HGA
      generalize V15.alloc (.cells #[.int .i64 0, .int .i64 0, .string ⟨#[]⟩, .string ⟨#[102, 114, 105, 101, 110, 100]⟩, .slice (some ⟨L2, 0, none⟩) 2 2] 30) = V16
      generalize V15.heap.size = ga
      intro HGA HKA  hH
      refine wpAnyH_ready (rs := [6, 13]) (by kernel_rfl) (by simp) ?_
      refine (AllReadyH.cons (o := ⟨_, _, _, _, _, _⟩) rfl (fun K hK => ?_) (AllReadyH.cons (o := ⟨_, _, _, _, _, _⟩) rfl (fun K hK => ?_) AllReadyH.nil))
      · go_simp
        refine (text12_any _ _).mono ?_
        rintro e V17 ⟨rfl, hb⟩
        have HKA : Hid (CBlk V17 ga #[.int .i64 0, .int .i64 0, .string ⟨#[]⟩, .string ⟨#[102, 114, 105, 101, 110, 100]⟩, .slice (some ⟨L2, 0, none⟩) 2 2] 30) := HKA.out.later hb
        refine hK.out _ _ (below_step hH hb) (fun hH => ?_)
        clear hK K hb
        try simp only [Act.put, List.setIfInBounds_toArray, List.set_cons_zero, List.set_cons_succ]
        refine wpAnyH_take (i := 7) (oi := ⟨_, _, _, _, _, _⟩) (v := .agg #[.int .i64 2, .int .i64 3, .int .i64 0, .string ⟨#[]⟩, .int .i64 2, .int .i64 0, .string ⟨#[97, 110, 110]⟩]) rfl (by kernel_rfl) (by kernel_rfl) (by kernel_rfl) (fun _ _ _ h => h) (Or.inl ⟨by rfl, fun w' h => by clear h; go_simp⟩) hH ?_
        simp only [Act.put, List.setIfInBounds_toArray, List.set_cons_zero, List.set_cons_succ]
        refine wpAnyH_ready (rs := [8, 13]) (by kernel_rfl) (by simp) ?_
        refine (AllReadyH.cons (o := ⟨_, _, _, _, _, _⟩) rfl (fun K hK => ?_) (AllReadyH.cons (o := ⟨_, _, _, _, _, _⟩) rfl (fun K hK => ?_) AllReadyH.nil))
        · go_simp
          have HKB : Hid (CBlk (V17.alloc (.cells #[.int .i64 2, .int .i64 3, .int .i64 0, .string ⟨#[]⟩, .int .i64 2, .int .i64 0, .string ⟨#[97, 110, 110]⟩] 52)) V17.heap.size #[.int .i64 2, .int .i64 3, .int .i64 0, .string ⟨#[]⟩, .int .i64 2, .int .i64 0, .string ⟨#[97, 110, 110]⟩] 52) := CBlk.new _ _ _
          have HGB : Hid (w.heap.size ≤ V17.heap.size) := Nat.le_trans HB6.out.size hH.size
          have HKA : Hid (CBlk (V17.alloc (.cells #[.int .i64 2, .int .i64 3, .int .i64 0, .string ⟨#[]⟩, .int .i64 2, .int .i64 0, .string ⟨#[97, 110, 110]⟩] 52)) ga #[.int .i64 0, .int .i64 0, .string ⟨#[]⟩, .string ⟨#[102, 114, 105, 101, 110, 100]⟩, .slice (some ⟨L2, 0, none⟩) 2 2] 30) := HKA.out.later (below1 _ _)
          refine hK.out _ _ (below_step hH (below1 _ _)) (fun hH => ?_)
          clear hK K
          try simp only [Act.put, List.setIfInBounds_toArray, List.set_cons_zero, List.set_cons_succ]
          revert hH
          revert HKA
          revert HKB
          revert HGB
          generalize V17.alloc (.cells #[.int .i64 2, .int .i64 3, .int .i64 0, .string ⟨#[]⟩, .int .i64 2, .int .i64 0, .string ⟨#[97, 110, 110]⟩] 52) = V18
          generalize V17.heap.size = gb
          intro HGB HKB HKA hH
          refine wpAnyH_take (i := 9) (oi := ⟨_, _, _, _, _, _⟩) (v := .agg #[.int .i64 0, .int .i64 0, .string ⟨#[]⟩, .string ⟨#[103, 111, 111, 100]⟩, .slice (some ⟨L3, 0, none⟩) 1 1, .slice (some ⟨ga, 0, none⟩) 1 1, .slice (some ⟨gb, 0, none⟩) 1 1]) rfl (by kernel_rfl) (by kernel_rfl) (by kernel_rfl) (fun _ _ _ h => h) (Or.inl ⟨by rfl, fun w' h => by clear h; go_simp⟩) hH ?_
          simp only [Act.put, List.setIfInBounds_toArray, List.set_cons_zero, List.set_cons_succ]
          refine wpAnyH_ready (rs := [13]) (by kernel_rfl) (by simp) ?_
          refine (AllReadyH.cons (o := ⟨_, _, _, _, _, _⟩) rfl (fun K hK => ?_) AllReadyH.nil)
          go_simp
          have HKC : Hid (CBlk (V18.alloc (.cells #[.int .i64 0, .int .i64 0, .string ⟨#[]⟩, .string ⟨#[103, 111, 111, 100]⟩, .slice (some ⟨L3, 0, none⟩) 1 1, .int .i64 3, .int .i64 1, .string ⟨#[]⟩, .string ⟨#[111, 107]⟩, .slice (some ⟨L5, 0, none⟩) 1 1] 30)) V18.heap.size #[.int .i64 0, .int .i64 0, .string ⟨#[]⟩, .string ⟨#[103, 111, 111, 100]⟩, .slice (some ⟨L3, 0, none⟩) 1 1, .int .i64 3, .int .i64 1, .string ⟨#[]⟩, .string ⟨#[111, 107]⟩, .slice (some ⟨L5, 0, none⟩) 1 1] 30) := CBlk.new _ _ _
          have HGC : Hid (w.heap.size ≤ V18.heap.size) := Nat.le_trans HB6.out.size hH.size
          have HKA : Hid (CBlk (V18.alloc (.cells #[.int .i64 0, .int .i64 0, .string ⟨#[]⟩, .string ⟨#[103, 111, 111, 100]⟩, .slice (some ⟨L3, 0, none⟩) 1 1, .int .i64 3, .int .i64 1, .string ⟨#[]⟩, .string ⟨#[111, 107]⟩, .slice (some ⟨L5, 0, none⟩) 1 1] 30)) ga #[.int .i64 0, .int .i64 0, .string ⟨#[]⟩, .string ⟨#[102, 114, 105, 101, 110, 100]⟩, .slice (some ⟨L2, 0, none⟩) 2 2] 30) := HKA.out.later (below1 _ _)
          have HKB : Hid (CBlk (V18.alloc (.cells #[.int .i64 0, .int .i64 0, .string ⟨#[]⟩, .string ⟨#[103, 111, 111, 100]⟩, .slice (some ⟨L3, 0, none⟩) 1 1, .int .i64 3, .int .i64 1, .string ⟨#[]⟩, .string ⟨#[111, 107]⟩, .slice (some ⟨L5, 0, none⟩) 1 1] 30)) gb #[.int .i64 2, .int .i64 3, .int .i64 0, .string ⟨#[]⟩, .int .i64 2, .int .i64 0, .string ⟨#[97, 110, 110]⟩] 52) := HKB.out.later (below1 _ _)
          refine hK.out _ _ (below_step hH (below1 _ _)) (fun hH => ?_)
          clear hK K
          try simp only [Act.put, List.setIfInBounds_toArray, List.set_cons_zero, List.set_cons_succ]
          revert hH
          revert HKA
          revert HKB
          revert HKC
          revert HGC
          generalize V18.alloc (.cells #[.int .i64 0, .int .i64 0, .string ⟨#[]⟩, .string ⟨#[103, 111, 111, 100]⟩, .slice (some ⟨L3, 0, none⟩) 1 1, .int .i64 3, .int .i64 1, .string ⟨#[]⟩, .string ⟨#[111, 107]⟩, .slice (some ⟨L5, 0, none⟩) 1 1] 30) = V19
          generalize V18.heap.size = gc
          intro HGC HKC HKB HKA hH
          refine wpAnyH_take (i := 14) (oi := ⟨_, _, _, _, _, _⟩) (v := .agg #[.int .i64 0, .int .i64 0, .string ⟨#[]⟩, .string ⟨#[109, 97, 121]⟩, .slice (some ⟨L4, 0, none⟩) 1 1, .slice (some ⟨gc, 0, none⟩) 2 2, .slice none 0 0]) rfl (by kernel_rfl) (by kernel_rfl) (by kernel_rfl) (fun _ _ _ h => h) (Or.inl ⟨by rfl, fun w' h => by clear h; go_simp⟩) hH ?_
          simp only [Act.put, List.setIfInBounds_toArray, List.set_cons_zero, List.set_cons_succ]
          refine wpAnyH_ready (rs := [17]) (by kernel_rfl) (by simp) ?_
          refine (AllReadyH.cons (o := ⟨_, _, _, _, _, _⟩) rfl (fun K hK => ?_) AllReadyH.nil)
          go_simp
          have HKD : Hid (CBlk (V19.alloc (.cells #[.int .i64 0, .int .i64 0, .string ⟨#[]⟩, .string ⟨#[102, 114, 105, 101, 110, 100]⟩, .slice (some ⟨L1, 0, none⟩) 2 2, .slice none 0 0, .slice none 0 0, .int .i64 0, .int .i64 0, .string ⟨#[]⟩, .string ⟨#[103, 111, 111, 100]⟩, .slice (some ⟨L3, 0, none⟩) 1 1, .slice (some ⟨ga, 0, none⟩) 1 1, .slice (some ⟨gb, 0, none⟩) 1 1, .int .i64 0, .int .i64 0, .string ⟨#[]⟩, .string ⟨#[109, 97, 121]⟩, .slice (some ⟨L4, 0, none⟩) 1 1, .slice (some ⟨gc, 0, none⟩) 2 2, .slice none 0 0, .int .i64 2, .int .i64 0, .string ⟨#[99, 97, 114, 108]⟩, .string ⟨#[111, 107]⟩, .slice (some ⟨L6, 0, none⟩) 1 1, .slice none 0 0, .slice none 0 0] 50)) V19.heap.size #[.int .i64 0, .int .i64 0, .string ⟨#[]⟩, .string ⟨#[102, 114, 105, 101, 110, 100]⟩, .slice (some ⟨L1, 0, none⟩) 2 2, .slice none 0 0, .slice none 0 0, .int .i64 0, .int .i64 0, .string ⟨#[]⟩, .string ⟨#[103, 111, 111, 100]⟩, .slice (some ⟨L3, 0, none⟩) 1 1, .slice (some ⟨ga, 0, none⟩) 1 1, .slice (some ⟨gb, 0, none⟩) 1 1, .int .i64 0, .int .i64 0, .string ⟨#[]⟩, .string ⟨#[109, 97, 121]⟩, .slice (some ⟨L4, 0, none⟩) 1 1, .slice (some ⟨gc, 0, none⟩) 2 2, .slice none 0 0, .int .i64 2, .int .i64 0, .string ⟨#[99, 97, 114, 108]⟩, .string ⟨#[111, 107]⟩, .slice (some ⟨L6, 0, none⟩) 1 1, .slice none 0 0, .slice none 0 0] 50) := CBlk.new _ _ _
          have hgd : X6.heap.size ≤ V19.heap.size := hH.size
          refine hK.out _ _ (below_step hH (below1 _ _)) (fun hH => ?_)
          clear hK K
          try simp only [Act.put, List.setIfInBounds_toArray, List.set_cons_zero, List.set_cons_succ]
          refine wpAnyH_take (i := 18) (oi := ⟨_, _, _, _, _, _⟩) (v := .slice (some ⟨V19.heap.size, 0, none⟩) 4 4) rfl (by kernel_rfl) (by kernel_rfl) (by kernel_rfl) (fun _ _ _ h => h) (Or.inl ⟨by rfl, fun w' h => by clear h; go_simp⟩) hH ?_
          simp only [Act.put, List.setIfInBounds_toArray, List.set_cons_zero]
          refine wpAnyH_done (by kernel_rfl) ?_ _
          go_wp2_with fail
          exact bodyPost_ret (v := .slice (some ⟨V19.heap.size, 0, none⟩) 4 4) (by simp [results, Try.results6, go_sem]) rfl (four_fin (HT1.out.later hH) (HT2.out.later hH) (HT3.out.later hH) (HT4.out.later hH) (HT5.out.later hH) (HT6.out.later hH) (HKA.out.later (below1 _ _)) (HKB.out.later (below1 _ _)) (HKC.out.later (below1 _ _)) HKD.out (below_step HB6.out hH) HGA.out HGB.out HGC.out (Nat.le_trans HB6.out.size hgd))
        · go_simp
          have HKC : Hid (CBlk (V17.alloc (.cells #[.int .i64 0, .int .i64 0, .string ⟨#[]⟩, .string ⟨#[103, 111, 111, 100]⟩, .slice (some ⟨L3, 0, none⟩) 1 1, .int .i64 3, .int .i64 1, .string ⟨#[]⟩, .string ⟨#[111, 107]⟩, .slice (some ⟨L5, 0, none⟩) 1 1] 30)) V17.heap.size #[.int .i64 0, .int .i64 0, .string ⟨#[]⟩, .string ⟨#[103, 111, 111, 100]⟩, .slice (some ⟨L3, 0, none⟩) 1 1, .int .i64 3, .int .i64 1, .string ⟨#[]⟩, .string ⟨#[111, 107]⟩, .slice (some ⟨L5, 0, none⟩) 1 1] 30) := CBlk.new _ _ _
          have HGC : Hid (w.heap.size ≤ V17.heap.size) := Nat.le_trans HB6.out.size hH.size
          have HKA : Hid (CBlk (V17.alloc (.cells #[.int .i64 0, .int .i64 0, .string ⟨#[]⟩, .string ⟨#[103, 111, 111, 100]⟩, .slice (some ⟨L3, 0, none⟩) 1 1, .int .i64 3, .int .i64 1, .string ⟨#[]⟩, .string ⟨#[111, 107]⟩, .slice (some ⟨L5, 0, none⟩) 1 1] 30)) ga #[.int .i64 0, .int .i64 0, .string ⟨#[]⟩, .string ⟨#[102, 114, 105, 101, 110, 100]⟩, .slice (some ⟨L2, 0, none⟩) 2 2] 30) := HKA.out.later (below1 _ _)
          refine hK.out _ _ (below_step hH (below1 _ _)) (fun hH => ?_)
          clear hK K
          try simp only [Act.put, List.setIfInBounds_toArray, List.set_cons_zero, List.set_cons_succ]
          revert hH
          revert HKA
          revert HKC
          revert HGC
          generalize V17.alloc (.cells #[.int .i64 0, .int .i64 0, .string ⟨#[]⟩, .string ⟨#[103, 111, 111, 100]⟩, .slice (some ⟨L3, 0, none⟩) 1 1, .int .i64 3, .int .i64 1, .string ⟨#[]⟩, .string ⟨#[111, 107]⟩, .slice (some ⟨L5, 0, none⟩) 1 1] 30) = V20
          generalize V17.heap.size = gc
          intro HGC HKC HKA hH
          refine wpAnyH_take (i := 14) (oi := ⟨_, _, _, _, _, _⟩) (v := .agg #[.int .i64 0, .int .i64 0, .string ⟨#[]⟩, .string ⟨#[109, 97, 121]⟩, .slice (some ⟨L4, 0, none⟩) 1 1, .slice (some ⟨gc, 0, none⟩) 2 2, .slice none 0 0]) rfl (by kernel_rfl) (by kernel_rfl) (by kernel_rfl) (fun _ _ _ h => h) (Or.inl ⟨by rfl, fun w' h => by clear h; go_simp⟩) hH ?_
          simp only [Act.put, List.setIfInBounds_toArray, List.set_cons_zero, List.set_cons_succ]
          refine wpAnyH_ready (rs := [8]) (by kernel_rfl) (by simp) ?_
          refine (AllReadyH.cons (o := ⟨_, _, _, _, _, _⟩) rfl (fun K hK => ?_) AllReadyH.nil)
          go_simp
          have HKB : Hid (CBlk (V20.alloc (.cells #[.int .i64 2, .int .i64 3, .int .i64 0, .string ⟨#[]⟩, .int .i64 2, .int .i64 0, .string ⟨#[97, 110, 110]⟩] 52)) V20.heap.size #[.int .i64 2, .int .i64 3, .int .i64 0, .string ⟨#[]⟩, .int .i64 2, .int .i64 0, .string ⟨#[97, 110, 110]⟩] 52) := CBlk.new _ _ _
          have HGB : Hid (w.heap.size ≤ V20.heap.size) := Nat.le_trans HB6.out.size hH.size
          have HKA : Hid (CBlk (V20.alloc (.cells #[.int .i64 2, .int .i64 3, .int .i64 0, .string ⟨#[]⟩, .int .i64 2, .int .i64 0, .string ⟨#[97, 110, 110]⟩] 52)) ga #[.int .i64 0, .int .i64 0, .string ⟨#[]⟩, .string ⟨#[102, 114, 105, 101, 110, 100]⟩, .slice (some ⟨L2, 0, none⟩) 2 2] 30) := HKA.out.later (below1 _ _)
          have HKC : Hid (CBlk (V20.alloc (.cells #[.int .i64 2, .int .i64 3, .int .i64 0, .string ⟨#[]⟩, .int .i64 2, .int .i64 0, .string ⟨#[97, 110, 110]⟩] 52)) gc #[.int .i64 0, .int .i64 0, .string ⟨#[]⟩, .string ⟨#[103, 111, 111, 100]⟩, .slice (some ⟨L3, 0, none⟩) 1 1, .int .i64 3, .int .i64 1, .string ⟨#[]⟩, .string ⟨#[111, 107]⟩, .slice (some ⟨L5, 0, none⟩) 1 1] 30) := HKC.out.later (below1 _ _)
          refine hK.out _ _ (below_step hH (below1 _ _)) (fun hH => ?_)
          clear hK K
          try simp only [Act.put, List.setIfInBounds_toArray, List.set_cons_zero, List.set_cons_succ]
          revert hH
          revert HKA
          revert HKC
          revert HKB
          revert HGB
          generalize V20.alloc (.cells #[.int .i64 2, .int .i64 3, .int .i64 0, .string ⟨#[]⟩, .int .i64 2, .int .i64 0, .string ⟨#[97, 110, 110]⟩] 52) = V21
          generalize V20.heap.size = gb
          intro HGB HKB HKC HKA hH
          refine wpAnyH_take (i := 9) (oi := ⟨_, _, _, _, _, _⟩) (v := .agg #[.int .i64 0, .int .i64 0, .string ⟨#[]⟩, .string ⟨#[103, 111, 111, 100]⟩, .slice (some ⟨L3, 0, none⟩) 1 1, .slice (some ⟨ga, 0, none⟩) 1 1, .slice (some ⟨gb, 0, none⟩) 1 1]) rfl (by kernel_rfl) (by kernel_rfl) (by kernel_rfl) (fun _ _ _ h => h) (Or.inl ⟨by rfl, fun w' h => by clear h; go_simp⟩) hH ?_
          simp only [Act.put, List.setIfInBounds_toArray, List.set_cons_zero, List.set_cons_succ]
          refine wpAnyH_ready (rs := [17]) (by kernel_rfl) (by simp) ?_
          refine (AllReadyH.cons (o := ⟨_, _, _, _, _, _⟩) rfl (fun K hK => ?_) AllReadyH.nil)
          go_simp
          have HKD : Hid (CBlk (V21.alloc (.cells #[.int .i64 0, .int .i64 0, .string ⟨#[]⟩, .string ⟨#[102, 114, 105, 101, 110, 100]⟩, .slice (some ⟨L1, 0, none⟩) 2 2, .slice none 0 0, .slice none 0 0, .int .i64 0, .int .i64 0, .string ⟨#[]⟩, .string ⟨#[103, 111, 111, 100]⟩, .slice (some ⟨L3, 0, none⟩) 1 1, .slice (some ⟨ga, 0, none⟩) 1 1, .slice (some ⟨gb, 0, none⟩) 1 1, .int .i64 0, .int .i64 0, .string ⟨#[]⟩, .string ⟨#[109, 97, 121]⟩, .slice (some ⟨L4, 0, none⟩) 1 1, .slice (some ⟨gc, 0, none⟩) 2 2, .slice none 0 0, .int .i64 2, .int .i64 0, .string ⟨#[99, 97, 114, 108]⟩, .string ⟨#[111, 107]⟩, .slice (some ⟨L6, 0, none⟩) 1 1, .slice none 0 0, .slice none 0 0] 50)) V21.heap.size #[.int .i64 0, .int .i64 0, .string ⟨#[]⟩, .string ⟨#[102, 114, 105, 101, 110, 100]⟩, .slice (some ⟨L1, 0, none⟩) 2 2, .slice none 0 0, .slice none 0 0, .int .i64 0, .int .i64 0, .string ⟨#[]⟩, .string ⟨#[103, 111, 111, 100]⟩, .slice (some ⟨L3, 0, none⟩) 1 1, .slice (some ⟨ga, 0, none⟩) 1 1, .slice (some ⟨gb, 0, none⟩) 1 1, .int .i64 0, .int .i64 0, .string ⟨#[]⟩, .string ⟨#[109, 97, 121]⟩, .slice (some ⟨L4, 0, none⟩) 1 1, .slice (some ⟨gc, 0, none⟩) 2 2, .slice none 0 0, .int .i64 2, .int .i64 0, .string ⟨#[99, 97, 114, 108]⟩, .string ⟨#[111, 107]⟩, .slice (some ⟨L6, 0, none⟩) 1 1, .slice none 0 0, .slice none 0 0] 50) := CBlk.new _ _ _
          have hgd : X6.heap.size ≤ V21.heap.size := hH.size
          refine hK.out _ _ (below_step hH (below1 _ _)) (fun hH => ?_)
          clear hK K
          try simp only [Act.put, List.setIfInBounds_toArray, List.set_cons_zero, List.set_cons_succ]
          refine wpAnyH_take (i := 18) (oi := ⟨_, _, _, _, _, _⟩) (v := .slice (some ⟨V21.heap.size, 0, none⟩) 4 4) rfl (by kernel_rfl) (by kernel_rfl) (by kernel_rfl) (fun _ _ _ h => h) (Or.inl ⟨by rfl, fun w' h => by clear h; go_simp⟩) hH ?_
          simp only [Act.put, List.setIfInBounds_toArray, List.set_cons_zero]
          refine wpAnyH_done (by kernel_rfl) ?_ _
          go_wp2_with fail
          exact bodyPost_ret (v := .slice (some ⟨V21.heap.size, 0, none⟩) 4 4) (by simp [results, Try.results6, go_sem]) rfl (four_fin (HT1.out.later hH) (HT2.out.later hH) (HT3.out.later hH) (HT4.out.later hH) (HT5.out.later hH) (HT6.out.later hH) (HKA.out.later (below1 _ _)) (HKB.out.later (below1 _ _)) (HKC.out.later (below1 _ _)) HKD.out (below_step HB6.out hH) HGA.out HGB.out HGC.out (Nat.le_trans HB6.out.size hgd))
      · go_simp
        have HKC : Hid (CBlk (V16.alloc (.cells #[.int .i64 0, .int .i64 0, .string ⟨#[]⟩, .string ⟨#[103, 111, 111, 100]⟩, .slice (some ⟨L3, 0, none⟩) 1 1, .int .i64 3, .int .i64 1, .string ⟨#[]⟩, .string ⟨#[111, 107]⟩, .slice (some ⟨L5, 0, none⟩) 1 1] 30)) V16.heap.size #[.int .i64 0, .int .i64 0, .string ⟨#[]⟩, .string ⟨#[103, 111, 111, 100]⟩, .slice (some ⟨L3, 0, none⟩) 1 1, .int .i64 3, .int .i64 1, .string ⟨#[]⟩, .string ⟨#[111, 107]⟩, .slice (some ⟨L5, 0, none⟩) 1 1] 30) := CBlk.new _ _ _
        have HGC : Hid (w.heap.size ≤ V16.heap.size) := Nat.le_trans HB6.out.size hH.size
        have HKA : Hid (CBlk (V16.alloc (.cells #[.int .i64 0, .int .i64 0, .string ⟨#[]⟩, .string ⟨#[103, 111, 111, 100]⟩, .slice (some ⟨L3, 0, none⟩) 1 1, .int .i64 3, .int .i64 1, .string ⟨#[]⟩, .string ⟨#[111, 107]⟩, .slice (some ⟨L5, 0, none⟩) 1 1] 30)) ga #[.int .i64 0, .int .i64 0, .string ⟨#[]⟩, .string ⟨#[102, 114, 105, 101, 110, 100]⟩, .slice (some ⟨L2, 0, none⟩) 2 2] 30) := HKA.out.later (below1 _ _)
        refine hK.out _ _ (below_step hH (below1 _ _)) (fun hH => ?_)
        clear hK K
        try simp only [Act.put, List.setIfInBounds_toArray, List.set_cons_zero, List.set_cons_succ]
        revert hH
        revert HKA
        revert HKC
        revert HGC
        generalize V16.alloc (.cells #[.int .i64 0, .int .i64 0, .string ⟨#[]⟩, .string ⟨#[103, 111, 111, 100]⟩, .slice (some ⟨L3, 0, none⟩) 1 1, .int .i64 3, .int .i64 1, .string ⟨#[]⟩, .string ⟨#[111, 107]⟩, .slice (some ⟨L5, 0, none⟩) 1 1] 30) = V22
        generalize V16.heap.size = gc
        intro HGC HKC HKA hH
        refine wpAnyH_take (i := 14) (oi := ⟨_, _, _, _, _, _⟩) (v := .agg #[.int .i64 0, .int .i64 0, .string ⟨#[]⟩, .string ⟨#[109, 97, 121]⟩, .slice (some ⟨L4, 0, none⟩) 1 1, .slice (some ⟨gc, 0, none⟩) 2 2, .slice none 0 0]) rfl (by kernel_rfl) (by kernel_rfl) (by kernel_rfl) (fun _ _ _ h => h) (Or.inl ⟨by rfl, fun w' h => by clear h; go_simp⟩) hH ?_
        simp only [Act.put, List.setIfInBounds_toArray, List.set_cons_zero, List.set_cons_succ]
        refine wpAnyH_ready (rs := [6]) (by kernel_rfl) (by simp) ?_
        refine (AllReadyH.cons (o := ⟨_, _, _, _, _, _⟩) rfl (fun K hK => ?_) AllReadyH.nil)
        go_simp
        refine (text12_any _ _).mono ?_
        rintro e V23 ⟨rfl, hb⟩
        have HKA : Hid (CBlk V23 ga #[.int .i64 0, .int .i64 0, .string ⟨#[]⟩, .string ⟨#[102, 114, 105, 101, 110, 100]⟩, .slice (some ⟨L2, 0, none⟩) 2 2] 30) := HKA.out.later hb
        have HKC : Hid (CBlk V23 gc #[.int .i64 0, .int .i64 0, .string ⟨#[]⟩, .string ⟨#[103, 111, 111, 100]⟩, .slice (some ⟨L3, 0, none⟩) 1 1, .int .i64 3, .int .i64 1, .string ⟨#[]⟩, .string ⟨#[111, 107]⟩, .slice (some ⟨L5, 0, none⟩) 1 1] 30) := HKC.out.later hb
        refine hK.out _ _ (below_step hH hb) (fun hH => ?_)
        clear hK K hb
        try simp only [Act.put, List.setIfInBounds_toArray, List.set_cons_zero, List.set_cons_succ]
        refine wpAnyH_take (i := 7) (oi := ⟨_, _, _, _, _, _⟩) (v := .agg #[.int .i64 2, .int .i64 3, .int .i64 0, .string ⟨#[]⟩, .int .i64 2, .int .i64 0, .string ⟨#[97, 110, 110]⟩]) rfl (by kernel_rfl) (by kernel_rfl) (by kernel_rfl) (fun _ _ _ h => h) (Or.inl ⟨by rfl, fun w' h => by clear h; go_simp⟩) hH ?_
        simp only [Act.put, List.setIfInBounds_toArray, List.set_cons_zero, List.set_cons_succ]
        refine wpAnyH_ready (rs := [8]) (by kernel_rfl) (by simp) ?_
        refine (AllReadyH.cons (o := ⟨_, _, _, _, _, _⟩) rfl (fun K hK => ?_) AllReadyH.nil)
        go_simp
        have HKB : Hid (CBlk (V23.alloc (.cells #[.int .i64 2, .int .i64 3, .int .i64 0, .string ⟨#[]⟩, .int .i64 2, .int .i64 0, .string ⟨#[97, 110, 110]⟩] 52)) V23.heap.size #[.int .i64 2, .int .i64 3, .int .i64 0, .string ⟨#[]⟩, .int .i64 2, .int .i64 0, .string ⟨#[97, 110, 110]⟩] 52) := CBlk.new _ _ _
        have HGB : Hid (w.heap.size ≤ V23.heap.size) := Nat.le_trans HB6.out.size hH.size
        have HKA : Hid (CBlk (V23.alloc (.cells #[.int .i64 2, .int .i64 3, .int .i64 0, .string ⟨#[]⟩, .int .i64 2, .int .i64 0, .string ⟨#[97, 110, 110]⟩] 52)) ga #[.int .i64 0, .int .i64 0, .string ⟨#[]⟩, .string ⟨#[102, 114, 105, 101, 110, 100]⟩, .slice (some ⟨L2, 0, none⟩) 2 2] 30) := HKA.out.later (below1 _ _)
        have HKC : Hid (CBlk (V23.alloc (.cells #[.int .i64 2, .int .i64 3, .int .i64 0, .string ⟨#[]⟩, .int .i64 2, .int .i64 0, .string ⟨#[97, 110, 110]⟩] 52)) gc #[.int .i64 0, .int .i64 0, .string ⟨#[]⟩, .string ⟨#[103, 111, 111, 100]⟩, .slice (some ⟨L3, 0, none⟩) 1 1, .int .i64 3, .int .i64 1, .string ⟨#[]⟩, .string ⟨#[111, 107]⟩, .slice (some ⟨L5, 0, none⟩) 1 1] 30) := HKC.out.later (below1 _ _)
        refine hK.out _ _ (below_step hH (below1 _ _)) (fun hH => ?_)
        clear hK K
        try simp only [Act.put, List.setIfInBounds_toArray, List.set_cons_zero, List.set_cons_succ]
        revert hH
        revert HKA
        revert HKC
        revert HKB
        revert HGB
        generalize V23.alloc (.cells #[.int .i64 2, .int .i64 3, .int .i64 0, .string ⟨#[]⟩, .int .i64 2, .int .i64 0, .string ⟨#[97, 110, 110]⟩] 52) = V24
        generalize V23.heap.size = gb
        intro HGB HKB HKC HKA hH
        refine wpAnyH_take (i := 9) (oi := ⟨_, _, _, _, _, _⟩) (v := .agg #[.int .i64 0, .int .i64 0, .string ⟨#[]⟩, .string ⟨#[103, 111, 111, 100]⟩, .slice (some ⟨L3, 0, none⟩) 1 1, .slice (some ⟨ga, 0, none⟩) 1 1, .slice (some ⟨gb, 0, none⟩) 1 1]) rfl (by kernel_rfl) (by kernel_rfl) (by kernel_rfl) (fun _ _ _ h => h) (Or.inl ⟨by rfl, fun w' h => by clear h; go_simp⟩) hH ?_
        simp only [Act.put, List.setIfInBounds_toArray, List.set_cons_zero, List.set_cons_succ]
        refine wpAnyH_ready (rs := [17]) (by kernel_rfl) (by simp) ?_
        refine (AllReadyH.cons (o := ⟨_, _, _, _, _, _⟩) rfl (fun K hK => ?_) AllReadyH.nil)
        go_simp
        have HKD : Hid (CBlk (V24.alloc (.cells #[.int .i64 0, .int .i64 0, .string ⟨#[]⟩, .string ⟨#[102, 114, 105, 101, 110, 100]⟩, .slice (some ⟨L1, 0, none⟩) 2 2, .slice none 0 0, .slice none 0 0, .int .i64 0, .int .i64 0, .string ⟨#[]⟩, .string ⟨#[103, 111, 111, 100]⟩, .slice (some ⟨L3, 0, none⟩) 1 1, .slice (some ⟨ga, 0, none⟩) 1 1, .slice (some ⟨gb, 0, none⟩) 1 1, .int .i64 0, .int .i64 0, .string ⟨#[]⟩, .string ⟨#[109, 97, 121]⟩, .slice (some ⟨L4, 0, none⟩) 1 1, .slice (some ⟨gc, 0, none⟩) 2 2, .slice none 0 0, .int .i64 2, .int .i64 0, .string ⟨#[99, 97, 114, 108]⟩, .string ⟨#[111, 107]⟩, .slice (some ⟨L6, 0, none⟩) 1 1, .slice none 0 0, .slice none 0 0] 50)) V24.heap.size #[.int .i64 0, .int .i64 0, .string ⟨#[]⟩, .string ⟨#[102, 114, 105, 101, 110, 100]⟩, .slice (some ⟨L1, 0, none⟩) 2 2, .slice none 0 0, .slice none 0 0, .int .i64 0, .int .i64 0, .string ⟨#[]⟩, .string ⟨#[103, 111, 111, 100]⟩, .slice (some ⟨L3, 0, none⟩) 1 1, .slice (some ⟨ga, 0, none⟩) 1 1, .slice (some ⟨gb, 0, none⟩) 1 1, .int .i64 0, .int .i64 0, .string ⟨#[]⟩, .string ⟨#[109, 97, 121]⟩, .slice (some ⟨L4, 0, none⟩) 1 1, .slice (some ⟨gc, 0, none⟩) 2 2, .slice none 0 0, .int .i64 2, .int .i64 0, .string ⟨#[99, 97, 114, 108]⟩, .string ⟨#[111, 107]⟩, .slice (some ⟨L6, 0, none⟩) 1 1, .slice none 0 0, .slice none 0 0] 50) := CBlk.new _ _ _
        have hgd : X6.heap.size ≤ V24.heap.size := hH.size
        refine hK.out _ _ (below_step hH (below1 _ _)) (fun hH => ?_)
        clear hK K
        try simp only [Act.put, List.setIfInBounds_toArray, List.set_cons_zero, List.set_cons_succ]
        refine wpAnyH_take (i := 18) (oi := ⟨_, _, _, _, _, _⟩) (v := .slice (some ⟨V24.heap.size, 0, none⟩) 4 4) rfl (by kernel_rfl) (by kernel_rfl) (by kernel_rfl) (fun _ _ _ h => h) (Or.inl ⟨by rfl, fun w' h => by clear h; go_simp⟩) hH ?_
        simp only [Act.put, List.setIfInBounds_toArray, List.set_cons_zero]
        refine wpAnyH_done (by kernel_rfl) ?_ _
        go_wp2_with fail
        exact bodyPost_ret (v := .slice (some ⟨V24.heap.size, 0, none⟩) 4 4) (by simp [results, Try.results6, go_sem]) rfl (four_fin (HT1.out.later hH) (HT2.out.later hH) (HT3.out.later hH) (HT4.out.later hH) (HT5.out.later hH) (HT6.out.later hH) (HKA.out.later (below1 _ _)) (HKB.out.later (below1 _ _)) (HKC.out.later (below1 _ _)) HKD.out (below_step HB6.out hH) HGA.out HGB.out HGC.out (Nat.le_trans HB6.out.size hgd))
    · go_simp
      refine (text12_any _ _).mono ?_
      rintro e V25 ⟨rfl, hb⟩
      refine hK.out _ _ (below_step hH hb) (fun hH => ?_)
      clear hK K hb
      try simp only [Act.put, List.setIfInBounds_toArray, List.set_cons_zero, List.set_cons_succ]
      refine wpAnyH_take (i := 7) (oi := ⟨_, _, _, _, _, _⟩) (v := .agg #[.int .i64 2, .int .i64 3, .int .i64 0, .string ⟨#[]⟩, .int .i64 2, .int .i64 0, .string ⟨#[97, 110, 110]⟩]) rfl (by kernel_rfl) (by kernel_rfl) (by kernel_rfl) (fun _ _ _ h => h) (Or.inl ⟨by rfl, fun w' h => by clear h; go_simp⟩) hH ?_
      simp only [Act.put, List.setIfInBounds_toArray, List.set_cons_zero, List.set_cons_succ]
      refine wpAnyH_ready (rs := [4, 8, 13]) (by kernel_rfl) (by simp) ?_
      refine (AllReadyH.cons (o := ⟨_, _, _, _, _, _⟩) rfl (fun K hK => ?_) (AllReadyH.cons (o := ⟨_, _, _, _, _, _⟩) rfl (fun K hK => ?_) (AllReadyH.cons (o := ⟨_, _, _, _, _, _⟩) rfl (fun K hK => ?_) AllReadyH.nil)))
      · go_simp
        have HKA : Hid (CBlk (V25.alloc (.cells #[.int .i64 0, .int .i64 0, .string ⟨#[]⟩, .string ⟨#[102, 114, 105, 101, 110, 100]⟩, .slice (some ⟨L2, 0, none⟩) 2 2] 30)) V25.heap.size #[.int .i64 0, .int .i64 0, .string ⟨#[]⟩, .string ⟨#[102, 114, 105, 101, 110, 100]⟩, .slice (some ⟨L2, 0, none⟩) 2 2] 30) := CBlk.new _ _ _
        have HGA : Hid (w.heap.size ≤ V25.heap.size) := Nat.le_trans HB6.out.size hH.size
        refine hK.out _ _ (below_step hH (below1 _ _)) (fun hH => ?_)
        clear hK K
        try simp only [Act.put, List.setIfInBounds_toArray, List.set_cons_zero, List.set_cons_succ]
        revert hH
        revert HKA
        revert HGA
        generalize V25.alloc (.cells #[.int .i64 0, .int .i64 0, .string ⟨#[]⟩, .string ⟨#[102, 114, 105, 101, 110, 100]⟩, .slice (some ⟨L2, 0, none⟩) 2 2] 30) = V26
        generalize V25.heap.size = ga
        intro HGA HKA  hH
        refine wpAnyH_ready (rs := [8, 13]) (by kernel_rfl) (by simp) ?_
        refine (AllReadyH.cons (o := ⟨_, _, _, _, _, _⟩) rfl (fun K hK => ?_) (AllReadyH.cons (o := ⟨_, _, _, _, _, _⟩) rfl (fun K hK => ?_) AllReadyH.nil))
        · go_simp
          have HKB : Hid (CBlk (V26.alloc (.cells #[.int .i64 2, .int .i64 3, .int .i64 0, .string ⟨#[]⟩, .int .i64 2, .int .i64 0, .string ⟨#[97, 110, 110]⟩] 52)) V26.heap.size #[.int .i64 2, .int .i64 3, .int .i64 0, .string ⟨#[]⟩, .int .i64 2, .int .i64 0, .string ⟨#[97, 110, 110]⟩] 52) := CBlk.new _ _ _
          have HGB : Hid (w.heap.size ≤ V26.heap.size) := Nat.le_trans HB6.out.size hH.size
          have HKA : Hid (CBlk (V26.alloc (.cells #[.int .i64 2, .int .i64 3, .int .i64 0, .string ⟨#[]⟩, .int .i64 2, .int .i64 0, .string ⟨#[97, 110, 110]⟩] 52)) ga #[.int .i64 0, .int .i64 0, .string ⟨#[]⟩, .string ⟨#[102, 114, 105, 101, 110, 100]⟩, .slice (some ⟨L2, 0, none⟩) 2 2] 30) := HKA.out.later (below1 _ _)
          refine hK.out _ _ (below_step hH (below1 _ _)) (fun hH => ?_)
          clear hK K
          try simp only [Act.put, List.setIfInBounds_toArray, List.set_cons_zero, List.set_cons_succ]
          revert hH
          revert HKA
          revert HKB
          revert HGB
          generalize V26.alloc (.cells #[.int .i64 2, .int .i64 3, .int .i64 0, .string ⟨#[]⟩, .int .i64 2, .int .i64 0, .string ⟨#[97, 110, 110]⟩] 52) = V27
          generalize V26.heap.size = gb
          intro HGB HKB HKA hH
          refine wpAnyH_take (i := 9) (oi := ⟨_, _, _, _, _, _⟩) (v := .agg #[.int .i64 0, .int .i64 0, .string ⟨#[]⟩, .string ⟨#[103, 111, 111, 100]⟩, .slice (some ⟨L3, 0, none⟩) 1 1, .slice (some ⟨ga, 0, none⟩) 1 1, .slice (some ⟨gb, 0, none⟩) 1 1]) rfl (by kernel_rfl) (by kernel_rfl) (by kernel_rfl) (fun _ _ _ h => h) (Or.inl ⟨by rfl, fun w' h => by clear h; go_simp⟩) hH ?_
          simp only [Act.put, List.setIfInBounds_toArray, List.set_cons_zero, List.set_cons_succ]
          refine wpAnyH_ready (rs := [13]) (by kernel_rfl) (by simp) ?_
          refine (AllReadyH.cons (o := ⟨_, _, _, _, _, _⟩) rfl (fun K hK => ?_) AllReadyH.nil)
          go_simp
          have HKC : Hid (CBlk (V27.alloc (.cells #[.int .i64 0, .int .i64 0, .string ⟨#[]⟩, .string ⟨#[103, 111, 111, 100]⟩, .slice (some ⟨L3, 0, none⟩) 1 1, .int .i64 3, .int .i64 1, .string ⟨#[]⟩, .string ⟨#[111, 107]⟩, .slice (some ⟨L5, 0, none⟩) 1 1] 30)) V27.heap.size #[.int .i64 0, .int .i64 0, .string ⟨#[]⟩, .string ⟨#[103, 111, 111, 100]⟩, .slice (some ⟨L3, 0, none⟩) 1 1, .int .i64 3, .int .i64 1, .string ⟨#[]⟩, .string ⟨#[111, 107]⟩, .slice (some ⟨L5, 0, none⟩) 1 1] 30) := CBlk.new _ _ _
          have HGC : Hid (w.heap.size ≤ V27.heap.size) := Nat.le_trans HB6.out.size hH.size
          have HKA : Hid (CBlk (V27.alloc (.cells #[.int .i64 0, .int .i64 0, .string ⟨#[]⟩, .string ⟨#[103, 111, 111, 100]⟩, .slice (some ⟨L3, 0, none⟩) 1 1, .int .i64 3, .int .i64 1, .string ⟨#[]⟩, .string ⟨#[111, 107]⟩, .slice (some ⟨L5, 0, none⟩) 1 1] 30)) ga #[.int .i64 0, .int .i64 0, .string ⟨#[]⟩, .string ⟨#[102, 114, 105, 101, 110, 100]⟩, .slice (some ⟨L2, 0, none⟩) 2 2] 30) := HKA.out.later (below1 _ _)
          have HKB : Hid (CBlk (V27.alloc (.cells #[.int .i64 0, .int .i64 0, .string ⟨#[]⟩, .string ⟨#[103, 111, 111, 100]⟩, .slice (some ⟨L3, 0, none⟩) 1 1, .int .i64 3, .int .i64 1, .string ⟨#[]⟩, .string ⟨#[111, 107]⟩, .slice (some ⟨L5, 0, none⟩) 1 1] 30)) gb #[.int .i64 2, .int .i64 3, .int .i64 0, .string ⟨#[]⟩, .int .i64 2, .int .i64 0, .string ⟨#[97, 110, 110]⟩] 52) := HKB.out.later (below1 _ _)
          refine hK.out _ _ (below_step hH (below1 _ _)) (fun hH => ?_)
          clear hK K
          try simp only [Act.put, List.setIfInBounds_toArray, List.set_cons_zero, List.set_cons_succ]
          revert hH
          revert HKA
          revert HKB
          revert HKC
          revert HGC
          generalize V27.alloc (.cells #[.int .i64 0, .int .i64 0, .string ⟨#[]⟩, .string ⟨#[103, 111, 111, 100]⟩, .slice (some ⟨L3, 0, none⟩) 1 1, .int .i64 3, .int .i64 1, .string ⟨#[]⟩, .string ⟨#[111, 107]⟩, .slice (some ⟨L5, 0, none⟩) 1 1] 30) = V28
          generalize V27.heap.size = gc
          intro HGC HKC HKB HKA hH
          refine wpAnyH_take (i := 14) (oi := ⟨_, _, _, _, _, _⟩) (v := .agg #[.int .i64 0, .int .i64 0, .string ⟨#[]⟩, .string ⟨#[109, 97, 121]⟩, .slice (some ⟨L4, 0, none⟩) 1 1, .slice (some ⟨gc, 0, none⟩) 2 2, .slice none 0 0]) rfl (by kernel_rfl) (by kernel_rfl) (by kernel_rfl) (fun _ _ _ h => h) (Or.inl ⟨by rfl, fun w' h => by clear h; go_simp⟩) hH ?_
          simp only [Act.put, List.setIfInBounds_toArray, List.set_cons_zero, List.set_cons_succ]
          refine wpAnyH_ready (rs := [17]) (by kernel_rfl) (by simp) ?_
          refine (AllReadyH.cons (o := ⟨_, _, _, _, _, _⟩) rfl (fun K hK => ?_) AllReadyH.nil)
          go_simp
          have HKD : Hid (CBlk (V28.alloc (.cells #[.int .i64 0, .int .i64 0, .string ⟨#[]⟩, .string ⟨#[102, 114, 105, 101, 110, 100]⟩, .slice (some ⟨L1, 0, none⟩) 2 2, .slice none 0 0, .slice none 0 0, .int .i64 0, .int .i64 0, .string ⟨#[]⟩, .string ⟨#[103, 111, 111, 100]⟩, .slice (some ⟨L3, 0, none⟩) 1 1, .slice (some ⟨ga, 0, none⟩) 1 1, .slice (some ⟨gb, 0, none⟩) 1 1, .int .i64 0, .int .i64 0, .string ⟨#[]⟩, .string ⟨#[109, 97, 121]⟩, .slice (some ⟨L4, 0, none⟩) 1 1, .slice (some ⟨gc, 0, none⟩) 2 2, .slice none 0 0, .int .i64 2, .int .i64 0, .string ⟨#[99, 97, 114, 108]⟩, .string ⟨#[111, 107]⟩, .slice (some ⟨L6, 0, none⟩) 1 1, .slice none 0 0, .slice none 0 0] 50)) V28.heap.size #[.int .i64 0, .int .i64 0, .string ⟨#[]⟩, .string ⟨#[102, 114, 105, 101, 110, 100]⟩, .slice (some ⟨L1, 0, none⟩) 2 2, .slice none 0 0, .slice none 0 0, .int .i64 0, .int .i64 0, .string ⟨#[]⟩, .string ⟨#[103, 111, 111, 100]⟩, .slice (some ⟨L3, 0, none⟩) 1 1, .slice (some ⟨ga, 0, none⟩) 1 1, .slice (some ⟨gb, 0, none⟩) 1 1, .int .i64 0, .int .i64 0, .string ⟨#[]⟩, .string ⟨#[109, 97, 121]⟩, .slice (some ⟨L4, 0, none⟩) 1 1, .slice (some ⟨gc, 0, none⟩) 2 2, .slice none 0 0, .int .i64 2, .int .i64 0, .string ⟨#[99, 97, 114, 108]⟩, .string ⟨#[111, 107]⟩, .slice (some ⟨L6, 0, none⟩) 1 1, .slice none 0 0, .slice none 0 0] 50) := CBlk.new _ _ _
          have hgd : X6.heap.size ≤ V28.heap.size := hH.size
          refine hK.out _ _ (below_step hH (below1 _ _)) (fun hH => ?_)
          clear hK K
          try simp only [Act.put, List.setIfInBounds_toArray, List.set_cons_zero, List.set_cons_succ]
          refine wpAnyH_take (i := 18) (oi := ⟨_, _, _, _, _, _⟩) (v := .slice (some ⟨V28.heap.size, 0, none⟩) 4 4) rfl (by kernel_rfl) (by kernel_rfl) (by kernel_rfl) (fun _ _ _ h => h) (Or.inl ⟨by rfl, fun w' h => by clear h; go_simp⟩) hH ?_
          simp only [Act.put, List.setIfInBounds_toArray, List.set_cons_zero]
          refine wpAnyH_done (by kernel_rfl) ?_ _
          go_wp2_with fail
          exact bodyPost_ret (v := .slice (some ⟨V28.heap.size, 0, none⟩) 4 4) (by simp [results, Try.results6, go_sem]) rfl (four_fin (HT1.out.later hH) (HT2.out.later hH) (HT3.out.later hH) (HT4.out.later hH) (HT5.out.later hH) (HT6.out.later hH) (HKA.out.later (below1 _ _)) (HKB.out.later (below1 _ _)) (HKC.out.later (below1 _ _)) HKD.out (below_step HB6.out hH) HGA.out HGB.out HGC.out (Nat.le_trans HB6.out.size hgd))
        · go_simp
          have HKC : Hid (CBlk (V26.alloc (.cells #[.int .i64 0, .int .i64 0, .string ⟨#[]⟩, .string ⟨#[103, 111, 111, 100]⟩, .slice (some ⟨L3, 0, none⟩) 1 1, .int .i64 3, .int .i64 1, .string ⟨#[]⟩, .string ⟨#[111, 107]⟩, .slice (some ⟨L5, 0, none⟩) 1 1] 30)) V26.heap.size #[.int .i64 0, .int .i64 0, .string ⟨#[]⟩, .string ⟨#[103, 111, 111, 100]⟩, .slice (some ⟨L3, 0, none⟩) 1 1, .int .i64 3, .int .i64 1, .string ⟨#[]⟩, .string ⟨#[111, 107]⟩, .slice (some ⟨L5, 0, none⟩) 1 1] 30) := CBlk.new _ _ _
          have HGC : Hid (w.heap.size ≤ V26.heap.size) := Nat.le_trans HB6.out.size hH.size
          have HKA : Hid (CBlk (V26.alloc (.cells #[.int .i64 0, .int .i64 0, .string ⟨#[]⟩, .string ⟨#[103, 111, 111, 100]⟩, .slice (some ⟨L3, 0, none⟩) 1 1, .int .i64 3, .int .i64 1, .string ⟨#[]⟩, .string ⟨#[111, 107]⟩, .slice (some ⟨L5, 0, none⟩) 1 1] 30)) ga #[.int .i64 0, .int .i64 0, .string ⟨#[]⟩, .string ⟨#[102, 114, 105, 101, 110, 100]⟩, .slice (some ⟨L2, 0, none⟩) 2 2] 30) := HKA.out.later (below1 _ _)
          refine hK.out _ _ (below_step hH (below1 _ _)) (fun hH => ?_)
          clear hK K
          try simp only [Act.put, List.setIfInBounds_toArray, List.set_cons_zero, List.set_cons_succ]
          revert hH
          revert HKA
          revert HKC
          revert HGC
          generalize V26.alloc (.cells #[.int .i64 0, .int .i64 0, .string ⟨#[]⟩, .string ⟨#[103, 111, 111, 100]⟩, .slice (some ⟨L3, 0, none⟩) 1 1, .int .i64 3, .int .i64 1, .string ⟨#[]⟩, .string ⟨#[111, 107]⟩, .slice (some ⟨L5, 0, none⟩) 1 1] 30) = V29
          generalize V26.heap.size = gc
          intro HGC HKC HKA hH
          refine wpAnyH_take (i := 14) (oi := ⟨_, _, _, _, _, _⟩) (v := .agg #[.int .i64 0, .int .i64 0, .string ⟨#[]⟩, .string ⟨#[109, 97, 121]⟩, .slice (some ⟨L4, 0, none⟩) 1 1, .slice (some ⟨gc, 0, none⟩) 2 2, .slice none 0 0]) rfl (by kernel_rfl) (by kernel_rfl) (by kernel_rfl) (fun _ _ _ h => h) (Or.inl ⟨by rfl, fun w' h => by clear h; go_simp⟩) hH ?_
          simp only [Act.put, List.setIfInBounds_toArray, List.set_cons_zero, List.set_cons_succ]
          refine wpAnyH_ready (rs := [8]) (by kernel_rfl) (by simp) ?_
          refine (AllReadyH.cons (o := ⟨_, _, _, _, _, _⟩) rfl (fun K hK => ?_) AllReadyH.nil)
          go_simp
          have HKB : Hid (CBlk (V29.alloc (.cells #[.int .i64 2, .int .i64 3, .int .i64 0, .string ⟨#[]⟩, .int .i64 2, .int .i64 0, .string ⟨#[97, 110, 110]⟩] 52)) V29.heap.size #[.int .i64 2, .int .i64 3, .int .i64 0, .string ⟨#[]⟩, .int .i64 2, .int .i64 0, .string ⟨#[97, 110, 110]⟩] 52) := CBlk.new _ _ _
          have HGB : Hid (w.heap.size ≤ V29.heap.size) := Nat.le_trans HB6.out.size hH.size
          have HKA : Hid (CBlk (V29.alloc (.cells #[.int .i64 2, .int .i64 3, .int .i64 0, .string ⟨#[]⟩, .int .i64 2, .int .i64 0, .string ⟨#[97, 110, 110]⟩] 52)) ga #[.int .i64 0, .int .i64 0, .string ⟨#[]⟩, .string ⟨#[102, 114, 105, 101, 110, 100]⟩, .slice (some ⟨L2, 0, none⟩) 2 2] 30) := HKA.out.later (below1 _ _)
          have HKC : Hid (CBlk (V29.alloc (.cells #[.int .i64 2, .int .i64 3, .int .i64 0, .string ⟨#[]⟩, .int .i64 2, .int .i64 0, .string ⟨#[97, 110, 110]⟩] 52)) gc #[.int .i64 0, .int .i64 0, .string ⟨#[]⟩, .string ⟨#[103, 111, 111, 100]⟩, .slice (some ⟨L3, 0, none⟩) 1 1, .int .i64 3, .int .i64 1, .string ⟨#[]⟩, .string ⟨#[111, 107]⟩, .slice (some ⟨L5, 0, none⟩) 1 1] 30) := HKC.out.later (below1 _ _)
          refine hK.out _ _ (below_step hH (below1 _ _)) (fun hH => ?_)
          clear hK K
          try simp only [Act.put, List.setIfInBounds_toArray, List.set_cons_zero, List.set_cons_succ]
          revert hH
          revert HKA
          revert HKC
          revert HKB
          revert HGB
          generalize V29.alloc (.cells #[.int .i64 2, .int .i64 3, .int .i64 0, .string ⟨#[]⟩, .int .i64 2, .int .i64 0, .string ⟨#[97, 110, 110]⟩] 52) = V30
          generalize V29.heap.size = gb
          intro HGB HKB HKC HKA hH
          refine wpAnyH_take (i := 9) (oi := ⟨_, _, _, _, _, _⟩) (v := .agg #[.int .i64 0, .int .i64 0, .string ⟨#[]⟩, .string ⟨#[103, 111, 111, 100]⟩, .slice (some ⟨L3, 0, none⟩) 1 1, .slice (some ⟨ga, 0, none⟩) 1 1, .slice (some ⟨gb, 0, none⟩) 1 1]) rfl (by kernel_rfl) (by kernel_rfl) (by kernel_rfl) (fun _ _ _ h => h) (Or.inl ⟨by rfl, fun w' h => by clear h; go_simp⟩) hH ?_
          simp only [Act.put, List.setIfInBounds_toArray, List.set_cons_zero, List.set_cons_succ]
          refine wpAnyH_ready (rs := [17]) (by kernel_rfl) (by simp) ?_
          refine (AllReadyH.cons (o := ⟨_, _, _, _, _, _⟩) rfl (fun K hK => ?_) AllReadyH.nil)
          go_simp
          have HKD : Hid (CBlk (V30.alloc (.cells #[.int .i64 0, .int .i64 0, .string ⟨#[]⟩, .string ⟨#[102, 114, 105, 101, 110, 100]⟩, .slice (some ⟨L1, 0, none⟩) 2 2, .slice none 0 0, .slice none 0 0, .int .i64 0, .int .i64 0, .string ⟨#[]⟩, .string ⟨#[103, 111, 111, 100]⟩, .slice (some ⟨L3, 0, none⟩) 1 1, .slice (some ⟨ga, 0, none⟩) 1 1, .slice (some ⟨gb, 0, none⟩) 1 1, .int .i64 0, .int .i64 0, .string ⟨#[]⟩, .string ⟨#[109, 97, 121]⟩, .slice (some ⟨L4, 0, none⟩) 1 1, .slice (some ⟨gc, 0, none⟩) 2 2, .slice none 0 0, .int .i64 2, .int .i64 0, .string ⟨#[99, 97, 114, 108]⟩, .string ⟨#[111, 107]⟩, .slice (some ⟨L6, 0, none⟩) 1 1, .slice none 0 0, .slice none 0 0] 50)) V30.heap.size #[.int .i64 0, .int .i64 0, .string ⟨#[]⟩, .string ⟨#[102, 114, 105, 101, 110, 100]⟩, .slice (some ⟨L1, 0, none⟩) 2 2, .slice none 0 0, .slice none 0 0, .int .i64 0, .int .i64 0, .string ⟨#[]⟩, .string ⟨#[103, 111, 111, 100]⟩, .slice (some ⟨L3, 0, none⟩) 1 1, .slice (some ⟨ga, 0, none⟩) 1 1, .slice (some ⟨gb, 0, none⟩) 1 1, .int .i64 0, .int .i64 0, .string ⟨#[]⟩, .string ⟨#[109, 97, 121]⟩, .slice (some ⟨L4, 0, none⟩) 1 1, .slice (some ⟨gc, 0, none⟩) 2 2, .slice none 0 0, .int .i64 2, .int .i64 0, .string ⟨#[99, 97, 114, 108]⟩, .string ⟨#[111, 107]⟩, .slice (some ⟨L6, 0, none⟩) 1 1, .slice none 0 0, .slice none 0 0] 50) := CBlk.new _ _ _
          have hgd : X6.heap.size ≤ V30.heap.size := hH.size
          refine hK.out _ _ (below_step hH (below1 _ _)) (fun hH => ?_)
          clear hK K
          try simp only [Act.put, List.setIfInBounds_toArray, List.set_cons_zero, List.set_cons_succ]
          refine wpAnyH_take (i := 18) (oi := ⟨_, _, _, _, _, _⟩) (v := .slice (some ⟨V30.heap.size, 0, none⟩) 4 4) rfl (by kernel_rfl) (by kernel_rfl) (by kernel_rfl) (fun _ _ _ h => h) (Or.inl ⟨by rfl, fun w' h => by clear h; go_simp⟩) hH ?_
          simp only [Act.put, List.setIfInBounds_toArray, List.set_cons_zero]
          refine wpAnyH_done (by kernel_rfl) ?_ _
          go_wp2_with fail
          exact bodyPost_ret (v := .slice (some ⟨V30.heap.size, 0, none⟩) 4 4) (by simp [results, Try.results6, go_sem]) rfl (four_fin (HT1.out.later hH) (HT2.out.later hH) (HT3.out.later hH) (HT4.out.later hH) (HT5.out.later hH) (HT6.out.later hH) (HKA.out.later (below1 _ _)) (HKB.out.later (below1 _ _)) (HKC.out.later (below1 _ _)) HKD.out (below_step HB6.out hH) HGA.out HGB.out HGC.out (Nat.le_trans HB6.out.size hgd))
      · go_simp
        have HKB : Hid (CBlk (V25.alloc (.cells #[.int .i64 2, .int .i64 3, .int .i64 0, .string ⟨#[]⟩, .int .i64 2, .int .i64 0, .string ⟨#[97, 110, 110]⟩] 52)) V25.heap.size #[.int .i64 2, .int .i64 3, .int .i64 0, .string ⟨#[]⟩, .int .i64 2, .int .i64 0, .string ⟨#[97, 110, 110]⟩] 52) := CBlk.new _ _ _
        have HGB : Hid (w.heap.size ≤ V25.heap.size) := Nat.le_trans HB6.out.size hH.size
        refine hK.out _ _ (below_step hH (below1 _ _)) (fun hH => ?_)
        clear hK K
        try simp only [Act.put, List.setIfInBounds_toArray, List.set_cons_zero, List.set_cons_succ]
        revert hH
        revert HKB
        revert HGB
        generalize V25.alloc (.cells #[.int .i64 2, .int .i64 3, .int .i64 0, .string ⟨#[]⟩, .int .i64 2, .int .i64 0, .string ⟨#[97, 110, 110]⟩] 52) = V31
        generalize V25.heap.size = gb
        intro HGB HKB  hH
        refine wpAnyH_ready (rs := [4, 13]) (by kernel_rfl) (by simp) ?_
        refine (AllReadyH.cons (o := ⟨_, _, _, _, _, _⟩) rfl (fun K hK => ?_) (AllReadyH.cons (o := ⟨_, _, _, _, _, _⟩) rfl (fun K hK => ?_) AllReadyH.nil))
        · go_simp
          have HKA : Hid (CBlk (V31.alloc (.cells #[.int .i64 0, .int .i64 0, .string ⟨#[]⟩, .string ⟨#[102, 114, 105, 101, 110, 100]⟩, .slice (some ⟨L2, 0, none⟩) 2 2] 30)) V31.heap.size #[.int .i64 0, .int .i64 0, .string ⟨#[]⟩, .string ⟨#[102, 114, 105, 101, 110, 100]⟩, .slice (some ⟨L2, 0, none⟩) 2 2] 30) := CBlk.new _ _ _
          have HGA : Hid (w.heap.size ≤ V31.heap.size) := Nat.le_trans HB6.out.size hH.size
          have HKB : Hid (CBlk (V31.alloc (.cells #[.int .i64 0, .int .i64 0, .string ⟨#[]⟩, .string ⟨#[102, 114, 105, 101, 110, 100]⟩, .slice (some ⟨L2, 0, none⟩) 2 2] 30)) gb #[.int .i64 2, .int .i64 3, .int .i64 0, .string ⟨#[]⟩, .int .i64 2, .int .i64 0, .string ⟨#[97, 110, 110]⟩] 52) := HKB.out.later (below1 _ _)
          refine hK.out _ _ (below_step hH (below1 _ _)) (fun hH => ?_)
          clear hK K
          try simp only [Act.put, List.setIfInBounds_toArray, List.set_cons_zero, List.set_cons_succ]
          revert hH
          revert HKB
          revert HKA
          revert HGA
          generalize V31.alloc (.cells #[.int .i64 0, .int .i64 0, .string ⟨#[]⟩, .string ⟨#[102, 114, 105, 101, 110, 100]⟩, .slice (some ⟨L2, 0, none⟩) 2 2] 30) = V32
          generalize V31.heap.size = ga
          intro HGA HKA HKB hH
          refine wpAnyH_take (i := 9) (oi := ⟨_, _, _, _, _, _⟩) (v := .agg #[.int .i64 0, .int .i64 0, .string ⟨#[]⟩, .string ⟨#[103, 111, 111, 100]⟩, .slice (some ⟨L3, 0, none⟩) 1 1, .slice (some ⟨ga, 0, none⟩) 1 1, .slice (some ⟨gb, 0, none⟩) 1 1]) rfl (by kernel_rfl) (by kernel_rfl) (by kernel_rfl) (fun _ _ _ h => h) (Or.inl ⟨by rfl, fun w' h => by clear h; go_simp⟩) hH ?_
          simp only [Act.put, List.setIfInBounds_toArray, List.set_cons_zero, List.set_cons_succ]
          refine wpAnyH_ready (rs := [13]) (by kernel_rfl) (by simp) ?_
          refine (AllReadyH.cons (o := ⟨_, _, _, _, _, _⟩) rfl (fun K hK => ?_) AllReadyH.nil)
          go_simp
          have HKC : Hid (CBlk (V32.alloc (.cells #[.int .i64 0, .int .i64 0, .string ⟨#[]⟩, .string ⟨#[103, 111, 111, 100]⟩, .slice (some ⟨L3, 0, none⟩) 1 1, .int .i64 3, .int .i64 1, .string ⟨#[]⟩, .string ⟨#[111, 107]⟩, .slice (some ⟨L5, 0, none⟩) 1 1] 30)) V32.heap.size #[.int .i64 0, .int .i64 0, .string ⟨#[]⟩, .string ⟨#[103, 111, 111, 100]⟩, .slice (some ⟨L3, 0, none⟩) 1 1, .int .i64 3, .int .i64 1, .string ⟨#[]⟩, .string ⟨#[111, 107]⟩, .slice (some ⟨L5, 0, none⟩) 1 1] 30) := CBlk.new _ _ _
          have HGC : Hid (w.heap.size ≤ V32.heap.size) := Nat.le_trans HB6.out.size hH.size
          have HKA : Hid (CBlk (V32.alloc (.cells #[.int .i64 0, .int .i64 0, .string ⟨#[]⟩, .string ⟨#[103, 111, 111, 100]⟩, .slice (some ⟨L3, 0, none⟩) 1 1, .int .i64 3, .int .i64 1, .string ⟨#[]⟩, .string ⟨#[111, 107]⟩, .slice (some ⟨L5, 0, none⟩) 1 1] 30)) ga #[.int .i64 0, .int .i64 0, .string ⟨#[]⟩, .string ⟨#[102, 114, 105, 101, 110, 100]⟩, .slice (some ⟨L2, 0, none⟩) 2 2] 30) := HKA.out.later (below1 _ _)
          have HKB : Hid (CBlk (V32.alloc (.cells #[.int .i64 0, .int .i64 0, .string ⟨#[]⟩, .string ⟨#[103, 111, 111, 100]⟩, .slice (some ⟨L3, 0, none⟩) 1 1, .int .i64 3, .int .i64 1, .string ⟨#[]⟩, .string ⟨#[111, 107]⟩, .slice (some ⟨L5, 0, none⟩) 1 1] 30)) gb #[.int .i64 2, .int .i64 3, .int .i64 0, .string ⟨#[]⟩, .int .i64 2, .int .i64 0, .string ⟨#[97, 110, 110]⟩] 52) := HKB.out.later (below1 _ _)
          refine hK.out _ _ (below_step hH (below1 _ _)) (fun hH => ?_)
          clear hK K
          try simp only [Act.put, List.setIfInBounds_toArray, List.set_cons_zero, List.set_cons_succ]
          revert hH
          revert HKA
          revert HKB
          revert HKC
          revert HGC
          generalize V32.alloc (.cells #[.int .i64 0, .int .i64 0, .string ⟨#[]⟩, .string ⟨#[103, 111, 111, 100]⟩, .slice (some ⟨L3, 0, none⟩) 1 1, .int .i64 3, .int .i64 1, .string ⟨#[]⟩, .string ⟨#[111, 107]⟩, .slice (some ⟨L5, 0, none⟩) 1 1] 30) = V33
          generalize V32.heap.size = gc
          intro HGC HKC HKB HKA hH
          refine wpAnyH_take (i := 14) (oi := ⟨_, _, _, _, _, _⟩) (v := .agg #[.int .i64 0, .int .i64 0, .string ⟨#[]⟩, .string ⟨#[109, 97, 121]⟩, .slice (some ⟨L4, 0, none⟩) 1 1, .slice (some ⟨gc, 0, none⟩) 2 2, .slice none 0 0]) rfl (by kernel_rfl) (by kernel_rfl) (by kernel_rfl) (fun _ _ _ h => h) (Or.inl ⟨by rfl, fun w' h => by clear h; go_simp⟩) hH ?_
          simp only [Act.put, List.setIfInBounds_toArray, List.set_cons_zero, List.set_cons_succ]
          refine wpAnyH_ready (rs := [17]) (by kernel_rfl) (by simp) ?_
          refine (AllReadyH.cons (o := ⟨_, _, _, _, _, _⟩) rfl (fun K hK => ?_) AllReadyH.nil)
          go_simp
          have HKD : Hid (CBlk (V33.alloc (.cells #[.int .i64 0, .int .i64 0, .string ⟨#[]⟩, .string ⟨#[102, 114, 105, 101, 110, 100]⟩, .slice (some ⟨L1, 0, none⟩) 2 2, .slice none 0 0, .slice none 0 0, .int .i64 0, .int .i64 0, .string ⟨#[]⟩, .string ⟨#[103, 111, 111, 100]⟩, .slice (some ⟨L3, 0, none⟩) 1 1, .slice (some ⟨ga, 0, none⟩) 1 1, .slice (some ⟨gb, 0, none⟩) 1 1, .int .i64 0, .int .i64 0, .string ⟨#[]⟩, .string ⟨#[109, 97, 121]⟩, .slice (some ⟨L4, 0, none⟩) 1 1, .slice (some ⟨gc, 0, none⟩) 2 2, .slice none 0 0, .int .i64 2, .int .i64 0, .string ⟨#[99, 97, 114, 108]⟩, .string ⟨#[111, 107]⟩, .slice (some ⟨L6, 0, none⟩) 1 1, .slice none 0 0, .slice none 0 0] 50)) V33.heap.size #[.int .i64 0, .int .i64 0, .string ⟨#[]⟩, .string ⟨#[102, 114, 105, 101, 110, 100]⟩, .slice (some ⟨L1, 0, none⟩) 2 2, .slice none 0 0, .slice none 0 0, .int .i64 0, .int .i64 0, .string ⟨#[]⟩, .string ⟨#[103, 111, 111, 100]⟩, .slice (some ⟨L3, 0, none⟩) 1 1, .slice (some ⟨ga, 0, none⟩) 1 1, .slice (some ⟨gb, 0, none⟩) 1 1, .int .i64 0, .int .i64 0, .string ⟨#[]⟩, .string ⟨#[109, 97, 121]⟩, .slice (some ⟨L4, 0, none⟩) 1 1, .slice (some ⟨gc, 0, none⟩) 2 2, .slice none 0 0, .int .i64 2, .int .i64 0, .string ⟨#[99, 97, 114, 108]⟩, .string ⟨#[111, 107]⟩, .slice (some ⟨L6, 0, none⟩) 1 1, .slice none 0 0, .slice none 0 0] 50) := CBlk.new _ _ _
          have hgd : X6.heap.size ≤ V33.heap.size := hH.size
          refine hK.out _ _ (below_step hH (below1 _ _)) (fun hH => ?_)
          clear hK K
          try simp only [Act.put, List.setIfInBounds_toArray, List.set_cons_zero, List.set_cons_succ]
          refine wpAnyH_take (i := 18) (oi := ⟨_, _, _, _, _, _⟩) (v := .slice (some ⟨V33.heap.size, 0, none⟩) 4 4) rfl (by kernel_rfl) (by kernel_rfl) (by kernel_rfl) (fun _ _ _ h => h) (Or.inl ⟨by rfl, fun w' h => by clear h; go_simp⟩) hH ?_
          simp only [Act.put, List.setIfInBounds_toArray, List.set_cons_zero]
          refine wpAnyH_done (by kernel_rfl) ?_ _
          go_wp2_with fail
          exact bodyPost_ret (v := .slice (some ⟨V33.heap.size, 0, none⟩) 4 4) (by simp [results, Try.results6, go_sem]) rfl (four_fin (HT1.out.later hH) (HT2.out.later hH) (HT3.out.later hH) (HT4.out.later hH) (HT5.out.later hH) (HT6.out.later hH) (HKA.out.later (below1 _ _)) (HKB.out.later (below1 _ _)) (HKC.out.later (below1 _ _)) HKD.out (below_step HB6.out hH) HGA.out HGB.out HGC.out (Nat.le_trans HB6.out.size hgd))
        · go_simp
          have HKC : Hid (CBlk (V31.alloc (.cells #[.int .i64 0, .int .i64 0, .string ⟨#[]⟩, .string ⟨#[103, 111, 111, 100]⟩, .slice (some ⟨L3, 0, none⟩) 1 1, .int .i64 3, .int .i64 1, .string ⟨#[]⟩, .string ⟨#[111, 107]⟩, .slice (some ⟨L5, 0, none⟩) 1 1] 30)) V31.heap.size #[.int .i64 0, .int .i64 0, .string ⟨#[]⟩, .string ⟨#[103, 111, 111, 100]⟩, .slice (some ⟨L3, 0, none⟩) 1 1, .int .i64 3, .int .i64 1, .string ⟨#[]⟩, .string ⟨#[111, 107]⟩, .slice (some ⟨L5, 0, none⟩) 1 1] 30) := CBlk.new _ _ _
          have HGC : Hid (w.heap.size ≤ V31.heap.size) := Nat.le_trans HB6.out.size hH.size
          have HKB : Hid (CBlk (V31.alloc (.cells #[.int .i64 0, .int .i64 0, .string ⟨#[]⟩, .string ⟨#[103, 111, 111, 100]⟩, .slice (some ⟨L3, 0, none⟩) 1 1, .int .i64 3, .int .i64 1, .string ⟨#[]⟩, .string ⟨#[111, 107]⟩, .slice (some ⟨L5, 0, none⟩) 1 1] 30)) gb #[.int .i64 2, .int .i64 3, .int .i64 0, .string ⟨#[]⟩, .int .i64 2, .int .i64 0, .string ⟨#[97, 110, 110]⟩] 52) := HKB.out.later (below1 _ _)
          refine hK.out _ _ (below_step hH (below1 _ _)) (fun hH => ?_)
          clear hK K
          try simp only [Act.put, List.setIfInBounds_toArray, List.set_cons_zero, List.set_cons_succ]
          revert hH
          revert HKB
          revert HKC
          revert HGC
          generalize V31.alloc (.cells #[.int .i64 0, .int .i64 0, .string ⟨#[]⟩, .string ⟨#[103, 111, 111, 100]⟩, .slice (some ⟨L3, 0, none⟩) 1 1, .int .i64 3, .int .i64 1, .string ⟨#[]⟩, .string ⟨#[111, 107]⟩, .slice (some ⟨L5, 0, none⟩) 1 1] 30) = V34
          generalize V31.heap.size = gc
          intro HGC HKC HKB hH
          refine wpAnyH_take (i := 14) (oi := ⟨_, _, _, _, _, _⟩) (v := .agg #[.int .i64 0, .int .i64 0, .string ⟨#[]⟩, .string ⟨#[109, 97, 121]⟩, .slice (some ⟨L4, 0, none⟩) 1 1, .slice (some ⟨gc, 0, none⟩) 2 2, .slice none 0 0]) rfl (by kernel_rfl) (by kernel_rfl) (by kernel_rfl) (fun _ _ _ h => h) (Or.inl ⟨by rfl, fun w' h => by clear h; go_simp⟩) hH ?_
          simp only [Act.put, List.setIfInBounds_toArray, List.set_cons_zero, List.set_cons_succ]
          refine wpAnyH_ready (rs := [4]) (by kernel_rfl) (by simp) ?_
          refine (AllReadyH.cons (o := ⟨_, _, _, _, _, _⟩) rfl (fun K hK => ?_) AllReadyH.nil)
          go_simp
          have HKA : Hid (CBlk (V34.alloc (.cells #[.int .i64 0, .int .i64 0, .string ⟨#[]⟩, .string ⟨#[102, 114, 105, 101, 110, 100]⟩, .slice (some ⟨L2, 0, none⟩) 2 2] 30)) V34.heap.size #[.int .i64 0, .int .i64 0, .string ⟨#[]⟩, .string ⟨#[102, 114, 105, 101, 110, 100]⟩, .slice (some ⟨L2, 0, none⟩) 2 2] 30) := CBlk.new _ _ _
          have HGA : Hid (w.heap.size ≤ V34.heap.size) := Nat.le_trans HB6.out.size hH.size
          have HKB : Hid (CBlk (V34.alloc (.cells #[.int .i64 0, .int .i64 0, .string ⟨#[]⟩, .string ⟨#[102, 114, 105, 101, 110, 100]⟩, .slice (some ⟨L2, 0, none⟩) 2 2] 30)) gb #[.int .i64 2, .int .i64 3, .int .i64 0, .string ⟨#[]⟩, .int .i64 2, .int .i64 0, .string ⟨#[97, 110, 110]⟩] 52) := HKB.out.later (below1 _ _)
          have HKC : Hid (CBlk (V34.alloc (.cells #[.int .i64 0, .int .i64 0, .string ⟨#[]⟩, .string ⟨#[102, 114, 105, 101, 110, 100]⟩, .slice (some ⟨L2, 0, none⟩) 2 2] 30)) gc #[.int .i64 0, .int .i64 0, .string ⟨#[]⟩, .string ⟨#[103, 111, 111, 100]⟩, .slice (some ⟨L3, 0, none⟩) 1 1, .int .i64 3, .int .i64 1, .string ⟨#[]⟩, .string ⟨#[111, 107]⟩, .slice (some ⟨L5, 0, none⟩) 1 1] 30) := HKC.out.later (below1 _ _)
          refine hK.out _ _ (below_step hH (below1 _ _)) (fun hH => ?_)
          clear hK K
          try simp only [Act.put, List.setIfInBounds_toArray, List.set_cons_zero, List.set_cons_succ]
          revert hH
          revert HKB
          revert HKC
          revert HKA
          revert HGA
          generalize V34.alloc (.cells #[.int .i64 0, .int .i64 0, .string ⟨#[]⟩, .string ⟨#[102, 114, 105, 101, 110, 100]⟩, .slice (some ⟨L2, 0, none⟩) 2 2] 30) = V35
          generalize V34.heap.size = ga
          intro HGA HKA HKC HKB hH
          refine wpAnyH_take (i := 9) (oi := ⟨_, _, _, _, _, _⟩) (v := .agg #[.int .i64 0, .int .i64 0, .string ⟨#[]⟩, .string ⟨#[103, 111, 111, 100]⟩, .slice (some ⟨L3, 0, none⟩) 1 1, .slice (some ⟨ga, 0, none⟩) 1 1, .slice (some ⟨gb, 0, none⟩) 1 1]) rfl (by kernel_rfl) (by kernel_rfl) (by kernel_rfl) (fun _ _ _ h => h) (Or.inl ⟨by rfl, fun w' h => by clear h; go_simp⟩) hH ?_
          simp only [Act.put, List.setIfInBounds_toArray, List.set_cons_zero, List.set_cons_succ]
          refine wpAnyH_ready (rs := [17]) (by kernel_rfl) (by simp) ?_
          refine (AllReadyH.cons (o := ⟨_, _, _, _, _, _⟩) rfl (fun K hK => ?_) AllReadyH.nil)
          go_simp
          have HKD : Hid (CBlk (V35.alloc (.cells #[.int .i64 0, .int .i64 0, .string ⟨#[]⟩, .string ⟨#[102, 114, 105, 101, 110, 100]⟩, .slice (some ⟨L1, 0, none⟩) 2 2, .slice none 0 0, .slice none 0 0, .int .i64 0, .int .i64 0, .string ⟨#[]⟩, .string ⟨#[103, 111, 111, 100]⟩, .slice (some ⟨L3, 0, none⟩) 1 1, .slice (some ⟨ga, 0, none⟩) 1 1, .slice (some ⟨gb, 0, none⟩) 1 1, .int .i64 0, .int .i64 0, .string ⟨#[]⟩, .string ⟨#[109, 97, 121]⟩, .slice (some ⟨L4, 0, none⟩) 1 1, .slice (some ⟨gc, 0, none⟩) 2 2, .slice none 0 0, .int .i64 2, .int .i64 0, .string ⟨#[99, 97, 114, 108]⟩, .string ⟨#[111, 107]⟩, .slice (some ⟨L6, 0, none⟩) 1 1, .slice none 0 0, .slice none 0 0] 50)) V35.heap.size #[.int .i64 0, .int .i64 0, .string ⟨#[]⟩, .string ⟨#[102, 114, 105, 101, 110, 100]⟩, .slice (some ⟨L1, 0, none⟩) 2 2, .slice none 0 0, .slice none 0 0, .int .i64 0, .int .i64 0, .string ⟨#[]⟩, .string ⟨#[103, 111, 111, 100]⟩, .slice (some ⟨L3, 0, none⟩) 1 1, .slice (some ⟨ga, 0, none⟩) 1 1, .slice (some ⟨gb, 0, none⟩) 1 1, .int .i64 0, .int .i64 0, .string ⟨#[]⟩, .string ⟨#[109, 97, 121]⟩, .slice (some ⟨L4, 0, none⟩) 1 1, .slice (some ⟨gc, 0, none⟩) 2 2, .slice none 0 0, .int .i64 2, .int .i64 0, .string ⟨#[99, 97, 114, 108]⟩, .string ⟨#[111, 107]⟩, .slice (some ⟨L6, 0, none⟩) 1 1, .slice none 0 0, .slice none 0 0] 50) := CBlk.new _ _ _
          have hgd : X6.heap.size ≤ V35.heap.size := hH.size
          refine hK.out _ _ (below_step hH (below1 _ _)) (fun hH => ?_)
          clear hK K
          try simp only [Act.put, List.setIfInBounds_toArray, List.set_cons_zero, List.set_cons_succ]
          refine wpAnyH_take (i := 18) (oi := ⟨_, _, _, _, _, _⟩) (v := .slice (some ⟨V35.heap.size, 0, none⟩) 4 4) rfl (by kernel_rfl) (by kernel_rfl) (by kernel_rfl) (fun _ _ _ h => h) (Or.inl ⟨by rfl, fun w' h => by clear h; go_simp⟩) hH ?_
          simp only [Act.put, List.setIfInBounds_toArray, List.set_cons_zero]
          refine wpAnyH_done (by kernel_rfl) ?_ _
          go_wp2_with fail
          exact bodyPost_ret (v := .slice (some ⟨V35.heap.size, 0, none⟩) 4 4) (by simp [results, Try.results6, go_sem]) rfl (four_fin (HT1.out.later hH) (HT2.out.later hH) (HT3.out.later hH) (HT4.out.later hH) (HT5.out.later hH) (HT6.out.later hH) (HKA.out.later (below1 _ _)) (HKB.out.later (below1 _ _)) (HKC.out.later (below1 _ _)) HKD.out (below_step HB6.out hH) HGA.out HGB.out HGC.out (Nat.le_trans HB6.out.size hgd))
      · go_simp
        have HKC : Hid (CBlk (V25.alloc (.cells #[.int .i64 0, .int .i64 0, .string ⟨#[]⟩, .string ⟨#[103, 111, 111, 100]⟩, .slice (some ⟨L3, 0, none⟩) 1 1, .int .i64 3, .int .i64 1, .string ⟨#[]⟩, .string ⟨#[111, 107]⟩, .slice (some ⟨L5, 0, none⟩) 1 1] 30)) V25.heap.size #[.int .i64 0, .int .i64 0, .string ⟨#[]⟩, .string ⟨#[103, 111, 111, 100]⟩, .slice (some ⟨L3, 0, none⟩) 1 1, .int .i64 3, .int .i64 1, .string ⟨#[]⟩, .string ⟨#[111, 107]⟩, .slice (some ⟨L5, 0, none⟩) 1 1] 30) := CBlk.new _ _ _
        have HGC : Hid (w.heap.size ≤ V25.heap.size) := Nat.le_trans HB6.out.size hH.size
        refine hK.out _ _ (below_step hH (below1 _ _)) (fun hH => ?_)
        clear hK K
        try simp only [Act.put, List.setIfInBounds_toArray, List.set_cons_zero, List.set_cons_succ]
        revert hH
        revert HKC
        revert HGC
        generalize V25.alloc (.cells #[.int .i64 0, .int .i64 0, .string ⟨#[]⟩, .string ⟨#[103, 111, 111, 100]⟩, .slice (some ⟨L3, 0, none⟩) 1 1, .int .i64 3, .int .i64 1, .string ⟨#[]⟩, .string ⟨#[111, 107]⟩, .slice (some ⟨L5, 0, none⟩) 1 1] 30) = V36
        generalize V25.heap.size = gc
        intro HGC HKC  hH
        refine wpAnyH_take (i := 14) (oi := ⟨_, _, _, _, _, _⟩) (v := .agg #[.int .i64 0, .int .i64 0, .string ⟨#[]⟩, .string ⟨#[109, 97, 121]⟩, .slice (some ⟨L4, 0, none⟩) 1 1, .slice (some ⟨gc, 0, none⟩) 2 2, .slice none 0 0]) rfl (by kernel_rfl) (by kernel_rfl) (by kernel_rfl) (fun _ _ _ h => h) (Or.inl ⟨by rfl, fun w' h => by clear h; go_simp⟩) hH ?_
        simp only [Act.put, List.setIfInBounds_toArray, List.set_cons_zero, List.set_cons_succ]
        refine wpAnyH_ready (rs := [4, 8]) (by kernel_rfl) (by simp) ?_
        refine (AllReadyH.cons (o := ⟨_, _, _, _, _, _⟩) rfl (fun K hK => ?_) (AllReadyH.cons (o := ⟨_, _, _, _, _, _⟩) rfl (fun K hK => ?_) AllReadyH.nil))
        · go_simp
          have HKA : Hid (CBlk (V36.alloc (.cells #[.int .i64 0, .int .i64 0, .string ⟨#[]⟩, .string ⟨#[102, 114, 105, 101, 110, 100]⟩, .slice (some ⟨L2, 0, none⟩) 2 2] 30)) V36.heap.size #[.int .i64 0, .int .i64 0, .string ⟨#[]⟩, .string ⟨#[102, 114, 105, 101, 110, 100]⟩, .slice (some ⟨L2, 0, none⟩) 2 2] 30) := CBlk.new _ _ _
          have HGA : Hid (w.heap.size ≤ V36.heap.size) := Nat.le_trans HB6.out.size hH.size
          have HKC : Hid (CBlk (V36.alloc (.cells #[.int .i64 0, .int .i64 0, .string ⟨#[]⟩, .string ⟨#[102, 114, 105, 101, 110, 100]⟩, .slice (some ⟨L2, 0, none⟩) 2 2] 30)) gc #[.int .i64 0, .int .i64 0, .string ⟨#[]⟩, .string ⟨#[103, 111, 111, 100]⟩, .slice (some ⟨L3, 0, none⟩) 1 1, .int .i64 3, .int .i64 1, .string ⟨#[]⟩, .string ⟨#[111, 107]⟩, .slice (some ⟨L5, 0, none⟩) 1 1] 30) := HKC.out.later (below1 _ _)
          refine hK.out _ _ (below_step hH (below1 _ _)) (fun hH => ?_)
          clear hK K
          try simp only [Act.put, List.setIfInBounds_toArray, List.set_cons_zero, List.set_cons_succ]
          revert hH
          revert HKC
          revert HKA
          revert HGA
          generalize V36.alloc (.cells #[.int .i64 0, .int .i64 0, .string ⟨#[]⟩, .string ⟨#[102, 114, 105, 101, 110, 100]⟩, .slice (some ⟨L2, 0, none⟩) 2 2] 30) = V37
          generalize V36.heap.size = ga
          intro HGA HKA HKC hH
          refine wpAnyH_ready (rs := [8]) (by kernel_rfl) (by simp) ?_
          refine (AllReadyH.cons (o := ⟨_, _, _, _, _, _⟩) rfl (fun K hK => ?_) AllReadyH.nil)
          go_simp
          have HKB : Hid (CBlk (V37.alloc (.cells #[.int .i64 2, .int .i64 3, .int .i64 0, .string ⟨#[]⟩, .int .i64 2, .int .i64 0, .string ⟨#[97, 110, 110]⟩] 52)) V37.heap.size #[.int .i64 2, .int .i64 3, .int .i64 0, .string ⟨#[]⟩, .int .i64 2, .int .i64 0, .string ⟨#[97, 110, 110]⟩] 52) := CBlk.new _ _ _
          have HGB : Hid (w.heap.size ≤ V37.heap.size) := Nat.le_trans HB6.out.size hH.size
          have HKA : Hid (CBlk (V37.alloc (.cells #[.int .i64 2, .int .i64 3, .int .i64 0, .string ⟨#[]⟩, .int .i64 2, .int .i64 0, .string ⟨#[97, 110, 110]⟩] 52)) ga #[.int .i64 0, .int .i64 0, .string ⟨#[]⟩, .string ⟨#[102, 114, 105, 101, 110, 100]⟩, .slice (some ⟨L2, 0, none⟩) 2 2] 30) := HKA.out.later (below1 _ _)
          have HKC : Hid (CBlk (V37.alloc (.cells #[.int .i64 2, .int .i64 3, .int .i64 0, .string ⟨#[]⟩, .int .i64 2, .int .i64 0, .string ⟨#[97, 110, 110]⟩] 52)) gc #[.int .i64 0, .int .i64 0, .string ⟨#[]⟩, .string ⟨#[103, 111, 111, 100]⟩, .slice (some ⟨L3, 0, none⟩) 1 1, .int .i64 3, .int .i64 1, .string ⟨#[]⟩, .string ⟨#[111, 107]⟩, .slice (some ⟨L5, 0, none⟩) 1 1] 30) := HKC.out.later (below1 _ _)
          refine hK.out _ _ (below_step hH (below1 _ _)) (fun hH => ?_)
          clear hK K
          try simp only [Act.put, List.setIfInBounds_toArray, List.set_cons_zero, List.set_cons_succ]
          revert hH
          revert HKA
          revert HKC
          revert HKB
          revert HGB
          generalize V37.alloc (.cells #[.int .i64 2, .int .i64 3, .int .i64 0, .string ⟨#[]⟩, .int .i64 2, .int .i64 0, .string ⟨#[97, 110, 110]⟩] 52) = V38
          generalize V37.heap.size = gb
          intro HGB HKB HKC HKA hH
          refine wpAnyH_take (i := 9) (oi := ⟨_, _, _, _, _, _⟩) (v := .agg #[.int .i64 0, .int .i64 0, .string ⟨#[]⟩, .string ⟨#[103, 111, 111, 100]⟩, .slice (some ⟨L3, 0, none⟩) 1 1, .slice (some ⟨ga, 0, none⟩) 1 1, .slice (some ⟨gb, 0, none⟩) 1 1]) rfl (by kernel_rfl) (by kernel_rfl) (by kernel_rfl) (fun _ _ _ h => h) (Or.inl ⟨by rfl, fun w' h => by clear h; go_simp⟩) hH ?_
          simp only [Act.put, List.setIfInBounds_toArray, List.set_cons_zero, List.set_cons_succ]
          refine wpAnyH_ready (rs := [17]) (by kernel_rfl) (by simp) ?_
          refine (AllReadyH.cons (o := ⟨_, _, _, _, _, _⟩) rfl (fun K hK => ?_) AllReadyH.nil)
          go_simp
          have HKD : Hid (CBlk (V38.alloc (.cells #[.int .i64 0, .int .i64 0, .string ⟨#[]⟩, .string ⟨#[102, 114, 105, 101, 110, 100]⟩, .slice (some ⟨L1, 0, none⟩) 2 2, .slice none 0 0, .slice none 0 0, .int .i64 0, .int .i64 0, .string ⟨#[]⟩, .string ⟨#[103, 111, 111, 100]⟩, .slice (some ⟨L3, 0, none⟩) 1 1, .slice (some ⟨ga, 0, none⟩) 1 1, .slice (some ⟨gb, 0, none⟩) 1 1, .int .i64 0, .int .i64 0, .string ⟨#[]⟩, .string ⟨#[109, 97, 121]⟩, .slice (some ⟨L4, 0, none⟩) 1 1, .slice (some ⟨gc, 0, none⟩) 2 2, .slice none 0 0, .int .i64 2, .int .i64 0, .string ⟨#[99, 97, 114, 108]⟩, .string ⟨#[111, 107]⟩, .slice (some ⟨L6, 0, none⟩) 1 1, .slice none 0 0, .slice none 0 0] 50)) V38.heap.size #[.int .i64 0, .int .i64 0, .string ⟨#[]⟩, .string ⟨#[102, 114, 105, 101, 110, 100]⟩, .slice (some ⟨L1, 0, none⟩) 2 2, .slice none 0 0, .slice none 0 0, .int .i64 0, .int .i64 0, .string ⟨#[]⟩, .string ⟨#[103, 111, 111, 100]⟩, .slice (some ⟨L3, 0, none⟩) 1 1, .slice (some ⟨ga, 0, none⟩) 1 1, .slice (some ⟨gb, 0, none⟩) 1 1, .int .i64 0, .int .i64 0, .string ⟨#[]⟩, .string ⟨#[109, 97, 121]⟩, .slice (some ⟨L4, 0, none⟩) 1 1, .slice (some ⟨gc, 0, none⟩) 2 2, .slice none 0 0, .int .i64 2, .int .i64 0, .string ⟨#[99, 97, 114, 108]⟩, .string ⟨#[111, 107]⟩, .slice (some ⟨L6, 0, none⟩) 1 1, .slice none 0 0, .slice none 0 0] 50) := CBlk.new _ _ _
          have hgd : X6.heap.size ≤ V38.heap.size := hH.size
          refine hK.out _ _ (below_step hH (below1 _ _)) (fun hH => ?_)
          clear hK K
          try simp only [Act.put, List.setIfInBounds_toArray, List.set_cons_zero, List.set_cons_succ]
          refine wpAnyH_take (i := 18) (oi := ⟨_, _, _, _, _, _⟩) (v := .slice (some ⟨V38.heap.size, 0, none⟩) 4 4) rfl (by kernel_rfl) (by kernel_rfl) (by kernel_rfl) (fun _ _ _ h => h) (Or.inl ⟨by rfl, fun w' h => by clear h; go_simp⟩) hH ?_
          simp only [Act.put, List.setIfInBounds_toArray, List.set_cons_zero]
          refine wpAnyH_done (by kernel_rfl) ?_ _
          go_wp2_with fail
          exact bodyPost_ret (v := .slice (some ⟨V38.heap.size, 0, none⟩) 4 4) (by simp [results, Try.results6, go_sem]) rfl (four_fin (HT1.out.later hH) (HT2.out.later hH) (HT3.out.later hH) (HT4.out.later hH) (HT5.out.later hH) (HT6.out.later hH) (HKA.out.later (below1 _ _)) (HKB.out.later (below1 _ _)) (HKC.out.later (below1 _ _)) HKD.out (below_step HB6.out hH) HGA.out HGB.out HGC.out (Nat.le_trans HB6.out.size hgd))
        · go_simp
          have HKB : Hid (CBlk (V36.alloc (.cells #[.int .i64 2, .int .i64 3, .int .i64 0, .string ⟨#[]⟩, .int .i64 2, .int .i64 0, .string ⟨#[97, 110, 110]⟩] 52)) V36.heap.size #[.int .i64 2, .int .i64 3, .int .i64 0, .string ⟨#[]⟩, .int .i64 2, .int .i64 0, .string ⟨#[97, 110, 110]⟩] 52) := CBlk.new _ _ _
          have HGB : Hid (w.heap.size ≤ V36.heap.size) := Nat.le_trans HB6.out.size hH.size
          have HKC : Hid (CBlk (V36.alloc (.cells #[.int .i64 2, .int .i64 3, .int .i64 0, .string ⟨#[]⟩, .int .i64 2, .int .i64 0, .string ⟨#[97, 110, 110]⟩] 52)) gc #[.int .i64 0, .int .i64 0, .string ⟨#[]⟩, .string ⟨#[103, 111, 111, 100]⟩, .slice (some ⟨L3, 0, none⟩) 1 1, .int .i64 3, .int .i64 1, .string ⟨#[]⟩, .string ⟨#[111, 107]⟩, .slice (some ⟨L5, 0, none⟩) 1 1] 30) := HKC.out.later (below1 _ _)
          refine hK.out _ _ (below_step hH (below1 _ _)) (fun hH => ?_)
          clear hK K
          try simp only [Act.put, List.setIfInBounds_toArray, List.set_cons_zero, List.set_cons_succ]
          revert hH
          revert HKC
          revert HKB
          revert HGB
          generalize V36.alloc (.cells #[.int .i64 2, .int .i64 3, .int .i64 0, .string ⟨#[]⟩, .int .i64 2, .int .i64 0, .string ⟨#[97, 110, 110]⟩] 52) = V39
          generalize V36.heap.size = gb
          intro HGB HKB HKC hH
          refine wpAnyH_ready (rs := [4]) (by kernel_rfl) (by simp) ?_
          refine (AllReadyH.cons (o := ⟨_, _, _, _, _, _⟩) rfl (fun K hK => ?_) AllReadyH.nil)
          go_simp
          have HKA : Hid (CBlk (V39.alloc (.cells #[.int .i64 0, .int .i64 0, .string ⟨#[]⟩, .string ⟨#[102, 114, 105, 101, 110, 100]⟩, .slice (some ⟨L2, 0, none⟩) 2 2] 30)) V39.heap.size #[.int .i64 0, .int .i64 0, .string ⟨#[]⟩, .string ⟨#[102, 114, 105, 101, 110, 100]⟩, .slice (some ⟨L2, 0, none⟩) 2 2] 30) := CBlk.new _ _ _
          have HGA : Hid (w.heap.size ≤ V39.heap.size) := Nat.le_trans HB6.out.size hH.size
          have HKB : Hid (CBlk (V39.alloc (.cells #[.int .i64 0, .int .i64 0, .string ⟨#[]⟩, .string ⟨#[102, 114, 105, 101, 110, 100]⟩, .slice (some ⟨L2, 0, none⟩) 2 2] 30)) gb #[.int .i64 2, .int .i64 3, .int .i64 0, .string ⟨#[]⟩, .int .i64 2, .int .i64 0, .string ⟨#[97, 110, 110]⟩] 52) := HKB.out.later (below1 _ _)
          have HKC : Hid (CBlk (V39.alloc (.cells #[.int .i64 0, .int .i64 0, .string ⟨#[]⟩, .string ⟨#[102, 114, 105, 101, 110, 100]⟩, .slice (some ⟨L2, 0, none⟩) 2 2] 30)) gc #[.int .i64 0, .int .i64 0, .string ⟨#[]⟩, .string ⟨#[103, 111, 111, 100]⟩, .slice (some ⟨L3, 0, none⟩) 1 1, .int .i64 3, .int .i64 1, .string ⟨#[]⟩, .string ⟨#[111, 107]⟩, .slice (some ⟨L5, 0, none⟩) 1 1] 30) := HKC.out.later (below1 _ _)
          refine hK.out _ _ (below_step hH (below1 _ _)) (fun hH => ?_)
          clear hK K
          try simp only [Act.put, List.setIfInBounds_toArray, List.set_cons_zero, List.set_cons_succ]
          revert hH
          revert HKB
          revert HKC
          revert HKA
          revert HGA
          generalize V39.alloc (.cells #[.int .i64 0, .int .i64 0, .string ⟨#[]⟩, .string ⟨#[102, 114, 105, 101, 110, 100]⟩, .slice (some ⟨L2, 0, none⟩) 2 2] 30) = V40
          generalize V39.heap.size = ga
          intro HGA HKA HKC HKB hH
          refine wpAnyH_take (i := 9) (oi := ⟨_, _, _, _, _, _⟩) (v := .agg #[.int .i64 0, .int .i64 0, .string ⟨#[]⟩, .string ⟨#[103, 111, 111, 100]⟩, .slice (some ⟨L3, 0, none⟩) 1 1, .slice (some ⟨ga, 0, none⟩) 1 1, .slice (some ⟨gb, 0, none⟩) 1 1]) rfl (by kernel_rfl) (by kernel_rfl) (by kernel_rfl) (fun _ _ _ h => h) (Or.inl ⟨by rfl, fun w' h => by clear h; go_simp⟩) hH ?_
          simp only [Act.put, List.setIfInBounds_toArray, List.set_cons_zero, List.set_cons_succ]
          refine wpAnyH_ready (rs := [17]) (by kernel_rfl) (by simp) ?_
          refine (AllReadyH.cons (o := ⟨_, _, _, _, _, _⟩) rfl (fun K hK => ?_) AllReadyH.nil)
          go_simp
          have HKD : Hid (CBlk (V40.alloc (.cells #[.int .i64 0, .int .i64 0, .string ⟨#[]⟩, .string ⟨#[102, 114, 105, 101, 110, 100]⟩, .slice (some ⟨L1, 0, none⟩) 2 2, .slice none 0 0, .slice none 0 0, .int .i64 0, .int .i64 0, .string ⟨#[]⟩, .string ⟨#[103, 111, 111, 100]⟩, .slice (some ⟨L3, 0, none⟩) 1 1, .slice (some ⟨ga, 0, none⟩) 1 1, .slice (some ⟨gb, 0, none⟩) 1 1, .int .i64 0, .int .i64 0, .string ⟨#[]⟩, .string ⟨#[109, 97, 121]⟩, .slice (some ⟨L4, 0, none⟩) 1 1, .slice (some ⟨gc, 0, none⟩) 2 2, .slice none 0 0, .int .i64 2, .int .i64 0, .string ⟨#[99, 97, 114, 108]⟩, .string ⟨#[111, 107]⟩, .slice (some ⟨L6, 0, none⟩) 1 1, .slice none 0 0, .slice none 0 0] 50)) V40.heap.size #[.int .i64 0, .int .i64 0, .string ⟨#[]⟩, .string ⟨#[102, 114, 105, 101, 110, 100]⟩, .slice (some ⟨L1, 0, none⟩) 2 2, .slice none 0 0, .slice none 0 0, .int .i64 0, .int .i64 0, .string ⟨#[]⟩, .string ⟨#[103, 111, 111, 100]⟩, .slice (some ⟨L3, 0, none⟩) 1 1, .slice (some ⟨ga, 0, none⟩) 1 1, .slice (some ⟨gb, 0, none⟩) 1 1, .int .i64 0, .int .i64 0, .string ⟨#[]⟩, .string ⟨#[109, 97, 121]⟩, .slice (some ⟨L4, 0, none⟩) 1 1, .slice (some ⟨gc, 0, none⟩) 2 2, .slice none 0 0, .int .i64 2, .int .i64 0, .string ⟨#[99, 97, 114, 108]⟩, .string ⟨#[111, 107]⟩, .slice (some ⟨L6, 0, none⟩) 1 1, .slice none 0 0, .slice none 0 0] 50) := CBlk.new _ _ _
          have hgd : X6.heap.size ≤ V40.heap.size := hH.size
          refine hK.out _ _ (below_step hH (below1 _ _)) (fun hH => ?_)
          clear hK K
          try simp only [Act.put, List.setIfInBounds_toArray, List.set_cons_zero, List.set_cons_succ]
          refine wpAnyH_take (i := 18) (oi := ⟨_, _, _, _, _, _⟩) (v := .slice (some ⟨V40.heap.size, 0, none⟩) 4 4) rfl (by kernel_rfl) (by kernel_rfl) (by kernel_rfl) (fun _ _ _ h => h) (Or.inl ⟨by rfl, fun w' h => by clear h; go_simp⟩) hH ?_
          simp only [Act.put, List.setIfInBounds_toArray, List.set_cons_zero]
          refine wpAnyH_done (by kernel_rfl) ?_ _
          go_wp2_with fail
          exact bodyPost_ret (v := .slice (some ⟨V40.heap.size, 0, none⟩) 4 4) (by simp [results, Try.results6, go_sem]) rfl (four_fin (HT1.out.later hH) (HT2.out.later hH) (HT3.out.later hH) (HT4.out.later hH) (HT5.out.later hH) (HT6.out.later hH) (HKA.out.later (below1 _ _)) (HKB.out.later (below1 _ _)) (HKC.out.later (below1 _ _)) HKD.out (below_step HB6.out hH) HGA.out HGB.out HGC.out (Nat.le_trans HB6.out.size hgd))
    · go_simp
      have HKC : Hid (CBlk (V15.alloc (.cells #[.int .i64 0, .int .i64 0, .string ⟨#[]⟩, .string ⟨#[103, 111, 111, 100]⟩, .slice (some ⟨L3, 0, none⟩) 1 1, .int .i64 3, .int .i64 1, .string ⟨#[]⟩, .string ⟨#[111, 107]⟩, .slice (some ⟨L5, 0, none⟩) 1 1] 30)) V15.heap.size #[.int .i64 0, .int .i64 0, .string ⟨#[]⟩, .string ⟨#[103, 111, 111, 100]⟩, .slice (some ⟨L3, 0, none⟩) 1 1, .int .i64 3, .int .i64 1, .string ⟨#[]⟩, .string ⟨#[111, 107]⟩, .slice (some ⟨L5, 0, none⟩) 1 1] 30) := CBlk.new _ _ _
      have HGC : Hid (w.heap.size ≤ V15.heap.size) := Nat.le_trans HB6.out.size hH.size
      refine hK.out _ _ (below_step hH (below1 _ _)) (fun hH => ?_)
      clear hK K
      try simp only [Act.put, List.setIfInBounds_toArray, List.set_cons_zero, List.set_cons_succ]
      revert hH
      revert HKC
      revert HGC
      generalize V15.alloc (.cells #[.int .i64 0, .int .i64 0, .string ⟨#[]⟩, .string ⟨#[103, 111, 111, 100]⟩, .slice (some ⟨L3, 0, none⟩) 1 1, .int .i64 3, .int .i64 1, .string ⟨#[]⟩, .string ⟨#[111, 107]⟩, .slice (some ⟨L5, 0, none⟩) 1 1] 30) = V41
      generalize V15.heap.size = gc
      intro HGC HKC  hH
      refine wpAnyH_take (i := 14) (oi := ⟨_, _, _, _, _, _⟩) (v := .agg #[.int .i64 0, .int .i64 0, .string ⟨#[]⟩, .string ⟨#[109, 97, 121]⟩, .slice (some ⟨L4, 0, none⟩) 1 1, .slice (some ⟨gc, 0, none⟩) 2 2, .slice none 0 0]) rfl (by kernel_rfl) (by kernel_rfl) (by kernel_rfl) (fun _ _ _ h => h) (Or.inl ⟨by rfl, fun w' h => by clear h; go_simp⟩) hH ?_
      simp only [Act.put, List.setIfInBounds_toArray, List.set_cons_zero, List.set_cons_succ]
      refine wpAnyH_ready (rs := [4, 6]) (by kernel_rfl) (by simp) ?_
      refine (AllReadyH.cons (o := ⟨_, _, _, _, _, _⟩) rfl (fun K hK => ?_) (AllReadyH.cons (o := ⟨_, _, _, _, _, _⟩) rfl (fun K hK => ?_) AllReadyH.nil))
      · go_simp
        have HKA : Hid (CBlk (V41.alloc (.cells #[.int .i64 0, .int .i64 0, .string ⟨#[]⟩, .string ⟨#[102, 114, 105, 101, 110, 100]⟩, .slice (some ⟨L2, 0, none⟩) 2 2] 30)) V41.heap.size #[.int .i64 0, .int .i64 0, .string ⟨#[]⟩, .string ⟨#[102, 114, 105, 101, 110, 100]⟩, .slice (some ⟨L2, 0, none⟩) 2 2] 30) := CBlk.new _ _ _
        have HGA : Hid (w.heap.size ≤ V41.heap.size) := Nat.le_trans HB6.out.size hH.size
        have HKC : Hid (CBlk (V41.alloc (.cells #[.int .i64 0, .int .i64 0, .string ⟨#[]⟩, .string ⟨#[102, 114, 105, 101, 110, 100]⟩, .slice (some ⟨L2, 0, none⟩) 2 2] 30)) gc #[.int .i64 0, .int .i64 0, .string ⟨#[]⟩, .string ⟨#[103, 111, 111, 100]⟩, .slice (some ⟨L3, 0, none⟩) 1 1, .int .i64 3, .int .i64 1, .string ⟨#[]⟩, .string ⟨#[111, 107]⟩, .slice (some ⟨L5, 0, none⟩) 1 1] 30) := HKC.out.later (below1 _ _)
        refine hK.out _ _ (below_step hH (below1 _ _)) (fun hH => ?_)
        clear hK K
        try simp only [Act.put, List.setIfInBounds_toArray, List.set_cons_zero, List.set_cons_succ]
        revert hH
        revert HKC
        revert HKA
        revert HGA
        generalize V41.alloc (.cells #[.int .i64 0, .int .i64 0, .string ⟨#[]⟩, .string ⟨#[102, 114, 105, 101, 110, 100]⟩, .slice (some ⟨L2, 0, none⟩) 2 2] 30) = V42
        generalize V41.heap.size = ga
        intro HGA HKA HKC hH
        refine wpAnyH_ready (rs := [6]) (by kernel_rfl) (by simp) ?_
        refine (AllReadyH.cons (o := ⟨_, _, _, _, _, _⟩) rfl (fun K hK => ?_) AllReadyH.nil)
        go_simp
        refine (text12_any _ _).mono ?_
        rintro e V43 ⟨rfl, hb⟩
        have HKA : Hid (CBlk V43 ga #[.int .i64 0, .int .i64 0, .string ⟨#[]⟩, .string ⟨#[102, 114, 105, 101, 110, 100]⟩, .slice (some ⟨L2, 0, none⟩) 2 2] 30) := HKA.out.later hb
        have HKC : Hid (CBlk V43 gc #[.int .i64 0, .int .i64 0, .string ⟨#[]⟩, .string ⟨#[103, 111, 111, 100]⟩, .slice (some ⟨L3, 0, none⟩) 1 1, .int .i64 3, .int .i64 1, .string ⟨#[]⟩, .string ⟨#[111, 107]⟩, .slice (some ⟨L5, 0, none⟩) 1 1] 30) := HKC.out.later hb
        refine hK.out _ _ (below_step hH hb) (fun hH => ?_)
        clear hK K hb
        try simp only [Act.put, List.setIfInBounds_toArray, List.set_cons_zero, List.set_cons_succ]
        refine wpAnyH_take (i := 7) (oi := ⟨_, _, _, _, _, _⟩) (v := .agg #[.int .i64 2, .int .i64 3, .int .i64 0, .string ⟨#[]⟩, .int .i64 2, .int .i64 0, .string ⟨#[97, 110, 110]⟩]) rfl (by kernel_rfl) (by kernel_rfl) (by kernel_rfl) (fun _ _ _ h => h) (Or.inl ⟨by rfl, fun w' h => by clear h; go_simp⟩) hH ?_
        simp only [Act.put, List.setIfInBounds_toArray, List.set_cons_zero, List.set_cons_succ]
        refine wpAnyH_ready (rs := [8]) (by kernel_rfl) (by simp) ?_
        refine (AllReadyH.cons (o := ⟨_, _, _, _, _, _⟩) rfl (fun K hK => ?_) AllReadyH.nil)
        go_simp
        have HKB : Hid (CBlk (V43.alloc (.cells #[.int .i64 2, .int .i64 3, .int .i64 0, .string ⟨#[]⟩, .int .i64 2, .int .i64 0, .string ⟨#[97, 110, 110]⟩] 52)) V43.heap.size #[.int .i64 2, .int .i64 3, .int .i64 0, .string ⟨#[]⟩, .int .i64 2, .int .i64 0, .string ⟨#[97, 110, 110]⟩] 52) := CBlk.new _ _ _
        have HGB : Hid (w.heap.size ≤ V43.heap.size) := Nat.le_trans HB6.out.size hH.size
        have HKA : Hid (CBlk (V43.alloc (.cells #[.int .i64 2, .int .i64 3, .int .i64 0, .string ⟨#[]⟩, .int .i64 2, .int .i64 0, .string ⟨#[97, 110, 110]⟩] 52)) ga #[.int .i64 0, .int .i64 0, .string ⟨#[]⟩, .string ⟨#[102, 114, 105, 101, 110, 100]⟩, .slice (some ⟨L2, 0, none⟩) 2 2] 30) := HKA.out.later (below1 _ _)
        have HKC : Hid (CBlk (V43.alloc (.cells #[.int .i64 2, .int .i64 3, .int .i64 0, .string ⟨#[]⟩, .int .i64 2, .int .i64 0, .string ⟨#[97, 110, 110]⟩] 52)) gc #[.int .i64 0, .int .i64 0, .string ⟨#[]⟩, .string ⟨#[103, 111, 111, 100]⟩, .slice (some ⟨L3, 0, none⟩) 1 1, .int .i64 3, .int .i64 1, .string ⟨#[]⟩, .string ⟨#[111, 107]⟩, .slice (some ⟨L5, 0, none⟩) 1 1] 30) := HKC.out.later (below1 _ _)
        refine hK.out _ _ (below_step hH (below1 _ _)) (fun hH => ?_)
        clear hK K
        try simp only [Act.put, List.setIfInBounds_toArray, List.set_cons_zero, List.set_cons_succ]
        revert hH
        revert HKA
        revert HKC
        revert HKB
        revert HGB
        generalize V43.alloc (.cells #[.int .i64 2, .int .i64 3, .int .i64 0, .string ⟨#[]⟩, .int .i64 2, .int .i64 0, .string ⟨#[97, 110, 110]⟩] 52) = V44
        generalize V43.heap.size = gb
        intro HGB HKB HKC HKA hH
        refine wpAnyH_take (i := 9) (oi := ⟨_, _, _, _, _, _⟩) (v := .agg #[.int .i64 0, .int .i64 0, .string ⟨#[]⟩, .string ⟨#[103, 111, 111, 100]⟩, .slice (some ⟨L3, 0, none⟩) 1 1, .slice (some ⟨ga, 0, none⟩) 1 1, .slice (some ⟨gb, 0, none⟩) 1 1]) rfl (by kernel_rfl) (by kernel_rfl) (by kernel_rfl) (fun _ _ _ h => h) (Or.inl ⟨by rfl, fun w' h => by clear h; go_simp⟩) hH ?_
        simp only [Act.put, List.setIfInBounds_toArray, List.set_cons_zero, List.set_cons_succ]
        refine wpAnyH_ready (rs := [17]) (by kernel_rfl) (by simp) ?_
        refine (AllReadyH.cons (o := ⟨_, _, _, _, _, _⟩) rfl (fun K hK => ?_) AllReadyH.nil)
        go_simp
        have HKD : Hid (CBlk (V44.alloc (.cells #[.int .i64 0, .int .i64 0, .string ⟨#[]⟩, .string ⟨#[102, 114, 105, 101, 110, 100]⟩, .slice (some ⟨L1, 0, none⟩) 2 2, .slice none 0 0, .slice none 0 0, .int .i64 0, .int .i64 0, .string ⟨#[]⟩, .string ⟨#[103, 111, 111, 100]⟩, .slice (some ⟨L3, 0, none⟩) 1 1, .slice (some ⟨ga, 0, none⟩) 1 1, .slice (some ⟨gb, 0, none⟩) 1 1, .int .i64 0, .int .i64 0, .string ⟨#[]⟩, .string ⟨#[109, 97, 121]⟩, .slice (some ⟨L4, 0, none⟩) 1 1, .slice (some ⟨gc, 0, none⟩) 2 2, .slice none 0 0, .int .i64 2, .int .i64 0, .string ⟨#[99, 97, 114, 108]⟩, .string ⟨#[111, 107]⟩, .slice (some ⟨L6, 0, none⟩) 1 1, .slice none 0 0, .slice none 0 0] 50)) V44.heap.size #[.int .i64 0, .int .i64 0, .string ⟨#[]⟩, .string ⟨#[102, 114, 105, 101, 110, 100]⟩, .slice (some ⟨L1, 0, none⟩) 2 2, .slice none 0 0, .slice none 0 0, .int .i64 0, .int .i64 0, .string ⟨#[]⟩, .string ⟨#[103, 111, 111, 100]⟩, .slice (some ⟨L3, 0, none⟩) 1 1, .slice (some ⟨ga, 0, none⟩) 1 1, .slice (some ⟨gb, 0, none⟩) 1 1, .int .i64 0, .int .i64 0, .string ⟨#[]⟩, .string ⟨#[109, 97, 121]⟩, .slice (some ⟨L4, 0, none⟩) 1 1, .slice (some ⟨gc, 0, none⟩) 2 2, .slice none 0 0, .int .i64 2, .int .i64 0, .string ⟨#[99, 97, 114, 108]⟩, .string ⟨#[111, 107]⟩, .slice (some ⟨L6, 0, none⟩) 1 1, .slice none 0 0, .slice none 0 0] 50) := CBlk.new _ _ _
        have hgd : X6.heap.size ≤ V44.heap.size := hH.size
        refine hK.out _ _ (below_step hH (below1 _ _)) (fun hH => ?_)
        clear hK K
        try simp only [Act.put, List.setIfInBounds_toArray, List.set_cons_zero, List.set_cons_succ]
        refine wpAnyH_take (i := 18) (oi := ⟨_, _, _, _, _, _⟩) (v := .slice (some ⟨V44.heap.size, 0, none⟩) 4 4) rfl (by kernel_rfl) (by kernel_rfl) (by kernel_rfl) (fun _ _ _ h => h) (Or.inl ⟨by rfl, fun w' h => by clear h; go_simp⟩) hH ?_
        simp only [Act.put, List.setIfInBounds_toArray, List.set_cons_zero]
        refine wpAnyH_done (by kernel_rfl) ?_ _
        go_wp2_with fail
        exact bodyPost_ret (v := .slice (some ⟨V44.heap.size, 0, none⟩) 4 4) (by simp [results, Try.results6, go_sem]) rfl (four_fin (HT1.out.later hH) (HT2.out.later hH) (HT3.out.later hH) (HT4.out.later hH) (HT5.out.later hH) (HT6.out.later hH) (HKA.out.later (below1 _ _)) (HKB.out.later (below1 _ _)) (HKC.out.later (below1 _ _)) HKD.out (below_step HB6.out hH) HGA.out HGB.out HGC.out (Nat.le_trans HB6.out.size hgd))
      · go_simp
        refine (text12_any _ _).mono ?_
        rintro e V45 ⟨rfl, hb⟩
        have HKC : Hid (CBlk V45 gc #[.int .i64 0, .int .i64 0, .string ⟨#[]⟩, .string ⟨#[103, 111, 111, 100]⟩, .slice (some ⟨L3, 0, none⟩) 1 1, .int .i64 3, .int .i64 1, .string ⟨#[]⟩, .string ⟨#[111, 107]⟩, .slice (some ⟨L5, 0, none⟩) 1 1] 30) := HKC.out.later hb
        refine hK.out _ _ (below_step hH hb) (fun hH => ?_)
        clear hK K hb
        try simp only [Act.put, List.setIfInBounds_toArray, List.set_cons_zero, List.set_cons_succ]
        refine wpAnyH_take (i := 7) (oi := ⟨_, _, _, _, _, _⟩) (v := .agg #[.int .i64 2, .int .i64 3, .int .i64 0, .string ⟨#[]⟩, .int .i64 2, .int .i64 0, .string ⟨#[97, 110, 110]⟩]) rfl (by kernel_rfl) (by kernel_rfl) (by kernel_rfl) (fun _ _ _ h => h) (Or.inl ⟨by rfl, fun w' h => by clear h; go_simp⟩) hH ?_
        simp only [Act.put, List.setIfInBounds_toArray, List.set_cons_zero, List.set_cons_succ]
        refine wpAnyH_ready (rs := [4, 8]) (by kernel_rfl) (by simp) ?_
        refine (AllReadyH.cons (o := ⟨_, _, _, _, _, _⟩) rfl (fun K hK => ?_) (AllReadyH.cons (o := ⟨_, _, _, _, _, _⟩) rfl (fun K hK => ?_) AllReadyH.nil))
        · go_simp
          have HKA : Hid (CBlk (V45.alloc (.cells #[.int .i64 0, .int .i64 0, .string ⟨#[]⟩, .string ⟨#[102, 114, 105, 101, 110, 100]⟩, .slice (some ⟨L2, 0, none⟩) 2 2] 30)) V45.heap.size #[.int .i64 0, .int .i64 0, .string ⟨#[]⟩, .string ⟨#[102, 114, 105, 101, 110, 100]⟩, .slice (some ⟨L2, 0, none⟩) 2 2] 30) := CBlk.new _ _ _
          have HGA : Hid (w.heap.size ≤ V45.heap.size) := Nat.le_trans HB6.out.size hH.size
          have HKC : Hid (CBlk (V45.alloc (.cells #[.int .i64 0, .int .i64 0, .string ⟨#[]⟩, .string ⟨#[102, 114, 105, 101, 110, 100]⟩, .slice (some ⟨L2, 0, none⟩) 2 2] 30)) gc #[.int .i64 0, .int .i64 0, .string ⟨#[]⟩, .string ⟨#[103, 111, 111, 100]⟩, .slice (some ⟨L3, 0, none⟩) 1 1, .int .i64 3, .int .i64 1, .string ⟨#[]⟩, .string ⟨#[111, 107]⟩, .slice (some ⟨L5, 0, none⟩) 1 1] 30) := HKC.out.later (below1 _ _)
          refine hK.out _ _ (below_step hH (below1 _ _)) (fun hH => ?_)
          clear hK K
          try simp only [Act.put, List.setIfInBounds_toArray, List.set_cons_zero, List.set_cons_succ]
          revert hH
          revert HKC
          revert HKA
          revert HGA
          generalize V45.alloc (.cells #[.int .i64 0, .int .i64 0, .string ⟨#[]⟩, .string ⟨#[102, 114, 105, 101, 110, 100]⟩, .slice (some ⟨L2, 0, none⟩) 2 2] 30) = V46
          generalize V45.heap.size = ga
          intro HGA HKA HKC hH
          refine wpAnyH_ready (rs := [8]) (by kernel_rfl) (by simp) ?_
          refine (AllReadyH.cons (o := ⟨_, _, _, _, _, _⟩) rfl (fun K hK => ?_) AllReadyH.nil)
          go_simp
          have HKB : Hid (CBlk (V46.alloc (.cells #[.int .i64 2, .int .i64 3, .int .i64 0, .string ⟨#[]⟩, .int .i64 2, .int .i64 0, .string ⟨#[97, 110, 110]⟩] 52)) V46.heap.size #[.int .i64 2, .int .i64 3, .int .i64 0, .string ⟨#[]⟩, .int .i64 2, .int .i64 0, .string ⟨#[97, 110, 110]⟩] 52) := CBlk.new _ _ _
          have HGB : Hid (w.heap.size ≤ V46.heap.size) := Nat.le_trans HB6.out.size hH.size
          have HKA : Hid (CBlk (V46.alloc (.cells #[.int .i64 2, .int .i64 3, .int .i64 0, .string ⟨#[]⟩, .int .i64 2, .int .i64 0, .string ⟨#[97, 110, 110]⟩] 52)) ga #[.int .i64 0, .int .i64 0, .string ⟨#[]⟩, .string ⟨#[102, 114, 105, 101, 110, 100]⟩, .slice (some ⟨L2, 0, none⟩) 2 2] 30) := HKA.out.later (below1 _ _)
          have HKC : Hid (CBlk (V46.alloc (.cells #[.int .i64 2, .int .i64 3, .int .i64 0, .string ⟨#[]⟩, .int .i64 2, .int .i64 0, .string ⟨#[97, 110, 110]⟩] 52)) gc #[.int .i64 0, .int .i64 0, .string ⟨#[]⟩, .string ⟨#[103, 111, 111, 100]⟩, .slice (some ⟨L3, 0, none⟩) 1 1, .int .i64 3, .int .i64 1, .string ⟨#[]⟩, .string ⟨#[111, 107]⟩, .slice (some ⟨L5, 0, none⟩) 1 1] 30) := HKC.out.later (below1 _ _)
          refine hK.out _ _ (below_step hH (below1 _ _)) (fun hH => ?_)
          clear hK K
          try simp only [Act.put, List.setIfInBounds_toArray, List.set_cons_zero, List.set_cons_succ]
          revert hH
          revert HKA
          revert HKC
          revert HKB
          revert HGB
          generalize V46.alloc (.cells #[.int .i64 2, .int .i64 3, .int .i64 0, .string ⟨#[]⟩, .int .i64 2, .int .i64 0, .string ⟨#[97, 110, 110]⟩] 52) = V47
          generalize V46.heap.size = gb
          intro HGB HKB HKC HKA hH
          refine wpAnyH_take (i := 9) (oi := ⟨_, _, _, _, _, _⟩) (v := .agg #[.int .i64 0, .int .i64 0, .string ⟨#[]⟩, .string ⟨#[103, 111, 111, 100]⟩, .slice (some ⟨L3, 0, none⟩) 1 1, .slice (some ⟨ga, 0, none⟩) 1 1, .slice (some ⟨gb, 0, none⟩) 1 1]) rfl (by kernel_rfl) (by kernel_rfl) (by kernel_rfl) (fun _ _ _ h => h) (Or.inl ⟨by rfl, fun w' h => by clear h; go_simp⟩) hH ?_
          simp only [Act.put, List.setIfInBounds_toArray, List.set_cons_zero, List.set_cons_succ]
          refine wpAnyH_ready (rs := [17]) (by kernel_rfl) (by simp) ?_
          refine (AllReadyH.cons (o := ⟨_, _, _, _, _, _⟩) rfl (fun K hK => ?_) AllReadyH.nil)
          go_simp
          have HKD : Hid (CBlk (V47.alloc (.cells #[.int .i64 0, .int .i64 0, .string ⟨#[]⟩, .string ⟨#[102, 114, 105, 101, 110, 100]⟩, .slice (some ⟨L1, 0, none⟩) 2 2, .slice none 0 0, .slice none 0 0, .int .i64 0, .int .i64 0, .string ⟨#[]⟩, .string ⟨#[103, 111, 111, 100]⟩, .slice (some ⟨L3, 0, none⟩) 1 1, .slice (some ⟨ga, 0, none⟩) 1 1, .slice (some ⟨gb, 0, none⟩) 1 1, .int .i64 0, .int .i64 0, .string ⟨#[]⟩, .string ⟨#[109, 97, 121]⟩, .slice (some ⟨L4, 0, none⟩) 1 1, .slice (some ⟨gc, 0, none⟩) 2 2, .slice none 0 0, .int .i64 2, .int .i64 0, .string ⟨#[99, 97, 114, 108]⟩, .string ⟨#[111, 107]⟩, .slice (some ⟨L6, 0, none⟩) 1 1, .slice none 0 0, .slice none 0 0] 50)) V47.heap.size #[.int .i64 0, .int .i64 0, .string ⟨#[]⟩, .string ⟨#[102, 114, 105, 101, 110, 100]⟩, .slice (some ⟨L1, 0, none⟩) 2 2, .slice none 0 0, .slice none 0 0, .int .i64 0, .int .i64 0, .string ⟨#[]⟩, .string ⟨#[103, 111, 111, 100]⟩, .slice (some ⟨L3, 0, none⟩) 1 1, .slice (some ⟨ga, 0, none⟩) 1 1, .slice (some ⟨gb, 0, none⟩) 1 1, .int .i64 0, .int .i64 0, .string ⟨#[]⟩, .string ⟨#[109, 97, 121]⟩, .slice (some ⟨L4, 0, none⟩) 1 1, .slice (some ⟨gc, 0, none⟩) 2 2, .slice none 0 0, .int .i64 2, .int .i64 0, .string ⟨#[99, 97, 114, 108]⟩, .string ⟨#[111, 107]⟩, .slice (some ⟨L6, 0, none⟩) 1 1, .slice none 0 0, .slice none 0 0] 50) := CBlk.new _ _ _
          have hgd : X6.heap.size ≤ V47.heap.size := hH.size
          refine hK.out _ _ (below_step hH (below1 _ _)) (fun hH => ?_)
          clear hK K
          try simp only [Act.put, List.setIfInBounds_toArray, List.set_cons_zero, List.set_cons_succ]
          refine wpAnyH_take (i := 18) (oi := ⟨_, _, _, _, _, _⟩) (v := .slice (some ⟨V47.heap.size, 0, none⟩) 4 4) rfl (by kernel_rfl) (by kernel_rfl) (by kernel_rfl) (fun _ _ _ h => h) (Or.inl ⟨by rfl, fun w' h => by clear h; go_simp⟩) hH ?_
          simp only [Act.put, List.setIfInBounds_toArray, List.set_cons_zero]
          refine wpAnyH_done (by kernel_rfl) ?_ _
          go_wp2_with fail
          exact bodyPost_ret (v := .slice (some ⟨V47.heap.size, 0, none⟩) 4 4) (by simp [results, Try.results6, go_sem]) rfl (four_fin (HT1.out.later hH) (HT2.out.later hH) (HT3.out.later hH) (HT4.out.later hH) (HT5.out.later hH) (HT6.out.later hH) (HKA.out.later (below1 _ _)) (HKB.out.later (below1 _ _)) (HKC.out.later (below1 _ _)) HKD.out (below_step HB6.out hH) HGA.out HGB.out HGC.out (Nat.le_trans HB6.out.size hgd))
        · go_simp
          have HKB : Hid (CBlk (V45.alloc (.cells #[.int .i64 2, .int .i64 3, .int .i64 0, .string ⟨#[]⟩, .int .i64 2, .int .i64 0, .string ⟨#[97, 110, 110]⟩] 52)) V45.heap.size #[.int .i64 2, .int .i64 3, .int .i64 0, .string ⟨#[]⟩, .int .i64 2, .int .i64 0, .string ⟨#[97, 110, 110]⟩] 52) := CBlk.new _ _ _
          have HGB : Hid (w.heap.size ≤ V45.heap.size) := Nat.le_trans HB6.out.size hH.size
          have HKC : Hid (CBlk (V45.alloc (.cells #[.int .i64 2, .int .i64 3, .int .i64 0, .string ⟨#[]⟩, .int .i64 2, .int .i64 0, .string ⟨#[97, 110, 110]⟩] 52)) gc #[.int .i64 0, .int .i64 0, .string ⟨#[]⟩, .string ⟨#[103, 111, 111, 100]⟩, .slice (some ⟨L3, 0, none⟩) 1 1, .int .i64 3, .int .i64 1, .string ⟨#[]⟩, .string ⟨#[111, 107]⟩, .slice (some ⟨L5, 0, none⟩) 1 1] 30) := HKC.out.later (below1 _ _)
          refine hK.out _ _ (below_step hH (below1 _ _)) (fun hH => ?_)
          clear hK K
          try simp only [Act.put, List.setIfInBounds_toArray, List.set_cons_zero, List.set_cons_succ]
          revert hH
          revert HKC
          revert HKB
          revert HGB
          generalize V45.alloc (.cells #[.int .i64 2, .int .i64 3, .int .i64 0, .string ⟨#[]⟩, .int .i64 2, .int .i64 0, .string ⟨#[97, 110, 110]⟩] 52) = V48
          generalize V45.heap.size = gb
          intro HGB HKB HKC hH
          refine wpAnyH_ready (rs := [4]) (by kernel_rfl) (by simp) ?_
          refine (AllReadyH.cons (o := ⟨_, _, _, _, _, _⟩) rfl (fun K hK => ?_) AllReadyH.nil)
          go_simp
          have HKA : Hid (CBlk (V48.alloc (.cells #[.int .i64 0, .int .i64 0, .string ⟨#[]⟩, .string ⟨#[102, 114, 105, 101, 110, 100]⟩, .slice (some ⟨L2, 0, none⟩) 2 2] 30)) V48.heap.size #[.int .i64 0, .int .i64 0, .string ⟨#[]⟩, .string ⟨#[102, 114, 105, 101, 110, 100]⟩, .slice (some ⟨L2, 0, none⟩) 2 2] 30) := CBlk.new _ _ _
          have HGA : Hid (w.heap.size ≤ V48.heap.size) := Nat.le_trans HB6.out.size hH.size
          have HKB : Hid (CBlk (V48.alloc (.cells #[.int .i64 0, .int .i64 0, .string ⟨#[]⟩, .string ⟨#[102, 114, 105, 101, 110, 100]⟩, .slice (some ⟨L2, 0, none⟩) 2 2] 30)) gb #[.int .i64 2, .int .i64 3, .int .i64 0, .string ⟨#[]⟩, .int .i64 2, .int .i64 0, .string ⟨#[97, 110, 110]⟩] 52) := HKB.out.later (below1 _ _)
          have HKC : Hid (CBlk (V48.alloc (.cells #[.int .i64 0, .int .i64 0, .string ⟨#[]⟩, .string ⟨#[102, 114, 105, 101, 110, 100]⟩, .slice (some ⟨L2, 0, none⟩) 2 2] 30)) gc #[.int .i64 0, .int .i64 0, .string ⟨#[]⟩, .string ⟨#[103, 111, 111, 100]⟩, .slice (some ⟨L3, 0, none⟩) 1 1, .int .i64 3, .int .i64 1, .string ⟨#[]⟩, .string ⟨#[111, 107]⟩, .slice (some ⟨L5, 0, none⟩) 1 1] 30) := HKC.out.later (below1 _ _)
          refine hK.out _ _ (below_step hH (below1 _ _)) (fun hH => ?_)
          clear hK K
          try simp only [Act.put, List.setIfInBounds_toArray, List.set_cons_zero, List.set_cons_succ]
          revert hH
          revert HKB
          revert HKC
          revert HKA
          revert HGA
          generalize V48.alloc (.cells #[.int .i64 0, .int .i64 0, .string ⟨#[]⟩, .string ⟨#[102, 114, 105, 101, 110, 100]⟩, .slice (some ⟨L2, 0, none⟩) 2 2] 30) = V49
          generalize V48.heap.size = ga
          intro HGA HKA HKC HKB hH
          refine wpAnyH_take (i := 9) (oi := ⟨_, _, _, _, _, _⟩) (v := .agg #[.int .i64 0, .int .i64 0, .string ⟨#[]⟩, .string ⟨#[103, 111, 111, 100]⟩, .slice (some ⟨L3, 0, none⟩) 1 1, .slice (some ⟨ga, 0, none⟩) 1 1, .slice (some ⟨gb, 0, none⟩) 1 1]) rfl (by kernel_rfl) (by kernel_rfl) (by kernel_rfl) (fun _ _ _ h => h) (Or.inl ⟨by rfl, fun w' h => by clear h; go_simp⟩) hH ?_
          simp only [Act.put, List.setIfInBounds_toArray, List.set_cons_zero, List.set_cons_succ]
          refine wpAnyH_ready (rs := [17]) (by kernel_rfl) (by simp) ?_
          refine (AllReadyH.cons (o := ⟨_, _, _, _, _, _⟩) rfl (fun K hK => ?_) AllReadyH.nil)
          go_simp
          have HKD : Hid (CBlk (V49.alloc (.cells #[.int .i64 0, .int .i64 0, .string ⟨#[]⟩, .string ⟨#[102, 114, 105, 101, 110, 100]⟩, .slice (some ⟨L1, 0, none⟩) 2 2, .slice none 0 0, .slice none 0 0, .int .i64 0, .int .i64 0, .string ⟨#[]⟩, .string ⟨#[103, 111, 111, 100]⟩, .slice (some ⟨L3, 0, none⟩) 1 1, .slice (some ⟨ga, 0, none⟩) 1 1, .slice (some ⟨gb, 0, none⟩) 1 1, .int .i64 0, .int .i64 0, .string ⟨#[]⟩, .string ⟨#[109, 97, 121]⟩, .slice (some ⟨L4, 0, none⟩) 1 1, .slice (some ⟨gc, 0, none⟩) 2 2, .slice none 0 0, .int .i64 2, .int .i64 0, .string ⟨#[99, 97, 114, 108]⟩, .string ⟨#[111, 107]⟩, .slice (some ⟨L6, 0, none⟩) 1 1, .slice none 0 0, .slice none 0 0] 50)) V49.heap.size #[.int .i64 0, .int .i64 0, .string ⟨#[]⟩, .string ⟨#[102, 114, 105, 101, 110, 100]⟩, .slice (some ⟨L1, 0, none⟩) 2 2, .slice none 0 0, .slice none 0 0, .int .i64 0, .int .i64 0, .string ⟨#[]⟩, .string ⟨#[103, 111, 111, 100]⟩, .slice (some ⟨L3, 0, none⟩) 1 1, .slice (some ⟨ga, 0, none⟩) 1 1, .slice (some ⟨gb, 0, none⟩) 1 1, .int .i64 0, .int .i64 0, .string ⟨#[]⟩, .string ⟨#[109, 97, 121]⟩, .slice (some ⟨L4, 0, none⟩) 1 1, .slice (some ⟨gc, 0, none⟩) 2 2, .slice none 0 0, .int .i64 2, .int .i64 0, .string ⟨#[99, 97, 114, 108]⟩, .string ⟨#[111, 107]⟩, .slice (some ⟨L6, 0, none⟩) 1 1, .slice none 0 0, .slice none 0 0] 50) := CBlk.new _ _ _
          have hgd : X6.heap.size ≤ V49.heap.size := hH.size
          refine hK.out _ _ (below_step hH (below1 _ _)) (fun hH => ?_)
          clear hK K
          try simp only [Act.put, List.setIfInBounds_toArray, List.set_cons_zero, List.set_cons_succ]
          refine wpAnyH_take (i := 18) (oi := ⟨_, _, _, _, _, _⟩) (v := .slice (some ⟨V49.heap.size, 0, none⟩) 4 4) rfl (by kernel_rfl) (by kernel_rfl) (by kernel_rfl) (fun _ _ _ h => h) (Or.inl ⟨by rfl, fun w' h => by clear h; go_simp⟩) hH ?_
          simp only [Act.put, List.setIfInBounds_toArray, List.set_cons_zero]
          refine wpAnyH_done (by kernel_rfl) ?_ _
          go_wp2_with fail
          exact bodyPost_ret (v := .slice (some ⟨V49.heap.size, 0, none⟩) 4 4) (by simp [results, Try.results6, go_sem]) rfl (four_fin (HT1.out.later hH) (HT2.out.later hH) (HT3.out.later hH) (HT4.out.later hH) (HT5.out.later hH) (HT6.out.later hH) (HKA.out.later (below1 _ _)) (HKB.out.later (below1 _ _)) (HKC.out.later (below1 _ _)) HKD.out (below_step HB6.out hH) HGA.out HGB.out HGC.out (Nat.le_trans HB6.out.size hgd))
  · go_simp
    have HKC : Hid (CBlk (V0.alloc (.cells #[.int .i64 0, .int .i64 0, .string ⟨#[]⟩, .string ⟨#[103, 111, 111, 100]⟩, .slice (some ⟨L3, 0, none⟩) 1 1, .int .i64 3, .int .i64 1, .string ⟨#[]⟩, .string ⟨#[111, 107]⟩, .slice (some ⟨L5, 0, none⟩) 1 1] 30)) V0.heap.size #[.int .i64 0, .int .i64 0, .string ⟨#[]⟩, .string ⟨#[103, 111, 111, 100]⟩, .slice (some ⟨L3, 0, none⟩) 1 1, .int .i64 3, .int .i64 1, .string ⟨#[]⟩, .string ⟨#[111, 107]⟩, .slice (some ⟨L5, 0, none⟩) 1 1] 30) := CBlk.new _ _ _
    have HGC : Hid (w.heap.size ≤ V0.heap.size) := Nat.le_trans HB6.out.size hH.size
    refine hK.out _ _ (below_step hH (below1 _ _)) (fun hH => ?_)
    clear hK K
    try simp only [Act.put, List.setIfInBounds_toArray, List.set_cons_zero, List.set_cons_succ]
    revert hH
    revert HKC
    revert HGC
    generalize V0.alloc (.cells #[.int .i64 0, .int .i64 0, .string ⟨#[]⟩, .string ⟨#[103, 111, 111, 100]⟩, .slice (some ⟨L3, 0, none⟩) 1 1, .int .i64 3, .int .i64 1, .string ⟨#[]⟩, .string ⟨#[111, 107]⟩, .slice (some ⟨L5, 0, none⟩) 1 1] 30) = V50
    generalize V0.heap.size = gc
    intro HGC HKC  hH
    refine wpAnyH_take (i := 14) (oi := ⟨_, _, _, _, _, _⟩) (v := .agg #[.int .i64 0, .int .i64 0, .string ⟨#[]⟩, .string ⟨#[109, 97, 121]⟩, .slice (some ⟨L4, 0, none⟩) 1 1, .slice (some ⟨gc, 0, none⟩) 2 2, .slice none 0 0]) rfl (by kernel_rfl) (by kernel_rfl) (by kernel_rfl) (fun _ _ _ h => h) (Or.inl ⟨by rfl, fun w' h => by clear h; go_simp⟩) hH ?_
    simp only [Act.put, List.setIfInBounds_toArray, List.set_cons_zero, List.set_cons_succ]
    refine wpAnyH_ready (rs := [4, 5]) (by kernel_rfl) (by simp) ?_
    refine (AllReadyH.cons (o := ⟨_, _, _, _, _, _⟩) rfl (fun K hK => ?_) (AllReadyH.cons (o := ⟨_, _, _, _, _, _⟩) rfl (fun K hK => ?_) AllReadyH.nil))
    · go_simp
      have HKA : Hid (CBlk (V50.alloc (.cells #[.int .i64 0, .int .i64 0, .string ⟨#[]⟩, .string ⟨#[102, 114, 105, 101, 110, 100]⟩, .slice (some ⟨L2, 0, none⟩) 2 2] 30)) V50.heap.size #[.int .i64 0, .int .i64 0, .string ⟨#[]⟩, .string ⟨#[102, 114, 105, 101, 110, 100]⟩, .slice (some ⟨L2, 0, none⟩) 2 2] 30) := CBlk.new _ _ _
      have HGA : Hid (w.heap.size ≤ V50.heap.size) := Nat.le_trans HB6.out.size hH.size
      have HKC : Hid (CBlk (V50.alloc (.cells #[.int .i64 0, .int .i64 0, .string ⟨#[]⟩, .string ⟨#[102, 114, 105, 101, 110, 100]⟩, .slice (some ⟨L2, 0, none⟩) 2 2] 30)) gc #[.int .i64 0, .int .i64 0, .string ⟨#[]⟩, .string ⟨#[103, 111, 111, 100]⟩, .slice (some ⟨L3, 0, none⟩) 1 1, .int .i64 3, .int .i64 1, .string ⟨#[]⟩, .string ⟨#[111, 107]⟩, .slice (some ⟨L5, 0, none⟩) 1 1] 30) := HKC.out.later (below1 _ _)
      refine hK.out _ _ (below_step hH (below1 _ _)) (fun hH => ?_)
      clear hK K
      try simp only [Act.put, List.setIfInBounds_toArray, List.set_cons_zero, List.set_cons_succ]
      revert hH
      revert HKC
      revert HKA
      revert HGA
      generalize V50.alloc (.cells #[.int .i64 0, .int .i64 0, .string ⟨#[]⟩, .string ⟨#[102, 114, 105, 101, 110, 100]⟩, .slice (some ⟨L2, 0, none⟩) 2 2] 30) = V51
      generalize V50.heap.size = ga
      intro HGA HKA HKC hH
      refine wpAnyH_ready (rs := [5]) (by kernel_rfl) (by simp) ?_
      refine (AllReadyH.cons (o := ⟨_, _, _, _, _, _⟩) rfl (fun K hK => ?_) AllReadyH.nil)
      go_simp
      refine (var12_any _ _).mono ?_
      rintro e V52 ⟨rfl, hb⟩
      have HKA : Hid (CBlk V52 ga #[.int .i64 0, .int .i64 0, .string ⟨#[]⟩, .string ⟨#[102, 114, 105, 101, 110, 100]⟩, .slice (some ⟨L2, 0, none⟩) 2 2] 30) := HKA.out.later hb
      have HKC : Hid (CBlk V52 gc #[.int .i64 0, .int .i64 0, .string ⟨#[]⟩, .string ⟨#[103, 111, 111, 100]⟩, .slice (some ⟨L3, 0, none⟩) 1 1, .int .i64 3, .int .i64 1, .string ⟨#[]⟩, .string ⟨#[111, 107]⟩, .slice (some ⟨L5, 0, none⟩) 1 1] 30) := HKC.out.later hb
      refine hK.out _ _ (below_step hH hb) (fun hH => ?_)
      clear hK K hb
      try simp only [Act.put, List.setIfInBounds_toArray, List.set_cons_zero, List.set_cons_succ]
      refine wpAnyH_ready (rs := [6]) (by kernel_rfl) (by simp) ?_
      refine (AllReadyH.cons (o := ⟨_, _, _, _, _, _⟩) rfl (fun K hK => ?_) AllReadyH.nil)
      go_simp
      refine (text12_any _ _).mono ?_
      rintro e V53 ⟨rfl, hb⟩
      have HKA : Hid (CBlk V53 ga #[.int .i64 0, .int .i64 0, .string ⟨#[]⟩, .string ⟨#[102, 114, 105, 101, 110, 100]⟩, .slice (some ⟨L2, 0, none⟩) 2 2] 30) := HKA.out.later hb
      have HKC : Hid (CBlk V53 gc #[.int .i64 0, .int .i64 0, .string ⟨#[]⟩, .string ⟨#[103, 111, 111, 100]⟩, .slice (some ⟨L3, 0, none⟩) 1 1, .int .i64 3, .int .i64 1, .string ⟨#[]⟩, .string ⟨#[111, 107]⟩, .slice (some ⟨L5, 0, none⟩) 1 1] 30) := HKC.out.later hb
      refine hK.out _ _ (below_step hH hb) (fun hH => ?_)
      clear hK K hb
      try simp only [Act.put, List.setIfInBounds_toArray, List.set_cons_zero, List.set_cons_succ]
      refine wpAnyH_take (i := 7) (oi := ⟨_, _, _, _, _, _⟩) (v := .agg #[.int .i64 2, .int .i64 3, .int .i64 0, .string ⟨#[]⟩, .int .i64 2, .int .i64 0, .string ⟨#[97, 110, 110]⟩]) rfl (by kernel_rfl) (by kernel_rfl) (by kernel_rfl) (fun _ _ _ h => h) (Or.inl ⟨by rfl, fun w' h => by clear h; go_simp⟩) hH ?_
      simp only [Act.put, List.setIfInBounds_toArray, List.set_cons_zero, List.set_cons_succ]
      refine wpAnyH_ready (rs := [8]) (by kernel_rfl) (by simp) ?_
      refine (AllReadyH.cons (o := ⟨_, _, _, _, _, _⟩) rfl (fun K hK => ?_) AllReadyH.nil)
      go_simp
      have HKB : Hid (CBlk (V53.alloc (.cells #[.int .i64 2, .int .i64 3, .int .i64 0, .string ⟨#[]⟩, .int .i64 2, .int .i64 0, .string ⟨#[97, 110, 110]⟩] 52)) V53.heap.size #[.int .i64 2, .int .i64 3, .int .i64 0, .string ⟨#[]⟩, .int .i64 2, .int .i64 0, .string ⟨#[97, 110, 110]⟩] 52) := CBlk.new _ _ _
      have HGB : Hid (w.heap.size ≤ V53.heap.size) := Nat.le_trans HB6.out.size hH.size
      have HKA : Hid (CBlk (V53.alloc (.cells #[.int .i64 2, .int .i64 3, .int .i64 0, .string ⟨#[]⟩, .int .i64 2, .int .i64 0, .string ⟨#[97, 110, 110]⟩] 52)) ga #[.int .i64 0, .int .i64 0, .string ⟨#[]⟩, .string ⟨#[102, 114, 105, 101, 110, 100]⟩, .slice (some ⟨L2, 0, none⟩) 2 2] 30) := HKA.out.later (below1 _ _)
      have HKC : Hid (CBlk (V53.alloc (.cells #[.int .i64 2, .int .i64 3, .int .i64 0, .string ⟨#[]⟩, .int .i64 2, .int .i64 0, .string ⟨#[97, 110, 110]⟩] 52)) gc #[.int .i64 0, .int .i64 0, .string ⟨#[]⟩, .string ⟨#[103, 111, 111, 100]⟩, .slice (some ⟨L3, 0, none⟩) 1 1, .int .i64 3, .int .i64 1, .string ⟨#[]⟩, .string ⟨#[111, 107]⟩, .slice (some ⟨L5, 0, none⟩) 1 1] 30) := HKC.out.later (below1 _ _)
      refine hK.out _ _ (below_step hH (below1 _ _)) (fun hH => ?_)
      clear hK K
      try simp only [Act.put, List.setIfInBounds_toArray, List.set_cons_zero, List.set_cons_succ]
      revert hH
      revert HKA
      revert HKC
      revert HKB
      revert HGB
      generalize V53.alloc (.cells #[.int .i64 2, .int .i64 3, .int .i64 0, .string ⟨#[]⟩, .int .i64 2, .int .i64 0, .string ⟨#[97, 110, 110]⟩] 52) = V54
      generalize V53.heap.size = gb
      intro HGB HKB HKC HKA hH
      refine wpAnyH_take (i := 9) (oi := ⟨_, _, _, _, _, _⟩) (v := .agg #[.int .i64 0, .int .i64 0, .string ⟨#[]⟩, .string ⟨#[103, 111, 111, 100]⟩, .slice (some ⟨L3, 0, none⟩) 1 1, .slice (some ⟨ga, 0, none⟩) 1 1, .slice (some ⟨gb, 0, none⟩) 1 1]) rfl (by kernel_rfl) (by kernel_rfl) (by kernel_rfl) (fun _ _ _ h => h) (Or.inl ⟨by rfl, fun w' h => by clear h; go_simp⟩) hH ?_
      simp only [Act.put, List.setIfInBounds_toArray, List.set_cons_zero, List.set_cons_succ]
      refine wpAnyH_ready (rs := [17]) (by kernel_rfl) (by simp) ?_
      refine (AllReadyH.cons (o := ⟨_, _, _, _, _, _⟩) rfl (fun K hK => ?_) AllReadyH.nil)
      go_simp
      have HKD : Hid (CBlk (V54.alloc (.cells #[.int .i64 0, .int .i64 0, .string ⟨#[]⟩, .string ⟨#[102, 114, 105, 101, 110, 100]⟩, .slice (some ⟨L1, 0, none⟩) 2 2, .slice none 0 0, .slice none 0 0, .int .i64 0, .int .i64 0, .string ⟨#[]⟩, .string ⟨#[103, 111, 111, 100]⟩, .slice (some ⟨L3, 0, none⟩) 1 1, .slice (some ⟨ga, 0, none⟩) 1 1, .slice (some ⟨gb, 0, none⟩) 1 1, .int .i64 0, .int .i64 0, .string ⟨#[]⟩, .string ⟨#[109, 97, 121]⟩, .slice (some ⟨L4, 0, none⟩) 1 1, .slice (some ⟨gc, 0, none⟩) 2 2, .slice none 0 0, .int .i64 2, .int .i64 0, .string ⟨#[99, 97, 114, 108]⟩, .string ⟨#[111, 107]⟩, .slice (some ⟨L6, 0, none⟩) 1 1, .slice none 0 0, .slice none 0 0] 50)) V54.heap.size #[.int .i64 0, .int .i64 0, .string ⟨#[]⟩, .string ⟨#[102, 114, 105, 101, 110, 100]⟩, .slice (some ⟨L1, 0, none⟩) 2 2, .slice none 0 0, .slice none 0 0, .int .i64 0, .int .i64 0, .string ⟨#[]⟩, .string ⟨#[103, 111, 111, 100]⟩, .slice (some ⟨L3, 0, none⟩) 1 1, .slice (some ⟨ga, 0, none⟩) 1 1, .slice (some ⟨gb, 0, none⟩) 1 1, .int .i64 0, .int .i64 0, .string ⟨#[]⟩, .string ⟨#[109, 97, 121]⟩, .slice (some ⟨L4, 0, none⟩) 1 1, .slice (some ⟨gc, 0, none⟩) 2 2, .slice none 0 0, .int .i64 2, .int .i64 0, .string ⟨#[99, 97, 114, 108]⟩, .string ⟨#[111, 107]⟩, .slice (some ⟨L6, 0, none⟩) 1 1, .slice none 0 0, .slice none 0 0] 50) := CBlk.new _ _ _
      have hgd : X6.heap.size ≤ V54.heap.size := hH.size
      refine hK.out _ _ (below_step hH (below1 _ _)) (fun hH => ?_)
      clear hK K
      try simp only [Act.put, List.setIfInBounds_toArray, List.set_cons_zero, List.set_cons_succ]
      refine wpAnyH_take (i := 18) (oi := ⟨_, _, _, _, _, _⟩) (v := .slice (some ⟨V54.heap.size, 0, none⟩) 4 4) rfl (by kernel_rfl) (by kernel_rfl) (by kernel_rfl) (fun _ _ _ h => h) (Or.inl ⟨by rfl, fun w' h => by clear h; go_simp⟩) hH ?_
      simp only [Act.put, List.setIfInBounds_toArray, List.set_cons_zero]
      refine wpAnyH_done (by kernel_rfl) ?_ _
      go_wp2_with fail
      exact bodyPost_ret (v := .slice (some ⟨V54.heap.size, 0, none⟩) 4 4) (by simp [results, Try.results6, go_sem]) rfl (four_fin (HT1.out.later hH) (HT2.out.later hH) (HT3.out.later hH) (HT4.out.later hH) (HT5.out.later hH) (HT6.out.later hH) (HKA.out.later (below1 _ _)) (HKB.out.later (below1 _ _)) (HKC.out.later (below1 _ _)) HKD.out (below_step HB6.out hH) HGA.out HGB.out HGC.out (Nat.le_trans HB6.out.size hgd))
    · go_simp
      refine (var12_any _ _).mono ?_
      rintro e V55 ⟨rfl, hb⟩
      have HKC : Hid (CBlk V55 gc #[.int .i64 0, .int .i64 0, .string ⟨#[]⟩, .string ⟨#[103, 111, 111, 100]⟩, .slice (some ⟨L3, 0, none⟩) 1 1, .int .i64 3, .int .i64 1, .string ⟨#[]⟩, .string ⟨#[111, 107]⟩, .slice (some ⟨L5, 0, none⟩) 1 1] 30) := HKC.out.later hb
      refine hK.out _ _ (below_step hH hb) (fun hH => ?_)
      clear hK K hb
      try simp only [Act.put, List.setIfInBounds_toArray, List.set_cons_zero, List.set_cons_succ]
      refine wpAnyH_ready (rs := [4, 6]) (by kernel_rfl) (by simp) ?_
      refine (AllReadyH.cons (o := ⟨_, _, _, _, _, _⟩) rfl (fun K hK => ?_) (AllReadyH.cons (o := ⟨_, _, _, _, _, _⟩) rfl (fun K hK => ?_) AllReadyH.nil))
      · go_simp
        have HKA : Hid (CBlk (V55.alloc (.cells #[.int .i64 0, .int .i64 0, .string ⟨#[]⟩, .string ⟨#[102, 114, 105, 101, 110, 100]⟩, .slice (some ⟨L2, 0, none⟩) 2 2] 30)) V55.heap.size #[.int .i64 0, .int .i64 0, .string ⟨#[]⟩, .string ⟨#[102, 114, 105, 101, 110, 100]⟩, .slice (some ⟨L2, 0, none⟩) 2 2] 30) := CBlk.new _ _ _
        have HGA : Hid (w.heap.size ≤ V55.heap.size) := Nat.le_trans HB6.out.size hH.size
        have HKC : Hid (CBlk (V55.alloc (.cells #[.int .i64 0, .int .i64 0, .string ⟨#[]⟩, .string ⟨#[102, 114, 105, 101, 110, 100]⟩, .slice (some ⟨L2, 0, none⟩) 2 2] 30)) gc #[.int .i64 0, .int .i64 0, .string ⟨#[]⟩, .string ⟨#[103, 111, 111, 100]⟩, .slice (some ⟨L3, 0, none⟩) 1 1, .int .i64 3, .int .i64 1, .string ⟨#[]⟩, .string ⟨#[111, 107]⟩, .slice (some ⟨L5, 0, none⟩) 1 1] 30) := HKC.out.later (below1 _ _)
        refine hK.out _ _ (below_step hH (below1 _ _)) (fun hH => ?_)
        clear hK K
        try simp only [Act.put, List.setIfInBounds_toArray, List.set_cons_zero, List.set_cons_succ]
        revert hH
        revert HKC
        revert HKA
        revert HGA
        generalize V55.alloc (.cells #[.int .i64 0, .int .i64 0, .string ⟨#[]⟩, .string ⟨#[102, 114, 105, 101, 110, 100]⟩, .slice (some ⟨L2, 0, none⟩) 2 2] 30) = V56
        generalize V55.heap.size = ga
        intro HGA HKA HKC hH
        refine wpAnyH_ready (rs := [6]) (by kernel_rfl) (by simp) ?_
        refine (AllReadyH.cons (o := ⟨_, _, _, _, _, _⟩) rfl (fun K hK => ?_) AllReadyH.nil)
        go_simp
        refine (text12_any _ _).mono ?_
        rintro e V57 ⟨rfl, hb⟩
        have HKA : Hid (CBlk V57 ga #[.int .i64 0, .int .i64 0, .string ⟨#[]⟩, .string ⟨#[102, 114, 105, 101, 110, 100]⟩, .slice (some ⟨L2, 0, none⟩) 2 2] 30) := HKA.out.later hb
        have HKC : Hid (CBlk V57 gc #[.int .i64 0, .int .i64 0, .string ⟨#[]⟩, .string ⟨#[103, 111, 111, 100]⟩, .slice (some ⟨L3, 0, none⟩) 1 1, .int .i64 3, .int .i64 1, .string ⟨#[]⟩, .string ⟨#[111, 107]⟩, .slice (some ⟨L5, 0, none⟩) 1 1] 30) := HKC.out.later hb
        refine hK.out _ _ (below_step hH hb) (fun hH => ?_)
        clear hK K hb
        try simp only [Act.put, List.setIfInBounds_toArray, List.set_cons_zero, List.set_cons_succ]
        refine wpAnyH_take (i := 7) (oi := ⟨_, _, _, _, _, _⟩) (v := .agg #[.int .i64 2, .int .i64 3, .int .i64 0, .string ⟨#[]⟩, .int .i64 2, .int .i64 0, .string ⟨#[97, 110, 110]⟩]) rfl (by kernel_rfl) (by kernel_rfl) (by kernel_rfl) (fun _ _ _ h => h) (Or.inl ⟨by rfl, fun w' h => by clear h; go_simp⟩) hH ?_
        simp only [Act.put, List.setIfInBounds_toArray, List.set_cons_zero, List.set_cons_succ]
        refine wpAnyH_ready (rs := [8]) (by kernel_rfl) (by simp) ?_
        refine (AllReadyH.cons (o := ⟨_, _, _, _, _, _⟩) rfl (fun K hK => ?_) AllReadyH.nil)
        go_simp
        have HKB : Hid (CBlk (V57.alloc (.cells #[.int .i64 2, .int .i64 3, .int .i64 0, .string ⟨#[]⟩, .int .i64 2, .int .i64 0, .string ⟨#[97, 110, 110]⟩] 52)) V57.heap.size #[.int .i64 2, .int .i64 3, .int .i64 0, .string ⟨#[]⟩, .int .i64 2, .int .i64 0, .string ⟨#[97, 110, 110]⟩] 52) := CBlk.new _ _ _
        have HGB : Hid (w.heap.size ≤ V57.heap.size) := Nat.le_trans HB6.out.size hH.size
        have HKA : Hid (CBlk (V57.alloc (.cells #[.int .i64 2, .int .i64 3, .int .i64 0, .string ⟨#[]⟩, .int .i64 2, .int .i64 0, .string ⟨#[97, 110, 110]⟩] 52)) ga #[.int .i64 0, .int .i64 0, .string ⟨#[]⟩, .string ⟨#[102, 114, 105, 101, 110, 100]⟩, .slice (some ⟨L2, 0, none⟩) 2 2] 30) := HKA.out.later (below1 _ _)
        have HKC : Hid (CBlk (V57.alloc (.cells #[.int .i64 2, .int .i64 3, .int .i64 0, .string ⟨#[]⟩, .int .i64 2, .int .i64 0, .string ⟨#[97, 110, 110]⟩] 52)) gc #[.int .i64 0, .int .i64 0, .string ⟨#[]⟩, .string ⟨#[103, 111, 111, 100]⟩, .slice (some ⟨L3, 0, none⟩) 1 1, .int .i64 3, .int .i64 1, .string ⟨#[]⟩, .string ⟨#[111, 107]⟩, .slice (some ⟨L5, 0, none⟩) 1 1] 30) := HKC.out.later (below1 _ _)
        refine hK.out _ _ (below_step hH (below1 _ _)) (fun hH => ?_)
        clear hK K
        try simp only [Act.put, List.setIfInBounds_toArray, List.set_cons_zero, List.set_cons_succ]
        revert hH
        revert HKA
        revert HKC
        revert HKB
        revert HGB
        generalize V57.alloc (.cells #[.int .i64 2, .int .i64 3, .int .i64 0, .string ⟨#[]⟩, .int .i64 2, .int .i64 0, .string ⟨#[97, 110, 110]⟩] 52) = V58
        generalize V57.heap.size = gb
        intro HGB HKB HKC HKA hH
        refine wpAnyH_take (i := 9) (oi := ⟨_, _, _, _, _, _⟩) (v := .agg #[.int .i64 0, .int .i64 0, .string ⟨#[]⟩, .string ⟨#[103, 111, 111, 100]⟩, .slice (some ⟨L3, 0, none⟩) 1 1, .slice (some ⟨ga, 0, none⟩) 1 1, .slice (some ⟨gb, 0, none⟩) 1 1]) rfl (by kernel_rfl) (by kernel_rfl) (by kernel_rfl) (fun _ _ _ h => h) (Or.inl ⟨by rfl, fun w' h => by clear h; go_simp⟩) hH ?_
        simp only [Act.put, List.setIfInBounds_toArray, List.set_cons_zero, List.set_cons_succ]
        refine wpAnyH_ready (rs := [17]) (by kernel_rfl) (by simp) ?_
        refine (AllReadyH.cons (o := ⟨_, _, _, _, _, _⟩) rfl (fun K hK => ?_) AllReadyH.nil)
        go_simp
        have HKD : Hid (CBlk (V58.alloc (.cells #[.int .i64 0, .int .i64 0, .string ⟨#[]⟩, .string ⟨#[102, 114, 105, 101, 110, 100]⟩, .slice (some ⟨L1, 0, none⟩) 2 2, .slice none 0 0, .slice none 0 0, .int .i64 0, .int .i64 0, .string ⟨#[]⟩, .string ⟨#[103, 111, 111, 100]⟩, .slice (some ⟨L3, 0, none⟩) 1 1, .slice (some ⟨ga, 0, none⟩) 1 1, .slice (some ⟨gb, 0, none⟩) 1 1, .int .i64 0, .int .i64 0, .string ⟨#[]⟩, .string ⟨#[109, 97, 121]⟩, .slice (some ⟨L4, 0, none⟩) 1 1, .slice (some ⟨gc, 0, none⟩) 2 2, .slice none 0 0, .int .i64 2, .int .i64 0, .string ⟨#[99, 97, 114, 108]⟩, .string ⟨#[111, 107]⟩, .slice (some ⟨L6, 0, none⟩) 1 1, .slice none 0 0, .slice none 0 0] 50)) V58.heap.size #[.int .i64 0, .int .i64 0, .string ⟨#[]⟩, .string ⟨#[102, 114, 105, 101, 110, 100]⟩, .slice (some ⟨L1, 0, none⟩) 2 2, .slice none 0 0, .slice none 0 0, .int .i64 0, .int .i64 0, .string ⟨#[]⟩, .string ⟨#[103, 111, 111, 100]⟩, .slice (some ⟨L3, 0, none⟩) 1 1, .slice (some ⟨ga, 0, none⟩) 1 1, .slice (some ⟨gb, 0, none⟩) 1 1, .int .i64 0, .int .i64 0, .string ⟨#[]⟩, .string ⟨#[109, 97, 121]⟩, .slice (some ⟨L4, 0, none⟩) 1 1, .slice (some ⟨gc, 0, none⟩) 2 2, .slice none 0 0, .int .i64 2, .int .i64 0, .string ⟨#[99, 97, 114, 108]⟩, .string ⟨#[111, 107]⟩, .slice (some ⟨L6, 0, none⟩) 1 1, .slice none 0 0, .slice none 0 0] 50) := CBlk.new _ _ _
        have hgd : X6.heap.size ≤ V58.heap.size := hH.size
        refine hK.out _ _ (below_step hH (below1 _ _)) (fun hH => ?_)
        clear hK K
        try simp only [Act.put, List.setIfInBounds_toArray, List.set_cons_zero, List.set_cons_succ]
        refine wpAnyH_take (i := 18) (oi := ⟨_, _, _, _, _, _⟩) (v := .slice (some ⟨V58.heap.size, 0, none⟩) 4 4) rfl (by kernel_rfl) (by kernel_rfl) (by kernel_rfl) (fun _ _ _ h => h) (Or.inl ⟨by rfl, fun w' h => by clear h; go_simp⟩) hH ?_
        simp only [Act.put, List.setIfInBounds_toArray, List.set_cons_zero]
        refine wpAnyH_done (by kernel_rfl) ?_ _
        go_wp2_with fail
        exact bodyPost_ret (v := .slice (some ⟨V58.heap.size, 0, none⟩) 4 4) (by simp [results, Try.results6, go_sem]) rfl (four_fin (HT1.out.later hH) (HT2.out.later hH) (HT3.out.later hH) (HT4.out.later hH) (HT5.out.later hH) (HT6.out.later hH) (HKA.out.later (below1 _ _)) (HKB.out.later (below1 _ _)) (HKC.out.later (below1 _ _)) HKD.out (below_step HB6.out hH) HGA.out HGB.out HGC.out (Nat.le_trans HB6.out.size hgd))
      · go_simp
        refine (text12_any _ _).mono ?_
        rintro e V59 ⟨rfl, hb⟩
        have HKC : Hid (CBlk V59 gc #[.int .i64 0, .int .i64 0, .string ⟨#[]⟩, .string ⟨#[103, 111, 111, 100]⟩, .slice (some ⟨L3, 0, none⟩) 1 1, .int .i64 3, .int .i64 1, .string ⟨#[]⟩, .string ⟨#[111, 107]⟩, .slice (some ⟨L5, 0, none⟩) 1 1] 30) := HKC.out.later hb
        refine hK.out _ _ (below_step hH hb) (fun hH => ?_)
        clear hK K hb
        try simp only [Act.put, List.setIfInBounds_toArray, List.set_cons_zero, List.set_cons_succ]
        refine wpAnyH_take (i := 7) (oi := ⟨_, _, _, _, _, _⟩) (v := .agg #[.int .i64 2, .int .i64 3, .int .i64 0, .string ⟨#[]⟩, .int .i64 2, .int .i64 0, .string ⟨#[97, 110, 110]⟩]) rfl (by kernel_rfl) (by kernel_rfl) (by kernel_rfl) (fun _ _ _ h => h) (Or.inl ⟨by rfl, fun w' h => by clear h; go_simp⟩) hH ?_
        simp only [Act.put, List.setIfInBounds_toArray, List.set_cons_zero, List.set_cons_succ]
        refine wpAnyH_ready (rs := [4, 8]) (by kernel_rfl) (by simp) ?_
        refine (AllReadyH.cons (o := ⟨_, _, _, _, _, _⟩) rfl (fun K hK => ?_) (AllReadyH.cons (o := ⟨_, _, _, _, _, _⟩) rfl (fun K hK => ?_) AllReadyH.nil))
        · go_simp
          have HKA : Hid (CBlk (V59.alloc (.cells #[.int .i64 0, .int .i64 0, .string ⟨#[]⟩, .string ⟨#[102, 114, 105, 101, 110, 100]⟩, .slice (some ⟨L2, 0, none⟩) 2 2] 30)) V59.heap.size #[.int .i64 0, .int .i64 0, .string ⟨#[]⟩, .string ⟨#[102, 114, 105, 101, 110, 100]⟩, .slice (some ⟨L2, 0, none⟩) 2 2] 30) := CBlk.new _ _ _
          have HGA : Hid (w.heap.size ≤ V59.heap.size) := Nat.le_trans HB6.out.size hH.size
          have HKC : Hid (CBlk (V59.alloc (.cells #[.int .i64 0, .int .i64 0, .string ⟨#[]⟩, .string ⟨#[102, 114, 105, 101, 110, 100]⟩, .slice (some ⟨L2, 0, none⟩) 2 2] 30)) gc #[.int .i64 0, .int .i64 0, .string ⟨#[]⟩, .string ⟨#[103, 111, 111, 100]⟩, .slice (some ⟨L3, 0, none⟩) 1 1, .int .i64 3, .int .i64 1, .string ⟨#[]⟩, .string ⟨#[111, 107]⟩, .slice (some ⟨L5, 0, none⟩) 1 1] 30) := HKC.out.later (below1 _ _)
          refine hK.out _ _ (below_step hH (below1 _ _)) (fun hH => ?_)
          clear hK K
          try simp only [Act.put, List.setIfInBounds_toArray, List.set_cons_zero, List.set_cons_succ]
          revert hH
          revert HKC
          revert HKA
          revert HGA
          generalize V59.alloc (.cells #[.int .i64 0, .int .i64 0, .string ⟨#[]⟩, .string ⟨#[102, 114, 105, 101, 110, 100]⟩, .slice (some ⟨L2, 0, none⟩) 2 2] 30) = V60
          generalize V59.heap.size = ga
          intro HGA HKA HKC hH
          refine wpAnyH_ready (rs := [8]) (by kernel_rfl) (by simp) ?_
          refine (AllReadyH.cons (o := ⟨_, _, _, _, _, _⟩) rfl (fun K hK => ?_) AllReadyH.nil)
          go_simp
          have HKB : Hid (CBlk (V60.alloc (.cells #[.int .i64 2, .int .i64 3, .int .i64 0, .string ⟨#[]⟩, .int .i64 2, .int .i64 0, .string ⟨#[97, 110, 110]⟩] 52)) V60.heap.size #[.int .i64 2, .int .i64 3, .int .i64 0, .string ⟨#[]⟩, .int .i64 2, .int .i64 0, .string ⟨#[97, 110, 110]⟩] 52) := CBlk.new _ _ _
          have HGB : Hid (w.heap.size ≤ V60.heap.size) := Nat.le_trans HB6.out.size hH.size
          have HKA : Hid (CBlk (V60.alloc (.cells #[.int .i64 2, .int .i64 3, .int .i64 0, .string ⟨#[]⟩, .int .i64 2, .int .i64 0, .string ⟨#[97, 110, 110]⟩] 52)) ga #[.int .i64 0, .int .i64 0, .string ⟨#[]⟩, .string ⟨#[102, 114, 105, 101, 110, 100]⟩, .slice (some ⟨L2, 0, none⟩) 2 2] 30) := HKA.out.later (below1 _ _)
          have HKC : Hid (CBlk (V60.alloc (.cells #[.int .i64 2, .int .i64 3, .int .i64 0, .string ⟨#[]⟩, .int .i64 2, .int .i64 0, .string ⟨#[97, 110, 110]⟩] 52)) gc #[.int .i64 0, .int .i64 0, .string ⟨#[]⟩, .string ⟨#[103, 111, 111, 100]⟩, .slice (some ⟨L3, 0, none⟩) 1 1, .int .i64 3, .int .i64 1, .string ⟨#[]⟩, .string ⟨#[111, 107]⟩, .slice (some ⟨L5, 0, none⟩) 1 1] 30) := HKC.out.later (below1 _ _)
          refine hK.out _ _ (below_step hH (below1 _ _)) (fun hH => ?_)
          clear hK K
          try simp only [Act.put, List.setIfInBounds_toArray, List.set_cons_zero, List.set_cons_succ]
          revert hH
          revert HKA
          revert HKC
          revert HKB
          revert HGB
          generalize V60.alloc (.cells #[.int .i64 2, .int .i64 3, .int .i64 0, .string ⟨#[]⟩, .int .i64 2, .int .i64 0, .string ⟨#[97, 110, 110]⟩] 52) = V61
          generalize V60.heap.size = gb
          intro HGB HKB HKC HKA hH
          refine wpAnyH_take (i := 9) (oi := ⟨_, _, _, _, _, _⟩) (v := .agg #[.int .i64 0, .int .i64 0, .string ⟨#[]⟩, .string ⟨#[103, 111, 111, 100]⟩, .slice (some ⟨L3, 0, none⟩) 1 1, .slice (some ⟨ga, 0, none⟩) 1 1, .slice (some ⟨gb, 0, none⟩) 1 1]) rfl (by kernel_rfl) (by kernel_rfl) (by kernel_rfl) (fun _ _ _ h => h) (Or.inl ⟨by rfl, fun w' h => by clear h; go_simp⟩) hH ?_
          simp only [Act.put, List.setIfInBounds_toArray, List.set_cons_zero, List.set_cons_succ]
          refine wpAnyH_ready (rs := [17]) (by kernel_rfl) (by simp) ?_
          refine (AllReadyH.cons (o := ⟨_, _, _, _, _, _⟩) rfl (fun K hK => ?_) AllReadyH.nil)
          go_simp
          have HKD : Hid (CBlk (V61.alloc (.cells #[.int .i64 0, .int .i64 0, .string ⟨#[]⟩, .string ⟨#[102, 114, 105, 101, 110, 100]⟩, .slice (some ⟨L1, 0, none⟩) 2 2, .slice none 0 0, .slice none 0 0, .int .i64 0, .int .i64 0, .string ⟨#[]⟩, .string ⟨#[103, 111, 111, 100]⟩, .slice (some ⟨L3, 0, none⟩) 1 1, .slice (some ⟨ga, 0, none⟩) 1 1, .slice (some ⟨gb, 0, none⟩) 1 1, .int .i64 0, .int .i64 0, .string ⟨#[]⟩, .string ⟨#[109, 97, 121]⟩, .slice (some ⟨L4, 0, none⟩) 1 1, .slice (some ⟨gc, 0, none⟩) 2 2, .slice none 0 0, .int .i64 2, .int .i64 0, .string ⟨#[99, 97, 114, 108]⟩, .string ⟨#[111, 107]⟩, .slice (some ⟨L6, 0, none⟩) 1 1, .slice none 0 0, .slice none 0 0] 50)) V61.heap.size #[.int .i64 0, .int .i64 0, .string ⟨#[]⟩, .string ⟨#[102, 114, 105, 101, 110, 100]⟩, .slice (some ⟨L1, 0, none⟩) 2 2, .slice none 0 0, .slice none 0 0, .int .i64 0, .int .i64 0, .string ⟨#[]⟩, .string ⟨#[103, 111, 111, 100]⟩, .slice (some ⟨L3, 0, none⟩) 1 1, .slice (some ⟨ga, 0, none⟩) 1 1, .slice (some ⟨gb, 0, none⟩) 1 1, .int .i64 0, .int .i64 0, .string ⟨#[]⟩, .string ⟨#[109, 97, 121]⟩, .slice (some ⟨L4, 0, none⟩) 1 1, .slice (some ⟨gc, 0, none⟩) 2 2, .slice none 0 0, .int .i64 2, .int .i64 0, .string ⟨#[99, 97, 114, 108]⟩, .string ⟨#[111, 107]⟩, .slice (some ⟨L6, 0, none⟩) 1 1, .slice none 0 0, .slice none 0 0] 50) := CBlk.new _ _ _
          have hgd : X6.heap.size ≤ V61.heap.size := hH.size
          refine hK.out _ _ (below_step hH (below1 _ _)) (fun hH => ?_)
          clear hK K
          try simp only [Act.put, List.setIfInBounds_toArray, List.set_cons_zero, List.set_cons_succ]
          refine wpAnyH_take (i := 18) (oi := ⟨_, _, _, _, _, _⟩) (v := .slice (some ⟨V61.heap.size, 0, none⟩) 4 4) rfl (by kernel_rfl) (by kernel_rfl) (by kernel_rfl) (fun _ _ _ h => h) (Or.inl ⟨by rfl, fun w' h => by clear h; go_simp⟩) hH ?_
          simp only [Act.put, List.setIfInBounds_toArray, List.set_cons_zero]
          refine wpAnyH_done (by kernel_rfl) ?_ _
          go_wp2_with fail
          exact bodyPost_ret (v := .slice (some ⟨V61.heap.size, 0, none⟩) 4 4) (by simp [results, Try.results6, go_sem]) rfl (four_fin (HT1.out.later hH) (HT2.out.later hH) (HT3.out.later hH) (HT4.out.later hH) (HT5.out.later hH) (HT6.out.later hH) (HKA.out.later (below1 _ _)) (HKB.out.later (below1 _ _)) (HKC.out.later (below1 _ _)) HKD.out (below_step HB6.out hH) HGA.out HGB.out HGC.out (Nat.le_trans HB6.out.size hgd))
        · go_simp
          have HKB : Hid (CBlk (V59.alloc (.cells #[.int .i64 2, .int .i64 3, .int .i64 0, .string ⟨#[]⟩, .int .i64 2, .int .i64 0, .string ⟨#[97, 110, 110]⟩] 52)) V59.heap.size #[.int .i64 2, .int .i64 3, .int .i64 0, .string ⟨#[]⟩, .int .i64 2, .int .i64 0, .string ⟨#[97, 110, 110]⟩] 52) := CBlk.new _ _ _
          have HGB : Hid (w.heap.size ≤ V59.heap.size) := Nat.le_trans HB6.out.size hH.size
          have HKC : Hid (CBlk (V59.alloc (.cells #[.int .i64 2, .int .i64 3, .int .i64 0, .string ⟨#[]⟩, .int .i64 2, .int .i64 0, .string ⟨#[97, 110, 110]⟩] 52)) gc #[.int .i64 0, .int .i64 0, .string ⟨#[]⟩, .string ⟨#[103, 111, 111, 100]⟩, .slice (some ⟨L3, 0, none⟩) 1 1, .int .i64 3, .int .i64 1, .string ⟨#[]⟩, .string ⟨#[111, 107]⟩, .slice (some ⟨L5, 0, none⟩) 1 1] 30) := HKC.out.later (below1 _ _)
          refine hK.out _ _ (below_step hH (below1 _ _)) (fun hH => ?_)
          clear hK K
          try simp only [Act.put, List.setIfInBounds_toArray, List.set_cons_zero, List.set_cons_succ]
          revert hH
          revert HKC
          revert HKB
          revert HGB
          generalize V59.alloc (.cells #[.int .i64 2, .int .i64 3, .int .i64 0, .string ⟨#[]⟩, .int .i64 2, .int .i64 0, .string ⟨#[97, 110, 110]⟩] 52) = V62
          generalize V59.heap.size = gb
          intro HGB HKB HKC hH
          refine wpAnyH_ready (rs := [4]) (by kernel_rfl) (by simp) ?_
          refine (AllReadyH.cons (o := ⟨_, _, _, _, _, _⟩) rfl (fun K hK => ?_) AllReadyH.nil)
          go_simp
          have HKA : Hid (CBlk (V62.alloc (.cells #[.int .i64 0, .int .i64 0, .string ⟨#[]⟩, .string ⟨#[102, 114, 105, 101, 110, 100]⟩, .slice (some ⟨L2, 0, none⟩) 2 2] 30)) V62.heap.size #[.int .i64 0, .int .i64 0, .string ⟨#[]⟩, .string ⟨#[102, 114, 105, 101, 110, 100]⟩, .slice (some ⟨L2, 0, none⟩) 2 2] 30) := CBlk.new _ _ _
          have HGA : Hid (w.heap.size ≤ V62.heap.size) := Nat.le_trans HB6.out.size hH.size
          have HKB : Hid (CBlk (V62.alloc (.cells #[.int .i64 0, .int .i64 0, .string ⟨#[]⟩, .string ⟨#[102, 114, 105, 101, 110, 100]⟩, .slice (some ⟨L2, 0, none⟩) 2 2] 30)) gb #[.int .i64 2, .int .i64 3, .int .i64 0, .string ⟨#[]⟩, .int .i64 2, .int .i64 0, .string ⟨#[97, 110, 110]⟩] 52) := HKB.out.later (below1 _ _)
          have HKC : Hid (CBlk (V62.alloc (.cells #[.int .i64 0, .int .i64 0, .string ⟨#[]⟩, .string ⟨#[102, 114, 105, 101, 110, 100]⟩, .slice (some ⟨L2, 0, none⟩) 2 2] 30)) gc #[.int .i64 0, .int .i64 0, .string ⟨#[]⟩, .string ⟨#[103, 111, 111, 100]⟩, .slice (some ⟨L3, 0, none⟩) 1 1, .int .i64 3, .int .i64 1, .string ⟨#[]⟩, .string ⟨#[111, 107]⟩, .slice (some ⟨L5, 0, none⟩) 1 1] 30) := HKC.out.later (below1 _ _)
          refine hK.out _ _ (below_step hH (below1 _ _)) (fun hH => ?_)
          clear hK K
          try simp only [Act.put, List.setIfInBounds_toArray, List.set_cons_zero, List.set_cons_succ]
          revert hH
          revert HKB
          revert HKC
          revert HKA
          revert HGA
          generalize V62.alloc (.cells #[.int .i64 0, .int .i64 0, .string ⟨#[]⟩, .string ⟨#[102, 114, 105, 101, 110, 100]⟩, .slice (some ⟨L2, 0, none⟩) 2 2] 30) = V63
          generalize V62.heap.size = ga
          intro HGA HKA HKC HKB hH
          refine wpAnyH_take (i := 9) (oi := ⟨_, _, _, _, _, _⟩) (v := .agg #[.int .i64 0, .int .i64 0, .string ⟨#[]⟩, .string ⟨#[103, 111, 111, 100]⟩, .slice (some ⟨L3, 0, none⟩) 1 1, .slice (some ⟨ga, 0, none⟩) 1 1, .slice (some ⟨gb, 0, none⟩) 1 1]) rfl (by kernel_rfl) (by kernel_rfl) (by kernel_rfl) (fun _ _ _ h => h) (Or.inl ⟨by rfl, fun w' h => by clear h; go_simp⟩) hH ?_
          simp only [Act.put, List.setIfInBounds_toArray, List.set_cons_zero, List.set_cons_succ]
          refine wpAnyH_ready (rs := [17]) (by kernel_rfl) (by simp) ?_
          refine (AllReadyH.cons (o := ⟨_, _, _, _, _, _⟩) rfl (fun K hK => ?_) AllReadyH.nil)
          go_simp
          have HKD : Hid (CBlk (V63.alloc (.cells #[.int .i64 0, .int .i64 0, .string ⟨#[]⟩, .string ⟨#[102, 114, 105, 101, 110, 100]⟩, .slice (some ⟨L1, 0, none⟩) 2 2, .slice none 0 0, .slice none 0 0, .int .i64 0, .int .i64 0, .string ⟨#[]⟩, .string ⟨#[103, 111, 111, 100]⟩, .slice (some ⟨L3, 0, none⟩) 1 1, .slice (some ⟨ga, 0, none⟩) 1 1, .slice (some ⟨gb, 0, none⟩) 1 1, .int .i64 0, .int .i64 0, .string ⟨#[]⟩, .string ⟨#[109, 97, 121]⟩, .slice (some ⟨L4, 0, none⟩) 1 1, .slice (some ⟨gc, 0, none⟩) 2 2, .slice none 0 0, .int .i64 2, .int .i64 0, .string ⟨#[99, 97, 114, 108]⟩, .string ⟨#[111, 107]⟩, .slice (some ⟨L6, 0, none⟩) 1 1, .slice none 0 0, .slice none 0 0] 50)) V63.heap.size #[.int .i64 0, .int .i64 0, .string ⟨#[]⟩, .string ⟨#[102, 114, 105, 101, 110, 100]⟩, .slice (some ⟨L1, 0, none⟩) 2 2, .slice none 0 0, .slice none 0 0, .int .i64 0, .int .i64 0, .string ⟨#[]⟩, .string ⟨#[103, 111, 111, 100]⟩, .slice (some ⟨L3, 0, none⟩) 1 1, .slice (some ⟨ga, 0, none⟩) 1 1, .slice (some ⟨gb, 0, none⟩) 1 1, .int .i64 0, .int .i64 0, .string ⟨#[]⟩, .string ⟨#[109, 97, 121]⟩, .slice (some ⟨L4, 0, none⟩) 1 1, .slice (some ⟨gc, 0, none⟩) 2 2, .slice none 0 0, .int .i64 2, .int .i64 0, .string ⟨#[99, 97, 114, 108]⟩, .string ⟨#[111, 107]⟩, .slice (some ⟨L6, 0, none⟩) 1 1, .slice none 0 0, .slice none 0 0] 50) := CBlk.new _ _ _
          have hgd : X6.heap.size ≤ V63.heap.size := hH.size
          refine hK.out _ _ (below_step hH (below1 _ _)) (fun hH => ?_)
          clear hK K
          try simp only [Act.put, List.setIfInBounds_toArray, List.set_cons_zero, List.set_cons_succ]
          refine wpAnyH_take (i := 18) (oi := ⟨_, _, _, _, _, _⟩) (v := .slice (some ⟨V63.heap.size, 0, none⟩) 4 4) rfl (by kernel_rfl) (by kernel_rfl) (by kernel_rfl) (fun _ _ _ h => h) (Or.inl ⟨by rfl, fun w' h => by clear h; go_simp⟩) hH ?_
          simp only [Act.put, List.setIfInBounds_toArray, List.set_cons_zero]
          refine wpAnyH_done (by kernel_rfl) ?_ _
          go_wp2_with fail
          exact bodyPost_ret (v := .slice (some ⟨V63.heap.size, 0, none⟩) 4 4) (by simp [results, Try.results6, go_sem]) rfl (four_fin (HT1.out.later hH) (HT2.out.later hH) (HT3.out.later hH) (HT4.out.later hH) (HT5.out.later hH) (HT6.out.later hH) (HKA.out.later (below1 _ _)) (HKB.out.later (below1 _ _)) (HKC.out.later (below1 _ _)) HKD.out (below_step HB6.out hH) HGA.out HGB.out HGC.out (Nat.le_trans HB6.out.size hgd))
end Go.Proofs.Ytbhdalchnbfohaa
