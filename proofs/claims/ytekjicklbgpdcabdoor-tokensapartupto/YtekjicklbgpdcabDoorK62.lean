/-
  lend of the laws.
-/
import Derived.Test.YtekjicklbgpdcabDoorK61
namespace Go.Proofs.YtekjicklbgpdcabDoor
open Go.RowKit

theorem blk3 {w : World} {g : Nat} {a b c : Value} {t : TypeId} (h : Blk w g #[a, b, c] t) :
    w.cell? ⟨g, 0, none⟩ = some a ∧ w.cell? ⟨g, 1, none⟩ = some b ∧ w.cell? ⟨g, 2, none⟩ = some c ∧ w.frozen? ⟨g, 0, none⟩ = false ∧ w.frozen? ⟨g, 1, none⟩ = false ∧ w.frozen? ⟨g, 2, none⟩ = false :=
  ⟨cell_of_row _ _ _ _ _ _ h, cell_of_row _ _ _ _ _ _ h, cell_of_row _ _ _ _ _ _ h, frozen_of_row _ _ _ _ _ h, frozen_of_row _ _ _ _ _ h, frozen_of_row _ _ _ _ _ h⟩
theorem stor3 {W : World} {G : Nat} {a b c a' b' c' : Value} {t : TypeId} (h : Blk W G #[a, b, c] t) :
    Blk (((W.setCell ⟨G, 0, none⟩ a').setCell ⟨G, 1, none⟩ b').setCell ⟨G, 2, none⟩ c') G #[a', b', c'] t := by
  have h1 := heap_setCell_same _ _ 0 _ _ a' h
  have h2 := heap_setCell_same _ _ 1 _ _ b' h1
  exact heap_setCell_same _ _ 2 _ _ c' h2
theorem Blk.grown {w w' : World} {g : Nat} {c : Array Value} {t : TypeId} {row : Option Nat} (h : Blk w g c t) (hg : w.grownBy w' row) (hne : some g ≠ row) : Blk w' g c t := (hg.block g h.lt hne).trans h
theorem KsS.set {w : World} {S : Nat → Prop} {v u : Value} {l : List Tk} {g i : Nat} (h : KsS w S v l) (hg : ∀ b, S b → b ≠ g) : KsS (w.setCell ⟨g, i, none⟩ u) S v l :=
  h.kept (by simp [World.setCell]) (fun b _ hS => ⟨hS, heap_setCell_other _ _ _ _ (hg b hS)⟩)
theorem KsS.mono {w : World} {S S' : Nat → Prop} {v : Value} {l : List Tk} (h : KsS w S v l) (hS : ∀ b, S b → S' b) : KsS w S' v l :=
  h.kept (Nat.le_refl _) (fun b _ hs => ⟨hS b hs, rfl⟩)
/-- What is left to be said behind the append. -/
theorem lend_end {w W3 : World} {v G : Value} {m : Int} {n : Nat} (hv : ∀ k, v.ownBlock = some k → k < w.heap.size) (h1 : KsS W3 (fun b => some b = v.ownBlock) v (mkL m n)) (h2 : KsS W3 (fun b => some b = v.ownBlock ∨ w.heap.size + 1 ≤ b) G (mkL m n ++ [mk m (-1)]))
    (hg : w.grownBy W3 v.ownBlock) : LPost w v m n (.returned (.agg #[v, G, .int .i64 m])) (((W3.setCell ⟨w.heap.size, 0, none⟩ v).setCell ⟨w.heap.size, 1, none⟩ G).setCell ⟨w.heap.size, 2, none⟩ (.int .i64 m)) := by
  have k1 : ∀ b, some b = v.ownBlock → b ≠ w.heap.size := fun b e h => by have := hv b e.symm; omega
  have k2 : ∀ b, (some b = v.ownBlock ∨ w.heap.size + 1 ≤ b) → b ≠ w.heap.size := fun b e h => by
    rcases e with e | e
    · exact k1 b e h
    · omega
  have g3 : ∀ (X : World) (i : Nat) (u : Value), w.grownBy X v.ownBlock → w.grownBy (X.setCell ⟨w.heap.size, i, none⟩ u) v.ownBlock := fun X i u h =>
    ⟨h.os, h.tape, h.output, by simpa [World.setCell] using h.size, fun k hk hne => (heap_setCell_other _ _ _ _ (show k ≠ w.heap.size by omega)).trans (h.block k hk hne)⟩
  refine ⟨G, rfl, ⟨?_, ?_⟩, g3 _ _ _ (g3 _ _ _ (g3 _ _ _ hg))⟩
  · exact (((h1.set k1).set k1).set k1).mono (fun b e => Or.inl e)
  · exact (((h2.set k2).set k2).set k2).mono (fun b e => by
      rcases e with e | e
      · exact Or.inl e
      · exact Or.inr (by omega))
theorem kss_front {w : World} {S : Nat → Prop} {g n cap : Nat} {l m : List Tk} (h : KsS w S (.slice (some ⟨g, 0, none⟩) n cap) (l ++ m)) (c : Nat) : KsS w S (.slice (some ⟨g, 0, none⟩) l.length c) l := by
  obtain ⟨a, cap', hv, hm⟩ := h
  refine ⟨some ⟨g, 0, none⟩, c, rfl, ?_⟩
  rcases hm with hm | ⟨b, o, hbo, hlt, hs, hm⟩
  · left; exact (List.append_eq_nil_iff.1 hm).1
  · right
    simp only [Value.slice.injEq] at hv
    rw [hbo] at hv
    simp only [Option.some.injEq, Addr.mk.injEq, and_true] at hv
    obtain ⟨⟨rfl, rfl⟩, -, -⟩ := hv
    exact ⟨g, 0, rfl, hlt, hs, fun i t ht => hm i t (by rw [List.getElem?_append_left (List.getElem?_eq_some_iff.1 ht).1]; exact ht)⟩
theorem ret_k {fn : Func} (hf : fn.results = #[.cell 4 39]) (tmps : Array Value) (w : World) (g : Nat) (v G : Value) (m : Int) (a a' : Option Addr) (n n' c c' : Nat) (hv : v = .slice a n c) (hG : G = .slice a' n' c')
    (h4 : tmps[4]?.getD undef = .pointer (some ⟨g, 0, none⟩)) (hg : Blk w g #[v, G, .int .i64 m] 39) :
    (results fn tmps).run Tryd.prog w = .ok (.agg #[v, G, .int .i64 m]) w := by
  obtain ⟨a0, a1, a2, -, -, -⟩ := blk3 hg
  subst hv hG
  simp [results, hf, h4, go_sem, a0, a1, a2]
set_option maxRecDepth 20000 in
set_option maxHeartbeats 2000000 in
theorem lend_any (l : List Tk) (v : Value) (m : Int) (base : Nat) (w : World) (h : OwnK w base v l) (h0 : 0 ≤ m) (h1 : m ≤ 1000000000) (hl : l.length ≤ 9000000) :
    Calls Tryd.prog 14 #[v, .int .i64 m] w (LPost w v m l.length) := by
  obtain ⟨i, z, hi, hz0, hz1, hz2, hz3⟩ := infoTok_parts
  have hv := fun k e => (World.ownsRow.lt h k e).2
  have HV : Hid (∀ k, v.ownBlock = some k → k < w.heap.size) := hv
  obtain ⟨a, cap, rfl⟩ := h.shape
  have HO : Hid (OwnK w base (.slice a l.length cap) l) := h
  clear h hv
  have n1 : -m - 1 = -m - 1 := rfl
  go_enter Tryd.func14, Tryd.ntmps14
  go_upto_region 2 with fail
  have bx := below1 w (.cells #[.slice none 0 0, .slice none 0 0, .int .i64 0] 39)
  have fx := Blk.new w #[.slice none 0 0, .slice none 0 0, .int .i64 0] 39
  have hk1 := HO.out.later bx
  have hg1 := World.grownBy_alloc w (.cells #[.slice none 0 0, .slice none 0 0, .int .i64 0] 39) (Value.slice a l.length cap).ownBlock
  have hz : (w.alloc (.cells #[.slice none 0 0, .slice none 0 0, .int .i64 0] 39)).heap.size = w.heap.size + 1 := by simp
  revert bx fx hk1 hg1 hz
  generalize w.alloc (.cells #[.slice none 0 0, .slice none 0 0, .int .i64 0] 39) = W1
  intro bx fx hk1 hg1 hz
  have HF1 : Hid (Blk W1 w.heap.size #[.slice none 0 0, .slice none 0 0, .int .i64 0] 39) := fx
  have HO1 : Hid (OwnK W1 base (.slice a l.length cap) l) := hk1
  have HG1 : Hid (w.grownBy W1 (Value.slice a l.length cap).ownBlock) := hg1
  clear bx fx hk1 hg1 HO
  go_loopg [5] l.length (fun gk i wr => ∃ j : Nat, j + gk = l.length ∧ i = .int .i64 (j : Int) ∧ OwnK wr base (.slice a l.length cap) (mks m j l) ∧ w.grownBy wr (Value.slice a l.length cap).ownBlock ∧ Blk wr w.heap.size #[.slice none 0 0, .slice none 0 0, .int .i64 0] 39)
  case atStart => exact ⟨0, by omega, rfl, HO1.out, HG1.out, HF1.out⟩
  case round =>
    obtain ⟨j, hj, rfl, hor, hgr, hfr⟩ := hrel
    have HOr : Hid (OwnK wr base (.slice a l.length cap) (mks m j l)) := hor
    have HGr : Hid (w.grownBy wr (Value.slice a l.length cap).ownBlock) := hgr
    have HFr : Hid (Blk wr w.heap.size #[.slice none 0 0, .slice none 0 0, .int .i64 0] 39) := hfr
    clear hor hgr hfr HO1 HG1 HF1
    cases gk with
    | succ g =>
      have hlt : j < l.length := by omega
      have i0 : (0 : Int) ≤ (j : Int) := by omega
      have i1 : (j : Int) < (l.length : Int) := by omega
      have hml : (mks m j l).length = l.length := mks_len (by omega)
      have hfm := World.ownsRow.form HOr.out (by rw [hml]; omega)
      obtain ⟨gb, cp, he, -, -⟩ := hfm
      simp only [Value.slice.injEq] at he
      obtain ⟨rfl, -, rfl⟩ := he
      have hc := HOr.out.cells (i := j) (by rw [hml]; omega)
      obtain ⟨⟨x0, c0⟩, f0⟩ := hc 0 (by omega)
      obtain ⟨⟨x1, c1⟩, f1⟩ := hc 1 (by omega)
      obtain ⟨⟨x2, c2⟩, f2⟩ := hc 2 (by omega)
      obtain ⟨⟨x3, c3⟩, f3⟩ := hc 3 (by omega)
      obtain ⟨⟨x4, c4⟩, f4⟩ := hc 4 (by omega)
      rw [Nat.add_zero] at c0 f0
      have hput := HOr.out.put (i := j) (by rw [hml]; omega) (mk m (j : Int))
      rw [mks_step hlt] at hput
      have HP : Hid _ := hput
      clear hput hc hml
      go_wp2
      go_roundg g
      case measure => omega
      case rel =>
        refine ⟨j + 1, by omega, by go_num, ?_, ?_, ?_⟩
        · exact HP.out.1
        · exact HGr.out.trans HP.out.2
        · exact HFr.out.grown HP.out.2 (fun e => by have := HV.out w.heap.size (by cases e; rfl); omega)
    | zero =>
      obtain rfl : j = l.length := by omega
      have hz : ¬ ((l.length : Int) < (l.length : Int)) := by omega
      have HK : Hid (OwnK wr base (.slice a l.length cap) (mkL m l.length)) := by have := HOr.out; rw [mks_all] at this; exact this
      have hzr := HGr.out.size
      have hzw := HFr.out.lt
      clear HOr
      obtain ⟨T, hT⟩ : ∃ T : Tk, mk m (-1) = T := ⟨_, rfl⟩
      have hTs : mk m (-1) = ⟨-m - 1, ⟨#[]⟩, -1, 0, 0⟩ := rfl
      have hown : (wr.alloc (.cells (mk m (-1)).cs 37)).ownsRow base 37 5 (.slice a l.length cap) l.length (kcs (mkL m l.length)) := by
        have h := HK.out.later (below1 wr (.cells (mk m (-1)).cs 37)); unfold OwnK at h; rw [mkL_len] at h; exact h
      have HW : Hid ((wr.alloc (.cells (mk m (-1)).cs 37)).ownsRow base 37 5 (.slice a l.length cap) l.length (kcs (mkL m l.length))) := hown
      have HN : Hid (∀ (j : Nat) (u : Value), (kcs [mk m (-1)])[j]? = some u → (wr.alloc (.cells (mk m (-1)).cs 37)).cell? ((⟨wr.heap.size, 0, none⟩ : Addr).add j) = some u) := fun j u hj => by
        have := World.news_of_block (cs := (mk m (-1)).cs) (t := 37) (fr := (0, 0)) (heap_alloc_new wr _) j u
        exact this (by simpa [kcs] using hj)
      have HB : Hid (Blk (wr.alloc (.cells (mk m (-1)).cs 37)) w.heap.size #[.slice none 0 0, .slice none 0 0, .int .i64 0] 39) := HFr.out.later (below1 _ _)
      have HG2 : Hid (w.grownBy (wr.alloc (.cells (mk m (-1)).cs 37)) (Value.slice a l.length cap).ownBlock) := HGr.out.trans (World.grownBy_alloc _ _ _)
      have HZ : Hid ((wr.alloc (.cells (mk m (-1)).cs 37)).heap.size = wr.heap.size + 1) := by show _ = _; simp
      have HS : Hid (KsS (wr.alloc (.cells (mk m (-1)).cs 37)) (fun b => some b = (Value.slice a l.length cap).ownBlock) (.slice a l.length cap) (mkL m l.length)) := (HK.out.later (below1 _ _)).kss
      clear hown hT HK
      by_cases hc : l.length + 1 ≤ cap
      · obtain ⟨gb, rfl⟩ : ∃ gb, a = some ⟨gb, 0, none⟩ := by
          rcases HW.out.2 with ⟨hv, -⟩ | ⟨g', cap', cur, hv, -⟩
          · simp only [Value.slice.injEq] at hv; omega
          · simp only [Value.slice.injEq] at hv; exact ⟨g', hv.1⟩
        have hne : (some w.heap.size : Option Nat) ≠ some gb := fun e => by cases e; have := HV.out w.heap.size rfl; omega
        simp only [hTs] at HW HN HB HG2 HZ HS
        go_wp2_with (at_builtin; refine wpList_append_fits _ rfl _ _ _ rfl base 37 i 5 Tryd.underlying22 hi hz1 gb l.length cap (kcs (mkL m l.length)) rfl HW.out ⟨wr.heap.size, 0, none⟩ 1 1 (kcs [⟨-m - 1, ⟨#[]⟩, -1, 0, 0⟩]) rfl (by simp [kcs]) HN.out (kcs_one _) hc ?_; intro w3 ho3 hg3; have HO3 : Hid _ := ho3; have HG3 : Hid _ := hg3; obtain ⟨b0, b1, b2, q0, q1, q2⟩ := blk3 (HB.out.grown hg3 hne); clear ho3 hg3)
        have hK3 : OwnK w3 base (.slice (some ⟨gb, 0, none⟩) (l.length + 1) cap) (mkL m l.length ++ [mk m (-1)]) := by
          unfold OwnK; rw [List.length_append, kcs_app, mkL_len]; exact HO3.out
        have hs3 := hK3.kss
        have hB3 := HB.out.grown HG3.out hne
        refine bodyPost_ret (v := .agg #[.slice (some ⟨gb, 0, none⟩) l.length cap, .slice (some ⟨gb, 0, none⟩) (l.length + 1) cap, .int .i64 m]) (ret_k Tryd.results14 _ _ _ _ _ _ _ _ _ _ _ _ rfl rfl rfl (stor3 hB3)) rfl ?_
        refine lend_end HV.out ?_ (hs3.mono fun b e => Or.inl e) (HG2.out.trans HG3.out)
        have := kss_front hs3 cap
        rw [mkL_len] at this
        exact this
      · have hne : (some w.heap.size : Option Nat) ≠ (Value.slice a l.length cap).ownBlock := fun e => by have := HV.out w.heap.size e.symm; omega
        have hnone : a = none → l.length = 0 ∧ cap = 0 := fun e => by
          subst e
          rcases HW.out.2 with ⟨hv, -⟩ | ⟨g', cap', cur, hv, -⟩
          · simp only [Value.slice.injEq, true_and] at hv; exact hv
          · simp only [Value.slice.injEq] at hv; exact absurd hv.1 (by simp)
        have HD : Hid (∀ b, a = some b → ∀ j u, (kcs (mkL m l.length))[j]? = some u → (wr.alloc (.cells (mk m (-1)).cs 37)).cell? (b.add j) = some u) := fun b e j u hj => by
          subst e
          rcases HW.out.2 with ⟨hv, -⟩ | ⟨g', cap', cur, hv, -⟩
          · cases hv
          · have hb : b = ⟨g', 0, none⟩ := by simp only [Value.slice.injEq, Option.some.injEq] at hv; exact hv.1
            subst hb
            exact World.ownsRow.cells HW.out (g := g') rfl j u hj
        simp only [hTs] at HW HN HB HG2 HZ HS HD
        go_wp2_with (at_builtin; refine wpList_append_grows _ rfl _ _ _ rfl 37 i z 5 48 Tryd.underlying22 hi hz0 hz1 hz2 hz3 (by omega) a l.length cap (kcs (mkL m l.length)) rfl hnone (by rw [kcs_len, mkL_len]) HD.out ⟨wr.heap.size, 0, none⟩ 1 1 (kcs [⟨-m - 1, ⟨#[]⟩, -1, 0, 0⟩]) rfl (by simp [kcs]) HN.out (kcs_one _) (by omega) (by unfold maxLen; omega) (by omega) ?_; intro v3 w3 ho3 hg3; obtain ⟨g3, cap3, rfl, -, -⟩ := World.ownsRow.form ho3 (by omega); have HO3 : Hid _ := ho3; have HG3 : Hid _ := hg3; obtain ⟨b0, b1, b2, q0, q1, q2⟩ := blk3 (HB.out.grown hg3 (by simp)); clear ho3 hg3)
        have hK3 : OwnK w3 (wr.heap.size + 1) (.slice (some ⟨g3, 0, none⟩) (l.length + 1) cap3) (mkL m l.length ++ [mk m (-1)]) := by
          unfold OwnK; rw [List.length_append, kcs_app, mkL_len, ← HZ.out]; exact HO3.out
        have hs3 := hK3.kss
        have hlt3 := fun k e => (World.ownsRow.lt hK3 k e).1
        have hB3 := HB.out.grown HG3.out (by simp)
        refine bodyPost_ret (v := .agg #[.slice a l.length cap, .slice (some ⟨g3, 0, none⟩) (l.length + 1) cap3, .int .i64 m]) (ret_k Tryd.results14 _ _ _ _ _ _ _ _ _ _ _ _ rfl rfl rfl (stor3 hB3)) rfl ?_
        refine lend_end HV.out (HS.out.kept HG3.out.size (fun b hb e => ⟨e, HG3.out.block b hb (by simp)⟩)) (hs3.mono fun b e => Or.inr (by have := hlt3 b e.symm; omega)) ?_
        exact HG2.out.trans ⟨HG3.out.os, HG3.out.tape, HG3.out.output, HG3.out.size, fun k hk _ => HG3.out.block k hk (by simp)⟩
end Go.Proofs.YtekjicklbgpdcabDoor
