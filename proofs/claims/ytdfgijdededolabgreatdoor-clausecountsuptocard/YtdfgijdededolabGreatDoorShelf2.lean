import Derived.Test.YtdfgijdededolabGreatDoorLD1
import Derived.Test.YtdfgijdededolabGreatDoorMD5
import Derived.Test.YtdfgijdededolabGreatDoorCL7
import Derived.Lib.SliceRun
import Derived.Shelf.SlSortCmp.WholeK
import Derived.Shelf.Small.Bits
import Derived.Ground.SlsfProg
import Derived.Ground.NamesProg
import Derived.Test.YtdfgijdededolabGreatDoorProg
/-
  Lists of atoms lent, and looked at. (Written by LD2.py.)
-/
namespace Go.Proofs.YtdfgijdededolabGreatDoor
open Go.RowKit
attribute [local go_sem ↓] Go.wp_at_zero Go.wp_at_succ

def bA : At := ⟨zt, bN, []⟩
structure LA (W X : World) (u : Value) (LB : List (At × Value)) : Prop where
  ow : OwnA X W.heap.size u LB
  ts : ∀ x ∈ LB, LentT X W.heap.size x.2 x.1.args
  ap : ∀ x ∈ LB, ∀ k, u.ownBlock = some k → x.2.ownBlock ≠ some k
  bw : Below W.heap.size W X
theorem LA.later {W X X' : World} {u : Value} {LB : List (At × Value)} (h : LA W X u LB) (hb : Below X.heap.size X X') : LA W X' u LB := ⟨h.ow.later hb, fun x hx => (h.ts x hx).later hb, h.ap, below_step h.bw hb⟩
theorem LA.grow {W X X1 X2 X3 : World} {u v' u' : Value} {LB : List (At × Value)} {x : At} (h : LA W X u LB) (hb1 : Below X.heap.size X X1) (hl : LentT X1 X.heap.size u' x.args) (hb2 : Below X1.heap.size X1 X2) (ho : OwnA X3 W.heap.size v' (LB ++ [(x, u')]))
    (hb : Below W.heap.size X2 X3) (hg : X2.grownBy X3 u.ownBlock) (ha : ∀ k, v'.ownBlock = some k → u.ownBlock = some k ∨ X2.heap.size ≤ k) : LA W X3 v' (LB ++ [(x, u')]) := by
  have hsz := h.bw.size
  have h12 : Below X.heap.size X X2 := below_step hb1 hb2
  have hul : ∀ k, u.ownBlock = some k → k < X.heap.size := fun k hk => (h.ow.lt k hk).2
  have h2 := hl.later hb2
  have hs1 := hb1.size
  have hs2 := hb2.size
  refine ⟨ho, fun y hy => ?_, fun y hy k hk => ?_, (h.bw.trans (h12.mono hsz)).trans hb⟩
  · rcases List.mem_append.1 hy with hy | hy
    · exact ((h.ts y hy).later h12).grown hg fun k hk e => h.ap y hy k e hk
    · rw [List.mem_singleton] at hy
      subst hy
      exact (h2.grown hg fun k hk e => by have := (h2.lt k hk).1; have := hul k e; omega).mono hsz
  · rcases List.mem_append.1 hy with hy | hy
    · intro e
      have hlt := ((h.ts y hy).lt k e).2
      rcases ha k hk with hk | hk
      · exact h.ap y hy k hk e
      · omega
    · rw [List.mem_singleton] at hy
      subst hy
      intro e
      have hlt := hl.lt k e
      rcases ha k hk with hk | hk
      · have := hul k hk; omega
      · omega
/-- A list of atoms lent. -/
structure LentA (X : World) (B : Nat) (v : Value) (LB : List (At × Value)) : Prop where
  o : ∃ g cap, v = .slice (some ⟨g, 0, none⟩) LB.length cap ∧ OwnA X B (.slice (some ⟨g, 0, none⟩) (LB.length + 1) cap) (LB ++ [(bA, .slice none 0 0)])
  ts : ∀ x ∈ LB, LentT X B x.2 x.1.args
theorem LentA.later {X X' : World} {B : Nat} {v : Value} {LB : List (At × Value)} (h : LentA X B v LB) (hb : Below X.heap.size X X') : LentA X' B v LB := by
  obtain ⟨⟨g, cap, e, ho⟩, ht⟩ := h
  exact ⟨⟨g, cap, e, ho.later hb⟩, fun x hx => (ht x hx).later hb⟩
theorem LentA.mono {X : World} {B B' : Nat} {v : Value} {LB : List (At × Value)} (h : LentA X B v LB) (hb : B' ≤ B) : LentA X B' v LB := by
  obtain ⟨⟨g, cap, e, ho⟩, ht⟩ := h
  exact ⟨⟨g, cap, e, ho.mono hb⟩, fun x hx => (ht x hx).mono hb⟩
theorem LentA.lt {X : World} {B : Nat} {v : Value} {LB : List (At × Value)} (h : LentA X B v LB) : ∀ k, v.ownBlock = some k → B ≤ k ∧ k < X.heap.size := by
  obtain ⟨⟨g, cap, rfl, ho⟩, ht⟩ := h
  exact fun k hk => ho.lt k hk
theorem ownA_some {w : World} {base : Nat} {v : Value} {l : List (At × Value)} {d : At × Value} (h : OwnA w base v (l ++ [d])) : ∃ g cap, v = .slice (some ⟨g, 0, none⟩) (l.length + 1) cap ∧ l.length + 1 ≤ cap := by
  rcases h.2 with ⟨_, hn⟩ | ⟨g, cap, cur, hv, _, _, hn, _⟩
  · simp at hn
  · rw [List.length_append, List.length_singleton] at hv hn; exact ⟨g, cap, hv, hn⟩
theorem ownA_cap {w : World} {base g cap n : Nat} {l : List (At × Value)} (h : OwnA w base (.slice (some ⟨g, 0, none⟩) n cap) l) : l.length ≤ cap := by
  rcases h.2 with ⟨h, _⟩ | ⟨g', c, cur, hv, _, _, hn, _⟩
  · cases h
  · simp only [Value.slice.injEq] at hv; omega
theorem LentA.row {X : World} {B g cap n : Nat} {LB : List (At × Value)} (ho : OwnA X B (.slice (some ⟨g, 0, none⟩) n cap) (LB ++ [(bA, .slice none 0 0)])) : ARow X g 0 LB := by
  refine ⟨(ho.lt g rfl).2, fun i x hx => ?_⟩
  have hi := (List.getElem?_eq_some_iff.1 hx).1
  have hx' : (LB ++ [(bA, .slice none 0 0)])[i]? = some x := by rw [List.getElem?_append_left hi]; exact hx
  rw [Nat.zero_add]
  exact ⟨ho.cells i x hx' 0 (by omega), ho.cells i x hx' 1 (by omega), ho.cells i x hx' 2 (by omega), ho.cells i x hx' 3 (by omega), ho.cells i x hx' 4 (by omega)⟩
theorem LentA.as {X : World} {B : Nat} {v : Value} {LB : List (At × Value)} (h : LentA X B v LB) (hl : LB.length < 1000000000000000000) (hx : ∀ x ∈ LB, x.1.args.length < 1000000000000000000) : As X v LB := by
  obtain ⟨⟨g, cap, rfl, ho⟩, ht⟩ := h
  exact ⟨_, cap, rfl, hl, Or.inr ⟨g, 0, rfl, LentA.row ho⟩, fun x hm => (ht x hm).ts (hx x hm)⟩
theorem fsts_take {l : List (At × Value)} {j : Nat} {x : At × Value} (h : l[j]? = some x) {LB : List (At × Value)} {u : Value} (hf : fsts LB = fsts (l.take j)) : fsts (LB ++ [(x.1, u)]) = fsts (l.take (j + 1)) := by
  rw [List.take_add_one, h]
  unfold fsts at hf ⊢
  rw [List.map_append, hf]; simp
set_option maxRecDepth 20000 in
set_option maxHeartbeats 4000000 in
theorem lendAs_any (l : List (At × Value)) (v : Value) (w : World) (h : As w v l) (hp : ∀ x ∈ l, TsP w x.2 x.1.args) (hl : l.length ≤ 1700000000000) (hx : ∀ x ∈ l, x.1.args.length ≤ 3900000000000) (hB : BehOk w) :
    Calls Tryz.prog 46 #[v] w fun e w' => ∃ u LB, e = .returned u ∧ fsts LB = fsts l ∧ LentA w' w.heap.size u LB ∧ Below w.heap.size w w' := by
  have HP : Hid (∀ x ∈ l, TsP w x.2 x.1.args) := hp
  have HX : Hid (∀ x ∈ l, x.1.args.length ≤ 3900000000000) := hx
  have HB : Hid (BehOk w) := hB
  obtain ⟨ad, cap, rfl, -, h, -⟩ := h
  clear hp hx hB
  go_enter Tryz.func46, Tryz.ntmps46
  go_wp2
  go_loopg [3, 4] l.length (fun g u i wr => ∃ j : Nat, j + g = l.length ∧ i = .int .i64 j ∧ ∃ LB, fsts LB = fsts (l.take j) ∧ LA w wr u LB)
  case atStart => exact ⟨0, by omega, rfl, [], rfl, OwnA.nil _ _, fun x hx => (by cases hx), fun x hx => (by cases hx), Below.refl _ _⟩
  case round =>
    obtain ⟨j, hj, rfl, LB, hf, hla⟩ := hrel
    have HLA : Hid (LA w wr u3 LB) := hla
    have HF : Hid (fsts LB = fsts (l.take j)) := hf
    have hlb : LB.length = j := by have := congrArg List.length hf; simp [fsts] at this; omega
    have HLB : Hid (LB.length = j) := hlb
    clear hf hla
    cases gk with
    | succ g =>
      have hlt : (j : Int) < (l.length : Int) := by omega
      have j0 : (0 : Int) ≤ (j : Int) := by omega
      obtain ⟨t, ht⟩ : ∃ t, l[j]? = some t := ⟨_, List.getElem?_eq_getElem (by omega)⟩
      have hm := List.mem_of_getElem? ht
      rcases h with h | ⟨b1, o1, rfl, h⟩
      · subst h; simp at ht
      obtain ⟨p0, p1, p2, p3, p4⟩ := (h.later HLA.out.bw).2 j t ht
      have HT : Hid (l[j]? = some t) := ht
      have htp := (HP.out t hm).later HLA.out.bw
      have HLN : Hid (∀ u, fsts (LB ++ [(t.1, u)]) = fsts (l.take (j + 1))) := fun u => fsts_take ht HF.out
      have HC : Hid (Calls Tryz.prog 45 #[t.1.v t.2] wr fun e w' => ∃ u, e = .returned (t.1.v u) ∧ LentT w' wr.heap.size u t.1.args ∧ Below wr.heap.size wr w') := lendA_any t.1 t.2 wr htp (HX.out t hm) (HB.out.later HLA.out.bw)
      obtain ⟨ax, cx, hax⟩ := htp.form
      clear ht hm htp h HF HT
      obtain ⟨⟨⟨kx, mx, sx⟩, nx, lx⟩, vx⟩ := t
      simp only at hax p0 p1 p2 p3 p4
      subst hax
      go_wp2_with (first
        | (go_at_call 45; refine HC.out.mono ?_; rintro e w1 ⟨u', rfl, hlt', hb1⟩; have HL1 : Hid (LentT w1 wr.heap.size u' lx) := hlt'; have HB1 : Hid (Below wr.heap.size wr w1) := hb1; obtain ⟨gu, cu, hgu, -⟩ := hlt'; subst hgu; have HG : Hid (CBlk (w1.alloc (.cells #[.int .i64 kx, .int .i64 mx, .string sx, .string nx, .slice (some ⟨gu, 0, none⟩) lx.length cu] 37)) w1.heap.size #[.int .i64 kx, .int .i64 mx, .string sx, .string nx, .slice (some ⟨gu, 0, none⟩) lx.length cu] 37) := CBlk.new _ _ _; have HO1 : Hid (OwnA (w1.alloc (.cells #[.int .i64 kx, .int .i64 mx, .string sx, .string nx, .slice (some ⟨gu, 0, none⟩) lx.length cu] 37)) w.heap.size u3 LB) := HLA.out.ow.later (below_step hb1 (below1 _ _)); have HS1 : Hid (w.heap.size ≤ (w1.alloc (.cells #[.int .i64 kx, .int .i64 mx, .string sx, .string nx, .slice (some ⟨gu, 0, none⟩) lx.length cu] 37)).heap.size) := Nat.le_trans HLA.out.bw.size (below_step hb1 (below1 _ _)).size; clear hb1 p0 p1 p2 p3 p4)
        | (at_builtin; refine aapp_one rfl _ _ rfl w.heap.size u3 LB (by rfl) HO1.out w1.heap.size (⟨⟨kx, mx, sx⟩, nx, lx⟩, .slice (some ⟨gu, 0, none⟩) lx.length cu) (by rfl) HG.out (acell_one _ _ _ _) (by have := HLB.out; omega) HS1.out ?_; intro v' w4 hown hb3 hg3 ha3; have HL4 : Hid (LA w w4 v' (LB ++ [(⟨⟨kx, mx, sx⟩, nx, lx⟩, .slice (some ⟨gu, 0, none⟩) lx.length cu)])) := LA.grow HLA.out HB1.out HL1.out (below1 _ _) hown hb3 hg3 ha3; clear hown hb3 hg3 ha3 HO1 HG HS1 HL1 HB1))
      go_roundg g
      case measure => omega
      case rel => exact ⟨j + 1, by omega, by go_num, _, HLN.out _, HL4.out⟩
    | zero =>
      have hjl : j = l.length := by omega
      have hz : ¬ ((j : Int) < (l.length : Int)) := by omega
      have HFF : Hid (fsts LB = fsts l) := by have := HF.out; rw [hjl, List.take_length] at this; exact this
      have HG : Hid (CBlk (wr.alloc (.cells #[.int .i64 0, .int .i64 0, .string ⟨#[]⟩, .string ⟨#[98, 101, 104, 105, 110, 100]⟩, .slice none 0 0] 37)) wr.heap.size #[.int .i64 0, .int .i64 0, .string ⟨#[]⟩, .string ⟨#[98, 101, 104, 105, 110, 100]⟩, .slice none 0 0] 37) := CBlk.new _ _ _
      have HL1 : Hid (LA w (wr.alloc (.cells #[.int .i64 0, .int .i64 0, .string ⟨#[]⟩, .string ⟨#[98, 101, 104, 105, 110, 100]⟩, .slice none 0 0] 37)) u3 LB) := HLA.out.later (below1 _ _)
      clear h HF
      go_wp2_with (at_builtin; refine aapp_one rfl _ _ rfl w.heap.size u3 LB (by rfl) HL1.out.ow wr.heap.size (bA, .slice none 0 0) (by rfl) HG.out (acell_one _ _ _ _) (by have := HLB.out; omega) HL1.out.bw.size ?_; intro v' w4 hown hb3 hg3 ha3; obtain ⟨g, cap2, rfl, hcap⟩ := ownA_some hown; have hcap' : (l.length : Int) ≤ (cap2 : Int) := (by have := HLB.out; omega); have hll : (l.length : Int) = (LB.length : Int) := (by have := HLB.out; omega); have HO4 : Hid (OwnA w4 w.heap.size (.slice (some ⟨g, 0, none⟩) (LB.length + 1) cap2) (LB ++ [(bA, .slice none 0 0)])) := hown; have HT4 : Hid (∀ x ∈ LB, LentT w4 w.heap.size x.2 x.1.args) := (fun x hx => (HL1.out.ts x hx).grown hg3 fun k hk e => HL1.out.ap x hx k e hk); have HW4 : Hid (Below w.heap.size w w4) := HL1.out.bw.trans hb3; clear hown hb3 hg3 ha3 HL1 HG)
      go_ret
      have hlb2 : LB.length = l.length := by have := HLB.out; omega
      exact ⟨_, rfl, LB, HFF.out, ⟨⟨g, cap2, by rw [hlb2]; rfl, HO4.out⟩, HT4.out⟩, HW4.out⟩
set_option maxRecDepth 20000 in
set_option maxHeartbeats 4000000 in
theorem keptAs_any (p LB : List (At × Value)) (v y : Value) (base : Nat) (w : World) (h : As w y p) (ho : LentA w base v LB) (hf : fsts LB = fsts p) (hB : BehOk w) :
    Calls Tryz.prog 60 #[v, y] w fun e w' => e = .returned (.bool true) ∧ Below w.heap.size w w' := by
  have hlen : LB.length = p.length := by have := congrArg List.length hf; simpa [fsts] using this
  have HF : Hid (fsts LB = fsts p) := hf
  obtain ⟨⟨g0, cap, rfl, ho⟩, hts⟩ := ho
  obtain ⟨ad', cap', rfl, hl', h', hts'⟩ := h
  have hrow := LentA.row ho
  have HROW : Hid (ARow w g0 0 LB) := hrow
  have HTS : Hid (∀ x ∈ LB, LentT w base x.2 x.1.args) := hts
  have HTS' : Hid (∀ x ∈ p, Ts w x.2 x.1.args) := hts'
  have HB : Hid (BehOk w) := hB
  have HO : Hid (OwnA w base (.slice (some ⟨g0, 0, none⟩) (LB.length + 1) cap) (LB ++ [(bA, .slice none 0 0)])) := ho
  have hcap := ownA_cap ho
  rw [List.length_append, List.length_singleton] at hcap
  have hcap' : (p.length : Int) + 1 ≤ (cap : Int) := by omega
  have HLL : Hid (LB.length = p.length) := hlen
  have hq3 : ((p.length : Int) != (p.length : Int)) = false := by simp
  rw [hlen]
  clear ho hts hts' hB hrow hcap hf hlen
  go_enter Tryz.func60, Tryz.ntmps60
  go_wp2
  go_loopg [5] p.length (fun g i wr => ∃ j : Nat, j + g = p.length ∧ i = .int .i64 j ∧ Below w.heap.size w wr)
  case atStart => exact ⟨0, by omega, rfl, Below.refl _ _⟩
  case round =>
    obtain ⟨j, hj, rfl, hb⟩ := hrel
    have HBr : Hid (Below w.heap.size w wr) := hb
    cases gk with
    | succ g =>
      have hlt : (j : Int) < (p.length : Int) := by omega
      have j0 : (0 : Int) ≤ (j : Int) := by omega
      obtain ⟨t, ht⟩ : ∃ t, LB[j]? = some t := ⟨_, List.getElem?_eq_getElem (by have := HLL.out; omega)⟩
      obtain ⟨u, hu⟩ : ∃ u, p[j]? = some u := ⟨_, List.getElem?_eq_getElem (by omega)⟩
      have htu : t.1 = u.1 := by
        have e := congrArg (fun l => l[j]?) HF.out
        simp only [fsts, List.getElem?_map, ht, hu, Option.map_some] at e
        exact Option.some.inj e
      rcases h' with h' | ⟨b2, o2, rfl, h'⟩
      · subst h'; simp at hu
      have k1 := (HROW.out.later hb).2 j t ht
      have k2 := (h'.later hb).2 j u hu
      have HZ1 : Hid (g0 < wr.heap.size) := (HROW.out.later hb).1
      have HZ2 : Hid (b2 < wr.heap.size) := (h'.later hb).1
      have t1 := (HTS.out t (List.mem_of_getElem? ht)).later hb
      have t2 := (HTS'.out u (List.mem_of_getElem? hu)).later hb
      rw [← htu] at t2 k2
      have HC0 := fun (X : World) (hX : Below wr.heap.size wr X) => keptA_any t.1 t.2 u.2 base X (t2.later hX) (t1.later hX) ((HB.out.later hb).later hX)
      obtain ⟨gx, cx, hax, -⟩ := t1
      obtain ⟨ay, cy, hay, -⟩ := t2
      clear ht hu htu h' hb
      obtain ⟨⟨⟨kx, mx, sx⟩, nx, lx⟩, vx⟩ := t
      obtain ⟨uu, vy⟩ := u
      simp only [Nat.zero_add] at hax hay k1 k2 HC0
      subst hax hay
      have HE : Hid _ := k1
      have HD : Hid _ := k2
      have HC : Hid (∀ (X : World), Below wr.heap.size wr X → Calls Tryz.prog 59 #[.agg #[.int .i64 kx, .int .i64 mx, .string sx, .string nx, .slice (some ⟨gx, 0, none⟩) lx.length cx], .agg #[.int .i64 kx, .int .i64 mx, .string sx, .string nx, .slice ay lx.length cy]] X fun e w' => e = .returned (.bool true) ∧ Below X.heap.size X w') := HC0
      clear k1 k2 HC0
      go_upto_region 6 with fail
      refine wp_region_held_drew (S := fun w' => Below wr.heap.size wr w') (by kernel_rfl) (Below.refl _ _).drew (fun hH => ?_)
      revert hH
      generalize wr.drew = V0
      intro hH
      refine wpAnyH_take (i := 0) (oi := ⟨_, _, _, _, _, _⟩) (v := .slice (some ⟨g0, 0, none⟩) p.length cap) rfl (by kernel_rfl) (by kernel_rfl) (by kernel_rfl) (fun _ _ _ h => h) (Or.inl ⟨by rfl, fun w' h => by clear h; go_simp⟩) hH ?_
      simp only [Act.put, List.setIfInBounds_toArray, List.set_cons_zero, List.set_cons_succ]
      refine wpAnyH_take (i := 1) (oi := ⟨_, _, _, _, _, _⟩) (v := .int .i64 (j : Int)) rfl (by kernel_rfl) (by kernel_rfl) (by kernel_rfl) (fun _ _ _ h => h) (Or.inl ⟨by rfl, fun w' h => by clear h; go_simp⟩) hH ?_
      simp only [Act.put, List.setIfInBounds_toArray, List.set_cons_zero, List.set_cons_succ]
      refine wpAnyH_take (i := 2) (oi := ⟨_, _, _, _, _, _⟩) (v := .pointer (some ⟨g0, j * 5, none⟩)) rfl (by kernel_rfl) (by kernel_rfl) (by kernel_rfl) (fun _ _ _ h => h) (Or.inl ⟨by rfl, fun w' h => by clear h; go_simp⟩) hH ?_
      simp only [Act.put, List.setIfInBounds_toArray, List.set_cons_zero, List.set_cons_succ]
      refine wpAnyH_take (i := 3) (oi := ⟨_, _, _, _, _, _⟩) (v := .agg #[.int .i64 kx, .int .i64 mx, .string sx, .string nx, .slice (some ⟨gx, 0, none⟩) lx.length cx]) rfl (by kernel_rfl) (by kernel_rfl) (by kernel_rfl) (fun _ _ _ h => h) (Or.inl ⟨by rfl, fun w' h => by obtain ⟨p0, p1, p2, p3, p4⟩ := HE.out; have z := HZ1.out; have a0 := cell_step h z p0; have a1 := cell_step h z p1; have a2 := cell_step h z p2; have a3 := cell_step h z p3; have a4 := cell_step h z p4; clear h p0 p1 p2 p3 p4; go_simp⟩) hH ?_
      simp only [Act.put, List.setIfInBounds_toArray, List.set_cons_zero, List.set_cons_succ]
      refine wpAnyH_take (i := 4) (oi := ⟨_, _, _, _, _, _⟩) (v := (.slice (some ⟨b2, o2, none⟩) p.length cap')) rfl (by kernel_rfl) (by kernel_rfl) (by kernel_rfl) (fun _ _ _ h => h) (Or.inl ⟨by rfl, fun w' h => by clear h; go_simp⟩) hH ?_
      simp only [Act.put, List.setIfInBounds_toArray, List.set_cons_zero, List.set_cons_succ]
      refine wpAnyH_take (i := 5) (oi := ⟨_, _, _, _, _, _⟩) (v := .int .i64 (j : Int)) rfl (by kernel_rfl) (by kernel_rfl) (by kernel_rfl) (fun _ _ _ h => h) (Or.inl ⟨by rfl, fun w' h => by clear h; go_simp⟩) hH ?_
      simp only [Act.put, List.setIfInBounds_toArray, List.set_cons_zero, List.set_cons_succ]
      refine wpAnyH_take (i := 6) (oi := ⟨_, _, _, _, _, _⟩) (v := .pointer (some ⟨b2, o2 + j * 5, none⟩)) rfl (by kernel_rfl) (by kernel_rfl) (by kernel_rfl) (fun _ _ _ h => h) (Or.inl ⟨by rfl, fun w' h => by clear h; go_simp⟩) hH ?_
      simp only [Act.put, List.setIfInBounds_toArray, List.set_cons_zero, List.set_cons_succ]
      refine wpAnyH_take (i := 7) (oi := ⟨_, _, _, _, _, _⟩) (v := .agg #[.int .i64 kx, .int .i64 mx, .string sx, .string nx, .slice ay lx.length cy]) rfl (by kernel_rfl) (by kernel_rfl) (by kernel_rfl) (fun _ _ _ h => h) (Or.inl ⟨by rfl, fun w' h => by obtain ⟨p0, p1, p2, p3, p4⟩ := HD.out; have z := HZ2.out; have a0 := cell_step h z p0; have a1 := cell_step h z p1; have a2 := cell_step h z p2; have a3 := cell_step h z p3; have a4 := cell_step h z p4; clear h p0 p1 p2 p3 p4; go_simp⟩) hH ?_
      simp only [Act.put, List.setIfInBounds_toArray, List.set_cons_zero, List.set_cons_succ]
      refine wpAnyH_ready (rs := [8]) (by kernel_rfl) (by simp) ?_
      refine (AllReadyH.cons (o := ⟨_, _, _, _, _, _⟩) rfl (fun K hK => ?_) AllReadyH.nil)
      go_simp
      refine (HC.out _ hH).mono ?_
      rintro x1 V1 ⟨rfl, hb⟩
      refine hK.out _ _ (below_step hH hb) (fun hH => ?_)
      clear hK K hb
      try simp only [Act.put, List.setIfInBounds_toArray, List.set_cons_zero, List.set_cons_succ]
      refine wpAnyH_take (i := 9) (oi := ⟨_, _, _, _, _, _⟩) (v := .bool false) rfl (by kernel_rfl) (by kernel_rfl) (by kernel_rfl) (fun _ _ _ h => h) (Or.inl ⟨by rfl, fun w' h => by clear h; go_simp⟩) hH ?_
      simp only [Act.put, List.setIfInBounds_toArray, List.set_cons_zero, List.set_cons_succ]
      refine wpAnyH_done (by kernel_rfl) ?_ _
      have HV : Hid (Below wr.heap.size wr V1) := hH
      clear hH
      go_wp2
      go_roundg g
      case measure => omega
      case rel => exact ⟨j + 1, by omega, by go_num, below_step HBr.out HV.out⟩
    | zero =>
      have hz : ¬ ((j : Int) < (p.length : Int)) := by omega
      have i1 : (p.length : Int) < (p.length : Int) + 1 := by omega
      have i0 : (0 : Int) ≤ (p.length : Int) := by omega
      have hoL := HO.out.later hb
      have hgl : (LB ++ [(bA, Value.slice none 0 0)])[p.length]? = some (bA, .slice none 0 0) := by rw [← HLL.out]; simp
      have q3 := hoL.cells p.length _ hgl 3 (by omega)
      have q4 := hoL.cells p.length _ hgl 4 (by omega)
      simp only [acell, bA, bN, List.getElem?_cons_succ, List.getElem?_cons_zero] at q3 q4
      clear h' hb hoL hgl
      go_wp2
      go_ret
      exact ⟨rfl, HBr.out⟩
end Go.Proofs.YtdfgijdededolabGreatDoor
/-
  Lists of clauses in memory: copied, sorted. (Written by SD3.py.)
-/
namespace Go.Proofs.YtdfgijdededolabGreatDoor
open Go.RowKit

def CRow (w : World) (b o : Nat) (l : List Cm) : Prop := b < w.heap.size ∧ ∀ (i : Nat) (c : Cm), l[i]? = some c → ∀ (k : Nat) (u : Value), c.csl[k]? = some u → w.cell? ⟨b, o + i * 7 + k, none⟩ = some u
theorem CRow.later {w w' : World} {b o : Nat} {l : List Cm} (h : CRow w b o l) (hb : Below w.heap.size w w') : CRow w' b o l :=
  ⟨Nat.lt_of_lt_of_le h.1 hb.size, fun i c hc k u hu => by rw [hb.cell (p := ⟨b, _, none⟩) h.1]; exact h.2 i c hc k u hu⟩
structure CsP (w : World) (v : Value) (l : List Cm) : Prop where
  m : (v = .slice none 0 0 ∧ l = []) ∨ ∃ ad cap, v = .slice (some ad) l.length cap ∧ (l = [] ∨ ∃ b o, ad = ⟨b, o, none⟩ ∧ CRow w b o l)
  ok : ∀ c ∈ l, c.ok w
theorem CsP.later {w w' : World} {v : Value} {l : List Cm} (h : CsP w v l) (hb : Below w.heap.size w w') : CsP w' v l := by
  refine ⟨?_, fun c hc => (h.ok c hc).later hb⟩
  rcases h.m with h | ⟨ad, cap, h1, h2⟩
  · exact Or.inl h
  · refine Or.inr ⟨ad, cap, h1, ?_⟩
    rcases h2 with h2 | ⟨b, o, h2, h3⟩
    · exact Or.inl h2
    · exact Or.inr ⟨b, o, h2, h3.later hb⟩
theorem crow_get {w : World} {b o : Nat} {l : List Cm} (h : CRow w b o l) : ∀ j u, (ccs l)[j]? = some u → w.cell? ((⟨b, o, none⟩ : Addr).add j) = some u := fun j u hu => by
  have hj := (List.getElem?_eq_some_iff.1 hu).1
  rw [ccs_len] at hj
  obtain ⟨d, hd⟩ : ∃ d, l[j / 7]? = some d := ⟨_, List.getElem?_eq_getElem (by omega)⟩
  have hg := ccs_get l (j / 7) d hd (j % 7) (by omega)
  rw [show j / 7 * 7 + j % 7 = j by omega, hu] at hg
  rw [Go.WideShapes.add_plain, show o + j = o + j / 7 * 7 + j % 7 by omega]
  exact h.2 _ d hd _ u hg.symm
theorem OwnC.nil (w : World) (base : Nat) : OwnC w base (.slice none 0 0) [] := World.ownsRow_nil _ _ _ _
theorem OwnC.later {w w' : World} {base : Nat} {v : Value} {l : List Cm} (h : OwnC w base v l) (hb : Below w.heap.size w w') : OwnC w' base v l := by
  refine ⟨h.1, ?_⟩
  rcases h.2 with hn | ⟨g, cap, cur, hv, hbb, hg, rest⟩
  · exact Or.inl hn
  · exact Or.inr ⟨g, cap, cur, hv, hbb, (hb.block g (Array.getElem?_eq_some_iff.1 hg).1).trans hg, rest⟩
theorem OwnC.form {w : World} {base : Nat} {v : Value} {l : List Cm} (h : OwnC w base v l) : ∃ a cap, v = .slice a l.length cap := by
  rcases h.2 with ⟨rfl, hn⟩ | ⟨g, cap, cur, hv, _⟩
  · exact ⟨none, 0, by rw [hn]⟩
  · exact ⟨_, cap, hv⟩
theorem OwnC.empty {w : World} {b base : Nat} (h : CBlk w b #[] 41) (hb : base ≤ b) : OwnC w base (.slice (some ⟨b, 0, none⟩) 0 0) [] :=
  ⟨rfl, Or.inr ⟨b, 0, #[], rfl, hb, h, Nat.le_refl _, by unfold maxLen; omega, rfl, rfl⟩⟩
theorem csl_one {c : Cm} {w : World} (h : c.ok w) : ∀ u ∈ c.csl, u.oneCell' = true := by
  obtain ⟨⟨a, n, cp, e1⟩, ⟨a', cp', e2⟩, ⟨a'', cp'', e3⟩, -, -⟩ := h.shape
  intro u hu
  simp only [Cm.csl, e1, e2, e3] at hu
  simp at hu
  rcases hu with rfl | rfl | rfl | rfl | rfl | rfl | rfl <;> rfl
theorem Tryz.infoClause : (Tryz.prog.info? 41).map (fun i => (i.zero, i.size, i.bytes)) = some (some (.agg #[.int .i64 0, .int .i64 0, .string ⟨#[]⟩, .string ⟨#[]⟩, .slice none 0 0, .slice none 0 0, .slice none 0 0]), 7, 120) := by kernel_rfl
theorem capp_list {ops : Array Oper} {rest : List Oper} {o : Oper} {a : Act} {Q : Exit → Act → World → Prop} {w : World} (hgd : o.guard = none) (s x : Operand)
    (ho : o.op = .call { callee := .builtin .append, args := #[s, x], argTypes := #[22, 22] }) (base : Nat) (v : Value) (l : List Cm) (hs : a.eval s = v) (hown : OwnC w base v l)
    (y : Value) (m : List Cm) (hx : a.eval x = y) (hy : CsP w y m) (hlen : l.length + m.length ≤ 1000000000000) (hbase : base ≤ w.heap.size)
    (h : ∀ v' w', OwnC w' base v' (l ++ m) → Below base w w' → w.grownBy w' v.ownBlock → wpList Tryz.prog ops Q rest (a.put o.dst v') w') : wpList Tryz.prog ops Q (o :: rest) a w := by
  obtain ⟨i0, hi0, hz0, hz1, hz2⟩ := info_parts Tryz.infoClause
  rcases hy.m with ⟨rfl, rfl⟩ | ⟨ad, cap, rfl, hm⟩
  · refine wpList_append_own_none hgd s x 22 ho base 41 i0 7 Tryz.underlying22 hi0 v l.length (ccs l) hs hown hx ?_
    exact h v w (by rw [List.append_nil]; exact hown) (Below.refl _ _) (World.grownBy.refl _ _)
  · refine wpList_append_own _ hgd s x 22 ho base 41 i0 _ 7 120 Tryz.underlying22 hi0 hz0 hz1 hz2 rfl (by omega) v l.length (ccs l) hs hown ad m.length cap (ccs m) hx (ccs_len m) ?_ (fun u hu => by obtain ⟨z, hz, hu⟩ := List.mem_flatMap.1 hu; exact csl_one (hy.ok z hz) u hu) (by unfold maxLen; omega) (by omega) hbase ?_
    · rcases hm with rfl | ⟨b, o', rfl, hm⟩
      · intro j u hu; simp [ccs] at hu
      · exact crow_get hm
    · intro v' w' h1 h2 _
      refine h v' w' ?_ (grown_below3 h2 (fun k hk => (World.ownsRow.lt hown k hk).1) hbase) h2
      unfold OwnC
      rw [List.length_append, ccs_app]
      exact h1
set_option maxRecDepth 100000 in
theorem len64_tinyC (n : Int) (h : n = 0 ∨ n = 1) (w : World) : Calls Tryz.prog 129 #[.int .u64 n] w fun e w' => (∃ m : Int, e = .returned (.int .i64 m)) ∧ w' = w := by
  rcases h with rfl | rfl
  · go_enter Tryz.func129, Tryz.ntmps129
    go_wp2
    go_ret
    exact ⟨⟨_, rfl⟩, rfl⟩
  · go_enter Tryz.func129, Tryz.ntmps129
    go_wp2
    go_ret
    exact ⟨⟨_, rfl⟩, rfl⟩
theorem len_tinyC (n : Nat) (h : n ≤ 1) (w : World) : Calls Tryz.prog 99 #[.int .u64 n] w fun e w' => (∃ m : Int, e = .returned (.int .i64 m)) ∧ w' = w := by
  have hn : (n : Int) = 0 ∨ (n : Int) = 1 := by omega
  have HN : Hid ((n : Int) = 0 ∨ (n : Int) = 1) := hn
  clear hn h
  go_enter Tryz.func99, Tryz.ntmps99
  go_wp2_with (go_at_call 129; refine (len64_tinyC _ HN.out _).mono ?_; rintro e w1 ⟨⟨m, rfl⟩, rfl⟩)
  go_ret
  exact ⟨⟨_, rfl⟩, rfl⟩
theorem ins_tinyC (v f : Value) (n : Nat) (h : n ≤ 1) (w : World) : Calls Tryz.prog 120 #[v, .int .i64 0, .int .i64 n, f] w fun e w' => e = .returned (.tuple #[]) ∧ w' = w := by
  have hn : ¬ (1 : Int) < (n : Int) := by omega
  go_enter Tryz.func120, Tryz.ntmps120
  go_wp2
  go_loop [8] (fun i => i = .int .i64 1) (fun _ => 0)
  case atStart => rfl
  case round =>
    subst hrel
    go_wp2
    go_end0
    exact ⟨rfl, rfl⟩
theorem pdq_tinyC (v f : Value) (n : Nat) (h : n ≤ 1) (m : Int) (w : World) : Calls Tryz.prog 98 #[v, .int .i64 0, .int .i64 n, .int .i64 m, f] w fun e w' => e = .returned (.tuple #[]) ∧ w' = w := by
  have hn : (n : Int) ≤ 12 := by omega
  have hn0 : (0 : Int) ≤ n := by omega
  go_enter Tryz.func98, Tryz.ntmps98
  go_wp2
  go_loop [1, 2] (fun a b => a = .int .i64 0 ∧ b = .int .i64 n) (fun _ _ => 0)
  case atStart => exact ⟨rfl, rfl⟩
  case round =>
    obtain ⟨rfl, rfl⟩ := hrel
    go_wp2_with (go_at_call 120; refine (ins_tinyC _ _ _ h _).mono ?_; rintro e w1 ⟨rfl, rfl⟩)
    (try simp only [Exit.inBlock, Exit.then])
    refine bodyPost_ret (results_none rfl _ _ _) rfl ?_
    exact ⟨rfl, rfl⟩
theorem sortFunc_tinyC (a : Option Addr) (f : Value) (n cap : Nat) (h : n ≤ 1) (w : World) : Calls Tryz.prog 55 #[.slice a n cap, f] w fun e w' => e = .returned (.tuple #[]) ∧ w' = w := by
  have hw : IntKind.u64.wrap (n : Int) = n := by rw [IntKind.wrap_u64]; omega
  go_enter Tryz.func55, Tryz.ntmps55
  go_wp2_with (first
    | (go_at_call 99; refine (len_tinyC n h _).mono ?_; rintro e w1 ⟨⟨m, rfl⟩, rfl⟩)
    | (go_at_call 98; refine (pdq_tinyC _ _ n h _ _).mono ?_; rintro e w1 ⟨rfl, rfl⟩))
  go_end0
  exact ⟨rfl, rfl⟩
set_option maxRecDepth 20000 in
set_option maxHeartbeats 2000000 in
theorem clone_any (l : List Cm) (v : Value) (w : World) (h : CsP w v l) (hl : l.length ≤ 1000000000) :
    Calls Tryz.prog 54 #[v] w fun e w' => ∃ v', e = .returned v' ∧ OwnC w' w.heap.size v' l ∧ Below w.heap.size w w' := by
  have HP : Hid (CsP w v l) := h
  have qT : ∀ (w : World) (a : Option Addr) (n c n' c' : Nat), (binOp .eql 22 (.slice a n c) (.slice none n' c')).run Tryz.prog w = .ok (.bool a.isNone) w := fun w a n c n' c' => Lib.run_eql_slice_nil w _ _ a n c n' c' Tryz.underlying22
  rcases h.m with ⟨rfl, rfl⟩ | ⟨ad, cap, rfl, -⟩
  · clear h
    go_enter Tryz.func54, Tryz.ntmps54
    go_wp2
    go_ret
    exact ⟨_, rfl, OwnC.nil _ _, Below.refl _ _⟩
  · clear h
    have HE : Hid (OwnC (w.alloc (.cells #[] 41)) w.heap.size (.slice (some ⟨w.heap.size, 0, none⟩) 0 0) []) := OwnC.empty (CBlk.new _ _ _) (Nat.le_refl _)
    go_enter Tryz.func54, Tryz.ntmps54
    go_wp2_with (at_builtin; refine capp_list rfl _ _ rfl w.heap.size _ [] (by rfl) HE.out _ l (by rfl) (HP.out.later (below1 _ _)) (by simp only [List.length_nil]; omega) (by simp) ?_; intro v1 w1 hown hb hg; rw [List.nil_append] at hown; have HO : Hid (OwnC w1 w.heap.size v1 l) := hown; have HW : Hid (Below w.heap.size w w1) := (below1 _ _).trans hb; clear hown hb hg)
    go_ret
    exact ⟨_, rfl, HO.out, HW.out⟩
theorem cf_of {w : World} {g : Nat} : ∀ (l : List Cm), (∀ c ∈ l, ∀ X : World, Below g w X → c.ok X) → ∃ d : Array (Cf w g), d.toList.map (·.1) = l
  | [], _ => ⟨#[], rfl⟩
  | c :: l, h => by
    obtain ⟨d, hd⟩ := cf_of l fun x hx => h x (List.mem_cons_of_mem _ hx)
    exact ⟨((⟨c, h c (List.mem_cons_self ..)⟩ : Cf w g) :: d.toList).toArray, congrArg (c :: ·) hd⟩
/-- The sort of such a list, where its clauses lie below it. -/
theorem sortC_any (l : List Cm) (v : Value) (base : Nat) (w : World) (h : OwnC w base v l) (hc : ∀ c ∈ l, ∀ X : World, Below base w X → c.ok X) (hl : l.length ≤ 1000000000) :
    Calls Tryz.prog 55 #[v, .func (.func 19) #[] #[]] w fun e w' => e = .returned (.tuple #[]) ∧ ∃ l', OwnC w' base v l' ∧ l'.Perm l ∧ srtC l' ∧ Below base w w' := by
  rcases h.2 with ⟨rfl, hn⟩ | ⟨g, cap, cur, rfl, hb, -⟩
  · have : l = [] := List.length_eq_zero_iff.1 hn
    subst this
    exact (sortFunc_tinyC none _ 0 0 (by omega) w).mono fun e w' ⟨he, hw⟩ => ⟨he, [], by rw [hw]; exact h, List.Perm.refl _, List.Pairwise.nil, by rw [hw]; exact Below.refl _ _⟩
  · have hall : ∀ c ∈ l, ∀ X : World, Below g w X → c.ok X := fun c hm X hX => hc c hm X (hX.mono hb)
    obtain ⟨d, e1⟩ : ∃ d : Array (Cf w g), d.toList.map (·.1) = l := cf_of l hall
    have e2 : d.size = l.length := by rw [← e1]; simp
    have := sortFuncC_all g cap base w d (by rw [e1, e2]; exact h) (by rw [e2]; omega)
    rw [e2, e1] at this
    exact this.mono fun e w' ⟨he, l', h1, h2, h3, h4⟩ => ⟨he, l', h1, h2, h3, h4.mono hb⟩
end Go.Proofs.YtdfgijdededolabGreatDoor
/-
  DERIVED: THE SHELF's CONTRACTS AT THIS DUMP, IN PLAIN WORDS (tools/lay-plain.mjs out of 'YtdfgijdededolabGreatDoorShelf2.lean', which tools/lay-shelf.mjs wrote): THE SAME DECLARATIONS UNDER THE SAME NAMES: 'import', 'namespace', 'open', 'def', 'theorem' AND NOTHING ELSE: no command of the shelf's: FOR A HAND-IN. Each laying: the table of numbers ('.._ren') and one theorem, a field a fact of the dump's own or the kernel's comparison; each contract: ONE APPLICATION.
-/
namespace Go.Proofs
open Go.Shelf
def Tryz.pdqTm_ren : Go.Shelf.Ren := ⟨fun | 14 => 114 | 20 => 135 | 21 => 136 | 22 => 137 | 23 => 138 | 24 => 139 | 25 => 140 | 26 => 141 | 27 => 142 | 46 => 164 | 47 => 159 | 48 => 160 | 49 => 165 | 50 => 166 | 15 => 99 | 57 => 175 | 28 => 128 | 29 => 129 | n => n, fun | 24 => 35 | 22 => 24 | 3 => 3 | 25 => 70 | 4 => 4 | 0 => 0 | 46 => 148 | 45 => 147 | 50 => 130 | 66 => 173 | 39 => 126 | 55 => 156 | 70 => 177 | 76 => 184 | 77 => 185 | 53 => 154 | 5 => 5 | 9 => 9 | n => n, fun | n => n⟩
theorem Tryz.pdqTm : Go.Proofs.SlLaysF0.n14 Tryz.prog Tryz.pdqTm_ren := {
  mixed := by kernel_rfl
  f14 := ⟨Tryz.f114.name, by decide, Tryz.func114.trans (congrArg some (by kernel_rfl))⟩
  f15 := Tryz.func99.trans (congrArg some (by kernel_rfl))
  f20 := ⟨Tryz.f135.name, by decide, Tryz.func135.trans (congrArg some (by kernel_rfl))⟩
  f21 := ⟨Tryz.f136.name, by decide, Tryz.func136.trans (congrArg some (by kernel_rfl))⟩
  f22 := ⟨Tryz.f137.name, by decide, Tryz.func137.trans (congrArg some (by kernel_rfl))⟩
  f23 := ⟨Tryz.f138.name, by decide, Tryz.func138.trans (congrArg some (by kernel_rfl))⟩
  f24 := ⟨Tryz.f139.name, by decide, Tryz.func139.trans (congrArg some (by kernel_rfl))⟩
  f25 := ⟨Tryz.f140.name, by decide, Tryz.func140.trans (congrArg some (by kernel_rfl))⟩
  f26 := ⟨Tryz.f141.name, by decide, Tryz.func141.trans (congrArg some (by kernel_rfl))⟩
  f27 := ⟨Tryz.f142.name, by decide, Tryz.func142.trans (congrArg some (by kernel_rfl))⟩
  f28 := Tryz.func128.trans (congrArg some (by kernel_rfl))
  f29 := Tryz.func129.trans (congrArg some (by kernel_rfl))
  f46 := ⟨Tryz.f164.name, by decide, Tryz.func164.trans (congrArg some (by kernel_rfl))⟩
  f47 := Tryz.func159.trans (congrArg some (by kernel_rfl))
  f48 := Tryz.func160.trans (congrArg some (by kernel_rfl))
  f49 := ⟨Tryz.f165.name, by decide, Tryz.func165.trans (congrArg some (by kernel_rfl))⟩
  f50 := ⟨Tryz.f166.name, by decide, Tryz.func166.trans (congrArg some (by kernel_rfl))⟩
  f57 := ⟨Tryz.f175.name, by decide, Tryz.func175.trans (congrArg some (by kernel_rfl))⟩
  t0 := Tryz.underlying0
  a0 := Tryz.isAgg0
  z0 := Tryz.sizeOf0
  v0 := Tryz.zeroValue0
  t3 := Tryz.underlying3
  a3 := Tryz.isAgg3
  z3 := Tryz.sizeOf3
  v3 := Tryz.zeroValue3
  t4 := Tryz.underlying4
  a4 := Tryz.isAgg4
  z4 := Tryz.sizeOf4
  v4 := Tryz.zeroValue4
  t5 := Tryz.underlying5
  a5 := Tryz.isAgg5
  z5 := Tryz.sizeOf5
  v5 := Tryz.zeroValue5
  t9 := Tryz.underlying9
  a9 := Tryz.isAgg9
  z9 := Tryz.sizeOf9
  v9 := Tryz.zeroValue9
  t22 := Tryz.underlying24
  a22 := Tryz.isAgg24
  z22 := Tryz.sizeOf24
  v22 := Tryz.zeroValue24
  t25 := Tryz.underlying70
  a25 := Tryz.isAgg70
  z25 := Tryz.sizeOf70
  v25 := Tryz.zeroValue70
  t39 := Tryz.underlying126
  a39 := Tryz.isAgg126
  z39 := Tryz.sizeOf126
  v39 := Tryz.zeroValue126
  t45 := Tryz.underlying147
  a45 := Tryz.isAgg147
  z45 := Tryz.sizeOf147
  v45 := Tryz.zeroValue147
  t46 := Tryz.underlying148
  a46 := Tryz.isAgg148
  z46 := Tryz.sizeOf148
  v46 := Tryz.zeroValue148
  t50 := Tryz.underlying130
  a50 := Tryz.isAgg130
  z50 := Tryz.sizeOf130
  v50 := Tryz.zeroValue130
  t53 := Tryz.underlying154
  a53 := Tryz.isAgg154
  z53 := Tryz.sizeOf154
  v53 := Tryz.zeroValue154
  t55 := Tryz.underlying156
  a55 := Tryz.isAgg156
  z55 := Tryz.sizeOf156
  v55 := Tryz.zeroValue156
  t66 := Tryz.underlying173
  a66 := Tryz.isAgg173
  z66 := Tryz.sizeOf173
  v66 := Tryz.zeroValue173
  t70 := Tryz.underlying177
  a70 := Tryz.isAgg177
  z70 := Tryz.sizeOf177
  v70 := Tryz.zeroValue177
  t76 := Tryz.underlying184
  a76 := Tryz.isAgg184
  z76 := Tryz.sizeOf184
  v76 := Tryz.zeroValue184
  t77 := Tryz.underlying185
  a77 := Tryz.isAgg185
  z77 := Tryz.sizeOf185
  v77 := Tryz.zeroValue185 }
def Tryz.pdqPm_ren : Go.Shelf.Ren := ⟨fun | 14 => 117 | 20 => 143 | 21 => 144 | 22 => 145 | 23 => 146 | 24 => 147 | 25 => 148 | 26 => 149 | 27 => 150 | 46 => 167 | 47 => 159 | 48 => 160 | 49 => 168 | 50 => 169 | 15 => 99 | 57 => 176 | 28 => 128 | 29 => 129 | n => n, fun | 24 => 61 | 22 => 26 | 3 => 3 | 25 => 76 | 4 => 4 | 0 => 0 | 46 => 148 | 45 => 147 | 50 => 130 | 66 => 173 | 39 => 126 | 55 => 156 | 70 => 177 | 76 => 184 | 77 => 185 | 53 => 154 | 5 => 5 | 9 => 9 | n => n, fun | n => n⟩
theorem Tryz.pdqPm : Go.Proofs.SlLaysF0.n14 Tryz.prog Tryz.pdqPm_ren := {
  mixed := by kernel_rfl
  f14 := ⟨Tryz.f117.name, by decide, Tryz.func117.trans (congrArg some (by kernel_rfl))⟩
  f15 := Tryz.func99.trans (congrArg some (by kernel_rfl))
  f20 := ⟨Tryz.f143.name, by decide, Tryz.func143.trans (congrArg some (by kernel_rfl))⟩
  f21 := ⟨Tryz.f144.name, by decide, Tryz.func144.trans (congrArg some (by kernel_rfl))⟩
  f22 := ⟨Tryz.f145.name, by decide, Tryz.func145.trans (congrArg some (by kernel_rfl))⟩
  f23 := ⟨Tryz.f146.name, by decide, Tryz.func146.trans (congrArg some (by kernel_rfl))⟩
  f24 := ⟨Tryz.f147.name, by decide, Tryz.func147.trans (congrArg some (by kernel_rfl))⟩
  f25 := ⟨Tryz.f148.name, by decide, Tryz.func148.trans (congrArg some (by kernel_rfl))⟩
  f26 := ⟨Tryz.f149.name, by decide, Tryz.func149.trans (congrArg some (by kernel_rfl))⟩
  f27 := ⟨Tryz.f150.name, by decide, Tryz.func150.trans (congrArg some (by kernel_rfl))⟩
  f28 := Tryz.func128.trans (congrArg some (by kernel_rfl))
  f29 := Tryz.func129.trans (congrArg some (by kernel_rfl))
  f46 := ⟨Tryz.f167.name, by decide, Tryz.func167.trans (congrArg some (by kernel_rfl))⟩
  f47 := Tryz.func159.trans (congrArg some (by kernel_rfl))
  f48 := Tryz.func160.trans (congrArg some (by kernel_rfl))
  f49 := ⟨Tryz.f168.name, by decide, Tryz.func168.trans (congrArg some (by kernel_rfl))⟩
  f50 := ⟨Tryz.f169.name, by decide, Tryz.func169.trans (congrArg some (by kernel_rfl))⟩
  f57 := ⟨Tryz.f176.name, by decide, Tryz.func176.trans (congrArg some (by kernel_rfl))⟩
  t0 := Tryz.underlying0
  a0 := Tryz.isAgg0
  z0 := Tryz.sizeOf0
  v0 := Tryz.zeroValue0
  t3 := Tryz.underlying3
  a3 := Tryz.isAgg3
  z3 := Tryz.sizeOf3
  v3 := Tryz.zeroValue3
  t4 := Tryz.underlying4
  a4 := Tryz.isAgg4
  z4 := Tryz.sizeOf4
  v4 := Tryz.zeroValue4
  t5 := Tryz.underlying5
  a5 := Tryz.isAgg5
  z5 := Tryz.sizeOf5
  v5 := Tryz.zeroValue5
  t9 := Tryz.underlying9
  a9 := Tryz.isAgg9
  z9 := Tryz.sizeOf9
  v9 := Tryz.zeroValue9
  t22 := Tryz.underlying26
  a22 := Tryz.isAgg26
  z22 := Tryz.sizeOf26
  v22 := Tryz.zeroValue26
  t25 := Tryz.underlying76
  a25 := Tryz.isAgg76
  z25 := Tryz.sizeOf76
  v25 := Tryz.zeroValue76
  t39 := Tryz.underlying126
  a39 := Tryz.isAgg126
  z39 := Tryz.sizeOf126
  v39 := Tryz.zeroValue126
  t45 := Tryz.underlying147
  a45 := Tryz.isAgg147
  z45 := Tryz.sizeOf147
  v45 := Tryz.zeroValue147
  t46 := Tryz.underlying148
  a46 := Tryz.isAgg148
  z46 := Tryz.sizeOf148
  v46 := Tryz.zeroValue148
  t50 := Tryz.underlying130
  a50 := Tryz.isAgg130
  z50 := Tryz.sizeOf130
  v50 := Tryz.zeroValue130
  t53 := Tryz.underlying154
  a53 := Tryz.isAgg154
  z53 := Tryz.sizeOf154
  v53 := Tryz.zeroValue154
  t55 := Tryz.underlying156
  a55 := Tryz.isAgg156
  z55 := Tryz.sizeOf156
  v55 := Tryz.zeroValue156
  t66 := Tryz.underlying173
  a66 := Tryz.isAgg173
  z66 := Tryz.sizeOf173
  v66 := Tryz.zeroValue173
  t70 := Tryz.underlying177
  a70 := Tryz.isAgg177
  z70 := Tryz.sizeOf177
  v70 := Tryz.zeroValue177
  t76 := Tryz.underlying184
  a76 := Tryz.isAgg184
  z76 := Tryz.sizeOf184
  v76 := Tryz.zeroValue184
  t77 := Tryz.underlying185
  a77 := Tryz.isAgg185
  z77 := Tryz.sizeOf185
  v77 := Tryz.zeroValue185 }
end Go.Proofs
