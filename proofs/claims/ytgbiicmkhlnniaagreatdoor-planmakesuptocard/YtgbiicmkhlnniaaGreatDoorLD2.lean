/-
  Lists of atoms lent, and looked at. (Written by LD2.py.)
-/
import Derived.Test.YtgbiicmkhlnniaaGreatDoorLD1
namespace Go.Proofs.YtgbiicmkhlnniaaGreatDoor
open Go.RowKit
attribute [local go_sem ↓] Go.wp_at_zero Go.wp_at_succ

def bA : At := ⟨zt, bN, []⟩
structure LA (W X : World) (u : Value) (LB : List (At × Value)) : Prop where
  ow : OwnA X W.heap.size u LB
  ts : ∀ x ∈ LB, LentT X W.heap.size x.2 x.1.args
  ap : ∀ x ∈ LB, ∀ k, u.ownBlock = some k → x.2.ownBlock ≠ some k
  bw : Below W.heap.size W X
theorem LA.later {W X X' : World} {u : Value} {LB : List (At × Value)} (h : LA W X u LB) (hb : Below X.heap.size X X') : LA W X' u LB := ⟨h.ow.later hb, fun x hx => (h.ts x hx).later hb, h.ap, below_step h.bw hb⟩
theorem LA.grow {W X X1 X2 X3 : World} {u v' u' : Value} {LB : List (At × Value)} {x : At} (h : LA W X u LB) (hb1 : Below X.heap.size X X1) (hl : LentT X1 X.heap.size u' x.args) (hb2 : Below X1.heap.size X1 X2) (ho : OwnA X3 W.heap.size v' (LB ++ [(x, u')]))
    (hb : Below W.heap.size X2 X3) (hg : X2.grownBy X3 u.ownBlock) (ha : ∀ k, v'.ownBlock = some k → u.ownBlock = some k ∨ X2.heap.size ≤ k) : LA W X3 v' (LB ++ [(x, u')]) := by
  have hsz := h.bw.size
  have h12 : Below X.heap.size X X2 := below_step hb1 hb2
  have hul : ∀ k, u.ownBlock = some k → k < X.heap.size := fun k hk => (h.ow.lt k hk).2
  have h2 := hl.later hb2
  have hs1 := hb1.size
  have hs2 := hb2.size
  refine ⟨ho, fun y hy => ?_, fun y hy k hk => ?_, (h.bw.trans (h12.mono hsz)).trans hb⟩
  · rcases List.mem_append.1 hy with hy | hy
    · exact ((h.ts y hy).later h12).grown hg fun k hk e => h.ap y hy k e hk
    · rw [List.mem_singleton] at hy
      subst hy
      exact (h2.grown hg fun k hk e => by have := (h2.lt k hk).1; have := hul k e; omega).mono hsz
  · rcases List.mem_append.1 hy with hy | hy
    · intro e
      have hlt := ((h.ts y hy).lt k e).2
      rcases ha k hk with hk | hk
      · exact h.ap y hy k hk e
      · omega
    · rw [List.mem_singleton] at hy
      subst hy
      intro e
      have hlt := hl.lt k e
      rcases ha k hk with hk | hk
      · have := hul k hk; omega
      · omega
/-- A list of atoms lent. -/
structure LentA (X : World) (B : Nat) (v : Value) (LB : List (At × Value)) : Prop where
  o : ∃ g cap, v = .slice (some ⟨g, 0, none⟩) LB.length cap ∧ OwnA X B (.slice (some ⟨g, 0, none⟩) (LB.length + 1) cap) (LB ++ [(bA, .slice none 0 0)])
  ts : ∀ x ∈ LB, LentT X B x.2 x.1.args
theorem LentA.later {X X' : World} {B : Nat} {v : Value} {LB : List (At × Value)} (h : LentA X B v LB) (hb : Below X.heap.size X X') : LentA X' B v LB := by
  obtain ⟨⟨g, cap, e, ho⟩, ht⟩ := h
  exact ⟨⟨g, cap, e, ho.later hb⟩, fun x hx => (ht x hx).later hb⟩
theorem LentA.mono {X : World} {B B' : Nat} {v : Value} {LB : List (At × Value)} (h : LentA X B v LB) (hb : B' ≤ B) : LentA X B' v LB := by
  obtain ⟨⟨g, cap, e, ho⟩, ht⟩ := h
  exact ⟨⟨g, cap, e, ho.mono hb⟩, fun x hx => (ht x hx).mono hb⟩
theorem LentA.lt {X : World} {B : Nat} {v : Value} {LB : List (At × Value)} (h : LentA X B v LB) : ∀ k, v.ownBlock = some k → B ≤ k ∧ k < X.heap.size := by
  obtain ⟨⟨g, cap, rfl, ho⟩, ht⟩ := h
  exact fun k hk => ho.lt k hk
theorem ownA_some {w : World} {base : Nat} {v : Value} {l : List (At × Value)} {d : At × Value} (h : OwnA w base v (l ++ [d])) : ∃ g cap, v = .slice (some ⟨g, 0, none⟩) (l.length + 1) cap ∧ l.length + 1 ≤ cap := by
  rcases h.2 with ⟨_, hn⟩ | ⟨g, cap, cur, hv, _, _, hn, _⟩
  · simp at hn
  · rw [List.length_append, List.length_singleton] at hv hn; exact ⟨g, cap, hv, hn⟩
theorem ownA_cap {w : World} {base g cap n : Nat} {l : List (At × Value)} (h : OwnA w base (.slice (some ⟨g, 0, none⟩) n cap) l) : l.length ≤ cap := by
  rcases h.2 with ⟨h, _⟩ | ⟨g', c, cur, hv, _, _, hn, _⟩
  · cases h
  · simp only [Value.slice.injEq] at hv; omega
theorem LentA.row {X : World} {B g cap n : Nat} {LB : List (At × Value)} (ho : OwnA X B (.slice (some ⟨g, 0, none⟩) n cap) (LB ++ [(bA, .slice none 0 0)])) : ARow X g 0 LB := by
  refine ⟨(ho.lt g rfl).2, fun i x hx => ?_⟩
  have hi := (List.getElem?_eq_some_iff.1 hx).1
  have hx' : (LB ++ [(bA, .slice none 0 0)])[i]? = some x := by rw [List.getElem?_append_left hi]; exact hx
  rw [Nat.zero_add]
  exact ⟨ho.cells i x hx' 0 (by omega), ho.cells i x hx' 1 (by omega), ho.cells i x hx' 2 (by omega), ho.cells i x hx' 3 (by omega), ho.cells i x hx' 4 (by omega)⟩
theorem LentA.as {X : World} {B : Nat} {v : Value} {LB : List (At × Value)} (h : LentA X B v LB) (hl : LB.length < 1000000000000000000) (hx : ∀ x ∈ LB, x.1.args.length < 1000000000000000000) : As X v LB := by
  obtain ⟨⟨g, cap, rfl, ho⟩, ht⟩ := h
  exact ⟨_, cap, rfl, hl, Or.inr ⟨g, 0, rfl, LentA.row ho⟩, fun x hm => (ht x hm).ts (hx x hm)⟩
theorem fsts_take {l : List (At × Value)} {j : Nat} {x : At × Value} (h : l[j]? = some x) {LB : List (At × Value)} {u : Value} (hf : fsts LB = fsts (l.take j)) : fsts (LB ++ [(x.1, u)]) = fsts (l.take (j + 1)) := by
  rw [List.take_add_one, h]
  unfold fsts at hf ⊢
  rw [List.map_append, hf]; simp
set_option maxRecDepth 20000 in
set_option maxHeartbeats 4000000 in
theorem lendAs_any (l : List (At × Value)) (v : Value) (w : World) (h : As w v l) (hp : ∀ x ∈ l, TsP w x.2 x.1.args) (hl : l.length ≤ 1700000000000) (hx : ∀ x ∈ l, x.1.args.length ≤ 3900000000000) (hB : BehOk w) :
    Calls Tryz.prog 11 #[v] w fun e w' => ∃ u LB, e = .returned u ∧ fsts LB = fsts l ∧ LentA w' w.heap.size u LB ∧ Below w.heap.size w w' := by
  have HP : Hid (∀ x ∈ l, TsP w x.2 x.1.args) := hp
  have HX : Hid (∀ x ∈ l, x.1.args.length ≤ 3900000000000) := hx
  have HB : Hid (BehOk w) := hB
  obtain ⟨ad, cap, rfl, -, h, -⟩ := h
  clear hp hx hB
  go_enter Tryz.func11, Tryz.ntmps11
  go_wp2
  go_loopg [3, 4] l.length (fun g u i wr => ∃ j : Nat, j + g = l.length ∧ i = .int .i64 j ∧ ∃ LB, fsts LB = fsts (l.take j) ∧ LA w wr u LB)
  case atStart => exact ⟨0, by omega, rfl, [], rfl, OwnA.nil _ _, fun x hx => (by cases hx), fun x hx => (by cases hx), Below.refl _ _⟩
  case round =>
    obtain ⟨j, hj, rfl, LB, hf, hla⟩ := hrel
    have HLA : Hid (LA w wr u3 LB) := hla
    have HF : Hid (fsts LB = fsts (l.take j)) := hf
    have hlb : LB.length = j := by have := congrArg List.length hf; simp [fsts] at this; omega
    have HLB : Hid (LB.length = j) := hlb
    clear hf hla
    cases gk with
    | succ g =>
      have hlt : (j : Int) < (l.length : Int) := by omega
      have j0 : (0 : Int) ≤ (j : Int) := by omega
      obtain ⟨t, ht⟩ : ∃ t, l[j]? = some t := ⟨_, List.getElem?_eq_getElem (by omega)⟩
      have hm := List.mem_of_getElem? ht
      rcases h with h | ⟨b1, o1, rfl, h⟩
      · subst h; simp at ht
      obtain ⟨p0, p1, p2, p3, p4⟩ := (h.later HLA.out.bw).2 j t ht
      have HT : Hid (l[j]? = some t) := ht
      have htp := (HP.out t hm).later HLA.out.bw
      have HLN : Hid (∀ u, fsts (LB ++ [(t.1, u)]) = fsts (l.take (j + 1))) := fun u => fsts_take ht HF.out
      have HC : Hid (Calls Tryz.prog 10 #[t.1.v t.2] wr fun e w' => ∃ u, e = .returned (t.1.v u) ∧ LentT w' wr.heap.size u t.1.args ∧ Below wr.heap.size wr w') := lendA_any t.1 t.2 wr htp (HX.out t hm) (HB.out.later HLA.out.bw)
      obtain ⟨ax, cx, hax⟩ := htp.form
      clear ht hm htp h HF HT
      obtain ⟨⟨⟨kx, mx, sx⟩, nx, lx⟩, vx⟩ := t
      simp only at hax p0 p1 p2 p3 p4
      subst hax
      go_wp2_with (first
        | (go_at_call 10; refine HC.out.mono ?_; rintro e w1 ⟨u', rfl, hlt', hb1⟩; have HL1 : Hid (LentT w1 wr.heap.size u' lx) := hlt'; have HB1 : Hid (Below wr.heap.size wr w1) := hb1; obtain ⟨gu, cu, hgu, -⟩ := hlt'; subst hgu; have HG : Hid (CBlk (w1.alloc (.cells #[.int .i64 kx, .int .i64 mx, .string sx, .string nx, .slice (some ⟨gu, 0, none⟩) lx.length cu] 26)) w1.heap.size #[.int .i64 kx, .int .i64 mx, .string sx, .string nx, .slice (some ⟨gu, 0, none⟩) lx.length cu] 26) := CBlk.new _ _ _; have HO1 : Hid (OwnA (w1.alloc (.cells #[.int .i64 kx, .int .i64 mx, .string sx, .string nx, .slice (some ⟨gu, 0, none⟩) lx.length cu] 26)) w.heap.size u3 LB) := HLA.out.ow.later (below_step hb1 (below1 _ _)); have HS1 : Hid (w.heap.size ≤ (w1.alloc (.cells #[.int .i64 kx, .int .i64 mx, .string sx, .string nx, .slice (some ⟨gu, 0, none⟩) lx.length cu] 26)).heap.size) := Nat.le_trans HLA.out.bw.size (below_step hb1 (below1 _ _)).size; clear hb1 p0 p1 p2 p3 p4)
        | (at_builtin; refine aapp_one rfl _ _ rfl w.heap.size u3 LB (by rfl) HO1.out w1.heap.size (⟨⟨kx, mx, sx⟩, nx, lx⟩, .slice (some ⟨gu, 0, none⟩) lx.length cu) (by rfl) HG.out (acell_one _ _ _ _) (by have := HLB.out; omega) HS1.out ?_; intro v' w4 hown hb3 hg3 ha3; have HL4 : Hid (LA w w4 v' (LB ++ [(⟨⟨kx, mx, sx⟩, nx, lx⟩, .slice (some ⟨gu, 0, none⟩) lx.length cu)])) := LA.grow HLA.out HB1.out HL1.out (below1 _ _) hown hb3 hg3 ha3; clear hown hb3 hg3 ha3 HO1 HG HS1 HL1 HB1))
      go_roundg g
      case measure => omega
      case rel => exact ⟨j + 1, by omega, by go_num, _, HLN.out _, HL4.out⟩
    | zero =>
      have hjl : j = l.length := by omega
      have hz : ¬ ((j : Int) < (l.length : Int)) := by omega
      have HFF : Hid (fsts LB = fsts l) := by have := HF.out; rw [hjl, List.take_length] at this; exact this
      have HG : Hid (CBlk (wr.alloc (.cells #[.int .i64 0, .int .i64 0, .string ⟨#[]⟩, .string ⟨#[98, 101, 104, 105, 110, 100]⟩, .slice none 0 0] 26)) wr.heap.size #[.int .i64 0, .int .i64 0, .string ⟨#[]⟩, .string ⟨#[98, 101, 104, 105, 110, 100]⟩, .slice none 0 0] 26) := CBlk.new _ _ _
      have HL1 : Hid (LA w (wr.alloc (.cells #[.int .i64 0, .int .i64 0, .string ⟨#[]⟩, .string ⟨#[98, 101, 104, 105, 110, 100]⟩, .slice none 0 0] 26)) u3 LB) := HLA.out.later (below1 _ _)
      clear h HF
      go_wp2_with (at_builtin; refine aapp_one rfl _ _ rfl w.heap.size u3 LB (by rfl) HL1.out.ow wr.heap.size (bA, .slice none 0 0) (by rfl) HG.out (acell_one _ _ _ _) (by have := HLB.out; omega) HL1.out.bw.size ?_; intro v' w4 hown hb3 hg3 ha3; obtain ⟨g, cap2, rfl, hcap⟩ := ownA_some hown; have hcap' : (l.length : Int) ≤ (cap2 : Int) := (by have := HLB.out; omega); have hll : (l.length : Int) = (LB.length : Int) := (by have := HLB.out; omega); have HO4 : Hid (OwnA w4 w.heap.size (.slice (some ⟨g, 0, none⟩) (LB.length + 1) cap2) (LB ++ [(bA, .slice none 0 0)])) := hown; have HT4 : Hid (∀ x ∈ LB, LentT w4 w.heap.size x.2 x.1.args) := (fun x hx => (HL1.out.ts x hx).grown hg3 fun k hk e => HL1.out.ap x hx k e hk); have HW4 : Hid (Below w.heap.size w w4) := HL1.out.bw.trans hb3; clear hown hb3 hg3 ha3 HL1 HG)
      go_ret
      have hlb2 : LB.length = l.length := by have := HLB.out; omega
      exact ⟨_, rfl, LB, HFF.out, ⟨⟨g, cap2, by rw [hlb2]; rfl, HO4.out⟩, HT4.out⟩, HW4.out⟩
set_option maxRecDepth 20000 in
set_option maxHeartbeats 4000000 in
theorem keptAs_any (p LB : List (At × Value)) (v y : Value) (base : Nat) (w : World) (h : As w y p) (ho : LentA w base v LB) (hf : fsts LB = fsts p) (hB : BehOk w) :
    Calls Tryz.prog 24 #[v, y] w fun e w' => e = .returned (.bool true) ∧ Below w.heap.size w w' := by
  have hlen : LB.length = p.length := by have := congrArg List.length hf; simpa [fsts] using this
  have HF : Hid (fsts LB = fsts p) := hf
  obtain ⟨⟨g0, cap, rfl, ho⟩, hts⟩ := ho
  obtain ⟨ad', cap', rfl, hl', h', hts'⟩ := h
  have hrow := LentA.row ho
  have HROW : Hid (ARow w g0 0 LB) := hrow
  have HTS : Hid (∀ x ∈ LB, LentT w base x.2 x.1.args) := hts
  have HTS' : Hid (∀ x ∈ p, Ts w x.2 x.1.args) := hts'
  have HB : Hid (BehOk w) := hB
  have HO : Hid (OwnA w base (.slice (some ⟨g0, 0, none⟩) (LB.length + 1) cap) (LB ++ [(bA, .slice none 0 0)])) := ho
  have hcap := ownA_cap ho
  rw [List.length_append, List.length_singleton] at hcap
  have hcap' : (p.length : Int) + 1 ≤ (cap : Int) := by omega
  have HLL : Hid (LB.length = p.length) := hlen
  have hq3 : ((p.length : Int) != (p.length : Int)) = false := by simp
  rw [hlen]
  clear ho hts hts' hB hrow hcap hf hlen
  go_enter Tryz.func24, Tryz.ntmps24
  go_wp2
  go_loopg [5] p.length (fun g i wr => ∃ j : Nat, j + g = p.length ∧ i = .int .i64 j ∧ Below w.heap.size w wr)
  case atStart => exact ⟨0, by omega, rfl, Below.refl _ _⟩
  case round =>
    obtain ⟨j, hj, rfl, hb⟩ := hrel
    have HBr : Hid (Below w.heap.size w wr) := hb
    cases gk with
    | succ g =>
      have hlt : (j : Int) < (p.length : Int) := by omega
      have j0 : (0 : Int) ≤ (j : Int) := by omega
      obtain ⟨t, ht⟩ : ∃ t, LB[j]? = some t := ⟨_, List.getElem?_eq_getElem (by have := HLL.out; omega)⟩
      obtain ⟨u, hu⟩ : ∃ u, p[j]? = some u := ⟨_, List.getElem?_eq_getElem (by omega)⟩
      have htu : t.1 = u.1 := by
        have e := congrArg (fun l => l[j]?) HF.out
        simp only [fsts, List.getElem?_map, ht, hu, Option.map_some] at e
        exact Option.some.inj e
      rcases h' with h' | ⟨b2, o2, rfl, h'⟩
      · subst h'; simp at hu
      have k1 := (HROW.out.later hb).2 j t ht
      have k2 := (h'.later hb).2 j u hu
      have HZ1 : Hid (g0 < wr.heap.size) := (HROW.out.later hb).1
      have HZ2 : Hid (b2 < wr.heap.size) := (h'.later hb).1
      have t1 := (HTS.out t (List.mem_of_getElem? ht)).later hb
      have t2 := (HTS'.out u (List.mem_of_getElem? hu)).later hb
      rw [← htu] at t2 k2
      have HC0 := fun (X : World) (hX : Below wr.heap.size wr X) => keptA_any t.1 t.2 u.2 base X (t2.later hX) (t1.later hX) ((HB.out.later hb).later hX)
      obtain ⟨gx, cx, hax, -⟩ := t1
      obtain ⟨ay, cy, hay, -⟩ := t2
      clear ht hu htu h' hb
      obtain ⟨⟨⟨kx, mx, sx⟩, nx, lx⟩, vx⟩ := t
      obtain ⟨uu, vy⟩ := u
      simp only [Nat.zero_add] at hax hay k1 k2 HC0
      subst hax hay
      have HE : Hid _ := k1
      have HD : Hid _ := k2
      have HC : Hid (∀ (X : World), Below wr.heap.size wr X → Calls Tryz.prog 23 #[.agg #[.int .i64 kx, .int .i64 mx, .string sx, .string nx, .slice (some ⟨gx, 0, none⟩) lx.length cx], .agg #[.int .i64 kx, .int .i64 mx, .string sx, .string nx, .slice ay lx.length cy]] X fun e w' => e = .returned (.bool true) ∧ Below X.heap.size X w') := HC0
      clear k1 k2 HC0
      go_upto_region 6 with fail
      refine wp_region_held_drew (S := fun w' => Below wr.heap.size wr w') (by kernel_rfl) (Below.refl _ _).drew (fun hH => ?_)
      revert hH
      generalize wr.drew = V0
      intro hH
      refine wpAnyH_take (i := 0) (oi := ⟨_, _, _, _, _, _⟩) (v := .slice (some ⟨g0, 0, none⟩) p.length cap) rfl (by kernel_rfl) (by kernel_rfl) (by kernel_rfl) (fun _ _ _ h => h) (Or.inl ⟨by rfl, fun w' h => by clear h; go_simp⟩) hH ?_
      simp only [Act.put, List.setIfInBounds_toArray, List.set_cons_zero, List.set_cons_succ]
      refine wpAnyH_take (i := 1) (oi := ⟨_, _, _, _, _, _⟩) (v := .int .i64 (j : Int)) rfl (by kernel_rfl) (by kernel_rfl) (by kernel_rfl) (fun _ _ _ h => h) (Or.inl ⟨by rfl, fun w' h => by clear h; go_simp⟩) hH ?_
      simp only [Act.put, List.setIfInBounds_toArray, List.set_cons_zero, List.set_cons_succ]
      refine wpAnyH_take (i := 2) (oi := ⟨_, _, _, _, _, _⟩) (v := .pointer (some ⟨g0, j * 5, none⟩)) rfl (by kernel_rfl) (by kernel_rfl) (by kernel_rfl) (fun _ _ _ h => h) (Or.inl ⟨by rfl, fun w' h => by clear h; go_simp⟩) hH ?_
      simp only [Act.put, List.setIfInBounds_toArray, List.set_cons_zero, List.set_cons_succ]
      refine wpAnyH_take (i := 3) (oi := ⟨_, _, _, _, _, _⟩) (v := .agg #[.int .i64 kx, .int .i64 mx, .string sx, .string nx, .slice (some ⟨gx, 0, none⟩) lx.length cx]) rfl (by kernel_rfl) (by kernel_rfl) (by kernel_rfl) (fun _ _ _ h => h) (Or.inl ⟨by rfl, fun w' h => by obtain ⟨p0, p1, p2, p3, p4⟩ := HE.out; have z := HZ1.out; have a0 := cell_step h z p0; have a1 := cell_step h z p1; have a2 := cell_step h z p2; have a3 := cell_step h z p3; have a4 := cell_step h z p4; clear h p0 p1 p2 p3 p4; go_simp⟩) hH ?_
      simp only [Act.put, List.setIfInBounds_toArray, List.set_cons_zero, List.set_cons_succ]
      refine wpAnyH_take (i := 4) (oi := ⟨_, _, _, _, _, _⟩) (v := (.slice (some ⟨b2, o2, none⟩) p.length cap')) rfl (by kernel_rfl) (by kernel_rfl) (by kernel_rfl) (fun _ _ _ h => h) (Or.inl ⟨by rfl, fun w' h => by clear h; go_simp⟩) hH ?_
      simp only [Act.put, List.setIfInBounds_toArray, List.set_cons_zero, List.set_cons_succ]
      refine wpAnyH_take (i := 5) (oi := ⟨_, _, _, _, _, _⟩) (v := .int .i64 (j : Int)) rfl (by kernel_rfl) (by kernel_rfl) (by kernel_rfl) (fun _ _ _ h => h) (Or.inl ⟨by rfl, fun w' h => by clear h; go_simp⟩) hH ?_
      simp only [Act.put, List.setIfInBounds_toArray, List.set_cons_zero, List.set_cons_succ]
      refine wpAnyH_take (i := 6) (oi := ⟨_, _, _, _, _, _⟩) (v := .pointer (some ⟨b2, o2 + j * 5, none⟩)) rfl (by kernel_rfl) (by kernel_rfl) (by kernel_rfl) (fun _ _ _ h => h) (Or.inl ⟨by rfl, fun w' h => by clear h; go_simp⟩) hH ?_
      simp only [Act.put, List.setIfInBounds_toArray, List.set_cons_zero, List.set_cons_succ]
      refine wpAnyH_take (i := 7) (oi := ⟨_, _, _, _, _, _⟩) (v := .agg #[.int .i64 kx, .int .i64 mx, .string sx, .string nx, .slice ay lx.length cy]) rfl (by kernel_rfl) (by kernel_rfl) (by kernel_rfl) (fun _ _ _ h => h) (Or.inl ⟨by rfl, fun w' h => by obtain ⟨p0, p1, p2, p3, p4⟩ := HD.out; have z := HZ2.out; have a0 := cell_step h z p0; have a1 := cell_step h z p1; have a2 := cell_step h z p2; have a3 := cell_step h z p3; have a4 := cell_step h z p4; clear h p0 p1 p2 p3 p4; go_simp⟩) hH ?_
      simp only [Act.put, List.setIfInBounds_toArray, List.set_cons_zero, List.set_cons_succ]
      refine wpAnyH_ready (rs := [8]) (by kernel_rfl) (by simp) ?_
      refine (AllReadyH.cons (o := ⟨_, _, _, _, _, _⟩) rfl (fun K hK => ?_) AllReadyH.nil)
      go_simp
      refine (HC.out _ hH).mono ?_
      rintro x1 V1 ⟨rfl, hb⟩
      refine hK.out _ _ (below_step hH hb) (fun hH => ?_)
      clear hK K hb
      try simp only [Act.put, List.setIfInBounds_toArray, List.set_cons_zero, List.set_cons_succ]
      refine wpAnyH_take (i := 9) (oi := ⟨_, _, _, _, _, _⟩) (v := .bool false) rfl (by kernel_rfl) (by kernel_rfl) (by kernel_rfl) (fun _ _ _ h => h) (Or.inl ⟨by rfl, fun w' h => by clear h; go_simp⟩) hH ?_
      simp only [Act.put, List.setIfInBounds_toArray, List.set_cons_zero, List.set_cons_succ]
      refine wpAnyH_done (by kernel_rfl) ?_ _
      have HV : Hid (Below wr.heap.size wr V1) := hH
      clear hH
      go_wp2
      go_roundg g
      case measure => omega
      case rel => exact ⟨j + 1, by omega, by go_num, below_step HBr.out HV.out⟩
    | zero =>
      have hz : ¬ ((j : Int) < (p.length : Int)) := by omega
      have i1 : (p.length : Int) < (p.length : Int) + 1 := by omega
      have i0 : (0 : Int) ≤ (p.length : Int) := by omega
      have hoL := HO.out.later hb
      have hgl : (LB ++ [(bA, Value.slice none 0 0)])[p.length]? = some (bA, .slice none 0 0) := by rw [← HLL.out]; simp
      have q3 := hoL.cells p.length _ hgl 3 (by omega)
      have q4 := hoL.cells p.length _ hgl 4 (by omega)
      simp only [acell, bA, bN, List.getElem?_cons_succ, List.getElem?_cons_zero] at q3 q4
      clear h' hb hoL hgl
      go_wp2
      go_ret
      exact ⟨rfl, HBr.out⟩
end Go.Proofs.YtgbiicmkhlnniaaGreatDoor
