/-
  ref 9: lists of numbers, each in a block of its own; Make's state.
-/
import Derived.Test.YtgbiicmkhlnniaaGreatDoorW4
namespace Go.Proofs.YtgbiicmkhlnniaaGreatDoor
open Go.RowKit
attribute [local go_sem ↓] Go.wp_at_zero Go.wp_at_succ

/-- Lists of numbers, each in a block of its own. -/
structure LL9 (Y : World) (B : Nat) (L : List (Value × List Int)) : Prop where
  own : ∀ p ∈ L, OwI Y B p.1 p.2
  ne : L.Pairwise fun p q => ∀ b, p.1.ownBlock = some b → q.1.ownBlock ≠ some b
theorem LL9.below {Y Y' : World} {B : Nat} {L : List (Value × List Int)} (h : LL9 Y B L) (hb : Below Y.heap.size Y Y') : LL9 Y' B L := ⟨fun p hp => row7_below (h.own p hp) hb, h.ne⟩
theorem LL9.perm {Y : World} {B : Nat} {L L' : List (Value × List Int)} (h : LL9 Y B L) (hp : L.Perm L') : LL9 Y B L' :=
  ⟨fun p hq => h.own p (hp.mem_iff.2 hq), (hp.pairwise_iff (fun h b h1 h2 => h b h2 h1)).1 h.ne⟩
theorem LL9.fr {P : Nat → Prop} {Y Y' : World} {B : Nat} {L : List (Value × List Int)} (h : LL9 Y B L) (hf : Fr P Y Y') (hP : ∀ b, P b → ∃ cur t, Bk Y b cur t ∧ 3 ≠ t) : LL9 Y' B L :=
  ⟨fun p hp => row9_fr (h.own p hp) hf fun b hb => Or.inr (hP b hb), h.ne⟩
theorem LL9.new {Y Y' : World} {B : Nat} {L : List (Value × List Int)} {v : Value} {l : List Int} (h : LL9 Y B L) (hb : Below Y.heap.size Y Y') (hv : OwI Y' Y.heap.size v l) (hB : B ≤ Y.heap.size) : LL9 Y' B ((v, l) :: L) := by
  refine ⟨fun p hp => ?_, List.pairwise_cons.2 ⟨fun q hq b h1 h2 => ?_, h.ne⟩⟩
  · rcases List.mem_cons.1 hp with rfl | hp
    · exact OwI.mono hv hB
    · exact row7_below (h.own p hp) hb
  · have h3 := (World.ownsRow.lt hv b h1).1
    have h4 := (World.ownsRow.lt (h.own q hq) b h2).2
    omega
theorem LL9.app {Y Y' : World} {B g : Nat} {L : List (Value × List Int)} {v v' : Value} {l l' : List Int} (h : LL9 Y B ((v, l) :: L)) (ho : OwI Y' B v' l') (hg : Y.grownBy Y' v.ownBlock) (hv : ∀ b, v'.ownBlock = some b → v.ownBlock = some b ∨ b = g) (hgg : Y.heap.size ≤ g) : LL9 Y' B ((v', l') :: L) := by
  have hne := List.pairwise_cons.1 h.ne
  refine ⟨fun p hp => ?_, List.pairwise_cons.2 ⟨fun q hq b h1 h2 => ?_, hne.2⟩⟩
  · rcases List.mem_cons.1 hp with rfl | hp
    · exact ho
    · exact row7_fr (P := fun b => v.ownBlock = some b) (h.own p (List.mem_cons_of_mem _ hp)) (Fr.grown hg fun b hb => hb) fun b h1 h2 => hne.1 p hp b h2 h1
  · rcases hv b h1 with h3 | h3
    · exact hne.1 q hq b h3 h2
    · have := (World.ownsRow.lt (h.own q (List.mem_cons_of_mem _ hq)) b h2).2
      omega
theorem Bk.grow9 {Y Y' : World} {B g : Nat} {cs : Array Value} {t : TypeId} {v : Value} {l : List Int} (h : Bk Y g cs t) (ho : OwI Y B v l) (hg : Y.grownBy Y' v.ownBlock) (ht : 3 ≠ t) : Bk Y' g cs t :=
  h.fr (P := fun b => v.ownBlock = some b) (Fr.grown hg fun b hb => hb) fun e => by
    obtain ⟨cur, hk⟩ := row7_blk ho e
    exact ht (hk.ty h)
/-- Make amid its work: its boxes, its joins, its lists of numbers. -/
structure RS9 (w : World) (c : Cm) (cb rb pb : Nat) (av jv : Value) (l : List (Js9 × Value × Value)) (L : List (Value × List Int)) (Y : World) : Prop where
  be : Below w.heap.size w Y
  bc : Bk Y cb c.cs 30
  br : Bk Y rb #[.slice none 0 0, .slice none 0 0] 35
  bp : Bk Y pb #[av, jv] 35
  lc : w.heap.size ≤ cb
  lr : w.heap.size ≤ rb
  lp : w.heap.size ≤ pb
  ne : rb ≠ pb
  row : Y.ownsRow w.heap.size 57 3 jv l.length (jc9 l)
  ll : LL9 Y w.heap.size L
theorem RS9.below {w : World} {c : Cm} {cb rb pb : Nat} {av jv : Value} {l : List (Js9 × Value × Value)} {L : List (Value × List Int)} {Y Y' : World} (h : RS9 w c cb rb pb av jv l L Y) (hb : Below Y.heap.size Y Y') : RS9 w c cb rb pb av jv l L Y' :=
  ⟨h.be.trans (hb.mono h.be.size), h.bc.below hb, h.br.below hb, h.bp.below hb, h.lc, h.lr, h.lp, h.ne, row7_below h.row hb, h.ll.below hb⟩
theorem RS9.perm {w : World} {c : Cm} {cb rb pb : Nat} {av jv : Value} {l : List (Js9 × Value × Value)} {L L' : List (Value × List Int)} {Y : World} (h : RS9 w c cb rb pb av jv l L Y) (hp : L.Perm L') : RS9 w c cb rb pb av jv l L' Y :=
  ⟨h.be, h.bc, h.br, h.bp, h.lc, h.lr, h.lp, h.ne, h.row, h.ll.perm hp⟩
theorem RS9.new {w : World} {c : Cm} {cb rb pb : Nat} {av jv v : Value} {x : List Int} {l : List (Js9 × Value × Value)} {L : List (Value × List Int)} {Y Y' : World} (h : RS9 w c cb rb pb av jv l L Y) (hb : Below Y.heap.size Y Y') (hv : OwI Y' Y.heap.size v x) : RS9 w c cb rb pb av jv l ((v, x) :: L) Y' :=
  ⟨h.be.trans (hb.mono h.be.size), h.bc.below hb, h.br.below hb, h.bp.below hb, h.lc, h.lr, h.lp, h.ne, row7_below h.row hb, h.ll.new hb hv h.be.size⟩
theorem RS9.app {w : World} {c : Cm} {cb rb pb g : Nat} {av jv v v' : Value} {x x' : List Int} {l : List (Js9 × Value × Value)} {L : List (Value × List Int)} {Y Y' : World} (h : RS9 w c cb rb pb av jv l ((v, x) :: L) Y) (ho : OwI Y' w.heap.size v' x') (hg : Y.grownBy Y' v.ownBlock) (hv : ∀ b, v'.ownBlock = some b → v.ownBlock = some b ∨ b = g) (hgg : Y.heap.size ≤ g) : RS9 w c cb rb pb av jv l ((v', x') :: L) Y' := by
  have hv0 := h.ll.own _ (List.mem_cons_self ..)
  exact ⟨h.be.trans (Fr.low (Fr.grown hg fun b hb => (World.ownsRow.lt hv0 b hb).1) h.be.size), h.bc.grow9 hv0 hg (by decide), h.br.grow9 hv0 hg (by decide), h.bp.grow9 hv0 hg (by decide), h.lc, h.lr, h.lp, h.ne, row9_fr h.row (Fr.grown (P := fun b => v.ownBlock = some b) hg fun b hb => hb) (fun b hb => by
    obtain ⟨cur, hk⟩ := row7_blk hv0 hb
    exact Or.inr ⟨cur, _, hk, by decide⟩), h.ll.app ho hg hv hgg⟩
/-- A store into the plan's box. -/
theorem RS9.setA {w : World} {c : Cm} {cb rb pb : Nat} {av jv av' : Value} {l : List (Js9 × Value × Value)} {L : List (Value × List Int)} {Y : World} (h : RS9 w c cb rb pb av jv l L Y) : RS9 w c cb rb pb av' jv l L (Y.setCell ⟨pb, 0, none⟩ av') := by
  have hf : Fr (fun b => b = pb) Y (Y.setCell ⟨pb, 0, none⟩ av') := (Fr.refl _ _).set (Or.inl rfl)
  exact ⟨h.be.setCell h.lp _, h.bc.fr hf fun e => absurd (h.bc.ty (e ▸ h.bp)) (by decide), h.br.fr hf h.ne, h.bp.set 0 av', h.lc, h.lr, h.lp, h.ne, row9_fr h.row hf (fun b hb => Or.inr ⟨#[av, jv], 35, by rw [hb]; exact h.bp, by decide⟩), h.ll.fr hf fun b hb => ⟨#[av, jv], 35, by rw [hb]; exact h.bp, by decide⟩⟩
/-- One more join. -/
theorem RS9.join {w : World} {c : Cm} {cb rb pb : Nat} {av jv jv' : Value} {l : List (Js9 × Value × Value)} {x : Js9 × Value × Value} {L : List (Value × List Int)} {Y Y' : World} {m : Nat} (h : RS9 w c cb rb pb av jv l L Y) (hm : l.length = m) (ho : Y'.ownsRow w.heap.size 57 3 jv' (m + 1) (jc9 l ++ [.int .i64 x.1.n, x.2.1, x.2.2])) (hg : Y.grownBy Y' jv.ownBlock) : RS9 w c cb rb pb av jv' (l ++ [x]) L (Y'.setCell ⟨pb, 1, none⟩ jv') := by
  have hf : Fr (fun b => jv.ownBlock = some b) Y Y' := Fr.grown hg fun b hb => hb
  have hk : ∀ b, jv.ownBlock = some b → ∃ cur, Bk Y b cur 57 := fun b hb => row7_blk h.row hb
  have hn : ∀ {b : Nat} {cs : Array Value} {t : TypeId}, Bk Y b cs t → 57 ≠ t → ¬ jv.ownBlock = some b := fun hb ht e => by
    obtain ⟨cur, hc⟩ := hk _ e
    exact ht (hc.ty hb)
  have bp1 := h.bp.fr hf (hn h.bp (by decide))
  have hs : Fr (fun b => b = pb) Y' (Y'.setCell ⟨pb, 1, none⟩ jv') := (Fr.refl _ _).set (Or.inl rfl)
  have bc1 := h.bc.fr hf (hn h.bc (by decide))
  have br1 := h.br.fr hf (hn h.br (by decide))
  refine ⟨(h.be.trans (Fr.low (hf.mono (Q := fun b => w.heap.size ≤ b) fun b _ e => (World.ownsRow.lt h.row b e).1) h.be.size)).setCell h.lp _, bc1.fr hs fun e => absurd (bc1.ty (e ▸ bp1)) (by decide), br1.fr hs h.ne, bp1.set 1 jv', h.lc, h.lr, h.lp, h.ne, ?_, (h.ll.fr hf fun b hb => by obtain ⟨cur, hc⟩ := hk b hb; exact ⟨cur, _, hc, by decide⟩).fr hs fun b hb => ⟨#[av, jv], 35, by rw [hb]; exact bp1, by decide⟩⟩
  rw [List.length_append, hm, show jc9 (l ++ [x]) = jc9 l ++ [.int .i64 x.1.n, x.2.1, x.2.2] by simp [jc9]]
  exact row9_fr ho hs fun b hb => Or.inr ⟨#[av, jv], 35, by rw [hb]; exact bp1, by decide⟩
/-- append of a list of numbers that a call made. -/
theorem iapp9 {ops : Array Oper} {rest : List Oper} {o : Oper} {a : Act} {Q : Exit → Act → World → Prop} {w : World} (hgd : o.guard = none) (s x : Operand)
    (ho : o.op = .call { callee := .builtin .append, args := #[s, x], argTypes := #[32, 32] }) (base : Nat) (v : Value) (l : List Int) (hs : a.eval s = v) (hown : OwI w base v l)
    (B : Nat) (y : Value) (m : List Int) (hx : a.eval x = y) (hy : OwI w B y m) (hy0 : m = [] → y = .slice none 0 0) (hlen : l.length + m.length ≤ 1000000000000) (hbase : base ≤ w.heap.size)
    (h : ∀ v' w', OwI w' base v' (l ++ m) → w.grownBy w' v.ownBlock → (∀ b, v'.ownBlock = some b → v.ownBlock = some b ∨ b = w.heap.size) → wpList Tryz.prog ops Q rest (a.put o.dst v') w') : wpList Tryz.prog ops Q (o :: rest) a w := by
  obtain ⟨i0, hi0, hz0, hz1, hz2⟩ := info7 Tryz.infoInt7
  by_cases hm : m = []
  · have e := hy0 hm
    subst hm
    refine wpList_append_own_none hgd s x 32 ho base 3 i0 1 Tryz.underlying32 hi0 v l.length (ibs7 l) hs hown (hx.trans e) ?_
    exact h v w (by rw [List.append_nil]; exact hown) (World.grownBy.refl _ _) fun b hb => Or.inl hb
  · have hp : 0 < m.length := List.length_pos_iff.2 hm
    obtain ⟨g, cap, e, -, -⟩ := World.ownsRow.form hy hp
    rw [e] at hx hy
    refine wpList_append_lies _ hgd s x 32 ho base 3 i0 _ 1 8 Tryz.underlying32 hi0 hz0 hz1 hz2 rfl (by omega) v l.length (ibs7 l) hs hown ⟨g, 0, none⟩ m.length cap (ibs7 m) hx (by simp [ibs7]) ?_ (by simp [ibs7, Value.oneCell']) hp (by unfold maxLen; omega) (by omega) hbase _ rfl ?_
    · intro j u hj
      exact World.ownsRow.cells hy (g := g) rfl j u hj
    · intro g' cap' w' h1 h2 h3 _
      refine h _ w' ?_ h2 fun b hb => ?_
      · unfold OwI
        rw [List.length_append, ibs7_app]
        exact h1
      · have : g' = b := by simpa [Value.ownBlock] using hb
        subst this
        exact h3
set_option maxHeartbeats 2000000 in
theorem rvarsN_any (a : At) (x : Value) (w : World) (h : TsO w x a.args) :
    Calls Tryz.prog 20 #[a.v x] w fun e w' => ∃ v', e = .returned v' ∧ OwnI w' w.heap.size v' (vs a.pl) ∧ (vs a.pl = [] → v' = .slice none 0 0) ∧ Below w.heap.size w w' := by
  obtain ⟨i0, hi0, hz0, hz1, hz2⟩ := info_parts Tryz.infoInt
  have hal : a.args.length ≤ 4398046511104 := by
    rcases h with ⟨-, h⟩ | ⟨ad, cap, h1, h2, h3⟩
    · rw [h]; simp
    · omega
  have hpl := fun (X : World) (hb : Below w.heap.size w X) => rplaces_any a x X (h.later hb)
  have HPl : Hid _ := hpl
  obtain ⟨⟨k, n, ss⟩, nm, l⟩ := a
  obtain ⟨pl, hp⟩ : ∃ pl, pl = (At.mk ⟨k, n, ss⟩ nm l).pl := ⟨_, rfl⟩
  have hn : pl.length ≤ 4398046511105 := by rw [hp]; simp [At.pl]; simpa using hal
  have hn0 : 0 < pl.length := by rw [hp]; simp [At.pl]
  rw [← hp] at HPl ⊢
  clear hp hal h hpl
  go_enter Tryz.func20, Tryz.ntmps20
  go_wp2_with (go_at_call 38; refine (HPl.out _ (below1 _ _)).mono ?_; rintro e w1 ⟨lv, rfl, hol, hb1⟩)
  have hb0 : Below w.heap.size w w1 := below_step (below1 _ _) hb1
  obtain ⟨G, gcap, rfl, -, hGl⟩ := World.ownsRow.form hol hn0
  have HOL : Hid (OwnT w1 _ (.slice (some ⟨G, 0, none⟩) pl.length gcap) pl) := hol
  clear hol hb1 HPl
  go_loopg [4, 5] pl.length (fun g u i wr => ∃ j : Nat, j + g = pl.length ∧ i = .int .i64 j ∧ OwnI wr w1.heap.size u (vs (pl.take j)) ∧ (vs (pl.take j) = [] → u = .slice none 0 0) ∧ Below w1.heap.size w1 wr)
  case atStart => exact ⟨0, by omega, rfl, ownI_nil _ _, fun _ => rfl, Below.refl _ _⟩
  case round =>
    obtain ⟨j, hj, rfl, hown, hnil, hbr⟩ := hrel
    cases gk with
    | succ g =>
      have hlt : j < pl.length := by omega
      obtain ⟨t, ht⟩ : ∃ t, pl[j]? = some t := ⟨_, List.getElem?_eq_getElem hlt⟩
      have HV := vs_take pl j t ht
      have HL := vs_len (pl.take j)
      rw [List.length_take] at HL
      obtain ⟨c0, c1, c2⟩ := ownT_cells HOL.out j t ht
      have c0 := cell_step hbr hGl c0
      have c1 := cell_step hbr hGl c1
      have c2 := cell_step hbr hGl c2
      have gW := lt_step hbr hGl
      obtain ⟨tk, tn, ts⟩ := t
      simp only at c0 c1 c2
      generalize vs (pl.take j) = out at hown HV HL hnil
      have HS : Hid (vs (pl.take (j + 1)) = vS out ⟨tk, tn, ts⟩) := HV
      have hol : out.length ≤ 4398046511105 := by omega
      obtain ⟨ad', cap', rfl⟩ := ownI_len hown
      have HO : Hid (OwnI wr w1.heap.size (.slice ad' out.length cap') out) := hown
      have HNI := hm7 hnil
      clear HV HL ht hown hnil
      have i1 : (0 : Int) ≤ (j : Int) := by omega
      have i2 : (j : Int) < (pl.length : Int) := by omega
      cases bv : Tm.var ⟨tk, tn, ts⟩
      · have HB : Hid (Tm.var ⟨tk, tn, ts⟩ = false) := bv
        clear bv
        go_wp2_with (go_at_call 39; refine (rvar_any ⟨tk, tn, ts⟩ _).mono ?_; rw [HB.out]; rintro e w3 ⟨rfl, hb3⟩)
        go_roundg g
        case measure => omega
        case rel => exact ⟨j + 1, by omega, by go_num, by rw [HS.out, vS_not _ _ HB.out]; exact HO.out.later hb3, by rw [HS.out, vS_not _ _ HB.out]; exact HNI.out, below_step hbr hb3⟩
      · have HB : Hid (Tm.var ⟨tk, tn, ts⟩ = true) := bv
        clear bv
        cases hm : hasI out tn
        · have HM : Hid (hasI out tn = false) := hm
          clear hm
          go_wp2_with (first
            | (go_at_call 39; refine (rvar_any ⟨tk, tn, ts⟩ _).mono ?_; rw [HB.out]; rintro e w3 ⟨rfl, hb3⟩; have d1 := cell_step hb3 gW c1; have gX := lt_step hb3 gW; clear c0 c1 c2)
            | (go_at_call 40; refine (ramong_any out _ tn _ _ (HO.out.later hb3) (by omega)).mono ?_; rw [HM.out]; rintro e w4 ⟨rfl, hb4⟩; have e1 := cell_step hb4 gX d1; have HO4 : Hid (OwnI w4 w1.heap.size (.slice ad' out.length cap') out) := HO.out.later (below_step hb3 hb4); have hbW : Hid (Below w1.heap.size w1 w4) := below_step (below_step hbr hb3) hb4; have hsz : w1.heap.size ≤ w4.heap.size := (Hid.out hbW).size; clear d1 hb3 hb4)
            | (at_builtin; refine wpList_append_lies _ rfl _ _ _ rfl w1.heap.size 3 i0 _ 1 8 Tryz.underlying32 hi0 hz0 hz1 hz2 rfl (by omega) (.slice ad' out.length cap') out.length (ics out) (by rfl) (HO4.out.later (below1 _ _)) ⟨w4.heap.size, 0, none⟩ 1 1 [.int .i64 tn] (by rfl) (by rfl) (World.news_of_block (cs := #[.int .i64 tn]) (t := 3) (fr := (0, 0)) (heap_alloc_new w4 _)) (by simp [Value.oneCell']) (by omega) (by unfold maxLen; omega) (by omega) (by simp; omega) (w4.heap.size + 1) (by simp) ?_; intro gg cap1 w5 hown1 hgrow hat hlt1))
          have R : OwnI w5 w1.heap.size (.slice (some ⟨gg, 0, none⟩) (out.length + 1) cap1) (out ++ [tn]) := by
            unfold OwnI; rw [ics_snoc, List.length_append]; exact hown1
          have hlto := (HO4.out.later (below1 w4 (.cells #[.int .i64 tn] 3))).lt
          have RB : Below w1.heap.size w1 w5 := ((Hid.out hbW).alloc (Hid.out hbW).size _).grown hgrow (by simp; omega) (fun q e => by have := hlto _ e; omega)
          have RO : Hid (OwnI w5 w1.heap.size (.slice (some ⟨gg, 0, none⟩) (out.length + 1) cap1) (out ++ [tn])) := R
          clear hown1 hgrow hat hlt1 R hlto
          go_wp2
          go_roundg g
          case measure => omega
          case rel => exact ⟨j + 1, by omega, by go_num, by rw [HS.out, vS_new _ _ HB.out HM.out]; exact RO.out, fun e => by rw [HS.out, vS_new _ _ HB.out HM.out] at e; simp at e, RB⟩
        · have HM : Hid (hasI out tn = true) := hm
          clear hm
          go_wp2_with (first
            | (go_at_call 39; refine (rvar_any ⟨tk, tn, ts⟩ _).mono ?_; rw [HB.out]; rintro e w3 ⟨rfl, hb3⟩; have d1 := cell_step hb3 gW c1; have gX := lt_step hb3 gW; clear c0 c1 c2)
            | (go_at_call 40; refine (ramong_any out _ tn _ _ (HO.out.later hb3) (by omega)).mono ?_; rw [HM.out]; rintro e w4 ⟨rfl, hb4⟩))
          go_roundg g
          case measure => omega
          case rel => exact ⟨j + 1, by omega, by go_num, by rw [HS.out, vS_old _ _ HB.out HM.out]; exact HO.out.later (below_step hb3 hb4), by rw [HS.out, vS_old _ _ HB.out HM.out]; exact HNI.out, below_step (below_step hbr hb3) hb4⟩
    | zero =>
      have HT : pl.take j = pl := List.take_of_length_le (by omega)
      rw [HT] at hown hnil
      have HNI := hm7 hnil
      have HO : Hid (OwnI wr w1.heap.size u4 (vs pl)) := hown
      have hz : ¬ ((j : Int) < (pl.length : Int)) := by omega
      clear HT hown hnil
      go_wp2
      go_ret
      exact ⟨_, rfl, HO.out.mono hb0.size, HNI.out, below_step hb0 hbr⟩
end Go.Proofs.YtgbiicmkhlnniaaGreatDoor
