/-
  safe, MadeConst; lists of terms appended; atomTerms.
-/
import Derived.Test.YtllgffmhbddigaaGreatMD1
import Derived.Test.YtllgffmhbddigaaGreatRA16
import Derived.Test.YtllgffmhbddigaaGreatCL27
namespace Go.Proofs.YtllgffmhbddigaaGreat
open Go.RowKit
attribute [local go_sem ↓] Go.wp_at_zero Go.wp_at_succ

set_option maxRecDepth 20000 in
set_option maxHeartbeats 4000000 in
theorem safe_any (l : List Tm) (v : Value) (t : Tm) (w : World) (h : Ts w v l) : Calls Tryz.prog 37 #[v, t.v] w fun e w' => e = .returned (sf l t).v ∧ Below w.heap.size w w' := by
  have HWI : Hid (∀ X : World, Below w.heap.size w X → Calls Tryz.prog 77 #[v, t.v] X fun e w' => e = .returned (.bool (decide (t ∈ l))) ∧ Below X.heap.size X w') := fun X hX => within_any l v t X (h.later hX)
  have HGR : Hid (∀ X : World, Calls Tryz.prog 78 #[t.v] X fun e w' => e = .returned (grd t).v ∧ Below X.heap.size X w') := fun X => ground_any t X
  have HT3 : Hid (CBlk _ _ _ _ ∧ CBlk _ _ _ _) := two3 w t
  obtain ⟨ad, cap, rfl, -, -⟩ := h
  have nw : w.heap.size ≤ w.heap.size + 1 := by omega
  by_cases hm : t ∈ l
  · have hs : sf l t = t := if_pos hm
    rw [hs]
    rw [decide_eq_true hm] at HWI
    clear hm hs HGR
    obtain ⟨k, n, s⟩ := t
    go_enter Tryz.func37, Tryz.ntmps37
    go_wp2_with (go_at_call 77; refine (HWI.out _ (below2 _ _ _)).mono ?_; clear HWI; rintro e w1 ⟨rfl, hb⟩; obtain ⟨c0, c1, c2⟩ := cthree (HT3.out.1.later hb); obtain ⟨r0, r1, r2⟩ := cthree (HT3.out.2.later hb); have f0 : w1.frozen? ⟨w.heap.size + 1, 0, none⟩ = false := (HT3.out.2.later hb).froz; have f1 : w1.frozen? ⟨w.heap.size + 1, 1, none⟩ = false := (HT3.out.2.later hb).froz; have f2 : w1.frozen? ⟨w.heap.size + 1, 2, none⟩ = false := (HT3.out.2.later hb).froz; have HW : Hid (Below w.heap.size w w1) := below_step (below2 _ _ _) hb; clear hb HT3; simp only at c0 c1 c2)
    exact bodyPost_ret (v := Tm.v ⟨k, n, s⟩) (by simp [results, Tryz.results37, go_sem, r0, r1, r2]) rfl ⟨rfl, ((HW.out.setCell nw _).setCell nw _).setCell nw _⟩
  · have hs : sf l t = grd t := if_neg hm
    rw [hs]
    rw [decide_eq_false hm] at HWI
    clear hm hs
    obtain ⟨⟨gk, gn, gs⟩, hg⟩ : ∃ g, grd t = g := ⟨_, rfl⟩
    rw [hg] at HGR ⊢
    clear hg
    obtain ⟨k, n, s⟩ := t
    go_enter Tryz.func37, Tryz.ntmps37
    go_wp2_with (first
      | (go_at_call 77; refine (HWI.out _ (below2 _ _ _)).mono ?_; clear HWI; rintro e w1 ⟨rfl, hb⟩; obtain ⟨c0, c1, c2⟩ := cthree (HT3.out.1.later hb); simp only at c0 c1 c2; have HT4 : Hid (CBlk _ _ _ _) := HT3.out.2.later hb; have HW1 : Hid (Below w.heap.size w w1) := below_step (below2 _ _ _) hb; clear hb HT3)
      | (go_at_call 78; refine (HGR.out _).mono ?_; clear HGR; rintro e w2 ⟨rfl, hb⟩; clear c0 c1 c2; obtain ⟨r0, r1, r2⟩ := cthree (HT4.out.later hb); have f0 : w2.frozen? ⟨w.heap.size + 1, 0, none⟩ = false := (HT4.out.later hb).froz; have f1 : w2.frozen? ⟨w.heap.size + 1, 1, none⟩ = false := (HT4.out.later hb).froz; have f2 : w2.frozen? ⟨w.heap.size + 1, 2, none⟩ = false := (HT4.out.later hb).froz; have HW : Hid (Below w.heap.size w w2) := below_step HW1.out hb; clear hb HT4 HW1))
    exact bodyPost_ret (v := Tm.v ⟨gk, gn, gs⟩) (by simp [results, Tryz.results37, go_sem, r0, r1, r2]) rfl ⟨rfl, ((HW.out.setCell nw _).setCell nw _).setCell nw _⟩
set_option maxRecDepth 20000 in
set_option maxHeartbeats 4000000 in
theorem madeConst_any (t : Tm) (w : World) : Calls Tryz.prog 75 #[t.v] w fun e w' => e = .returned (mkC t).v ∧ Below w.heap.size w w' := by
  have HCO : Hid (∀ X : World, Calls Tryz.prog 119 #[t.v] X fun e w' => e = .returned (.bool t.con) ∧ Below X.heap.size X w') := fun X => rcon_any t X
  have HT3 : Hid (CBlk _ _ _ _ ∧ CBlk _ _ _ _) := two3 w t
  have nw : w.heap.size ≤ w.heap.size + 1 := by omega
  cases hc : t.con
  · rw [hc] at HCO
    by_cases h2 : t.k = 2
    · have hs : mkC t = ⟨2, 0, cut64 t.s⟩ := by unfold mkC; rw [if_neg (by rw [hc]; simp), if_pos h2]
      rw [hs]
      clear hs hc
      obtain ⟨k, n, s⟩ := t
      simp only at h2
      subst h2
      by_cases h64 : 64 < (s.size : Int)
      · have hcut : cut64 s = s.extract 0 64 := by unfold cut64; rw [Nat.min_eq_right (by omega)]
        rw [hcut]
        have hle : (64 : Int) ≤ (s.size : Int) := by omega
        clear hcut
        go_enter Tryz.func75, Tryz.ntmps75
        go_wp2_with (go_at_call 119; refine (HCO.out _).mono ?_; clear HCO; rintro e w1 ⟨rfl, hb⟩; obtain ⟨c0, c1, c2⟩ := cthree (HT3.out.1.later hb); obtain ⟨r0, r1, r2⟩ := cthree (HT3.out.2.later hb); have f0 : w1.frozen? ⟨w.heap.size + 1, 0, none⟩ = false := (HT3.out.2.later hb).froz; have f1 : w1.frozen? ⟨w.heap.size + 1, 1, none⟩ = false := (HT3.out.2.later hb).froz; have f2 : w1.frozen? ⟨w.heap.size + 1, 2, none⟩ = false := (HT3.out.2.later hb).froz; have HW : Hid (Below w.heap.size w w1) := below_step (below2 _ _ _) hb; clear hb HT3; simp only at c0 c1 c2)
        exact bodyPost_ret (v := Tm.v ⟨2, 0, s.extract 0 64⟩) (by simp [results, Tryz.results75, go_sem, r0, r1, r2]) rfl ⟨rfl, ((HW.out.setCell nw _).setCell nw _).setCell nw _⟩
      · have hcut : cut64 s = s.extract 0 s.size := by unfold cut64; rw [Nat.min_eq_left (by omega)]
        rw [hcut]
        clear hcut
        go_enter Tryz.func75, Tryz.ntmps75
        go_wp2_with (go_at_call 119; refine (HCO.out _).mono ?_; clear HCO; rintro e w1 ⟨rfl, hb⟩; obtain ⟨c0, c1, c2⟩ := cthree (HT3.out.1.later hb); obtain ⟨r0, r1, r2⟩ := cthree (HT3.out.2.later hb); have f0 : w1.frozen? ⟨w.heap.size + 1, 0, none⟩ = false := (HT3.out.2.later hb).froz; have f1 : w1.frozen? ⟨w.heap.size + 1, 1, none⟩ = false := (HT3.out.2.later hb).froz; have f2 : w1.frozen? ⟨w.heap.size + 1, 2, none⟩ = false := (HT3.out.2.later hb).froz; have HW : Hid (Below w.heap.size w w1) := below_step (below2 _ _ _) hb; clear hb HT3; simp only at c0 c1 c2)
        exact bodyPost_ret (v := Tm.v ⟨2, 0, s.extract 0 s.size⟩) (by simp [results, Tryz.results75, go_sem, r0, r1, r2]) rfl ⟨rfl, ((HW.out.setCell nw _).setCell nw _).setCell nw _⟩
    · have hs : mkC t = ⟨1, t.n, ⟨#[]⟩⟩ := by unfold mkC; rw [if_neg (by rw [hc]; simp), if_neg h2]
      rw [hs]
      clear hs hc
      obtain ⟨k, n, s⟩ := t
      simp only at h2
      go_enter Tryz.func75, Tryz.ntmps75
      go_wp2_with (go_at_call 119; refine (HCO.out _).mono ?_; clear HCO; rintro e w1 ⟨rfl, hb⟩; obtain ⟨c0, c1, c2⟩ := cthree (HT3.out.1.later hb); obtain ⟨r0, r1, r2⟩ := cthree (HT3.out.2.later hb); have f0 : w1.frozen? ⟨w.heap.size + 1, 0, none⟩ = false := (HT3.out.2.later hb).froz; have f1 : w1.frozen? ⟨w.heap.size + 1, 1, none⟩ = false := (HT3.out.2.later hb).froz; have f2 : w1.frozen? ⟨w.heap.size + 1, 2, none⟩ = false := (HT3.out.2.later hb).froz; have HW : Hid (Below w.heap.size w w1) := below_step (below2 _ _ _) hb; clear hb HT3; simp only at c0 c1 c2)
      exact bodyPost_ret (v := Tm.v ⟨1, n, ⟨#[]⟩⟩) (by simp [results, Tryz.results75, go_sem, r0, r1, r2]) rfl ⟨rfl, ((HW.out.setCell nw _).setCell nw _).setCell nw _⟩
  · rw [hc] at HCO
    have hs : mkC t = t := by unfold mkC; rw [if_pos hc]
    rw [hs]
    clear hs hc
    obtain ⟨k, n, s⟩ := t
    go_enter Tryz.func75, Tryz.ntmps75
    go_wp2_with (go_at_call 119; refine (HCO.out _).mono ?_; clear HCO; rintro e w1 ⟨rfl, hb⟩; obtain ⟨c0, c1, c2⟩ := cthree (HT3.out.1.later hb); obtain ⟨r0, r1, r2⟩ := cthree (HT3.out.2.later hb); have f0 : w1.frozen? ⟨w.heap.size + 1, 0, none⟩ = false := (HT3.out.2.later hb).froz; have f1 : w1.frozen? ⟨w.heap.size + 1, 1, none⟩ = false := (HT3.out.2.later hb).froz; have f2 : w1.frozen? ⟨w.heap.size + 1, 2, none⟩ = false := (HT3.out.2.later hb).froz; have HW : Hid (Below w.heap.size w w1) := below_step (below2 _ _ _) hb; clear hb HT3; simp only at c0 c1 c2)
    exact bodyPost_ret (v := Tm.v ⟨k, n, s⟩) (by simp [results, Tryz.results75, go_sem, r0, r1, r2]) rfl ⟨rfl, ((HW.out.setCell nw _).setCell nw _).setCell nw _⟩

/-- A list of terms in memory that is nil, or has a place. -/
def TsP (w : World) (v : Value) (l : List Tm) : Prop := (v = .slice none 0 0 ∧ l = []) ∨ ∃ ad cap, v = .slice (some ad) l.length cap ∧ (l = [] ∨ ∃ b o, ad = ⟨b, o, none⟩ ∧ TRow w b o l)
theorem TsP.later {w w' : World} {v : Value} {l : List Tm} (h : TsP w v l) (hb : Below w.heap.size w w') : TsP w' v l := by
  rcases h with h | ⟨ad, cap, h1, h2⟩
  · exact Or.inl h
  · refine Or.inr ⟨ad, cap, h1, ?_⟩
    rcases h2 with h2 | ⟨b, o, h2, h3⟩
    · exact Or.inl h2
    · exact Or.inr ⟨b, o, h2, h3.later hb⟩
theorem TsP.ts {w : World} {v : Value} {l : List Tm} (h : TsP w v l) (hl : l.length < 1000000000000000000) : Ts w v l := by
  rcases h with ⟨rfl, rfl⟩ | ⟨ad, cap, rfl, h2⟩
  · exact ⟨none, 0, rfl, by simp, Or.inl rfl⟩
  · refine ⟨some ad, cap, rfl, hl, ?_⟩
    rcases h2 with h2 | ⟨b, o, rfl, h3⟩
    · exact Or.inl h2
    · exact Or.inr ⟨b, o, rfl, h3⟩
theorem OwnT.tsP {w : World} {base : Nat} {v : Value} {l : List Tm} (h : OwnT w base v l) : TsP w v l := by
  have hh := h
  rcases h.2 with ⟨rfl, hn⟩ | ⟨g, cap, cur, rfl, hb, hg, -⟩
  · exact Or.inl ⟨rfl, List.length_eq_zero_iff.1 hn⟩
  · refine Or.inr ⟨_, cap, rfl, Or.inr ⟨g, 0, rfl, (Array.getElem?_eq_some_iff.1 hg).1, fun i t ht => ?_⟩⟩
    simpa using ownT_cells hh i t ht
theorem tcs_app (l m : List Tm) : tcs (l ++ m) = tcs l ++ tcs m := by simp [tcs]
theorem ownT_nil (w : World) (base : Nat) : OwnT w base (.slice none 0 0) [] := World.ownsRow_nil _ _ _ _
theorem grown_below3 {w w' : World} {base : Nat} {v : Value} (hg : w.grownBy w' v.ownBlock) (h : ∀ k, v.ownBlock = some k → base ≤ k) (hb : base ≤ w.heap.size) : Below base w w' :=
  (Below.refl _ _).grown hg hb h
theorem app_terms {ops : Array Oper} {rest : List Oper} {o : Oper} {a : Act} {Q : Exit → Act → World → Prop} {w : World} (hgd : o.guard = none) (s x : Operand)
    (ho : o.op = .call { callee := .builtin .append, args := #[s, x], argTypes := #[24, 24] }) (base : Nat) (v : Value) (l : List Tm) (hs : a.eval s = v) (hown : OwnT w base v l)
    (y : Value) (m : List Tm) (hx : a.eval x = y) (hy : TsP w y m) (hlen : l.length + m.length ≤ 4000000000000) (hbase : base ≤ w.heap.size)
    (h : ∀ v' w', OwnT w' base v' (l ++ m) → Below base w w' → w.grownBy w' v.ownBlock → wpList Tryz.prog ops Q rest (a.put o.dst v') w') : wpList Tryz.prog ops Q (o :: rest) a w := by
  obtain ⟨i0, hi0, hz0, hz1, hz2⟩ := info_parts Tryz.infoTerm
  rcases hy with ⟨rfl, rfl⟩ | ⟨ad, cap, rfl, hm⟩
  · refine wpList_append_own_none hgd s x 24 ho base 23 i0 3 Tryz.underlying24 hi0 v l.length (tcs l) hs hown hx ?_
    refine h v w (by rw [List.append_nil]; exact hown) (Below.refl _ _) ?_
    exact World.grownBy.refl _ _
  · refine wpList_append_own _ hgd s x 24 ho base 23 i0 _ 3 32 Tryz.underlying24 hi0 hz0 hz1 hz2 rfl (by omega) v l.length (tcs l) hs hown ad m.length cap (tcs m) hx (tcs_len m) ?_ (fun u hu => tcs_mem hu) (by unfold maxLen; omega) (by omega) hbase ?_
    · rcases hm with rfl | ⟨b, o', rfl, hm⟩
      · intro j u hu; simp [tcs] at hu
      · exact trow_get hm
    · intro v' w' h1 h2 _
      refine h v' w' ?_ (grown_below3 h2 (fun k hk => (World.ownsRow.lt hown k hk).1) hbase) h2
      unfold OwnT
      rw [List.length_append, tcs_app]
      exact h1
theorem TsP.one {w : World} {b : Nat} {t : Tm} (h : CBlk w b #[.int .i64 t.k, .int .i64 t.n, .string t.s] 23) : TsP w (.slice (some ⟨b, 0, none⟩) 1 1) [t] := by
  refine Or.inr ⟨_, 1, rfl, Or.inr ⟨b, 0, rfl, h.lt, fun i u hu => ?_⟩⟩
  obtain ⟨c0, c1, c2⟩ := cthree h
  cases i with
  | zero => simp at hu; subst hu; exact ⟨c0, c1, c2⟩
  | succ i => simp at hu
theorem TsP.two {w : World} {b : Nat} {t u : Tm} (h : CBlk w b #[.int .i64 t.k, .int .i64 t.n, .string t.s, .int .i64 u.k, .int .i64 u.n, .string u.s] 23) : TsP w (.slice (some ⟨b, 0, none⟩) 2 2) [t, u] := by
  refine Or.inr ⟨_, 2, rfl, Or.inr ⟨b, 0, rfl, h.lt, fun i x hx => ?_⟩⟩
  match i, hx with
  | 0, hx => simp at hx; subst hx; exact ⟨cell_of_row _ _ _ _ _ _ h, cell_of_row _ _ _ _ _ _ h, cell_of_row _ _ _ _ _ _ h⟩
  | 1, hx => simp at hx; subst hx; exact ⟨cell_of_row _ _ _ _ _ _ h, cell_of_row _ _ _ _ _ _ h, cell_of_row _ _ _ _ _ _ h⟩
  | i + 2, hx => simp at hx
theorem OwnT.one {w : World} {b base : Nat} {t : Tm} (h : CBlk w b #[.int .i64 t.k, .int .i64 t.n, .string t.s] 23) (hb : base ≤ b) : OwnT w base (.slice (some ⟨b, 0, none⟩) 1 1) [t] := by
  refine ⟨by simp [tcs, Tm.cs], Or.inr ⟨_, 1, #[.int .i64 t.k, .int .i64 t.n, .string t.s], rfl, hb, h, Nat.le_refl _, by unfold maxLen; omega, by simp, by simp [tcs, Tm.cs]⟩⟩
set_option maxHeartbeats 2000000 in
theorem atomTerms_any (x : At) (v : Value) (w : World) (h : TsP w v x.args) (hl : x.args.length ≤ 3900000000000) :
    Calls Tryz.prog 76 #[x.v v] w fun e w' => ∃ v', e = .returned v' ∧ OwnT w' w.heap.size v' x.pl ∧ Below w.heap.size w w' := by
  have hb2 := below2 w (.cells (At.cs x v) 26) (.cells #[.int .i64 x.by_.k, .int .i64 x.by_.n, .string x.by_.s] 23)
  have g1 := CBlk.new (w.alloc (.cells (At.cs x v) 26)) #[.int .i64 x.by_.k, .int .i64 x.by_.n, .string x.by_.s] 23
  rw [show (w.alloc (.cells (At.cs x v) 26)).heap.size = w.heap.size + 1 by simp] at g1
  have H1 : Hid _ := OwnT.one g1 (show w.heap.size ≤ w.heap.size + 1 by omega)
  have H2 : Hid _ := h.later hb2
  have HB : Hid _ := hb2
  clear hb2 g1 h
  obtain ⟨⟨k, n, ss⟩, nm, l⟩ := x
  simp only [At.cs] at H1 H2 HB hl
  simp only [At.pl]
  go_enter Tryz.func76, Tryz.ntmps76
  go_wp2_with (at_builtin; refine app_terms rfl _ _ rfl w.heap.size (.slice (some ⟨w.heap.size + 1, 0, none⟩) 1 1) [⟨k, n, ss⟩] (by rfl) H1.out v l (by rfl) H2.out (by simp; omega) (by simp; omega) ?_; intro v' w1 hown hb hg)
  go_ret
  exact ⟨_, rfl, hown, HB.out.trans hb⟩
end Go.Proofs.YtllgffmhbddigaaGreat
