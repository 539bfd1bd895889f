/-
  plan: join. (Written by FA7.py.)
-/
import Derived.Test.YtgbiicmkhlnniaaGreatDoorFA6
import Derived.Test.YtgbiicmkhlnniaaGreatDoorV2
namespace Go.Proofs.YtgbiicmkhlnniaaGreatDoor
open Go.RowKit
attribute [local go_sem ↓] Go.wp_at_zero Go.wp_at_succ

theorem row9_ne {w : World} {base base' n n' m m' : Nat} {e e' : TypeId} {v v' : Value} {xs xs' : List Value} (h : w.ownsRow base e n v m xs) (h' : w.ownsRow base' e' n' v' m' xs') (hne : e ≠ e') : ∀ b, v.ownBlock = some b → v'.ownBlock ≠ some b := fun b hb hb' => by
  obtain ⟨c, hc⟩ := row7_blk h hb
  obtain ⟨c', hc'⟩ := row7_blk h' hb'
  exact hne (hc.ty hc')
theorem row9_put {w : World} {base m cap i g : Nat} {e : TypeId} {xs : List Value} (h : w.ownsRow base e 1 (.slice (some ⟨g, 0, none⟩) m cap) m xs) (v : Value) : (w.setCell ⟨g, i, none⟩ v).ownsRow base e 1 (.slice (some ⟨g, 0, none⟩) m cap) m (xs.set i v) := by
  refine ⟨by rw [List.length_set]; exact h.1, ?_⟩
  rcases h.2 with ⟨hv, hn⟩ | ⟨g', cap', cur, hv, hb, hg, hn, hc, hs, ht⟩
  · cases hv
  · simp only [Value.slice.injEq, Option.some.injEq, Addr.mk.injEq, true_and, and_true] at hv
    obtain ⟨rfl, rfl⟩ := hv
    refine Or.inr ⟨g, cap, cur.setIfInBounds i v, rfl, hb, Bk.set hg i v, hn, hc, by rw [Array.size_setIfInBounds]; exact hs, ?_⟩
    rw [Array.toList_setIfInBounds, List.take_set, ht]
/-- These variables are met. -/
def mt9 (met : List Bool) (l : List Int) : List Bool := l.foldl (fun m v => m.set v.toNat true) met
theorem mt9_len (l : List Int) : ∀ met : List Bool, (mt9 met l).length = met.length := by
  induction l with
  | nil => intro met; rfl
  | cons v l ih => intro met; show (mt9 (met.set v.toNat true) l).length = _; rw [ih, List.length_set]
theorem mt9_snoc (met : List Bool) (l : List Int) (v : Int) : mt9 met (l ++ [v]) = (mt9 met l).set v.toNat true := by simp [mt9]
theorem PN9.apart {w0 : World} {g : Nat} {c : Cm} {mv av tv : Value} {met : List Bool} {A T : List Int} {Y : World} (h : PN9 w0 g c mv av tv met A T Y) {x : Nat} (hx : mv.ownBlock = some x ∨ av.ownBlock = some x ∨ tv.ownBlock = some x) : x ≠ g ∧ w0.heap.size ≤ x ∧ x < Y.heap.size := by
  have key : ∀ (e : TypeId) (v : Value) (n : Nat) (xs : List Value), e ≠ 80 → Y.ownsRow w0.heap.size e 1 v n xs → v.ownBlock = some x → x ≠ g ∧ w0.heap.size ≤ x ∧ x < Y.heap.size := fun e v n xs he hr hb => by
    refine ⟨fun hc => ?_, World.ownsRow.lt hr x hb⟩
    obtain ⟨cur, hk⟩ := row7_blk hr hb
    rw [hc] at hk
    exact he (hk.ty h.b)
  rcases hx with hx | hx | hx
  · exact key _ _ _ _ (by decide) h.m hx
  · exact key _ _ _ _ (by decide) h.a hx
  · exact key _ _ _ _ (by decide) h.t hx
theorem PN9.mnea {w0 : World} {g : Nat} {c : Cm} {mv av tv : Value} {met : List Bool} {A T : List Int} {Y : World} (h : PN9 w0 g c mv av tv met A T Y) (x : Nat) (hx : mv.ownBlock = some x) : av.ownBlock ≠ some x ∧ tv.ownBlock ≠ some x := ⟨row9_ne h.m h.a (by decide) x hx, row9_ne h.m h.t (by decide) x hx⟩
/-- The atoms' list is written over, and the planner tells the new one. -/
theorem PN9.atoms {w0 : World} {g : Nat} {c : Cm} {mv av tv av' : Value} {met : List Bool} {A T A' : List Int} {Y W : World} (h : PN9 w0 g c mv av tv met A T Y) (hf : Fr (fun b => av.ownBlock = some b) Y W) (ha : OwI W w0.heap.size av' A') (hs : ∀ b, av'.ownBlock = some b → av.ownBlock = some b) : PN9 w0 g c mv av' tv met A' T (W.setCell ⟨g, 8, none⟩ av') ∧ Fr (fun b => b = g ∨ av.ownBlock = some b) Y (W.setCell ⟨g, 8, none⟩ av') := by
  have hfa : Fr (fun b => b = g ∨ av.ownBlock = some b) Y (W.setCell ⟨g, 8, none⟩ av') := (hf.mono fun b _ hb => Or.inr hb).set (Or.inl (Or.inl rfl))
  have hf2 : Fr (fun b => b = g) W (W.setCell ⟨g, 8, none⟩ av') := (Fr.refl _ _).set (Or.inl rfl)
  have hbg : Bk W g _ _ := h.b.fr hf fun e => (h.apart (Or.inr (Or.inl e))).1 rfl
  refine ⟨⟨?_, row7_fr h.m hfa fun b hb hc => ?_, row7_fr ha hf2 fun b hb e => (h.apart (Or.inr (Or.inl (hs b hb)))).1 e, row7_fr h.t hfa fun b hb hc => ?_, fun x hx e => h.ne x (hs x hx) e, h.ok, h.tp, h.lo, ?_⟩, hfa⟩
  · exact hbg.set 8 av'
  · rcases hc with hc | hc
    · exact (h.apart (Or.inl hb)).1 hc
    · exact (h.mnea b hb).1 hc
  · rcases hc with hc | hc
    · exact (h.apart (Or.inr (Or.inr hb))).1 hc
    · exact h.ne b hc hb
  · refine h.be.trans (Fr.low (hfa.mono (Q := fun b => w0.heap.size ≤ b) fun b _ e => ?_) h.be.size)
    rcases e with rfl | e
    · exact h.lo
    · exact (h.apart (Or.inr (Or.inl e))).2.1
/-- One variable is met. -/
theorem PN9.meet {w0 : World} {g mb mc mn : Nat} {c : Cm} {av tv : Value} {met : List Bool} {A T : List Int} {Y : World} (h : PN9 w0 g c (.slice (some ⟨mb, 0, none⟩) mn mc) av tv met A T Y) (hmn : met.length = mn) {i : Nat} : PN9 w0 g c (.slice (some ⟨mb, 0, none⟩) mn mc) av tv (met.set i true) A T (Y.setCell ⟨mb, i, none⟩ (.bool true)) := by
  subst hmn
  have hf : Fr (fun b => b = mb) Y (Y.setCell ⟨mb, i, none⟩ (.bool true)) := (Fr.refl _ _).set (Or.inl rfl)
  have hm := h.apart (x := mb) (Or.inl rfl)
  refine ⟨h.b.fr hf fun e => hm.1 e.symm, ?_, row7_fr h.a hf fun b hb e => (h.mnea mb rfl).1 (by rw [← e]; exact hb), row7_fr h.t hf fun b hb e => (h.mnea mb rfl).2 (by rw [← e]; exact hb), h.ne, h.ok, h.tp, h.lo, h.be.trans (Fr.low (hf.mono (Q := fun b => w0.heap.size ≤ b) fun b _ e => by rw [e]; exact hm.2.1) h.be.size)⟩
  have := row9_put (i := i) h.m (.bool true)
  unfold OwB
  rw [List.length_set, List.map_set]
  exact this
theorem PN9.off {w0 : World} {g : Nat} {c : Cm} {mv av tv : Value} {met : List Bool} {A T : List Int} {Y Y' : World} (h : PN9 w0 g c mv av tv met A T Y) {k : Nat} {cur : Array Value} (hk : Bk Y k cur 57) (hlo : w0.heap.size ≤ k) (hf : Fr (fun b => b = k) Y Y') : PN9 w0 g c mv av tv met A T Y' := by
  have key : ∀ (e : TypeId) (v : Value) (n : Nat) (xs : List Value), e ≠ 57 → Y.ownsRow w0.heap.size e 1 v n xs → Y'.ownsRow w0.heap.size e 1 v n xs := fun e v n xs he hr => row7_fr hr hf fun b hb hc => by
    obtain ⟨cur', hk'⟩ := row7_blk hr hb
    rw [hc] at hk'
    exact he (hk'.ty hk)
  refine ⟨h.b.fr hf fun e => ?_, key _ _ _ _ (by decide) h.m, key _ _ _ _ (by decide) h.a, key _ _ _ _ (by decide) h.t, h.ne, h.ok, h.tp, h.lo, h.be.trans (Fr.low (hf.mono (Q := fun b => w0.heap.size ≤ b) fun b _ e => by rw [e]; exact hlo) h.be.size)⟩
  have hb := h.b
  rw [e] at hb
  exact absurd (hb.ty hk) (by decide)
theorem vs_in9 (P : List Tm) : ∀ x ∈ vs P, ∃ t ∈ P, t.var = true ∧ t.n = x := by
  have key : ∀ (s : List Tm) (l : List Int), ∀ x ∈ List.foldl vS l s, x ∈ l ∨ ∃ t ∈ s, t.var = true ∧ t.n = x := by
    intro s
    induction s with
    | nil => intro l x hx; exact Or.inl hx
    | cons d s ih =>
      intro l x hx
      rcases ih (vS l d) x hx with h | ⟨t, ht, h⟩
      · unfold vS at h
        split at h
        · rename_i hd
          split at h
          · exact Or.inl h
          · rcases List.mem_append.1 h with h | h
            · exact Or.inl h
            · exact Or.inr ⟨d, List.mem_cons_self .., hd, (List.mem_singleton.1 h).symm⟩
        · exact Or.inl h
      · exact Or.inr ⟨t, List.mem_cons_of_mem _ ht, h⟩
  intro x hx
  rcases key P [] x hx with h | h
  · cases h
  · exact h
/-- What join leaves. -/
def JQ9 (w0 : World) (g : Nat) (c : Cm) (mv av : Value) (met : List Bool) (A T : List Int) (n : Nat) (P : List Tm) (Y : World) (e : Ending) (Y' : World) : Prop :=
  ∃ kv rv av' tv', e = .returned (.agg #[.int .i64 (n : Int), kv, rv]) ∧ OwI Y' Y.heap.size kv (kc9 met P P.length) ∧ TL9 Y' Y.heap.size rv tv' (T.filter (tk9 c (mt9 met (vs P)))) (T.filter fun m => !tk9 c (mt9 met (vs P)) m) ∧ (∀ x, kv.ownBlock = some x → rv.ownBlock ≠ some x ∧ tv'.ownBlock ≠ some x) ∧
    PN9 w0 g c mv av' tv' (mt9 met (vs P)) (A.filter fun x => !decide (x = (n : Int))) (T.filter fun m => !tk9 c (mt9 met (vs P)) m) Y' ∧ Fr (fun b => b = g ∨ mv.ownBlock = some b ∨ av.ownBlock = some b) Y Y' ∧ ∀ b, av'.ownBlock = some b → av.ownBlock = some b
set_option maxRecDepth 20000 in
set_option maxHeartbeats 4000000 in
theorem join9_any (w0 : World) (g : Nat) (c : Cm) (mv av tv : Value) (met : List Bool) (A T : List Int) (Y : World) (h : PN9 w0 g c mv av tv met A T Y) (n : Nat) (x : At × Value) (hx : c.body[n]? = some x) (hv : Vn9 met.length x.1.pl) (hT : ∀ n ∈ T, ∃ (i : Nat) (t : Te), n = (i : Int) ∧ c.tests[i]? = some t) (hvt : ∀ t ∈ c.tests, Vn9 met.length [t.l, t.r]) (hl : T.length ≤ 1000000) (hA : A.length ≤ 1000000) :
    Calls Tryz.prog 34 #[.pointer (some ⟨g, 0, none⟩), .int .i64 (n : Int)] Y (JQ9 w0 g c mv av met A T n x.1.pl Y) := by
  obtain ⟨ma, mc, hmv, -⟩ := row7_form h.m
  obtain ⟨mn, hmn⟩ : ∃ mn, met.length = mn := ⟨_, rfl⟩
  rw [hmn] at hmv
  have HMN := hm7 hmn
  clear hmn
  subst hmv
  have H := hm7 h
  have hbs : As w0 c.bv c.body := h.ok.b
  have hbf : ∃ ba bc, c.bv = .slice ba c.body.length bc := by obtain ⟨ba, bc, e, -⟩ := hbs; exact ⟨ba, bc, e⟩
  obtain ⟨za, zc, hbv⟩ := hbf
  rw [hbv] at hbs
  obtain ⟨bb, bo, ax, cx, hba, hax, hcs⟩ := As.get9 hbs hx
  subst hba
  have HCS := hm7 hcs
  have HBV := hm7 hbv
  have HAX := hm7 hax
  obtain ⟨tp, hal⟩ := h.tp x (List.mem_of_getElem? hx)
  have HTP := hm7 tp
  clear hbs hbv hax hcs tp
  obtain ⟨Y0, hY0⟩ : ∃ Y0, (Y.alloc (.cells #[.int .i64 (n : Int)] 3)).alloc (.cells #[.int .i64 0, .slice none 0 0, .slice none 0 0] 57) = Y0 := ⟨_, rfl⟩
  obtain ⟨b1, b0, hb0⟩ := two8 Y #[.int .i64 (n : Int)] #[.int .i64 0, .slice none 0 0, .slice none 0 0] 3 57
  rw [hY0] at b1 b0 hb0
  have HB0 := hm7 hb0
  have HQ0 := hm7 b0
  have HR0 := hm7 b1
  obtain ⟨q, hq⟩ : ∃ q, q = Y.heap.size := ⟨_, rfl⟩
  have hz0 : Y0.heap.size = q + 2 := by rw [← hY0, hq]; simp
  rw [← hq] at HQ0 HR0
  have HP0 := hm7 (h.below hb0)
  have HKC := hm7 (kcols9_any w0 g c (.slice ma mn mc) av tv met A T Y0 (h.below hb0) n x hx hv)
  have HVP := hm7 hv
  have HTT := hm7 (And.intro hT (And.intro hvt hl))
  have HXX := hm7 hx
  have hgq : g < q := by rw [hq]; exact h.b.lt
  have HGQ := hm7 hgq
  have d0 : Y0.cell? ⟨q, 0, none⟩ = some (.int .i64 (n : Int)) := HQ0.out.cell rfl
  have HQE := hm7 hq
  clear h hb0 b0 b1 hv hT hvt hx
  go_enter Tryz.func34, Tryz.ntmps34
  go_upto_region 1 with fail
  first | rw [hY0] | skip
  first | rw [← hq] | skip
  clear hq hY0
  go_upto_region 2 with (go_at_call 57; refine HKC.out.mono ?_; rintro e W1 ⟨kv, rfl, hk, hb⟩; have HK1 := hm7 hk; have HB1 := hm7 hb; have hz1 := hb.size; clear hk hb HKC d0)
  obtain ⟨ka, kcp, hkv, -⟩ := row7_form HK1.out
  obtain ⟨kn, hkn⟩ : ∃ kn, (kc9 met x.1.pl x.1.pl.length).length = kn := ⟨_, rfl⟩
  rw [hkn] at hkv
  clear hkn
  subst hkv
  have HP1 := hm7 (HP0.out.below HB1.out)
  have HQ1 := hm7 (HQ0.out.below HB1.out)
  have HR1 := hm7 (HR0.out.below HB1.out)
  have e8 := HP1.out.b.cell (i := 8) rfl
  have HDF := hm7 (delf9_any (n : Int) q w0.heap.size av A W1 HP1.out.a (HQ1.out.cell (i := 0) rfl) (fun e => by have h1 := (H.out.apart (Or.inr (Or.inl e))).2.2; have h2 := HQE.out; omega) HQ1.out.lt hA)
  obtain ⟨aa, ac, hav, -⟩ := row7_form HP1.out.a
  obtain ⟨an, han⟩ : ∃ an, A.length = an := ⟨_, rfl⟩
  rw [han] at hav
  subst hav
  have h8f := HP1.out.b.froz 8
  go_upto_region 3 with (go_at_call 58; refine HDF.out.mono ?_; rintro e W2 ⟨av', rfl, ha2, hf2, hs2⟩; obtain ⟨ba, bc2, hav2, -⟩ := row7_form ha2; obtain ⟨bn2, hbn2⟩ : ∃ bn2, (A.filter fun x => !decide (x = (n : Int))).length = bn2 := ⟨_, rfl⟩; rw [hbn2] at hav2; subst hav2; have HS2 := hm7 hs2; have HPA := hm7 (HP1.out.atoms hf2 ha2 hs2); have HQ2 := hm7 (HQ1.out.fr hf2 (fun e => by have h1 := (H.out.apart (Or.inr (Or.inl e))).2.2; have h2 := HQE.out; omega)); have HR2 := hm7 (HR1.out.fr hf2 (fun e => by have h1 := (H.out.apart (Or.inr (Or.inl e))).2.2; have h2 := HQE.out; omega)); have HK2 := hm7 (row7_fr HK1.out hf2 (fun b hb e => by have h1 := (World.ownsRow.lt HK1.out b hb).1; have h2 := (H.out.apart (Or.inr (Or.inl e))).2.2; have h3 := HQE.out; omega)); have g8 := (HP1.out.b.fr hf2 (fun e => (HP1.out.apart (Or.inr (Or.inl e))).1 rfl)).cell (i := 8) rfl; have g8f := (HP1.out.b.fr hf2 (fun e => (HP1.out.apart (Or.inr (Or.inl e))).1 rfl)).froz 8; have hz2 := hf2.size; clear ha2 hf2 hs2 e8 h8f)
  have HS3 := hm7 ((Fr.refl (fun b => b = g) W2).set (i := 8) (v := .slice ba bn2 bc2) (Or.inl rfl))
  have HQ3 := hm7 (HQ2.out.fr HS3.out (fun e => by have := HGQ.out; omega))
  have HR3 := hm7 (HR2.out.fr HS3.out (fun e => by have := HGQ.out; omega))
  have HK3 := hm7 (row7_fr HK2.out HS3.out (fun b hb e => by have h1 := (World.ownsRow.lt HK2.out b hb).1; have := HGQ.out; omega))
  have hz3 := HS3.out.size
  obtain ⟨W3, hW3⟩ : ∃ W3, W2.setCell ⟨g, 8, none⟩ (.slice ba bn2 bc2) = W3 := ⟨_, rfl⟩
  rw [hW3] at HPA HQ3 HR3 HK3 hz3 ⊢
  clear hW3 HS3 HQ2 HR2 HK2 g8 g8f HDF
  have HY3 : Hid (Fr (fun b => b = g ∨ Value.ownBlock (.slice aa an ac) = some b) Y W3) := Fr.trans (Fr.of (HB0.out.trans (HB1.out.mono HB0.out.size))) HPA.out.2 fun _ _ hc => hc
  have HP3 := hm7 HPA.out.1
  clear HPA
  have HX3 : Hid (∀ w' : World, Below W3.heap.size W3 w' → Below w0.heap.size w0 w') := fun w' hw => HP3.out.be.trans (hw.mono HP3.out.be.size)
  have HCQ : Hid (∀ w' : World, Below W3.heap.size W3 w' → w'.cell? ⟨q, 0, none⟩ = some (.int .i64 (n : Int))) := fun w' hw => (HQ3.out.below hw).cell rfl
  obtain ⟨bn, hbn⟩ : ∃ bn, c.body.length = bn := ⟨_, rfl⟩
  have HC5 : Hid (∀ w' : World, Below W3.heap.size W3 w' → w'.cell? ⟨g, 5, none⟩ = some (.slice (some ⟨bb, bo, none⟩) bn zc)) := fun w' hw => by
    have := (HP3.out.below hw).b.cell (i := 5) rfl
    rw [this]
    show some c.bv = _
    rw [HBV.out, hbn]
  have hnl : n < bn := by rw [← hbn]; exact (List.getElem?_eq_some_iff.1 HXX.out).1
  have n0 : (0 : Int) ≤ (n : Int) := by omega
  have n1 : (n : Int) < (bn : Int) := by omega
  have HVA : Hid (∀ w' : World, Below W3.heap.size W3 w' → Calls Tryz.prog 60 #[x.1.v x.2] w' fun e w'' => ∃ v', e = .returned v' ∧ OwnI w'' w'.heap.size v' (vs x.1.pl) ∧ Below w'.heap.size w' w'') := fun w' hw => tvars_any x.1 x.2 w' ((HTP.out.later (HX3.out w' hw)).ts (by omega)) (by omega)
  have HXA : Hid (∀ w' : World, Below W3.heap.size W3 w' → w'.cell? ⟨bb, bo + n * 5, none⟩ = some (.int .i64 x.1.by_.k) ∧ w'.cell? ⟨bb, bo + n * 5 + 1, none⟩ = some (.int .i64 x.1.by_.n) ∧ w'.cell? ⟨bb, bo + n * 5 + 2, none⟩ = some (.string x.1.by_.s) ∧ w'.cell? ⟨bb, bo + n * 5 + 3, none⟩ = some (.string x.1.name) ∧ w'.cell? ⟨bb, bo + n * 5 + 4, none⟩ = some x.2) := fun w' hw => HCS.out w' (HX3.out w' hw)
  have HPL : Hid (x.1.pl.length ≤ 1000001) := by show _ ≤ _; simp [At.pl]; omega
  obtain ⟨⟨⟨kx, mx, sx⟩, nx, lx⟩, vx⟩ := x
  simp only at HAX HXA HVA HVP HPL HK3 ⊢
  have hax := HAX.out
  subst hax
  obtain ⟨P, hP⟩ : ∃ P, (At.mk ⟨kx, mx, sx⟩ nx lx).pl = P := ⟨_, rfl⟩
  rw [hP] at HVA HVP HPL HK3 ⊢
  have HVC : Hid (∀ w' : World, Below W3.heap.size W3 w' → Calls Tryz.prog 60 #[.agg #[.int .i64 kx, .int .i64 mx, .string sx, .string nx, .slice ax lx.length cx]] w' fun e w'' => ∃ v', e = .returned v' ∧ OwI w'' w'.heap.size v' (vs P) ∧ Below w'.heap.size w' w'') := HVA.out
  have HPE := hm7 hP
  clear HVA hP HAX hbn hal
  refine wp_region_held_drew (S := fun w' => Below W3.heap.size W3 w') (by kernel_rfl) (by exact (Below.refl _ _).drew) (fun hH => ?_)
  revert hH
  generalize W3.drew = V
  intro hH
  refine wpAnyH_take (i := 0) (oi := ⟨_, _, _, _, _, _⟩) (v := .pointer (some ⟨g, 0, none⟩)) rfl (by kernel_rfl) (by kernel_rfl) (by kernel_rfl) (fun _ _ _ h => h) (Or.inl ⟨by rfl, fun w' h => by clear h; go_simp⟩) hH ?_
  simp only [Act.put, List.setIfInBounds_toArray, List.set_cons_zero, List.set_cons_succ]
  refine wpAnyH_take (i := 1) (oi := ⟨_, _, _, _, _, _⟩) (v := .pointer (some ⟨g, 0, none⟩)) rfl (by kernel_rfl) (by kernel_rfl) (by kernel_rfl) (fun _ _ _ h => h) (Or.inl ⟨by rfl, fun w' h => by clear h; go_simp⟩) hH ?_
  simp only [Act.put, List.setIfInBounds_toArray, List.set_cons_zero, List.set_cons_succ]
  refine wpAnyH_take (i := 2) (oi := ⟨_, _, _, _, _, _⟩) (v := .pointer (some ⟨g, 0, none⟩)) rfl (by kernel_rfl) (by kernel_rfl) (by kernel_rfl) (fun _ _ _ h => h) (Or.inl ⟨by rfl, fun w' h => by clear h; go_simp⟩) hH ?_
  simp only [Act.put, List.setIfInBounds_toArray, List.set_cons_zero, List.set_cons_succ]
  refine wpAnyH_take (i := 3) (oi := ⟨_, _, _, _, _, _⟩) (v := .pointer (some ⟨g, 5, none⟩)) rfl (by kernel_rfl) (by kernel_rfl) (by kernel_rfl) (fun _ _ _ h => h) (Or.inl ⟨by rfl, fun w' h => by clear h; go_simp⟩) hH ?_
  simp only [Act.put, List.setIfInBounds_toArray, List.set_cons_zero, List.set_cons_succ]
  refine wpAnyH_take (i := 4) (oi := ⟨_, _, _, _, _, _⟩) (v := .slice (some ⟨bb, bo, none⟩) bn zc) rfl (by kernel_rfl) (by kernel_rfl) (by kernel_rfl) (fun _ _ _ h => h) (Or.inl ⟨by rfl, fun w' h => by have o := HC5.out w' h; clear h; go_simp⟩) hH ?_
  simp only [Act.put, List.setIfInBounds_toArray, List.set_cons_zero, List.set_cons_succ]
  refine wpAnyH_take (i := 5) (oi := ⟨_, _, _, _, _, _⟩) (v := .int .i64 (n : Int)) rfl (by kernel_rfl) (by kernel_rfl) (by kernel_rfl) (fun _ _ _ h => h) (Or.inl ⟨by rfl, fun w' h => by have o := HCQ.out w' h; clear h; go_simp⟩) hH ?_
  simp only [Act.put, List.setIfInBounds_toArray, List.set_cons_zero, List.set_cons_succ]
  refine wpAnyH_take (i := 6) (oi := ⟨_, _, _, _, _, _⟩) (v := .pointer (some ⟨bb, bo + n * 5, none⟩)) rfl (by kernel_rfl) (by kernel_rfl) (by kernel_rfl) (fun _ _ _ h => h) (Or.inl ⟨by rfl, fun w' h => by clear h; go_simp⟩) hH ?_
  simp only [Act.put, List.setIfInBounds_toArray, List.set_cons_zero, List.set_cons_succ]
  refine wpAnyH_take (i := 7) (oi := ⟨_, _, _, _, _, _⟩) (v := .agg #[.int .i64 kx, .int .i64 mx, .string sx, .string nx, .slice ax lx.length cx]) rfl (by kernel_rfl) (by kernel_rfl) (by kernel_rfl) (fun _ _ _ h => h) (Or.inl ⟨by rfl, fun w' h => by obtain ⟨p0, p1, p2, p3, p4⟩ := HXA.out w' h; clear h; go_simp⟩) hH ?_
  simp only [Act.put, List.setIfInBounds_toArray, List.set_cons_zero, List.set_cons_succ]
  refine wpAnyH_take (i := 10) (oi := ⟨_, _, _, _, _, _⟩) (v := .int .i64 0) rfl (by kernel_rfl) (by kernel_rfl) (by kernel_rfl) (fun _ _ _ h => h) (Or.inl ⟨by rfl, fun w' h => by clear h; go_simp⟩) hH ?_
  simp only [Act.put, List.setIfInBounds_toArray, List.set_cons_zero, List.set_cons_succ]
  refine wpAnyH_ready (rs := [8]) (by kernel_rfl) (by simp) ?_
  refine (AllReadyH.cons (o := ⟨_, _, _, _, _, _⟩) rfl (fun K hK => ?_) AllReadyH.nil)
  go_simp
  refine (HVC.out _ hH).mono ?_
  rintro e V1 ⟨vv, rfl, hov, hb⟩
  have HOV := hm7 hov
  have hzV := hH.size
  have hzW := hb.size
  obtain ⟨wa, wc, hwv, -⟩ := row7_form hov
  subst hwv
  refine hK.out _ _ (hH.trans (hb.mono hH.size)) (fun hH => ?_)
  clear hK hb hov
  try simp only [Act.put, List.setIfInBounds_toArray, List.set_cons_zero, List.set_cons_succ]
  refine wpAnyH_take (i := 9) (oi := ⟨_, _, _, _, _, _⟩) (v := .int .i64 ((vs P).length : Int)) rfl (by kernel_rfl) (by kernel_rfl) (by kernel_rfl) (fun _ _ _ h => h) (Or.inl ⟨by rfl, fun w' h => by clear h; go_simp⟩) hH ?_
  simp only [Act.put, List.setIfInBounds_toArray, List.set_cons_zero, List.set_cons_succ]
  refine wpAnyH_done (by kernel_rfl) ?_ _
  have HV := hm7 hH
  clear hH
  have HP4 := hm7 (HP3.out.below HV.out)
  have HQ4 := hm7 (HQ3.out.below HV.out)
  have HR4 := hm7 (HR3.out.below HV.out)
  have HK4 := hm7 (row7_below HK3.out HV.out)
  have HY4 := hm7 (HY3.out.then HV.out)
  clear HP3 HQ3 HR3 HK3 HY3 HVC HXA HC5 HCQ
  have hvl : (vs P).length ≤ 1000001 := Nat.le_trans (vs_len P) HPL.out
  go_upto_region 4 with fail
  go_loopg [30, 7] (vs P).length (fun gg i _ wr => ∃ j : Nat, j + gg = (vs P).length ∧ i = .int .i64 j ∧ PN9 w0 g c (.slice ma mn mc) (.slice ba bn2 bc2) tv (mt9 met ((vs P).take j)) (A.filter fun x => !decide (x = (n : Int))) T wr ∧ Fr (fun b => Value.ownBlock (.slice ma mn mc) = some b) V1 wr)
  case atStart => exact ⟨0, by omega, rfl, HP4.out, Fr.refl _ _⟩
  case round =>
    obtain ⟨j, hj, rfl, hp, hf⟩ := hrel
    have HP5 := hm7 hp
    have HF5 := hm7 hf
    have HOM : ∀ b, Value.ownBlock (.slice ma mn mc) = some b → b < q := fun b e => by have h1 := (H.out.apart (Or.inl e)).2.2; have h2 := HQE.out; omega
    cases gk with
    | succ gg =>
      have hlt : (j : Int) < ((vs P).length : Int) := by omega
      have j0 : (0 : Int) ≤ (j : Int) := by omega
      obtain ⟨v, hv⟩ : ∃ v, (vs P)[j]? = some v := ⟨_, List.getElem?_eq_getElem (by omega)⟩
      obtain ⟨t, ht, htv, htn⟩ := vs_in9 P v (List.mem_of_getElem? hv)
      obtain ⟨i, hti, hil⟩ := HVP.out t ht htv
      obtain rfl : v = (i : Int) := by rw [← htn, hti]
      rw [HMN.out] at hil
      have HTK : Hid ((vs P).take (j + 1) = (vs P).take j ++ [(i : Int)]) := by show _ = _; rw [List.take_add_one, hv]; rfl
      obtain ⟨wb, hwb, hwl, hwz, q0, -⟩ := row7_at HOV.out (i := j) (u := .int .i64 (i : Int)) (by simp only [ibs7, List.getElem?_map, hv]; rfl)
      subst hwb
      have q1 := hf.cell hwz (fun e => by have := HOM _ e; omega) q0
      have hmr : wr.ownsRow w0.heap.size 4 1 (.slice ma mn mc) mn ((mt9 met ((vs P).take j)).map Value.bool) := by have := hp.m; unfold OwB at this; rw [mt9_len, HMN.out] at this; exact this
      obtain ⟨mb, hmb, -, hml, m0, m1⟩ := row7_at hmr (i := i) (u := .bool ((mt9 met ((vs P).take j))[i]'(by rw [mt9_len, HMN.out]; exact hil))) (by rw [List.getElem?_map, List.getElem?_eq_getElem]; rfl)
      subst hmb
      have p7 := hp.b.cell (i := 7) rfl
      have i0 : (0 : Int) ≤ (i : Int) := by omega
      have i1 : (i : Int) < (mn : Int) := by omega
      have HPN := hm7 (hp.meet (by rw [mt9_len]; exact HMN.out) (i := i))
      have HFN := hm7 (hf.set (g := mb) (i := i) (v := .bool true) (Or.inl rfl))
      clear hp hf hv ht htv htn hti q0 hmr
      go_wp2
      go_roundg gg
      case measure => omega
      case rel => exact ⟨j + 1, by omega, by go_num, by rw [HTK.out, mt9_snoc, Int.toNat_natCast]; exact HPN.out, HFN.out⟩
    | zero =>
      have hlt : ¬ (j : Int) < ((vs P).length : Int) := by omega
      obtain rfl : j = (vs P).length := by omega
      rw [List.take_length] at HP5
      have HQ5 := hm7 (HQ4.out.fr HF5.out fun e => by have := HOM _ e; omega)
      have HR5 := hm7 (HR4.out.fr HF5.out fun e => by have := HOM _ e; omega)
      have HK5 := hm7 (row7_fr HK4.out HF5.out fun b hb e => by have h1 := (World.ownsRow.lt HK4.out b hb).1; have := HOM _ e; omega)
      have HY5 : Hid (Fr (fun b => b = g ∨ Value.ownBlock (.slice ma mn mc) = some b ∨ Value.ownBlock (.slice aa an ac) = some b) Y wr) := (HY4.out.mono fun b _ e => e.elim Or.inl fun e => Or.inr (Or.inr e)).trans HF5.out fun _ _ e => Or.inr (Or.inl e)
      have hz5 : q + 2 ≤ wr.heap.size := by have := HR5.out.lt; omega
      have HRD : Hid (∀ X : World, PN9 w0 g c (.slice ma mn mc) (.slice ba bn2 bc2) tv (mt9 met (vs P)) (A.filter fun x => !decide (x = (n : Int))) T X → Calls Tryz.prog 33 #[.pointer (some ⟨g, 0, none⟩)] X (RQ9x w0 g c (.slice ma mn mc) (.slice ba bn2 bc2) (mt9 met (vs P)) (A.filter fun x => !decide (x = (n : Int))) T X)) := fun X hX => ready9_any w0 g c _ _ tv _ _ T X hX HTT.out.1 (by rw [mt9_len]; exact HTT.out.2.1) HTT.out.2.2
      clear hp hf HF5 HK4 HQ4 HR4 HY4 HP4 hj
      go_upto_region 8 with fail
      refine wp_region_held_drew (S := fun w' => Bk w' q #[.int .i64 (n : Int)] 3) (by kernel_rfl) (by exact HQ5.out.below (Below.refl _ _).drew) (fun hH => ?_)
      have HRV := hm7 (HR5.out.below (Below.refl _ _).drew)
      have HPV := hm7 (HP5.out.below (Below.refl _ _).drew)
      have HKV := hm7 (row7_below HK5.out (Below.refl _ _).drew)
      have HFV := hm7 (HY5.out.then (Below.refl _ _).drew)
      have hzv : q + 2 ≤ wr.drew.heap.size := hz5
      clear HR5 HP5 HK5 HY5 HQ5
      revert hH HPV HKV HFV hzv HRV
      generalize wr.drew = V8
      intro hH HRV HPV HKV HFV hzv
      refine wpAnyH_take (i := 0) (oi := ⟨_, _, _, _, _, _⟩) (v := .int .i64 (n : Int)) rfl (by kernel_rfl) (by kernel_rfl) (by kernel_rfl) (fun _ _ _ h => h) (Or.inl ⟨by rfl, fun w' h => by have o := h.cell (i := 0) rfl; clear h; go_simp⟩) hH ?_
      simp only [Act.put, List.setIfInBounds_toArray, List.set_cons_zero, List.set_cons_succ]
      refine wpAnyH_take (i := 1) (oi := ⟨_, _, _, _, _, _⟩) (v := .slice ka kn kcp) rfl (by kernel_rfl) (by kernel_rfl) (by kernel_rfl) (fun _ _ _ h => h) (Or.inl ⟨by rfl, fun w' h => by clear h; go_simp⟩) hH ?_
      simp only [Act.put, List.setIfInBounds_toArray, List.set_cons_zero, List.set_cons_succ]
      refine wpAnyH_take (i := 2) (oi := ⟨_, _, _, _, _, _⟩) (v := .pointer (some ⟨g, 0, none⟩)) rfl (by kernel_rfl) (by kernel_rfl) (by kernel_rfl) (fun _ _ _ h => h) (Or.inl ⟨by rfl, fun w' h => by clear h; go_simp⟩) hH ?_
      simp only [Act.put, List.setIfInBounds_toArray, List.set_cons_zero, List.set_cons_succ]
      refine wpAnyH_ready (rs := [3]) (by kernel_rfl) (by simp) ?_
      refine (AllReadyH.cons (o := ⟨_, _, _, _, _, _⟩) rfl (fun K hK => ?_) AllReadyH.nil)
      go_simp
      refine (HRD.out V8 HPV.out).mono ?_
      rintro e V9 ⟨rv, tv', rfl, htl, hpn, hfr⟩
      have HTL := hm7 htl
      have HPN := hm7 hpn
      have HFR := hm7 hfr
      have HR9 := hm7 (HRV.out.fr hfr (fun e => by have := HGQ.out; omega))
      have HK9 := hm7 (row7_fr HKV.out hfr (fun b hb e => by have h1 := (World.ownsRow.lt HKV.out b hb).1; have := HGQ.out; omega))
      have HF9 := hm7 (HFV.out.trans hfr fun _ _ e => Or.inl e)
      refine hK.out _ _ (hH.fr hfr (fun e => by have := HGQ.out; omega)) (fun hH => ?_)
      clear hK htl hpn hfr
      obtain ⟨ra, rc, hrv, -⟩ := row7_form HTL.out.a
      obtain ⟨rn, hrn⟩ : ∃ rn, (T.filter (tk9 c (mt9 met (vs P)))).length = rn := ⟨_, rfl⟩
      rw [hrn] at hrv
      subst hrv
      try simp only [Act.put, List.setIfInBounds_toArray, List.set_cons_zero, List.set_cons_succ]
      refine wpAnyH_take (i := 4) (oi := ⟨_, _, _, _, _, _⟩) (v := .agg #[.int .i64 (n : Int), .slice ka kn kcp, .slice ra rn rc]) rfl (by kernel_rfl) (by kernel_rfl) (by kernel_rfl) (fun _ _ _ h => h) (Or.inl ⟨by rfl, fun w' h => by clear h; go_simp⟩) hH ?_
      simp only [Act.put, List.setIfInBounds_toArray, List.set_cons_zero, List.set_cons_succ]
      refine wpAnyH_ready (rs := [5]) (by kernel_rfl) (by simp) ?_
      refine (AllReadyH.cons (o := ⟨_, _, _, _, _, _⟩) rfl (fun K hK => ?_) AllReadyH.nil)
      have o0 := HR9.out.cell (i := 0) rfl
      have o1 := HR9.out.cell (i := 1) rfl
      have o2 := HR9.out.cell (i := 2) rfl
      have y0 := HR9.out.froz 0
      have y1 := HR9.out.froz 1
      have y2 := HR9.out.froz 2
      go_simp
      clear o0 o1 o2 y0 y1 y2
      have HFS := hm7 ((((Fr.refl (fun b => b = q + 1) V9).set (i := 0) (v := .int .i64 (n : Int)) (Or.inl rfl)).set (i := 1) (v := .slice ka kn kcp) (Or.inl rfl)).set (i := 2) (v := .slice ra rn rc) (Or.inl rfl))
      refine hK.out _ _ (hH.fr HFS.out (fun e => by omega)) (fun hH => ?_)
      clear hK K
      have HRZ := hm7 (((HR9.out.set 0 (.int .i64 (n : Int))).set 1 (.slice ka kn kcp)).set 2 (.slice ra rn rc))
      revert hH HFS HRZ
      generalize ((V9.setCell ⟨q + 1, 0, none⟩ (.int .i64 (n : Int))).setCell ⟨q + 1, 1, none⟩ (.slice ka kn kcp)).setCell ⟨q + 1, 2, none⟩ (.slice ra rn rc) = V10
      intro HFS hH HRZ
      refine wpAnyH_done (by kernel_rfl) ?_ _
      clear hH
      have o0 := HRZ.out.cell (i := 0) rfl
      have o1 := HRZ.out.cell (i := 1) rfl
      have o2 := HRZ.out.cell (i := 2) rfl
      go_wp2
      refine bodyPost_ret (v := .agg #[.int .i64 (n : Int), .slice ka kn kcp, .slice ra rn rc]) (by simp [results, Tryz.results34, go_sem, o0, o1, o2]) rfl ?_
      rw [HPE.out]
      refine ⟨.slice ka kn kcp, .slice ra rn rc, .slice ba bn2 bc2, tv', rfl, ?_, ⟨?_, ?_, HTL.out.ne⟩, fun x hx => ⟨fun e => ?_, fun e => ?_⟩, HPN.out.off HR9.out ?_ HFS.out, (HF9.out.trans (HFS.out.mono (Q := fun b => b = q + 1) fun _ _ e => e) fun b hb e => ?_), HS2.out⟩
      · exact OwI.mono (row7_fr HK9.out HFS.out (fun b hb e => by have h1 := (World.ownsRow.lt HK9.out b hb).1; omega)) (by have := HQE.out; omega)
      · exact OwI.mono (row7_fr HTL.out.a HFS.out (fun b hb e => by have h1 := (World.ownsRow.lt HTL.out.a b hb).1; omega)) (by have := HQE.out; omega)
      · exact OwI.mono (row7_fr HTL.out.b HFS.out (fun b hb e => by have h1 := (World.ownsRow.lt HTL.out.b b hb).1; omega)) (by have := HQE.out; omega)
      · have h1 := (World.ownsRow.lt HKV.out x hx).2
        have h2 := (World.ownsRow.lt HTL.out.a x e).1
        omega
      · have h1 := (World.ownsRow.lt HKV.out x hx).2
        have h2 := (World.ownsRow.lt HTL.out.b x e).1
        omega
      · have h1 := H.out.be.size
        have h2 := HQE.out
        omega
      · have h2 := HQE.out
        omega
end Go.Proofs.YtgbiicmkhlnniaaGreatDoor
