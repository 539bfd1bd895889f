/-
  plan: ready.
-/
import Derived.Test.YtgbiicmkhlnniaaGreatDoorFA3
namespace Go.Proofs.YtgbiicmkhlnniaaGreatDoor
open Go.RowKit
attribute [local go_sem ↓] Go.wp_at_zero Go.wp_at_succ

/-- Two lists of numbers, each in a block of its own. -/
structure TL9 (w : World) (base : Nat) (v1 v2 : Value) (l1 l2 : List Int) : Prop where
  a : OwI w base v1 l1
  b : OwI w base v2 l2
  ne : ∀ x, v1.ownBlock = some x → v2.ownBlock ≠ some x
theorem TL9.below {w w' : World} {base : Nat} {v1 v2 : Value} {l1 l2 : List Int} (h : TL9 w base v1 v2 l1 l2) (hb : Below w.heap.size w w') : TL9 w' base v1 v2 l1 l2 := ⟨row7_below h.a hb, row7_below h.b hb, h.ne⟩
theorem TL9.swap {w : World} {base : Nat} {v1 v2 : Value} {l1 l2 : List Int} (h : TL9 w base v1 v2 l1 l2) : TL9 w base v2 v1 l2 l1 := ⟨h.b, h.a, fun x h1 h2 => h.ne x h2 h1⟩
theorem TL9.app {w w' : World} {base g cap m : Nat} {v1 v2 : Value} {l1 l2 : List Int} {n : Int} (h : TL9 w base v1 v2 l1 l2) (hm : l1.length = m) (ho : w'.ownsRow base 3 1 (.slice (some ⟨g, 0, none⟩) (m + 1) cap) (m + 1) (ibs7 l1 ++ [.int .i64 n])) (hg : w.grownBy w' v1.ownBlock) (hv : v1.ownBlock = some g ∨ g = w.heap.size) : TL9 w' base (.slice (some ⟨g, 0, none⟩) (m + 1) cap) v2 (l1 ++ [n]) l2 := by
  refine ⟨OwI.snoc9 hm.symm ho, row7_fr (P := fun b => v1.ownBlock = some b) h.b (Fr.grown hg fun b hb => hb) fun b hb hc => h.ne b hc hb, fun x hx e => ?_⟩
  have hxg : g = x := by simpa [Value.ownBlock] using hx
  subst hxg
  rcases hv with hv | hv
  · exact h.ne g hv e
  · have := (World.ownsRow.lt h.b g e).2; omega
/-- Are both sides of the test number n known? -/
def tk9 (c : Cm) (met : List Bool) (n : Int) : Bool := match c.tests[n.toNat]? with
  | some t => kn9 met t.l && kn9 met t.r
  | none => false
theorem Es.get9 {w : World} {la : Option Addr} {l : List Te} {n cap k : Nat} {x : Te} (h : Es w (.slice la n cap) l) (hx : l[k]? = some x) : ∃ lb lo, la = some ⟨lb, lo, none⟩ ∧ lb < w.heap.size ∧ w.cell? ⟨lb, lo + k * 7, none⟩ = some (.int .i64 x.op) ∧ (w.cell? ⟨lb, lo + k * 7 + 1, none⟩ = some (.int .i64 x.l.k) ∧ w.cell? ⟨lb, lo + k * 7 + 2, none⟩ = some (.int .i64 x.l.n) ∧ w.cell? ⟨lb, lo + k * 7 + 3, none⟩ = some (.string x.l.s)) ∧ w.cell? ⟨lb, lo + k * 7 + 4, none⟩ = some (.int .i64 x.r.k) ∧ w.cell? ⟨lb, lo + k * 7 + 5, none⟩ = some (.int .i64 x.r.n) ∧ w.cell? ⟨lb, lo + k * 7 + 6, none⟩ = some (.string x.r.s) := by
  obtain ⟨a, c, e, hl, hr⟩ := h
  cases e
  rcases hr with hr | ⟨lb, lo, rfl, h1, h2⟩
  · rw [hr] at hx; simp at hx
  obtain ⟨a0, a1, a2, a3, a4, a5, a6⟩ := h2 k x hx
  exact ⟨lb, lo, rfl, h1, a0, ⟨a1, a2, a3⟩, a4, a5, a6⟩
/-- What ready leaves. -/
def RQ9x (w0 : World) (g : Nat) (c : Cm) (mv av : Value) (met : List Bool) (A T : List Int) (Y : World) (e : Ending) (Y' : World) : Prop :=
  ∃ v tv', e = .returned v ∧ TL9 Y' Y.heap.size v tv' (T.filter (tk9 c met)) (T.filter fun n => !tk9 c met n) ∧ PN9 w0 g c mv av tv' met A (T.filter fun n => !tk9 c met n) Y' ∧ Fr (fun b => b = g) Y Y'
theorem PN9.tests {w0 : World} {g : Nat} {c : Cm} {mv av tv tv' : Value} {met : List Bool} {A T T' : List Int} {Y W : World} (h : PN9 w0 g c mv av tv met A T Y) (hb : Below Y.heap.size Y W) (ht : OwI W Y.heap.size tv' T') : PN9 w0 g c mv av tv' met A T' (W.setCell ⟨g, 9, none⟩ tv') ∧ Fr (fun b => b = g) Y (W.setCell ⟨g, 9, none⟩ tv') := by
  have hf : Fr (fun b => b = g) Y (W.setCell ⟨g, 9, none⟩ tv') := (Fr.of hb).set (Or.inl rfl)
  have hf2 : Fr (fun b => b = g) W (W.setCell ⟨g, 9, none⟩ tv') := (Fr.refl _ _).set (Or.inl rfl)
  have hz := h.be.size
  have hg := h.b.lt
  have hng : ∀ (e : TypeId) (v : Value) (n : Nat) (xs : List Value), e ≠ 80 → Y.ownsRow w0.heap.size e 1 v n xs → ∀ b, v.ownBlock = some b → ¬ b = g := fun e v n xs he hr b hb hc => by
    obtain ⟨cur, hk⟩ := row7_blk hr hb
    rw [hc] at hk
    exact he (hk.ty h.b)
  refine ⟨⟨?_, row7_fr h.m hf (hng _ _ _ _ (by decide) h.m), row7_fr h.a hf (hng _ _ _ _ (by decide) h.a), row7_mono (row7_fr ht hf2 fun b hb e => ?_) hz, fun x hx e => ?_, h.ok, h.tp, h.lo, ?_⟩, hf⟩
  · have := (h.b.below hb).set 9 tv'
    exact this
  · have := (World.ownsRow.lt ht b hb).1; omega
  · have h1 := (World.ownsRow.lt h.a x hx).2
    have h2 := (World.ownsRow.lt ht x e).1
    omega
  · exact h.be.trans (Fr.low (hf.mono (Q := fun b => w0.heap.size ≤ b) fun b _ e => by rw [e]; exact h.lo) hz)
set_option maxRecDepth 20000 in
set_option maxHeartbeats 4000000 in
theorem ready9_any (w0 : World) (g : Nat) (c : Cm) (mv av tv : Value) (met : List Bool) (A T : List Int) (Y : World) (h : PN9 w0 g c mv av tv met A T Y) (hT : ∀ n ∈ T, ∃ (i : Nat) (t : Te), n = (i : Int) ∧ c.tests[i]? = some t) (hv : ∀ t ∈ c.tests, Vn9 met.length [t.l, t.r]) (hl : T.length ≤ 1000000) :
    Calls Tryz.prog 33 #[.pointer (some ⟨g, 0, none⟩)] Y (RQ9x w0 g c mv av met A T Y) := by
  have H := hm7 h
  have HT := hm7 hT
  have HV := hm7 hv
  have htv := (h.ok.later h.be).t
  obtain ⟨ta, tc, htw, -⟩ := row7_form h.t
  subst htw
  have hts : ∃ ea ec, c.tv = .slice ea c.tests.length ec := by obtain ⟨a, c', e, -⟩ := htv; exact ⟨a, c', e⟩
  obtain ⟨ea, ec, hev⟩ := hts
  rw [hev] at htv
  have HES := hm7 htv
  have HEV := hm7 hev
  obtain ⟨en, hen⟩ : ∃ en, c.tests.length = en := ⟨_, rfl⟩
  have HEN := hm7 hen
  have c9 := h.b.cell (i := 9) rfl
  clear h hT hv htv hev hen
  go_enter Tryz.func33, Tryz.ntmps33
  go_upto_region 3 with fail
  go_loopg [13, 3, 4, 6, 7] T.length (fun gg i v1 v2 _ _ wr => ∃ j : Nat, j + gg = T.length ∧ i = .int .i64 j ∧ TL9 wr Y.heap.size v1 v2 ((T.take j).filter (tk9 c met)) ((T.take j).filter fun n => !tk9 c met n) ∧ Below Y.heap.size Y wr)
  case atStart => exact ⟨0, by omega, rfl, ⟨OwI.nil _ _, OwI.nil _ _, fun x hx => by cases hx⟩, Below.refl _ _⟩
  case round =>
    obtain ⟨j, hj, rfl, ho, hb⟩ := hrel
    have HO := hm7 ho
    have HB := hm7 hb
    cases gk with
    | succ gg =>
      have hlt : (j : Int) < (T.length : Int) := by omega
      have j0 : (0 : Int) ≤ (j : Int) := by omega
      obtain ⟨n, hn⟩ : ∃ n, T[j]? = some n := ⟨_, List.getElem?_eq_getElem (by omega)⟩
      obtain ⟨i, t, rfl, hit⟩ := HT.out n (List.mem_of_getElem? hn)
      have HTK : Hid (T.take (j + 1) = T.take j ++ [(i : Int)]) := by show _ = _; rw [List.take_add_one, hn]; rfl
      have HTT : Hid (tk9 c met (i : Int) = (kn9 met t.l && kn9 met t.r)) := by show _ = _; unfold tk9; rw [Int.toNat_natCast, hit]
      obtain ⟨tb, rfl, -, htb, q0, -⟩ := row7_at H.out.t (i := j) (u := .int .i64 (i : Int)) (by simp only [ibs7, List.getElem?_map, hn]; rfl)
      have q1 := cell_step hb htb q0
      have p6 := (H.out.below hb).b.cell (i := 6) rfl
      rw [HEV.out] at p6
      obtain ⟨lb, lo, hea, hlb, z0, ⟨z1, z2, z3⟩, z4, z5, z6⟩ := (HES.out.later hb).get9 hit
      subst hea
      have hien : i < c.tests.length := (List.getElem?_eq_some_iff.1 hit).1
      rw [HEN.out] at p6 hien
      have i0 : (0 : Int) ≤ (i : Int) := by omega
      have i1 : (i : Int) < (en : Int) := by omega
      have hvt := HV.out t (List.mem_of_getElem? hit)
      have HK1 : Hid (∀ X : World, Below Y.heap.size Y X → Calls Tryz.prog 56 #[.pointer (some ⟨g, 0, none⟩), t.l.v] X fun e Y' => e = .returned (.bool (kn9 met t.l)) ∧ Below X.heap.size X Y') := fun X hX => by
        have HX := H.out.below hX
        exact known9_any w0.heap.size g mv met t.l X HX.b.lt (HX.b.cell (i := 7) rfl) HX.m fun s hs hvs => hvt s (by rw [List.mem_singleton.1 hs]; simp) hvs
      have HK2 : Hid (∀ X : World, Below Y.heap.size Y X → Calls Tryz.prog 56 #[.pointer (some ⟨g, 0, none⟩), t.r.v] X fun e Y' => e = .returned (.bool (kn9 met t.r)) ∧ Below X.heap.size X Y') := fun X hX => by
        have HX := H.out.below hX
        exact known9_any w0.heap.size g mv met t.r X HX.b.lt (HX.b.cell (i := 7) rfl) HX.m fun s hs hvs => hvt s (by rw [List.mem_singleton.1 hs]; simp) hvs
      obtain ⟨b1, hb1⟩ : ∃ b1, kn9 met t.l = b1 := ⟨_, rfl⟩
      obtain ⟨b2, hb2⟩ : ∃ b2, kn9 met t.r = b2 := ⟨_, rfl⟩
      rw [hb1] at HK1 HTT
      rw [hb2] at HK2 HTT
      obtain ⟨to_, ⟨lk, ln, ls⟩, ⟨rk, rn, rs⟩⟩ := t
      simp only at z0 z1 z2 z3 z4 z5 z6
      have HBA : ∀ o : Obj, Hid (Below Y.heap.size Y (wr.alloc o)) := fun o => HB.out.trans ((below1 wr o).mono HB.out.size)
      obtain ⟨a1, k1, hv1, -⟩ := row7_form ho.a
      obtain ⟨a2, k2, hv2, -⟩ := row7_form ho.b
      obtain ⟨m1, hm1⟩ : ∃ m, ((T.take j).filter (tk9 c met)).length = m := ⟨_, rfl⟩
      obtain ⟨m2, hm2⟩ : ∃ m, ((T.take j).filter fun n => !tk9 c met n).length = m := ⟨_, rfl⟩
      have hl1 : m1 ≤ j := by rw [← hm1]; exact Nat.le_trans (List.length_filter_le _ _) (by rw [List.length_take]; omega)
      have hl2 : m2 ≤ j := by rw [← hm2]; exact Nat.le_trans (List.length_filter_le _ _) (by rw [List.length_take]; omega)
      rw [hm1] at hv1
      rw [hm2] at hv2
      subst hv1 hv2
      have HM1 := hm7 hm1
      have HM2 := hm7 hm2
      have hz := hb.size
      have BT := fun (W : World) => Bk.new W #[.int .i64 to_, .int .i64 lk, .int .i64 ln, .string ls, .int .i64 rk, .int .i64 rn, .string rs] 46
      have x1 := (BT wr).cell (i := 1) rfl
      have x2 := (BT wr).cell (i := 2) rfl
      have x3 := (BT wr).cell (i := 3) rfl
      clear ho hb hn hit hb1 hb2 hm1 hm2 q0 hvt hlb
      cases b1 with
      | true =>
        cases b2 with
        | true =>
          go_wp2_with (first
            | (go_at_call 56; refine (HK2.out _ HB2.out).mono ?_; rintro e w3 ⟨rfl, hb3⟩; have HB3 := hm7 (HB2.out.trans (hb3.mono HB2.out.size)); have HT3 := hm7 (HT2.out.below hb3); have hz3 := HB3.out.size; clear hb3 y4 y5 y6)
            | (go_at_call 56; refine (HK1.out _ (HBA _).out).mono ?_; rintro e w2 ⟨rfl, hb2⟩; have HB2 := hm7 ((HBA _).out.trans (hb2.mono (HBA _).out.size)); have HT2 := hm7 ((HO.out.below (below1 _ _)).below hb2); have hz2 := HB2.out.size; have y4 := ((BT wr).below hb2).cell (i := 4) rfl; have y5 := ((BT wr).below hb2).cell (i := 5) rfl; have y6 := ((BT wr).below hb2).cell (i := 6) rfl; clear hb2 x1 x2 x3 q1 p6 z0 z1 z2 z3 z4 z5 z6)
            | (at_builtin; refine gapp Tryz.underlying32 Tryz.infoInt7 rfl (by omega) rfl _ _ rfl Y.heap.size (.slice a1 m1 k1) m1 (ibs7 ((T.take j).filter (tk9 c met))) rfl (row7_below (by have := HT3.out.a; unfold OwI at this; rw [HM1.out] at this; exact this) (below1 _ _)) w3.heap.size (.int .i64 (i : Int)) rfl (Bk.new _ _ _) rfl (by omega) (by simp; omega) ?_; intro g4 q4 w4 ho4 hg4 hv4 hl4; have HT4 := hm7 ((HT3.out.below (below1 _ _)).app HM1.out ho4 hg4 hv4); have HB4 := hm7 ((HB3.out.trans ((below1 _ _).mono HB3.out.size)).trans (Fr.low (Fr.grown hg4 fun b hb => (World.ownsRow.lt HT3.out.a b hb).1) (by simp; omega))); clear ho4 hg4 hv4 hl4))
          go_roundg gg
          case measure => omega
          case rel => exact ⟨j + 1, by omega, by go_num, by rw [HTK.out, List.filter_append, List.filter_append]; simpa [HTT.out] using HT4.out, HB4.out⟩
        | false =>
          go_wp2_with (first
            | (go_at_call 56; refine (HK2.out _ HB2.out).mono ?_; rintro e w3 ⟨rfl, hb3⟩; have HB3 := hm7 (HB2.out.trans (hb3.mono HB2.out.size)); have HT3 := hm7 (HT2.out.below hb3); have hz3 := HB3.out.size; clear hb3 y4 y5 y6)
            | (go_at_call 56; refine (HK1.out _ (HBA _).out).mono ?_; rintro e w2 ⟨rfl, hb2⟩; have HB2 := hm7 ((HBA _).out.trans (hb2.mono (HBA _).out.size)); have HT2 := hm7 ((HO.out.below (below1 _ _)).below hb2); have hz2 := HB2.out.size; have y4 := ((BT wr).below hb2).cell (i := 4) rfl; have y5 := ((BT wr).below hb2).cell (i := 5) rfl; have y6 := ((BT wr).below hb2).cell (i := 6) rfl; clear hb2 x1 x2 x3 q1 p6 z0 z1 z2 z3 z4 z5 z6)
            | (at_builtin; refine gapp Tryz.underlying32 Tryz.infoInt7 rfl (by omega) rfl _ _ rfl Y.heap.size (.slice a2 m2 k2) m2 (ibs7 ((T.take j).filter fun n => !tk9 c met n)) rfl (row7_below (by have := HT3.out.b; unfold OwI at this; rw [HM2.out] at this; exact this) (below1 _ _)) w3.heap.size (.int .i64 (i : Int)) rfl (Bk.new _ _ _) rfl (by omega) (by simp; omega) ?_; intro g4 q4 w4 ho4 hg4 hv4 hl4; have HT4 := hm7 ((HT3.out.below (below1 _ _)).swap.app HM2.out ho4 hg4 hv4); have HB4 := hm7 ((HB3.out.trans ((below1 _ _).mono HB3.out.size)).trans (Fr.low (Fr.grown hg4 fun b hb => (World.ownsRow.lt HT3.out.b b hb).1) (by simp; omega))); clear ho4 hg4 hv4 hl4))
          go_roundg gg
          case measure => omega
          case rel => exact ⟨j + 1, by omega, by go_num, by rw [HTK.out, List.filter_append, List.filter_append]; simpa [HTT.out] using HT4.out.swap, HB4.out⟩
      | false =>
        go_wp2_with (first
          | (go_at_call 56; refine (HK1.out _ (HBA _).out).mono ?_; rintro e w2 ⟨rfl, hb2⟩; have HB2 := hm7 ((HBA _).out.trans (hb2.mono (HBA _).out.size)); have HT2 := hm7 ((HO.out.below (below1 _ _)).below hb2); have hz2 := HB2.out.size; have y4 := ((BT wr).below hb2).cell (i := 4) rfl; have y5 := ((BT wr).below hb2).cell (i := 5) rfl; have y6 := ((BT wr).below hb2).cell (i := 6) rfl; clear hb2 x1 x2 x3 q1 p6 z0 z1 z2 z3 z4 z5 z6)
          | (at_builtin; refine gapp Tryz.underlying32 Tryz.infoInt7 rfl (by omega) rfl _ _ rfl Y.heap.size (.slice a2 m2 k2) m2 (ibs7 ((T.take j).filter fun n => !tk9 c met n)) rfl (row7_below (by have := HT2.out.b; unfold OwI at this; rw [HM2.out] at this; exact this) (below1 _ _)) w2.heap.size (.int .i64 (i : Int)) rfl (Bk.new _ _ _) rfl (by omega) (by simp; omega) ?_; intro g4 q4 w4 ho4 hg4 hv4 hl4; have HT4 := hm7 ((HT2.out.below (below1 _ _)).swap.app HM2.out ho4 hg4 hv4); have HB4 := hm7 ((HB2.out.trans ((below1 _ _).mono HB2.out.size)).trans (Fr.low (Fr.grown hg4 fun b hb => (World.ownsRow.lt HT2.out.b b hb).1) (by simp; omega))); clear ho4 hg4 hv4 hl4))
        go_roundg gg
        case measure => omega
        case rel => exact ⟨j + 1, by omega, by go_num, by rw [HTK.out, List.filter_append, List.filter_append]; simpa [HTT.out] using HT4.out.swap, HB4.out⟩
    | zero =>
      have hlt : ¬ (j : Int) < (T.length : Int) := by omega
      obtain rfl : j = T.length := by omega
      have hof := HO.out
      rw [List.take_length] at hof
      have HOF := hm7 hof
      obtain ⟨a1, k1, hv1, -⟩ := row7_form HOF.out.a
      obtain ⟨a2, k2, hv2, -⟩ := row7_form HOF.out.b
      subst hv1 hv2
      have HPN := hm7 (H.out.tests HB.out HOF.out.b)
      have z9 := (H.out.below HB.out).b.froz 9
      have y9 := (H.out.below HB.out).b.cell (i := 9) rfl
      clear ho hb HO hof
      go_wp2
      go_ret
      refine ⟨_, _, rfl, ⟨?_, ?_, HOF.out.ne⟩, HPN.out.1, HPN.out.2⟩
      · exact row7_fr (P := fun b => b = g) HOF.out.a ((Fr.refl _ _).set (Or.inl rfl)) fun b hb e => by have h1 := (World.ownsRow.lt HOF.out.a b hb).1; have h2 := H.out.b.lt; omega
      · exact row7_fr (P := fun b => b = g) HOF.out.b ((Fr.refl _ _).set (Or.inl rfl)) fun b hb e => by have h1 := (World.ownsRow.lt HOF.out.b b hb).1; have h2 := H.out.b.lt; omega
end Go.Proofs.YtgbiicmkhlnniaaGreatDoor
