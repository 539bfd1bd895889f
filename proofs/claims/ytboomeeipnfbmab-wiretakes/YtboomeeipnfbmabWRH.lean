/-
  wire: law 23's plays.
-/
import Derived.Test.YtboomeeipnfbmabWRG
namespace Go.Proofs.Ytboomeeipnfbmab
open Go.RowKit
attribute [local go_sem ↓] Go.wp_at_zero Go.wp_at_succ

/-- Both wires side by side. -/
structure BoW (B : Nat) (T R : Nat → Prop) (v u : Value) (s : WrW) (Y : World) : Prop where
  a : WzW B T v s Y
  r : RzW B R u s Y
  d : ∀ x, T x → ¬ R x
/-- The program's call, then the document's: both wires go on side by side. -/
theorem BoW.next {B : Nat} {T R T1 R1 : Nat → Prop} {v u : Value} {s s' : WrW} {Y Y1 Y2 Y3 : World} (h : BoW B T R v u s Y) (h1 : WzW B T1 v s' Y1) (h2 : ∀ x, T1 x → T x ∨ Y.heap.size ≤ x) (hb : Below Y1.heap.size Y1 Y2) (k1 : RzW B R1 u s' Y3) (k2 : ∀ x, R1 x → R x ∨ Y2.heap.size ≤ x) (k3 : Fr R Y2 Y3) : BoW B T1 R1 v u s' Y3 := by
  have hT1 := h1.t
  have hR := h.r.t
  have key : ∀ x, T1 x → ¬ R x := fun x hx hr => by
    rcases h2 x hx with hx | hx
    · exact h.d x hx hr
    · have := (hR x hr).2; omega
  refine ⟨(h1.below hb).fr k3 fun x _ hx => key x hx, k1, fun x hx hr => ?_⟩
  rcases k2 x hr with hr | hr
  · exact key x hx hr
  · have := (hT1 x hx).2
    have := hb.size
    omega
def PlW (B : Nat) (Y : World) (e : Ending) (Y' : World) : Prop := ∃ (T R : Nat → Prop) (v u : Value) (s : WrW), e = .returned (.tuple #[v, u, .bool true]) ∧ BoW B T R v u s Y' ∧ Below B Y Y'
set_option maxRecDepth 20000 in
set_option maxHeartbeats 8000000 in
theorem playsW_any {sv : Value} {L : List (OvW × Value)} {Y : World} (lo hi : Int) (h : ScW (fun x => x < Y.heap.size) Y sv L) :
    Calls Try.prog 17 #[sv, .int .i64 lo, .int .i64 hi] Y (PlW Y.heap.size Y) := by
  have HSC := hm7 h
  obtain ⟨⟨sa, sc, rfl, hl, hx⟩, -⟩ := h
  obtain ⟨N, hN⟩ : ∃ N, L.length = N := ⟨_, rfl⟩
  rw [hN] at hl HSC ⊢
  have HN := hm7 hN
  clear hN
  go_enter Try.func17, Try.ntmps17
  go_upto_region 2 with (go_at_call 24; refine (wnewW_any Y.heap.size Y (Nat.le_refl _)).mono ?_; rintro e Y1 ⟨T, v, rfl, hw, ht, hb⟩; obtain ⟨g, rfl⟩ := hw.ptr; have HW := hm7 hw; have HT := hm7 ht; have HB1 := hm7 hb; clear hw ht hb)
  go_wp2_with (go_at_call 29; refine (rnewW_any Y.heap.size Y1 HB1.out.size).mono ?_; rintro e Y2 ⟨R, u, rfl, hw, ht, hb⟩; obtain ⟨g', rfl⟩ := hw.ptr; have HR := hm7 hw; have HRT := hm7 ht; have HB2 := hm7 hb; clear hw ht hb)
  have HBO : Hid (BoW Y.heap.size T R (.pointer (some ⟨g, 0, none⟩)) (.pointer (some ⟨g', 0, none⟩)) ⟨[], 0⟩ Y2) := ⟨HW.out.below HB2.out, HR.out, fun x hx hr => by have := (HW.out.t x hx).2; have := HRT.out x hr; omega⟩
  go_loopg [11] N (fun gg i wr => ∃ (j : Nat) (T R : Nat → Prop) (s : WrW), j + gg = N ∧ i = .int .i64 j ∧ BoW Y.heap.size T R (.pointer (some ⟨g, 0, none⟩)) (.pointer (some ⟨g', 0, none⟩)) s wr ∧ Below Y.heap.size Y wr)
  case atStart => exact ⟨0, T, R, _, by omega, rfl, HBO.out, HB1.out.trans (HB2.out.mono HB1.out.size)⟩
  case round =>
    obtain ⟨j, T, R, s, hj, rfl, hbo, hb⟩ := hrel
    have HO := hm7 hbo
    have HB := hm7 hb
    have hsz := hb.size
    cases gk with
    | succ gg =>
      have hlt : (j : Int) < (N : Int) := by omega
      have j0 : (0 : Int) ≤ (j : Int) := by omega
      have hsw := HSC.out.same hb.size fun x hx hF => hb.block x hF
      obtain ⟨p, hp⟩ : ∃ p, L[j]? = some p := ⟨_, List.getElem?_eq_getElem (by have := HN.out; omega)⟩
      obtain ⟨hpl, hpn⟩ := hsw.by_ p (List.mem_of_getElem? hp)
      rcases hx with hx | ⟨sb, so, rfl, hsb, hsF, -⟩
      · rw [hx] at hp; simp at hp
      have hcell : ∀ W, Below Y.heap.size Y W → W.cell? ⟨sb, so + j * 5, none⟩ = some (.int .i64 p.1.k) ∧ W.cell? ⟨sb, so + j * 5 + 1, none⟩ = some (.int .i64 p.1.n) ∧ W.cell? ⟨sb, so + j * 5 + 2, none⟩ = some (.int .i64 p.1.m) ∧ W.cell? ⟨sb, so + j * 5 + 3, none⟩ = some (.int .i64 p.1.q) ∧ W.cell? ⟨sb, so + j * 5 + 4, none⟩ = some p.2 := fun W hW => by
        have hs2 := HSC.out.same hW.size fun x hx hF => hW.block x hF
        obtain ⟨⟨a', c', e', -, h2⟩, -⟩ := hs2
        simp only [Value.slice.injEq] at e'
        obtain ⟨rfl, -, -⟩ := e'
        rcases h2 with h2 | ⟨b', o', e2, -, -, h3⟩
        · rw [h2] at hp; simp at hp
        · cases e2; exact h3 j p hp
      obtain ⟨⟨k, n, m, q, b⟩, bv⟩ := p
      simp only at hpl hpn hcell
      obtain ⟨ba, bc, rfl, -⟩ := hpl.form
      have HCE := hm7 hcell
      obtain ⟨x0, x1, x2, x3, x4⟩ := hcell wr hb
      have HD : Hid (Calls Try.prog 19 #[.pointer (some ⟨g, 0, none⟩), .agg #[.int .i64 k, .int .i64 n, .int .i64 m, .int .i64 q, .slice ba b.length bc]] wr (DoQ Y.heap.size T (.pointer (some ⟨g, 0, none⟩)) s ⟨k, n, m, q, b⟩ wr)) := doW_any (o := ⟨k, n, m, q, b⟩) HO.out.a hpl hpn
      have HPL := hm7 hpl
      obtain ⟨td, htd⟩ : ∃ td, tolW s ⟨k, n, m, q, b⟩ = td := ⟨_, rfl⟩
      have HTD := hm7 htd
      have HBL := hm7 hpn
      obtain ⟨bn, hbn⟩ : ∃ bn, b.length = bn := ⟨_, rfl⟩
      rw [hbn] at x4 HD HCE HPL
      clear hbo hb hsw hp hpl hpn hcell hbn htd
      go_upto_region 9 with (go_at_call 19; refine HD.out.mono ?_; rintro e Y4 ⟨tv, T1, rfl, ⟨tb, tr, rfl, ht1, ht2⟩, hw1, hw2, hw3⟩; rw [HTD.out] at ht1 ht2 ⊢; obtain ⟨t1, t2, rfl, -⟩ := ht1.form; obtain ⟨t3, t4, rfl, -⟩ := ht2.form; have HT1 := hm7 (And.intro ht1 ht2); have HW1 := hm7 (And.intro hw1 hw2); have HW3 := hm7 hw3; clear ht1 ht2 hw1 hw2 hw3)
      obtain ⟨Y5, hY5, hk5, hb5⟩ : ∃ Y5, Y4.alloc (.cells #[.int .i64 td.n, .slice t1 td.b.length t2, .int .i64 td.e, .slice t3 td.r.length t4] 46) = Y5 ∧ Bk Y5 Y4.heap.size #[.int .i64 td.n, .slice t1 td.b.length t2, .int .i64 td.e, .slice t3 td.r.length t4] 46 ∧ Below Y4.heap.size Y4 Y5 := ⟨_, rfl, Bk.new _ _ _, below1 _ _⟩
      try rw [hY5]
      have hbY4 : Below Y.heap.size Y Y4 := HB.out.trans ((HW3.out.mono fun x _ hx => (HO.out.a.t x hx).1).low hsz)
      have hbY5 : Below Y.heap.size Y Y5 := hbY4.trans (hb5.mono hbY4.size)
      have hr5 := (HO.out.r.fr HW3.out fun x _ hr ht => HO.out.d x ht hr).below hb5
      have hp5 := (HPL.out.fr HW3.out fun x _ hF ht => by have := (HO.out.a.t x ht).1; omega).below hb5
      have HM : Hid (Calls Try.prog 20 #[.pointer (some ⟨g', 0, none⟩), .agg #[.int .i64 k, .int .i64 n, .int .i64 m, .int .i64 q, .slice ba bn bc]] Y5 (MuQ Y.heap.size R (.pointer (some ⟨g', 0, none⟩)) s ⟨k, n, m, q, b⟩ Y5)) := mustW_any (o := ⟨k, n, m, q, b⟩) hr5 hp5 (fun x hr hF => by have := (HO.out.r.t x hr).1; omega)
      obtain ⟨x0, x1, x2, x3, x4⟩ := HCE.out Y5 hbY5
      have HK5 := hm7 hk5
      have HB5 := hm7 hb5
      have HBY5 := hm7 hbY5
      have hsz4 := HW3.out.size
      have hsz5 := hb5.size
      clear hY5 hk5 hb5 hbY4 hbY5 hr5 hp5
      go_upto_region 10 with (go_at_call 20; refine HM.out.mono ?_; rintro e Y6 ⟨uv, R1, rfl, ⟨ub, ur, rfl, hu1, hu2⟩, hr1, hr2, hr3⟩; rw [HTD.out] at hu1 hu2 ⊢; obtain ⟨u1, u2, rfl, -⟩ := hu1.form; obtain ⟨u3, u4, rfl, -⟩ := hu2.form; have HU1 := hm7 (And.intro hu1 hu2); have HR1 := hm7 (And.intro hr1 hr2); have HR3 := hm7 hr3; clear hu1 hu2 hr1 hr2 hr3)
      obtain ⟨Y7, hY7, hk7, hb7⟩ : ∃ Y7, Y6.alloc (.cells #[.int .i64 td.n, .slice u1 td.b.length u2, .int .i64 td.e, .slice u3 td.r.length u4] 46) = Y7 ∧ Bk Y7 Y6.heap.size #[.int .i64 td.n, .slice u1 td.b.length u2, .int .i64 td.e, .slice u3 td.r.length u4] 46 ∧ Below Y6.heap.size Y6 Y7 := ⟨_, rfl, Bk.new _ _ _, below1 _ _⟩
      try rw [hY7]
      have hnR : ∀ x, wr.heap.size ≤ x → ¬ R x := fun x hx hr => by have := (HO.out.r.t x hr).2; omega
      have hsz6 := HR3.out.size
      have hk57 := (HK5.out.fr HR3.out (hnR _ hsz4)).below hb7
      have hbY7 : Below Y.heap.size Y Y7 := (HBY5.out.trans ((HR3.out.mono fun x _ hx => (HO.out.r.t x hx).1).low (by omega))).trans (hb7.mono (by omega))
      have hbo7 : BoW Y.heap.size T1 R1 _ _ (stpW s ⟨k, n, m, q, b⟩) Y6 := HO.out.next HW1.out.1 HW1.out.2 HB5.out HR1.out.1 HR1.out.2 HR3.out
      obtain ⟨x0, x1, x2, x3, x4⟩ := HCE.out Y7 hbY7
      have hFR : ∀ x, ((T x ∨ wr.heap.size ≤ x) ∧ ¬ T1 x) → ¬ R x := fun x hx hr => hx.1.elim (fun ht => HO.out.d x ht hr) fun h => hnR x h hr
      have HS := hm7 (samW_any (t := td) (u := .agg #[.int .i64 td.n, .slice t1 td.b.length t2, .int .i64 td.e, .slice t3 td.r.length t4]) (v := .agg #[.int .i64 td.n, .slice u1 td.b.length u2, .int .i64 td.e, .slice u3 td.r.length u4]) (Y := Y7) ⟨_, _, rfl, (((HT1.out.1.below HB5.out).fr HR3.out fun x _ hx => hFR x hx).below hb7), (((HT1.out.2.below HB5.out).fr HR3.out fun x _ hx => hFR x hx).below hb7)⟩ ⟨_, _, rfl, HU1.out.1.below hb7, HU1.out.2.below hb7⟩)
      have p0 : Y7.cell? ⟨Y4.heap.size, 0, none⟩ = some (.int .i64 td.n) := hk57.cell rfl
      have p1 : Y7.cell? ⟨Y4.heap.size, 1, none⟩ = some (.slice t1 td.b.length t2) := hk57.cell rfl
      have p2 : Y7.cell? ⟨Y4.heap.size, 2, none⟩ = some (.int .i64 td.e) := hk57.cell rfl
      have p3 : Y7.cell? ⟨Y4.heap.size, 3, none⟩ = some (.slice t3 td.r.length t4) := hk57.cell rfl
      have q0 : Y7.cell? ⟨Y6.heap.size, 0, none⟩ = some (.int .i64 td.n) := hk7.cell rfl
      have q1 : Y7.cell? ⟨Y6.heap.size, 1, none⟩ = some (.slice u1 td.b.length u2) := hk7.cell rfl
      have q2 : Y7.cell? ⟨Y6.heap.size, 2, none⟩ = some (.int .i64 td.e) := hk7.cell rfl
      have q3 : Y7.cell? ⟨Y6.heap.size, 3, none⟩ = some (.slice u3 td.r.length u4) := hk7.cell rfl
      have HBO7 := hm7 hbo7
      have HB7 := hm7 hb7
      have HBY7 := hm7 hbY7
      generalize td.n = tn at *
      generalize td.e = te at *
      generalize td.b.length = tbn at *
      generalize td.r.length = trn at *
      clear hY7 hk7 hb7 hk57 hbY7 hbo7 hnR hFR
      by_cases g1 : k ≥ lo
      · have g1' : decide (k ≥ lo) = true := decide_eq_true g1
        by_cases g2 : k ≤ hi
        · have g2' : decide (k ≤ hi) = true := decide_eq_true g2
          go_wp2_with (go_at_call 21; refine HS.out.mono ?_; rintro e Y8 ⟨rfl, hb8⟩; have HB8 := hm7 hb8; clear hb8)
          go_roundg gg
          case measure => omega
          case rel => exact ⟨j + 1, T1, R1, _, by omega, by go_num, ⟨(HBO7.out.a.below HB7.out).below HB8.out, (HBO7.out.r.below HB7.out).below HB8.out, HBO7.out.d⟩, HBY7.out.trans (HB8.out.mono HBY7.out.size)⟩
        · have g2' : decide (k ≤ hi) = false := decide_eq_false g2
          go_wp2
          go_roundg gg
          case measure => omega
          case rel => exact ⟨j + 1, T1, R1, _, by omega, by go_num, ⟨HBO7.out.a.below HB7.out, HBO7.out.r.below HB7.out, HBO7.out.d⟩, HBY7.out⟩
      · have g1' : decide (k ≥ lo) = false := decide_eq_false g1
        go_wp2
        go_roundg gg
        case measure => omega
        case rel => exact ⟨j + 1, T1, R1, _, by omega, by go_num, ⟨HBO7.out.a.below HB7.out, HBO7.out.r.below HB7.out, HBO7.out.d⟩, HBY7.out⟩
    | zero =>
      have hlt : ¬ (j : Int) < (N : Int) := by omega
      clear hx hbo hb
      go_wp2
      go_ret3
      exact ⟨T, R, _, _, s, rfl, HO.out, HB.out⟩
end Go.Proofs.Ytboomeeipnfbmab
