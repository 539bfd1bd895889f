/-
  wire: law 23: WireSends, WireTakes, WireSpoils, WireLooks, WireAll. (Written by WRI.py.)
-/
import Derived.Test.YtboomeeipnfbmabWRH
namespace Go.Proofs.Ytboomeeipnfbmab
open Go.RowKit
attribute [local go_sem ↓] Go.wp_at_zero Go.wp_at_succ

theorem ScW.nil (F : Nat → Prop) (w : World) : ScW F w (.slice none 0 0) [] := ⟨⟨none, 0, rfl, by simp, Or.inl rfl⟩, by simp⟩
set_option maxRecDepth 20000 in
set_option maxHeartbeats 8000000 in
theorem wireAllW_any {sv : Value} {L : List (OvW × Value)} {Y : World} (h : ScW (fun x => x < Y.heap.size) Y sv L) :
    Calls Try.prog 8 #[sv] Y fun e Y' => e = .returned (.bool true) ∧ Below Y.heap.size Y Y' := by
  have HSC := hm7 h
  have HP := hm7 (playsW_any (Y := Y) 0 0 (ScW.nil _ Y))
  obtain ⟨⟨sa, sc, rfl, hl, hx⟩, -⟩ := h
  obtain ⟨N, hN⟩ : ∃ N, L.length = N := ⟨_, rfl⟩
  rw [hN] at hl HSC ⊢
  have HN := hm7 hN
  clear hN
  go_enter Try.func8, Try.ntmps8
  go_wp2_with (go_at_call 17; refine HP.out.mono ?_; rintro e Y2 ⟨T, R, v, u, s, rfl, hbo, hb⟩; obtain ⟨g, rfl⟩ := hbo.a.ptr; obtain ⟨g', rfl⟩ := hbo.r.ptr; have HBO := hm7 hbo; have HB2 := hm7 hb; clear hbo hb)
  go_loopg [6] N (fun gg i wr => ∃ (j : Nat) (T R : Nat → Prop) (s : WrW), j + gg = N ∧ i = .int .i64 j ∧ BoW Y.heap.size T R (.pointer (some ⟨g, 0, none⟩)) (.pointer (some ⟨g', 0, none⟩)) s wr ∧ Below Y.heap.size Y wr)
  case atStart => exact ⟨0, T, R, _, by omega, rfl, HBO.out, HB2.out⟩
  case round =>
    obtain ⟨j, T, R, s, hj, rfl, hbo, hb⟩ := hrel
    have HO := hm7 hbo
    have HB := hm7 hb
    have hsz := hb.size
    cases gk with
    | succ gg =>
      have hlt : (j : Int) < (N : Int) := by omega
      have j0 : (0 : Int) ≤ (j : Int) := by omega
      have hsw := HSC.out.same hb.size fun x hx hF => hb.block x hF
      obtain ⟨p, hp⟩ : ∃ p, L[j]? = some p := ⟨_, List.getElem?_eq_getElem (by have := HN.out; omega)⟩
      obtain ⟨hpl, hpn⟩ := hsw.by_ p (List.mem_of_getElem? hp)
      rcases hx with hx | ⟨sb, so, rfl, hsb, hsF, -⟩
      · rw [hx] at hp; simp at hp
      have hcell : ∀ W, Below Y.heap.size Y W → W.cell? ⟨sb, so + j * 5, none⟩ = some (.int .i64 p.1.k) ∧ W.cell? ⟨sb, so + j * 5 + 1, none⟩ = some (.int .i64 p.1.n) ∧ W.cell? ⟨sb, so + j * 5 + 2, none⟩ = some (.int .i64 p.1.m) ∧ W.cell? ⟨sb, so + j * 5 + 3, none⟩ = some (.int .i64 p.1.q) ∧ W.cell? ⟨sb, so + j * 5 + 4, none⟩ = some p.2 := fun W hW => by
        have hs2 := HSC.out.same hW.size fun x hx hF => hW.block x hF
        obtain ⟨⟨a', c', e', -, h2⟩, -⟩ := hs2
        simp only [Value.slice.injEq] at e'
        obtain ⟨rfl, -, -⟩ := e'
        rcases h2 with h2 | ⟨b', o', e2, -, -, h3⟩
        · rw [h2] at hp; simp at hp
        · cases e2; exact h3 j p hp
      obtain ⟨⟨k, n, m, q, b⟩, bv⟩ := p
      simp only at hpl hpn hcell
      obtain ⟨ba, bc, rfl, -⟩ := hpl.form
      have HCE := hm7 hcell
      obtain ⟨x0, x1, x2, x3, x4⟩ := hcell wr hb
      have HD : Hid (Calls Try.prog 19 #[.pointer (some ⟨g, 0, none⟩), .agg #[.int .i64 k, .int .i64 n, .int .i64 m, .int .i64 q, .slice ba b.length bc]] wr (DoQ Y.heap.size T (.pointer (some ⟨g, 0, none⟩)) s ⟨k, n, m, q, b⟩ wr)) := doW_any (o := ⟨k, n, m, q, b⟩) HO.out.a hpl hpn
      have HPL := hm7 hpl
      obtain ⟨td, htd⟩ : ∃ td, tolW s ⟨k, n, m, q, b⟩ = td := ⟨_, rfl⟩
      have HTD := hm7 htd
      have HBL := hm7 hpn
      obtain ⟨bn, hbn⟩ : ∃ bn, b.length = bn := ⟨_, rfl⟩
      rw [hbn] at x4 HD HCE HPL
      clear hbo hb hsw hp hpl hpn hcell hbn htd
      go_upto_region 8 with (go_at_call 19; refine HD.out.mono ?_; rintro e Y4 ⟨tv, T1, rfl, ⟨tb, tr, rfl, ht1, ht2⟩, hw1, hw2, hw3⟩; rw [HTD.out] at ht1 ht2 ⊢; obtain ⟨t1, t2, rfl, -⟩ := ht1.form; obtain ⟨t3, t4, rfl, -⟩ := ht2.form; have HT1 := hm7 (And.intro ht1 ht2); have HW1 := hm7 (And.intro hw1 hw2); have HW3 := hm7 hw3; clear ht1 ht2 hw1 hw2 hw3)
      obtain ⟨Y5, hY5, hk5, hb5⟩ : ∃ Y5, Y4.alloc (.cells #[.int .i64 td.n, .slice t1 td.b.length t2, .int .i64 td.e, .slice t3 td.r.length t4] 46) = Y5 ∧ Bk Y5 Y4.heap.size #[.int .i64 td.n, .slice t1 td.b.length t2, .int .i64 td.e, .slice t3 td.r.length t4] 46 ∧ Below Y4.heap.size Y4 Y5 := ⟨_, rfl, Bk.new _ _ _, below1 _ _⟩
      try rw [hY5]
      have hbY4 : Below Y.heap.size Y Y4 := HB.out.trans ((HW3.out.mono fun x _ hx => (HO.out.a.t x hx).1).low hsz)
      have hbY5 : Below Y.heap.size Y Y5 := hbY4.trans (hb5.mono hbY4.size)
      have hr5 := (HO.out.r.fr HW3.out fun x _ hr ht => HO.out.d x ht hr).below hb5
      have hp5 := (HPL.out.fr HW3.out fun x _ hF ht => by have := (HO.out.a.t x ht).1; omega).below hb5
      have HM : Hid (Calls Try.prog 20 #[.pointer (some ⟨g', 0, none⟩), .agg #[.int .i64 k, .int .i64 n, .int .i64 m, .int .i64 q, .slice ba bn bc]] Y5 (MuQ Y.heap.size R (.pointer (some ⟨g', 0, none⟩)) s ⟨k, n, m, q, b⟩ Y5)) := mustW_any (o := ⟨k, n, m, q, b⟩) hr5 hp5 (fun x hr hF => by have := (HO.out.r.t x hr).1; omega)
      obtain ⟨x0, x1, x2, x3, x4⟩ := HCE.out Y5 hbY5
      have HK5 := hm7 hk5
      have HB5 := hm7 hb5
      have HBY5 := hm7 hbY5
      have hsz4 := HW3.out.size
      have hsz5 := hb5.size
      clear hY5 hk5 hb5 hbY4 hbY5 hr5 hp5
      go_upto_region 9 with (go_at_call 20; refine HM.out.mono ?_; rintro e Y6 ⟨uv, R1, rfl, ⟨ub, ur, rfl, hu1, hu2⟩, hr1, hr2, hr3⟩; rw [HTD.out] at hu1 hu2 ⊢; obtain ⟨u1, u2, rfl, -⟩ := hu1.form; obtain ⟨u3, u4, rfl, -⟩ := hu2.form; have HU1 := hm7 (And.intro hu1 hu2); have HR1 := hm7 (And.intro hr1 hr2); have HR3 := hm7 hr3; clear hu1 hu2 hr1 hr2 hr3)
      obtain ⟨Y7, hY7, hk7, hb7⟩ : ∃ Y7, Y6.alloc (.cells #[.int .i64 td.n, .slice u1 td.b.length u2, .int .i64 td.e, .slice u3 td.r.length u4] 46) = Y7 ∧ Bk Y7 Y6.heap.size #[.int .i64 td.n, .slice u1 td.b.length u2, .int .i64 td.e, .slice u3 td.r.length u4] 46 ∧ Below Y6.heap.size Y6 Y7 := ⟨_, rfl, Bk.new _ _ _, below1 _ _⟩
      try rw [hY7]
      have hnR : ∀ x, wr.heap.size ≤ x → ¬ R x := fun x hx hr => by have := (HO.out.r.t x hr).2; omega
      have hsz6 := HR3.out.size
      have hk57 := (HK5.out.fr HR3.out (hnR _ hsz4)).below hb7
      have hbY7 : Below Y.heap.size Y Y7 := (HBY5.out.trans ((HR3.out.mono fun x _ hx => (HO.out.r.t x hx).1).low (by omega))).trans (hb7.mono (by omega))
      have hbo7 : BoW Y.heap.size T1 R1 _ _ (stpW s ⟨k, n, m, q, b⟩) Y6 := HO.out.next HW1.out.1 HW1.out.2 HB5.out HR1.out.1 HR1.out.2 HR3.out
      obtain ⟨x0, x1, x2, x3, x4⟩ := HCE.out Y7 hbY7
      have hFR : ∀ x, ((T x ∨ wr.heap.size ≤ x) ∧ ¬ T1 x) → ¬ R x := fun x hx hr => hx.1.elim (fun ht => HO.out.d x ht hr) fun h => hnR x h hr
      have HS := hm7 (samW_any (t := td) (u := .agg #[.int .i64 td.n, .slice t1 td.b.length t2, .int .i64 td.e, .slice t3 td.r.length t4]) (v := .agg #[.int .i64 td.n, .slice u1 td.b.length u2, .int .i64 td.e, .slice u3 td.r.length u4]) (Y := Y7) ⟨_, _, rfl, (((HT1.out.1.below HB5.out).fr HR3.out fun x _ hx => hFR x hx).below hb7), (((HT1.out.2.below HB5.out).fr HR3.out fun x _ hx => hFR x hx).below hb7)⟩ ⟨_, _, rfl, HU1.out.1.below hb7, HU1.out.2.below hb7⟩)
      have p0 : Y7.cell? ⟨Y4.heap.size, 0, none⟩ = some (.int .i64 td.n) := hk57.cell rfl
      have p1 : Y7.cell? ⟨Y4.heap.size, 1, none⟩ = some (.slice t1 td.b.length t2) := hk57.cell rfl
      have p2 : Y7.cell? ⟨Y4.heap.size, 2, none⟩ = some (.int .i64 td.e) := hk57.cell rfl
      have p3 : Y7.cell? ⟨Y4.heap.size, 3, none⟩ = some (.slice t3 td.r.length t4) := hk57.cell rfl
      have q0 : Y7.cell? ⟨Y6.heap.size, 0, none⟩ = some (.int .i64 td.n) := hk7.cell rfl
      have q1 : Y7.cell? ⟨Y6.heap.size, 1, none⟩ = some (.slice u1 td.b.length u2) := hk7.cell rfl
      have q2 : Y7.cell? ⟨Y6.heap.size, 2, none⟩ = some (.int .i64 td.e) := hk7.cell rfl
      have q3 : Y7.cell? ⟨Y6.heap.size, 3, none⟩ = some (.slice u3 td.r.length u4) := hk7.cell rfl
      have HBO7 := hm7 hbo7
      have HB7 := hm7 hb7
      have HBY7 := hm7 hbY7
      generalize td.n = tn at *
      generalize td.e = te at *
      generalize td.b.length = tbn at *
      generalize td.r.length = trn at *
      clear hY7 hk7 hb7 hk57 hbY7 hbo7 hnR hFR
      go_wp2_with (first
        | (go_at_call 21; refine HS.out.mono ?_; rintro e Y8 ⟨rfl, hb8⟩; have HB8 := hm7 hb8; have HE := hm7 (endsW_any ((HBO7.out.a.below HB7.out).below hb8) ((HBO7.out.r.below HB7.out).below hb8)); clear hb8)
        | (go_at_call 18; refine HE.out.mono ?_; rintro e Y9 ⟨rfl, hb9⟩; have HB9 := hm7 hb9; clear hb9))
      go_roundg gg
      case measure => omega
      case rel => exact ⟨j + 1, T1, R1, _, by omega, by go_num, ⟨((HBO7.out.a.below HB7.out).below HB8.out).below HB9.out, ((HBO7.out.r.below HB7.out).below HB8.out).below HB9.out, HBO7.out.d⟩, (HBY7.out.trans (HB8.out.mono HBY7.out.size)).trans (HB9.out.mono (Nat.le_trans HBY7.out.size HB8.out.size))⟩
    | zero =>
      have hlt : ¬ (j : Int) < (N : Int) := by omega
      clear hx hbo hb
      have ha1 := below1 wr (.cells #[.int .u8 1] 5)
      have HA1 := hm7 ha1
      have HS := hm7 (wsendW_any (HO.out.a.below ha1) (lit1W _ _ (Bk.new wr #[.int .u8 1] 5) (fun x => wr.heap.size ≤ x) (Nat.le_refl _)) (fun x hx hF => by have := (HO.out.a.t x hx).2; omega))
      clear ha1
      go_upto_region 12 with (go_at_call 22; refine HS.out.mono ?_; rintro e Y3 ⟨rfl, hf3, T3, hw3, ht3⟩; have HF3 := hm7 hf3; have HW3 := hm7 (And.intro hw3 ht3); clear hf3 hw3 ht3)
      have hs3 := HF3.out.size
      have hs1 := HA1.out.size
      have hr3 := (HO.out.r.below HA1.out).fr HF3.out fun x _ hr ht => HO.out.d x ht hr
      have ha4 := below1 Y3 (.cells #[.int .u8 1] 5)
      have HA4 := hm7 ha4
      have hR := hm7 (fun x hx => (HO.out.r.t x hx).2)
      have HS2 := hm7 (rsendW_any (hr3.below ha4) (lit1W _ _ (Bk.new Y3 #[.int .u8 1] 5) (fun x => Y3.heap.size ≤ x) (Nat.le_refl _)) (fun x hx hF => by have := hR.out x hx; omega))
      have hd : ∀ x, T3 x → ¬ R x := fun x ht hr => by
        rcases HW3.out.2 x ht with ht | ht
        · exact HO.out.d x ht hr
        · have := hR.out x hr; omega
      have HD := hm7 hd
      clear ha4 hr3 hd
      obtain ⟨n1, hn1⟩ : ∃ z, sndN s [1] = z := ⟨_, rfl⟩
      obtain ⟨n2, hn2⟩ : ∃ z, sndE s [1] = z := ⟨_, rfl⟩
      rw [hn1, hn2] at HS2 ⊢
      clear hn1 hn2
      go_wp2_with (first
        | (go_at_call 23; refine HS2.out.mono ?_; rintro e Y5 ⟨rfl, hf5, R5, hw5, ht5⟩; have HE := hm7 (endsW_any ((HW3.out.1.below HA4.out).fr hf5 fun x _ ht hr => HD.out x ht hr) hw5); have HF5 := hm7 hf5; clear hf5 hw5 ht5)
        | (go_at_call 18; refine HE.out.mono ?_; rintro e Y9 ⟨rfl, hb9⟩; have HB9 := hm7 hb9; clear hb9))
      go_ret
      have l1 := (HF3.out.mono fun x _ hx => (HO.out.a.t x hx).1).low (by omega)
      have l2 := (HF5.out.mono fun x _ hx => (HO.out.r.t x hx).1).low (by have := HA4.out.size; omega)
      refine ⟨ret_b (by simp), ?_⟩
      exact ((((HB.out.trans (HA1.out.mono hsz)).trans l1).trans (HA4.out.mono (by omega))).trans l2).trans (HB9.out.mono (by have := HF5.out.size; have := HA4.out.size; omega))
end Go.Proofs.Ytboomeeipnfbmab
