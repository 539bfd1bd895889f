/-
  renamed; Normal of a clause of some size.
-/
import Derived.Test.YtdfgijdededolaaNB1
import Derived.Test.YtdfgijdededolaaNR10
namespace Go.Proofs.Ytdfgijdededolaa
open Go.RowKit
attribute [local go_sem ↓] Go.wp_at_zero Go.wp_at_succ

theorem rnv_eq {up : Int} {j : Nat} (h : 0 ≤ up) : rnv up j = ⟨3, 1000 + ((j : Int) * 7 + up) % 73, ⟨#[]⟩⟩ := by
  unfold rnv; have := h; rfl
set_option maxRecDepth 20000 in
set_option maxHeartbeats 4000000 in
theorem renamed_any (c : Cm) (n : Nat) (up : Int) (w : World) (h : c.ok w) (hs : KS c.key) (hn : n ≤ 72) (hu0 : 0 ≤ up) (hu1 : up < 73) :
    Calls Try.prog 15 #[c.v, .int .i64 (n : Int), .int .i64 up] w fun e w' => ∃ d : Cm, e = .returned d.v ∧ d.key = mapC (ins (rnvs up n)) c.key ∧ d.ok w' ∧ Below w.heap.size w w' := by
  have HIN : Hid (∀ (X : World) (y : Value), c.ok X → Ts X y (rnvs up n) → Calls Try.prog 17 #[c.v, y] X fun e w' => ∃ d : Cm, e = .returned d.v ∧ d.key = mapC (ins (rnvs up n)) c.key ∧ Kp X.heap.size w' d ∧ Below X.heap.size X w') := fun X y ho hy => inst4_any c _ y X ho hy hs
  obtain ⟨⟨a, hn', cap, h1⟩, ⟨a', cap', h2⟩, ⟨a'', cap'', h3⟩, -, -⟩ := h.shape
  have z1 : (w.alloc (.cells c.cs 30)).heap.size = w.heap.size + 1 := by simp
  have hbx : Bx ((w.alloc (.cells c.cs 30)).alloc (.cells #[.int .i64 0, .int .i64 0, .string ⟨#[]⟩, .string ⟨#[]⟩, .slice none 0 0, .slice none 0 0, .slice none 0 0] 30)) w.heap.size c := (Bx.new h).later (below1 _ _)
  have hrb : CBlk ((w.alloc (.cells c.cs 30)).alloc (.cells #[.int .i64 0, .int .i64 0, .string ⟨#[]⟩, .string ⟨#[]⟩, .slice none 0 0, .slice none 0 0, .slice none 0 0] 30)) (w.heap.size + 1) zcs 30 := by
    have := CBlk.new (w.alloc (.cells c.cs 30)) zcs 30
    rwa [z1] at this
  have HBX : Hid (Bx ((w.alloc (.cells c.cs 30)).alloc (.cells #[.int .i64 0, .int .i64 0, .string ⟨#[]⟩, .string ⟨#[]⟩, .slice none 0 0, .slice none 0 0, .slice none 0 0] 30)) w.heap.size c) := hbx
  have HRB : Hid (CBlk ((w.alloc (.cells c.cs 30)).alloc (.cells #[.int .i64 0, .int .i64 0, .string ⟨#[]⟩, .string ⟨#[]⟩, .slice none 0 0, .slice none 0 0, .slice none 0 0] 30)) (w.heap.size + 1) zcs 30) := hrb
  have HBW : Hid (Below w.heap.size w ((w.alloc (.cells c.cs 30)).alloc (.cells #[.int .i64 0, .int .i64 0, .string ⟨#[]⟩, .string ⟨#[]⟩, .slice none 0 0, .slice none 0 0, .slice none 0 0] 30)) ∧ ((w.alloc (.cells c.cs 30)).alloc (.cells #[.int .i64 0, .int .i64 0, .string ⟨#[]⟩, .string ⟨#[]⟩, .slice none 0 0, .slice none 0 0, .slice none 0 0] 30)).heap.size = w.heap.size + 2) := ⟨below2 _ _ _, by simp⟩
  clear h hbx hrb z1 hs
  obtain ⟨⟨⟨⟨k, m', s⟩, nm, ls⟩, hx⟩, body, bv, tests, tv⟩ := c
  simp only at h1 h2 h3
  subst h1 h2 h3
  go_enter Try.func15, Try.ntmps15
  go_wp2
  revert HBX HRB HBW
  generalize (w.alloc (.cells #[.int .i64 k, .int .i64 m', .string s, .string nm, .slice a hn' cap, .slice a' body.length cap', .slice a'' tests.length cap''] 30)).alloc (.cells #[.int .i64 0, .int .i64 0, .string ⟨#[]⟩, .string ⟨#[]⟩, .slice none 0 0, .slice none 0 0, .slice none 0 0] 30) = W0
  intro HBX HRB HBW
  go_loopg [7, 8] n (fun g u i wr => ∃ j : Nat, j + g = n ∧ i = .int .i64 j ∧ LS W0 wr u (rnvs up j))
  case atStart => exact ⟨0, by omega, rfl, ownT_nil _ _, Below.refl _ _⟩
  case round =>
    obtain ⟨j, hj, rfl, hls⟩ := hrel
    have HLS : Hid (LS W0 wr u7 (rnvs up j)) := hls
    clear hls
    cases gk with
    | succ g =>
      have hlt : (j : Int) < (n : Int) := by omega
      have j0 : (0 : Int) ≤ (j : Int) := by omega
      have j1 : (j : Int) ≤ 72 := by omega
      have t0 : 0 ≤ ((j : Int) * 7 + up) % 73 := by omega
      have t1 : ((j : Int) * 7 + up) % 73 < 73 := by omega
      have HTJ : Hid (rnvs up j ++ [⟨3, 1000 + ((j : Int) * 7 + up) % 73, ⟨#[]⟩⟩] = rnvs up (j + 1)) := by show _ = _; rw [rnvs_succ, rnv_eq hu0]
      have HLJ : Hid ((rnvs up j).length ≤ 1000) := by show _ ≤ _; rw [rnvs_len]; omega
      have HG3 : Hid (CBlk (wr.alloc (.cells #[.int .i64 3, .int .i64 (1000 + ((j : Int) * 7 + up) % 73), .string ⟨#[]⟩] 23)) wr.heap.size #[.int .i64 3, .int .i64 (1000 + ((j : Int) * 7 + up) % 73), .string ⟨#[]⟩] 23) := CBlk.new _ _ _
      have HL3 : Hid (LS W0 (wr.alloc (.cells #[.int .i64 3, .int .i64 (1000 + ((j : Int) * 7 + up) % 73), .string ⟨#[]⟩] 23)) u7 (rnvs up j)) := HLS.out.later (below1 _ _)
      clear HLS
      generalize rnvs up j = LJ at HL3 HTJ HLJ
      go_wp2_with (at_builtin; refine app_terms rfl _ _ rfl W0.heap.size u7 LJ (by rfl) HL3.out.ow (.slice (some ⟨wr.heap.size, 0, none⟩) 1 1) [⟨3, 1000 + ((j : Int) * 7 + up) % 73, ⟨#[]⟩⟩] (by rfl) (TsP.one HG3.out) (by have := HLJ.out; simp only [List.length_cons, List.length_nil]; omega) HL3.out.bw.size ?_; intro v' w4 hown hb3 hg3; have HL4 : Hid (LS W0 w4 v' (LJ ++ [⟨3, 1000 + ((j : Int) * 7 + up) % 73, ⟨#[]⟩⟩])) := ⟨hown, HL3.out.bw.trans hb3⟩; clear hown hb3 hg3 HL3 HG3)
      go_roundg g
      case measure => omega
      case rel => exact ⟨j + 1, by omega, by go_num, by rw [← HTJ.out]; exact HL4.out⟩
    | zero =>
      obtain rfl : j = n := by omega
      have hz : ¬ ((j : Int) < (j : Int)) := by omega
      have hbw := HLS.out.bw
      have HTS : Hid (Ts wr u7 (rnvs up j)) := HLS.out.ow.tsP.ts (by rw [rnvs_len]; omega)
      have HOK := HBX.out.later hbw
      have hrb := HRB.out.later hbw
      have HRB1 : Hid (CBlk wr (w.heap.size + 1) zcs 30) := hrb
      have HLT : Hid (w.heap.size + 1 < wr.heap.size) := hrb.lt
      have HBX1 : Hid (Bx wr w.heap.size ⟨(⟨⟨k, m', s⟩, nm, ls⟩, .slice a hn' cap), body, .slice a' body.length cap', tests, .slice a'' tests.length cap''⟩) := HOK
      have HW1 : Hid (Below w.heap.size w wr) := HBW.out.1.trans (hbw.mono (by have := HBW.out.2; omega))
      obtain ⟨c0, c1, c2, c3, c4, c5, c6⟩ := cseven HOK.b
      clear hbw hrb HOK HLS HBX HRB HBW
      go_wp2_with (go_at_call 17; refine (HIN.out _ _ HBX1.out.o HTS.out).mono ?_; clear HIN; rintro e w1 ⟨dd, rfl, hdk, hdp, hb⟩; obtain ⟨⟨d1, d2, d3, tz1⟩, ⟨d4, d6, tz2⟩, ⟨d7, d9, tz3⟩, -, -⟩ := (hdp.ok).shape; obtain ⟨d5, tz4⟩ : ∃ n, n = dd.body.length := ⟨_, rfl⟩; obtain ⟨d8, tz5⟩ : ∃ n, n = dd.tests.length := ⟨_, rfl⟩; rw [← tz4] at tz2; rw [← tz5] at tz3; obtain ⟨⟨⟨⟨dk, dn, ds⟩, dm, da⟩, dv⟩, db, dbv, dt, dtv⟩ := dd; simp only at tz1 tz2 tz3; subst tz1 tz2 tz3; clear tz4 tz5; have HDK : Hid (Cm.key ⟨(⟨⟨dk, dn, ds⟩, dm, da⟩, .slice d1 d2 d3), db, .slice d4 d5 d6, dt, .slice d7 d8 d9⟩ = mapC (ins (rnvs up j)) _) := hdk; have HKP : Hid (Kp wr.heap.size w1 ⟨(⟨⟨dk, dn, ds⟩, dm, da⟩, .slice d1 d2 d3), db, .slice d4 d5 d6, dt, .slice d7 d8 d9⟩) := hdp; have hr1 := HRB1.out.later hb; have HW2 : Hid (Below w.heap.size w w1) := below_step HW1.out hb; clear c0 c1 c2 c3 c4 c5 c6; obtain ⟨r0, r1, r2, r3, r4, r5, r6⟩ := cseven hr1; have hfr : ∀ i, w1.frozen? ⟨w.heap.size + 1, i, none⟩ = false := fun i => hr1.froz; have s0 := hfr 0; have s1 := hfr 1; have s2 := hfr 2; have s3 := hfr 3; have s4 := hfr 4; have s5 := hfr 5; have s6 := hfr 6; clear hb hr1 hfr hdk hdp)
      have nw : w.heap.size ≤ w.heap.size + 1 := by omega
      have hbw := HW2.out
      exact bodyPost_ret (v := Cm.v ⟨(⟨⟨dk, dn, ds⟩, dm, da⟩, .slice d1 d2 d3), db, .slice d4 d5 d6, dt, .slice d7 d8 d9⟩) (by simp [results, Try.results15, go_sem, Cm.v, r0, r1, r2, r3, r4, r5, r6]) rfl
        ⟨⟨(⟨⟨dk, dn, ds⟩, dm, da⟩, .slice d1 d2 d3), db, .slice d4 d5 d6, dt, .slice d7 d8 d9⟩, rfl, HDK.out, (HKP.out.put7 HLT.out _ _ _ _ _ _ _).ok, ((((((hbw.setCell nw _).setCell nw _).setCell nw _).setCell nw _).setCell nw _).setCell nw _).setCell nw _⟩
/-- Normal of a clause of so many terms. -/
theorem tot_flat : ∀ l : List At, totA l = (l.flatMap At.pl).length
  | [] => rfl
  | a :: l => by rw [List.flatMap_cons, List.length_append, ← tot_flat l]; simp [totA, At.pl]
theorem tls_two (l : List Te) : (tls l).length = 2 * l.length := by rw [tls_len]; omega
theorem flat_one {l : List At} : l.length ≤ (l.flatMap At.pl).length := by
  induction l with
  | nil => simp
  | cons a l ih => rw [List.flatMap_cons, List.length_append, List.length_cons]; have : 1 ≤ a.pl.length := (by simp [At.pl]); omega
theorem flat_arg {l : List At} {a : At} (h : a ∈ l) : a.args.length ≤ (l.flatMap At.pl).length := by
  induction l with
  | nil => cases h
  | cons b l ih =>
    rw [List.flatMap_cons, List.length_append]
    rcases List.mem_cons.1 h with rfl | h
    · have : a.args.length ≤ a.pl.length := (by simp [At.pl]); omega
    · have := ih h; omega
theorem normal5_any (c : Cm) (w : World) (h : c.ok w) (hs : (Ck.terms c.key).length ≤ 4000000) (hw : ∀ t ∈ Ck.terms c.key, t.var = true → (Lit.int .i64 t.n).wf = true) :
    Calls Try.prog 16 #[c.v] w fun e w' => ∃ d : Cm, e = .returned d.v ∧ d.key = normC c.key ∧ d.ok w' ∧ Below w.heap.size w w' := by
  have hlen : (Ck.terms c.key).length = c.head.1.args.length + 1 + (totA (fsts c.body) + 2 * c.tests.length) := by
    unfold Ck.terms Cm.key
    simp only
    rw [List.length_append, List.length_append, ← tot_flat, tls_two]
    simp [At.pl]
  have hb1 : (fsts c.body).length ≤ totA (fsts c.body) := by rw [tot_flat]; exact flat_one
  rw [fsts_len] at hb1
  have hb2 : ∀ x ∈ c.body, x.1.args.length ≤ totA (fsts c.body) := fun x hx => by rw [tot_flat]; exact flat_arg (List.mem_map.2 ⟨x, hx, rfl⟩)
  have m1 : ∀ t, t = c.head.1.by_ ∨ t ∈ c.head.1.args → t ∈ Ck.terms c.key := fun t ht => List.mem_append_left _ (by rcases ht with e | e; rw [e]; exact List.mem_cons_self; exact List.mem_cons_of_mem _ e)
  have m2 : ∀ x ∈ c.body, ∀ t, t = x.1.by_ ∨ t ∈ x.1.args → t ∈ Ck.terms c.key := fun x hx t ht => List.mem_append_right _ (List.mem_append_left _ (List.mem_flatMap.2 ⟨x.1, List.mem_map.2 ⟨x, hx, rfl⟩, by rcases ht with e | e; rw [e]; exact List.mem_cons_self; exact List.mem_cons_of_mem _ e⟩))
  have m3 : ∀ x ∈ c.tests, x.l ∈ Ck.terms c.key ∧ x.r ∈ Ck.terms c.key := fun x hx => ⟨List.mem_append_right _ (List.mem_append_right _ (List.mem_flatMap.2 ⟨x, hx, by simp⟩)), List.mem_append_right _ (List.mem_append_right _ (List.mem_flatMap.2 ⟨x, hx, by simp⟩))⟩
  refine (normal_any c w (fun t ht => hw t (m1 t ht)) (fun x hx t ht => hw t (m2 x hx t ht)) (fun x hx => ⟨hw _ (m3 x hx).1, hw _ (m3 x hx).2⟩) (by omega) h (by omega) (by omega) (by omega) (fun x hx => by have := hb2 x hx; omega)).mono fun e w' he => ?_
  obtain ⟨M1, M2, M3, lb, rfl, hr, hb⟩ := he
  refine ⟨_, rfl, ?_, (NrPost.kp hr (by omega) (by omega)).ok, hb⟩
  rw [← nr_norm]
  unfold Cm.key Cm.cpN
  simp only
  rw [hr.f]
theorem norm_terms (x : Ck) : (Ck.terms (normC x)).length = (Ck.terms x).length := by unfold normC; rw [mapC_terms, List.length_map]
theorem norm_small {x : Ck} {n : Nat} (h : (Ck.terms x).length ≤ n) {t : Tm} (ht : t ∈ Ck.terms (normC x)) (hv : t.var = true) : t.n < n := by
  unfold normC at ht
  rw [mapC_terms] at ht
  obtain ⟨u, hu, rfl⟩ := List.mem_map.1 ht
  rw [nmT_var _ _ (fun u hu => (disT_mem.1 hu).2)] at hv
  have hm : u ∈ disT (Ck.terms x) := disT_mem.2 ⟨hu, hv⟩
  unfold nmT
  rw [if_pos hm]
  have h1 := ix_lt hm
  have h2 : (disT (Ck.terms x)).length ≤ (Ck.terms x).length := by
    rw [← dis_lenT]
    exact Nat.le_trans (dis_le _) (vrs_len _)
  simp only
  omega
end Go.Proofs.Ytdfgijdededolaa
