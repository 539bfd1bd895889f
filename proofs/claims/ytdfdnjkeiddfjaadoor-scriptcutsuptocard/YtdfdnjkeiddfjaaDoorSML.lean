/-
  script (stage 25): the program's Print.
-/
import Derived.Test.YtdfdnjkeiddfjaaDoorSMK
import Derived.Test.YtdfdnjkeiddfjaaDoorSMH
import Derived.Test.YtdfdnjkeiddfjaaDoorSM0
namespace Go.Proofs.YtdfdnjkeiddfjaaDoor
open Go.RowKit
attribute [local go_sem ↓] Go.wp_at_zero Go.wp_at_succ
attribute [local go_sem] run_store_funcA

/-- A part in the list: its cells. -/
theorem PLA.at_ {W : World} {B : Nat} {v : Value} {ps : List Int} {l : List (Value × Value × Value)} (h : PLA W B v ps l) {i : Nat} {p : Int} (hp : ps[i]? = some p) : ∃ g cap x, v = .slice (some ⟨g, 0, none⟩) ps.length cap ∧ PtA W p (v3A x) ∧
    W.cell? ⟨g, i * 3, none⟩ = some x.1 ∧ W.cell? ⟨g, i * 3 + 1, none⟩ = some x.2.1 ∧ W.cell? ⟨g, i * 3 + 2, none⟩ = some x.2.2 := by
  obtain ⟨x, hx, hpt⟩ := h.p i p hp
  have hi := (List.getElem?_eq_some_iff.1 hx).1
  have hfl : ∀ (q : Nat) (u : Value), (c3A x)[q]? = some u → (l.flatMap c3A)[i * 3 + q]? = some u := fun q u hu => by
    have h1 := fm_at c3A 3 (fun _ => rfl) x l i hi
    rw [List.getD_eq_getElem?_getD, hx] at h1
    have hq : q < 3 := (List.getElem?_eq_some_iff.1 hu).1
    have h2 : (((l.flatMap c3A).drop (i * 3)).take 3)[q]? = some u := by rw [h1]; exact hu
    rw [List.getElem?_take_of_lt hq, List.getElem?_drop] at h2
    exact h2
  rcases h.r.2 with ⟨-, hn⟩ | ⟨g, cap, cur, hv, -⟩
  · have := (List.getElem?_eq_some_iff.1 hp).1
    omega
  · have hc : ∀ (q : Nat) (u : Value), (l.flatMap c3A)[q]? = some u → W.cell? ⟨g, 0 + q, none⟩ = some u := fun q u hq => by
      have := World.ownsRow.cells h.r (g := g) (by rw [hv]; rfl) q u hq
      rw [Addr.add_mid] at this
      exact this
    refine ⟨g, cap, x, hv, hpt, ?_, ?_, ?_⟩
    · have := hc _ _ (hfl 0 _ rfl); simpa using this
    · have := hc _ _ (hfl 1 _ rfl); simpa using this
    · have := hc _ _ (hfl 2 _ rfl); simpa using this
theorem jo_next (d : SdO) (b X : ByteArray) {L : List Int} {k : Nat} {p : Int} (h : L[k]? = some p) : joS d b ((L.take (k + 1)).map letA) X = joS d b ((L.take k).map letA) X ++ ((⟨#[32]⟩ : ByteArray) ++ shS d b (letA p)) := by
  rw [List.take_add_one, h, List.map_append, jo_app, ← ByteArray.append_assoc]
  rfl
set_option maxRecDepth 20000 in
set_option maxHeartbeats 8000000 in
theorem aSPrint_any (d : SdO) (b : ByteArray) (a : Option Addr) (c : Nat) (ho : OkS d b) (w : World) (hE : EnS w) (hb : LbW (fun _ => True) w (.slice a b.size c) (blK b)) : Calls Tryd.prog 10 #[d.v a b.size c] w fun e w' => e = .returned (.tuple #[.string ((prS d b).getD ⟨#[]⟩), .bool (prS d b).isSome]) ∧ Below w.heap.size w w' := by
  have HE := hm7 hE
  obtain ⟨pr, hpr⟩ : ∃ pr, prS d b = pr := ⟨_, rfl⟩
  have HPR := hm7 hpr
  rw [hpr]
  clear hpr
  have HO := hm7 ho
  have hb1 := below1K w (.cells (d.v0 (.slice a b.size c)) 24)
  have hk1 := BlkK.new w (d.v0 (.slice a b.size c)) 24
  obtain ⟨W1, hW1⟩ : ∃ W, w.alloc (.cells (d.v0 (.slice a b.size c)) 24) = W := ⟨_, rfl⟩
  rw [hW1] at hb1 hk1
  have HB1 := hm7 hb1
  have HK1 := hm7 hk1
  have HL1 := hm7 (hb.below hb1)
  have d0 := cell8 hk1 0 _ rfl
  have HRO : Hid (Calls Tryd.prog 22 #[.int .i64 d.k] W1 fun e w' => e = .returned (.tuple #[((rwA.find? fun r => decide (r.k = d.k)).getD zrA).v, .bool (rwA.find? fun r => decide (r.k = d.k)).isSome]) ∧ Below W1.heap.size W1 w') := rowOfA_any d.k W1 (hE.later hb1).tbl
  have hroot := HPR.out
  unfold prS at hroot
  simp only [SdO.v0] at hW1
  clear hb hb1 hk1 hE ho
  rcases find_kind d.k with ⟨hf, hr⟩ | ⟨j, hj, hf, hr⟩
  · rw [hr] at hroot
    rw [hf] at HRO
    simp only [Option.getD_none, Option.isSome_none, RoA.v, zrA] at HRO
    have HN : Hid (none = pr) := hroot
    clear hf hr hroot
    go_enter Tryd.func10, Tryd.ntmps10
    go_wp2_with (go_at_call 22; refine HRO.out.mono ?_; rintro e w2 ⟨rfl, hb2⟩; have HB2 := hm7 hb2; clear hb2)
    go_ret2
    rw [← HN.out]
    exact ⟨ret_2 rfl rfl, below_stepK HB1.out (below_stepK HB2.out (below1K _ _))⟩
  · rw [hr] at hroot
    rw [hf] at HRO
    obtain ⟨h1, h2, h3, h4⟩ := rwA_S hj
    obtain ⟨cl, hcl⟩ : ∃ cl, clS (rwS.getD (ixR j) zrS).p d b.size = cl := ⟨_, rfl⟩
    have hcl2 : cl = true ↔ hoA (rwA.getD j zrA).l3 d b.size := by rw [← hcl]; exact cl_ho hj d b.size
    have hl3 := rwA_l3 hj
    have hlx : (rwA.getD j zrA).x.size ≤ 9 := by rw [← h3]; exact (rw_le (ixR j)).1
    have hps : (rwA.getD j zrA).ps.length ≤ 3 := by
      have := List.length_filter_le (fun p => p != 0) (rwA.getD j zrA).l3
      exact this
    simp only [h3, h4, hcl] at hroot
    obtain ⟨r, hrr⟩ : ∃ r, rwA.getD j zrA = r := ⟨_, rfl⟩
    rw [hrr] at HRO hcl2 hl3 hlx hps hroot
    have HRP : Hid (∀ X, Calls Tryd.prog 24 #[r.v] X fun e w' => ∃ v l, e = .returned v ∧ PLA w' X.heap.size v r.ps l ∧ Below X.heap.size X w') := fun X => rpartsA_any r hl3 X
    have HHO : Hid (∀ X, Calls Tryd.prog 23 #[r.v, d.v a b.size c] X fun e w' => e = .returned (.bool cl) ∧ Below X.heap.size X w') := fun X => (holdsA_any r d a b.size c X).mono fun e w' ⟨⟨R, e1, e2⟩, hB⟩ => ⟨by
      have : R = cl := by
        cases R <;> cases cl <;> first | rfl | exact absurd (hcl2.1 rfl) (fun q => by have := e2.2 q; cases this) | exact absurd (e2.1 rfl) (fun q => by have := hcl2.2 q; cases this)
      rw [e1, this], hB⟩
    obtain ⟨x, k, oa, ob, oc⟩ := r
    simp only [Option.getD_some, Option.isSome_some, RoA.v] at HRO HRP HHO
    obtain ⟨ps, hpse⟩ : ∃ ps, RoA.ps ⟨x, k, oa, ob, oc⟩ = ps := ⟨_, rfl⟩
    rw [hpse] at HRP hps hroot
    have HROOT := hm7 hroot
    have HPS3 := hm7 hps
    have HX9 : Hid (x.size ≤ 9) := hlx
    clear hf hr hroot h1 h2 h3 h4 hcl hcl2 hl3 hlx hps hrr hpse hj
    go_enter Tryd.func10, Tryd.ntmps10
    go_upto_region 2 with (go_at_call 22; refine HRO.out.mono ?_; rintro e w2 ⟨rfl, hb2⟩; have HB2 := hm7 hb2; clear hb2)
    have hb3 := below1K w2 (.cells #[.string x, .int .i64 k, .int .i64 oa, .int .i64 ob, .int .i64 oc] 55)
    have hk3 := BlkK.new w2 #[.string x, .int .i64 k, .int .i64 oa, .int .i64 ob, .int .i64 oc] 55
    revert hb3 hk3
    generalize w2.alloc _ = W3
    intro hb3 hk3
    have hbt := below_stepK HB2.out hb3
    have hd3 := HK1.out.later hbt
    have c0 := cell8 hk3 0 _ rfl
    have c1 := cell8 hk3 1 _ rfl
    have c2 := cell8 hk3 2 _ rfl
    have c3 := cell8 hk3 3 _ rfl
    have c4 := cell8 hk3 4 _ rfl
    have d1 := cell8 hd3 0 _ rfl
    have d2 := cell8 hd3 1 _ rfl
    have d3 := cell8 hd3 2 _ rfl
    have d4 := cell8 hd3 3 _ rfl
    have d5 := cell8 hd3 4 _ rfl
    have d6 := cell8 hd3 5 _ rfl
    have d7 := cell8 hd3 6 _ rfl
    have d8 := cell8 hd3 7 _ rfl
    have HH3 := hm7 (HHO.out W3)
    have HB3 := hm7 (below_stepK HB1.out hbt)
    have HK3 := hm7 hk3
    have HD3 := hm7 hd3
    have HL3 := hm7 (HL1.out.below hbt)
    have HE3 := hm7 (HE.out.later (below_stepK HB1.out hbt))
    clear hb3 hk3 hbt hd3 d0
    cases cl with
    | false =>
      have HN := hm7 (show none = pr from by have := HROOT.out; simpa using this)
      go_wp2_with (go_at_call 23; refine HH3.out.mono ?_; rintro e w4 ⟨rfl, hb4⟩; have HB4 := hm7 hb4; clear hb4)
      go_ret2
      rw [← HN.out]
      exact ⟨ret_2 rfl rfl, below_stepK HB3.out HB4.out⟩
    | true =>
      go_upto_region 4 with (go_at_call 23; refine HH3.out.mono ?_; rintro e w4 ⟨rfl, hb4⟩; have HB4 := hm7 (below_stepK HB3.out hb4); have HK4 := hm7 (HK3.out.later hb4); have HD4 := hm7 (HD3.out.later hb4); have HL4 := hm7 (HL3.out.below hb4); have HE4 := hm7 (HE3.out.later hb4); clear hb4)
      clear c0 c1 c2 c3 c4 d1 d2 d3 d4 d5 d6 d7 d8
      have c0 := cell8 HK4.out 0 _ rfl
      have c1 := cell8 HK4.out 1 _ rfl
      have c2 := cell8 HK4.out 2 _ rfl
      have c3 := cell8 HK4.out 3 _ rfl
      have c4 := cell8 HK4.out 4 _ rfl
      go_upto_region 6 with (go_at_call 24; refine (HRP.out _).mono ?_; rintro e w5 ⟨pv, l, rfl, hpl, hb5⟩; have HPL := hm7 hpl; have HB5 := hm7 (below_stepK HB4.out hb5); have HD5 := hm7 (HD4.out.later hb5); have HL5 := hm7 (HL4.out.below hb5); have HE5 := hm7 (HE4.out.later hb5); obtain ⟨va, vc, hv, -⟩ := rowS_form hpl.r; subst hv; clear hpl hb5)
      obtain ⟨N, hN⟩ : ∃ N, ps.length = N := ⟨_, rfl⟩
      have HN := hm7 hN
      rw [hN]
      have HNN : Hid (∀ q, q ≤ N → (joS d b ((ps.take q).map letA) x).size ≤ 100000000) := fun q hq => by
        have h1 := jo_big HO.out ((ps.take q).map letA) x
        have h2 := HX9.out
        have h3 := HPS3.out
        have h4 : ((ps.take q).map letA).length ≤ 3 := by rw [List.length_map, List.length_take]; omega
        omega
      clear hN c0 c1 c2 c3 c4
      go_loopg [6, 8, 28] N (fun gg s _ i wr => ∃ q : Nat, q + gg = N ∧ i = .int .i64 q ∧ s = .string (joS d b ((ps.take q).map letA) x) ∧ Below w5.heap.size w5 wr)
      case atStart => exact ⟨0, by omega, rfl, rfl, Below.refl _ _⟩
      case round =>
        obtain ⟨q, hq, rfl, rfl, hb6⟩ := hrel
        have HB6 := hm7 hb6
        have HW6 := hm7 (below_stepK HB5.out hb6)
        have HQ := hm7 hq
        clear hb6 hq
        cases gk with
        | succ gg =>
          have hlt : q < N := by have := HQ.out; omega
          have hi1 : (q : Int) < (N : Int) := by omega
          have hi2 : (0 : Int) ≤ (q : Int) := by omega
          have hi3 : (q : Int) ≤ 3 := by have := HPS3.out; have := HN.out; omega
          obtain ⟨p, hp⟩ : ∃ p, ps[q]? = some p := ⟨_, List.getElem?_eq_getElem (by rw [HN.out]; exact hlt)⟩
          obtain ⟨g, cap, xx, hv, hpt, k0, k1, k2⟩ := (HPL.out.later HB6.out).at_ hp
          cases hv
          obtain ⟨f1, q1, fS, cS, f3, q3, hxx, hent, hsp⟩ := hpt.spell d b a c HO.out
          obtain ⟨y1, y2, y3⟩ := xx
          simp only [v3A, Value.agg.injEq, Array.mk.injEq, List.cons.injEq, and_true] at hxx
          obtain ⟨rfl, rfl, rfl⟩ := hxx
          simp only at k0 k1 k2
          have hst := jo_next d b x hp
          have hn1 := HNN.out q (by omega)
          have hn2 := HNN.out (q + 1) (by omega)
          rw [hst] at hn2
          have HST := hm7 hst
          have hd6 := HD5.out.later HB6.out
          have hl6 := HL5.out.below HB6.out
          have he6 := HE5.out.later HB6.out
          have hbx := below1K wr (.cells #[.func (.func f1) #[] q1, .func (.func fS) #[] cS, .func (.func f3) #[] q3] 64)
          have HSP := hm7 (hsp _ hbx (he6.later hbx).env (hl6.below hbx))
          have HBX := hm7 hbx
          have hdx := hd6.later hbx
          have hpx := BlkK.new wr #[.func (.func f1) #[] q1, .func (.func fS) #[] cS, .func (.func f3) #[] q3] 64
          obtain ⟨sh, hsh⟩ : ∃ sh, shS d b (letA p) = sh := ⟨_, rfl⟩
          rw [hsh] at HSP HST hn2
          obtain ⟨A0, hA0⟩ : ∃ A, joS d b ((ps.take q).map letA) x = A := ⟨_, rfl⟩
          rw [hA0] at HST hn1 hn2 ⊢
          have l1 : ((⟨#[32]⟩ : ByteArray) ++ sh).size = 1 + sh.size := by rw [ByteArray.size_append]; rfl
          have l2 : (A0 ++ ((⟨#[32]⟩ : ByteArray) ++ sh)).size = A0.size + (1 + sh.size) := by rw [ByteArray.size_append, l1]
          rw [l2] at hn2
          obtain ⟨A1, hA1⟩ : ∃ A, (⟨#[32]⟩ : ByteArray) ++ sh = A := ⟨_, rfl⟩
          rw [hA1] at HST l1
          obtain ⟨A2, hA2⟩ : ∃ A, A0 ++ A1 = A := ⟨_, rfl⟩
          rw [hA2] at HST
          have g1 : ¬ 9223372036854775807 < 1 + sh.size := by omega
          have g2 : ¬ 9223372036854775807 < A0.size + A1.size := by omega
          clear hp hpt hsp hst hbx hsh hA0 hlt hd6 hl6 he6 hn1 hn2
          go_upto_region 8 with (fail)
          revert HSP HBX hdx hpx
          generalize wr.alloc _ = W7
          intro HBX hdx hpx HSP
          have x1 := cell8 hpx 1 _ rfl
          have d1 := cell8 hdx 0 _ rfl
          have d2 := cell8 hdx 1 _ rfl
          have d3 := cell8 hdx 2 _ rfl
          have d4 := cell8 hdx 3 _ rfl
          have d5 := cell8 hdx 4 _ rfl
          have d6 := cell8 hdx 5 _ rfl
          have d7 := cell8 hdx 6 _ rfl
          have d8 := cell8 hdx 7 _ rfl
          clear hdx hpx k0 k1 k2
          go_wp2_with (refine HSP.out.mono ?_; rintro e w8 ⟨rfl, hb8⟩; have HB8 := hm7 (below_stepK HB6.out (below_stepK HBX.out hb8)); clear hb8)
          go_roundg gg
          case measure => omega
          case rel => exact ⟨q + 1, by have := HQ.out; omega, by go_num, by rw [HST.out], HB8.out⟩
        | zero =>
          have hi1 : ¬ (q : Int) < (N : Int) := by have := HQ.out; omega
          have hqN : ps.take q = ps := List.take_of_length_le (by have := HQ.out; have := HN.out; omega)
          have hroot := HROOT.out
          rw [hqN]
          obtain ⟨T, hT⟩ : ∃ T, joS d b (ps.map letA) x = T := ⟨_, rfl⟩
          rw [hT] at hroot ⊢
          clear hqN hT
          by_cases hs : T.size ≤ 65536
          · have hs2 : ¬ (T.size : Int) > 65536 := by omega
            have HN2 := hm7 (show some T = pr from by rw [← hroot]; simp [hs])
            clear hs hroot
            go_wp2
            go_ret2
            rw [← HN2.out]
            exact ⟨ret_2 rfl rfl, HW6.out⟩
          · have hs2 : (T.size : Int) > 65536 := by omega
            have HN2 := hm7 (show none = pr from by rw [← hroot]; simp [hs])
            clear hs hroot
            go_wp2
            go_ret2
            rw [← HN2.out]
            exact ⟨ret_2 rfl rfl, HW6.out⟩
end Go.Proofs.YtdfdnjkeiddfjaaDoor
