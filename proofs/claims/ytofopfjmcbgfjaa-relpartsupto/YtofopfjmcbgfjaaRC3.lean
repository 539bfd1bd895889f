/-
  law 7: just, minus.
-/
import Derived.Test.YtofopfjmcbgfjaaRC2
namespace Go.Proofs.Ytofopfjmcbgfjaa
open Go.RowKit
attribute [local go_sem ↓] Go.wp_at_zero Go.wp_at_succ

set_option maxRecDepth 20000 in
set_option maxHeartbeats 2000000 in
theorem just7_any (w : World) (T : Nat → Prop) (g m : Nat) (s : St7) (parts : Int) (P : List (List Int × Value)) (wv : Value) (Y : World) (h : PT w T g m s Y) (hp : parts = 1 ∨ parts = 2 ∨ parts = 4) (hw : LX (fun b => ¬ T b) Y wv P) (hP : ∀ x, x ∈ P.map Prod.fst ↔ x ∈ sel7 s parts [] []) (hl : P.length ≤ 1000000000000) (hm : m ≤ 100000000000000) :
    Calls Try.prog 27 #[.pointer (some ⟨g, 0, none⟩), .int .i64 parts, wv] Y fun e Y' => e = .returned (.bool true) ∧ PX w T g (m + 1) s Y Y' := by
  have HRW := hm7 (h.rows parts hm)
  have HW := hm7 hw
  have HP := hm7 hP
  have HO := hm7 h.ok
  have HPP := hm7 hp
  obtain ⟨wa, wc, rfl, -⟩ : ∃ a c, wv = .slice a P.length c ∧ True := by obtain ⟨a, c, e, -⟩ := hw; exact ⟨a, c, e, trivial⟩
  obtain ⟨wn, hwn⟩ : ∃ n, P.length = n := ⟨_, rfl⟩
  rw [hwn] at HW hl ⊢
  have HWN := hm7 hwn
  clear h hw hP hwn
  go_enter Try.func27, Try.ntmps27
  go_upto_region 2 with (go_at_call 12; refine HRW.out.mono ?_; rintro e Y1 ⟨u, rfl, Q, B, hol, hB, hqf, hpx⟩; have HOL := hm7 hol; have HQF := hm7 hqf; have HPX := hm7 hpx; clear hol hqf hpx)
  clear HRW
  obtain ⟨ua, uc, hu, -⟩ := row7_form HOL.out.o
  obtain ⟨un, hun⟩ : ∃ n, Q.length = n := ⟨_, rfl⟩
  rw [hun] at hu
  subst hu
  have hul : Q.length ≤ 1000000000000 := by
    have h1 := congrArg List.length HQF.out
    simp at h1
    rw [(srt7_perm _).length_eq] at h1
    have h2 := sel_len7 HO.out HPP.out
    have h3 := HO.out.c
    have h4 : len7 s parts ≤ (s.rows.length : Int) := by
      have := HO.out.a
      have := HO.out.b
      rcases HPP.out with rfl | rfl | rfl
      · rw [len7_one]; omega
      · rw [len7_two]; omega
      · rw [len7_four]; omega
    omega
  obtain ⟨hfr, T', hpt, ht'⟩ := HPX.out
  have HRN : Hid (Rn7 Y1 (.slice ua un uc) Q) := HOL.out.rn
  have HWR : Hid (Rn7 Y1 (.slice wa wn wc) P) := (HW.out.px hfr ht').rn
  have HRI := hm7 (rising7_yes Q (.slice ua un uc) Y1 HRN.out hul fun j p q hj hq => rise_of ((srt7_perm _).nodup_iff.2 (sel_nodup HO.out HPP.out)) (fun r hr => HO.out.wid r (sel_mem r ((srt7_perm _).mem_iff.1 hr))) (srt7_srt _) j p.1 q.1 (by rw [← HQF.out, List.getElem?_map, hj]; rfl) (by rw [← HQF.out, List.getElem?_map, hq]; rfl))
  have HS1 := hm7 (fun k => subset7_yes Q P (.slice ua un uc) (.slice wa wn wc) (Y1.drewN k) (HRN.out.drew k) (HWR.out.drew k) hul (by have := HWN.out; omega) fun x hx => by rw [HQF.out, (srt7_perm _).mem_iff] at hx; exact (HP.out x).2 hx)
  have HS2 := hm7 (fun k => subset7_yes P Q (.slice wa wn wc) (.slice ua un uc) (Y1.drewN k) (HWR.out.drew k) (HRN.out.drew k) (by have := HWN.out; omega) hul fun x hx => by rw [HQF.out, (srt7_perm _).mem_iff]; exact (HP.out x).1 hx)
  have HLN := hm7 (fun k => (hpt.kr.below (below_dn7 Y1 k)).len parts)
  have HLE : Hid (len7 s parts = (un : Int)) := by
    show _ = _
    have h1 := congrArg List.length HQF.out
    simp at h1
    rw [(srt7_perm _).length_eq] at h1
    rw [sel_len7 HO.out HPP.out, ← h1, hun]
  rw [HLE.out] at HLN
  have HH := hm7 (And.intro hfr (And.intro hpt ht'))
  clear hun hul hfr hpt ht'
  go_wp2_with (first | (go_at_call 37; with_reducible refine HRI.out.mono ?_; rintro e w2 ⟨rfl, n2, rfl⟩) | (go_at_call 38; with_reducible refine (HS1.out _).mono ?_; rintro e w2 ⟨rfl, n2, rfl⟩) | (go_at_call 38; with_reducible refine (HS2.out _).mono ?_; rintro e w2 ⟨rfl, n2, rfl⟩) | (go_at_call 20; with_reducible refine (HLN.out _).mono ?_; rintro e w2 ⟨rfl, hb2⟩))
  go_ret
  exact ⟨rfl, PX.tr HH.out.1 T' HH.out.2.2 ⟨Fr.of ((below_dn7 _ _).trans hb2), T', HH.out.2.1.below ((below_dn7 _ _).trans hb2), fun b hb => Or.inl hb⟩⟩
set_option maxRecDepth 20000 in
set_option maxHeartbeats 2000000 in
theorem minus7_any (P O : List (List Int × Value)) (pv ov : Value) (Y : World) (h : Rn7 Y pv P) (h' : Rn7 Y ov O) (hP : P.length ≤ 1000000000) (hO : O.length ≤ 1000000000000) (hn : ∀ x ∈ P.map Prod.fst, x ∉ O.map Prod.fst) :
    Calls Try.prog 29 #[pv, ov] Y fun e Y' => (∃ a c, e = .returned (.slice a P.length c)) ∧ Below Y.heap.size Y Y' := by
  have H := hm7 h
  have H' := hm7 h'
  have HN := hm7 hn
  obtain ⟨pa, pc, rfl, -, -⟩ := h
  obtain ⟨oa, oc, rfl, -, -⟩ := h'
  obtain ⟨n, hpn⟩ : ∃ n, P.length = n := ⟨_, rfl⟩
  obtain ⟨on, hon⟩ : ∃ n, O.length = n := ⟨_, rfl⟩
  rw [hpn] at H hP ⊢
  rw [hon] at H' hO ⊢
  have HPN := hm7 hpn
  have HON := hm7 hon
  clear hpn hon hn
  go_enter Try.func29, Try.ntmps29
  go_wp2
  go_loopg [5, 6] n (fun gg u i wr => ∃ (j : Nat) (vs : List Value), j + gg = n ∧ i = .int .i64 j ∧ wr.ownsRow Y.heap.size 23 1 u j vs ∧ Below Y.heap.size Y wr)
  case atStart => exact ⟨0, [], by omega, rfl, World.ownsRow_nil _ _ _ _, Below.refl _ _⟩
  case round =>
    obtain ⟨j, vs, hj, rfl, ho, hb⟩ := hrel
    obtain ⟨ua, uc, hu, -⟩ := row7_form ho
    subst hu
    have HO := hm7 ho
    have HB := hm7 hb
    clear ho hb
    cases gk with
    | succ gg =>
      have hlt : (j : Int) < (n : Int) := by omega
      have j0 : (0 : Int) ≤ (j : Int) := by omega
      obtain ⟨p, hp⟩ : ∃ x, P[j]? = some x := ⟨_, List.getElem?_eq_getElem (by have := HPN.out; omega)⟩
      obtain ⟨b1, o1, rfl, -, p0, hli⟩ := (H.out.below HB.out).get hp
      have HC := hm7 (has7_any Any O p.1 (.slice oa on oc) p.2 wr (H'.out.below HB.out) hli (by have := HON.out; omega))
      rw [decide_eq_false (HN.out p.1 (List.mem_map_of_mem (List.mem_of_getElem? hp)))] at HC
      obtain ⟨pa2, pc2, hpv, -⟩ := hli
      generalize p.1.length = pn at hpv
      rw [hpv] at p0 HC
      clear hp hpv
      have hs := HB.out.size
      go_wp2_with (first | (go_at_call 26; refine HC.out.mono ?_; rintro e w2 ⟨rfl, n2, rfl⟩) | (at_builtin; refine gapp Try.underlying29 Try.infoInts7 rfl (by omega) rfl _ _ rfl Y.heap.size (.slice ua j uc) j vs rfl (row7_below (row7_below HO.out (below_dn7 wr n2)) (below1 _ _)) wr.heap.size (.slice pa2 pn pc2) rfl (Bk.new _ _ _) rfl (by omega) (by simp; omega) ?_; intro g2 c2 w5 ho5 hg5 hv5 hl5; have HH5 := hm7 (And.intro ho5 (And.intro hg5 hv5)); clear ho5 hg5 hv5))
      go_roundg gg
      case measure => omega
      case rel =>
        refine ⟨j + 1, _, by omega, by go_num, HH5.out.1, ?_⟩
        have hfr : Fr (fun b => Y.heap.size ≤ b) wr w5 := ((Fr.of (below_dn7 wr n2)).then (below1 _ _)).trans (Fr.grown HH5.out.2.1 fun b hb => (HO.out.lt b hb).1) fun _ _ h => h
        exact HB.out.trans (hfr.low hs)
    | zero =>
      have hlt : ¬ (j : Int) < (n : Int) := by omega
      obtain rfl : j = n := by omega
      go_wp2
      go_ret
      exact ⟨⟨_, _, rfl⟩, HB.out⟩
end Go.Proofs.Ytofopfjmcbgfjaa
