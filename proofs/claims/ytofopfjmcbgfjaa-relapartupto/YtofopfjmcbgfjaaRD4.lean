/-
  ref 7: Find, Part.
-/
import Derived.Test.YtofopfjmcbgfjaaRD3
namespace Go.Proofs.Ytofopfjmcbgfjaa
open Go.RowKit
attribute [local go_sem ↓] Go.wp_at_zero Go.wp_at_succ

/-- The document's answer of Find. -/
def rfnd7 (s : St7) (parts : Int) (cols keys : List Int) : List (List Int) := (rsel7 s parts).filter (fits8 cols keys)
theorem rfnd7_no {cols keys : List Int} (h : cols.length ≠ keys.length) (s : St7) (parts : Int) : rfnd7 s parts cols keys = [] := by
  unfold rfnd7
  rw [List.filter_eq_nil_iff]
  intro r _
  unfold fits8
  rw [decide_eq_false h]
  simp
set_option maxRecDepth 20000 in
set_option maxHeartbeats 2000000 in
theorem rfind7_any (w : World) (T G N : Nat → Prop) (g : Nat) (s : St7) (parts : Int) (cols keys : List Int) (cv kv : Value) (Y : World) (h : RR w T g s Y) (hc : Li G Y cv cols) (hk : Li N Y kv keys) :
    Calls Try.prog 68 #[.pointer (some ⟨g, 0, none⟩), .int .i64 parts, cv, kv] Y fun e Y' => ∃ u, e = .returned u ∧ ∃ Q, OL Y' Y.heap.size u Q ∧ Q.map Prod.fst = rfnd7 s parts cols keys ∧ Below Y.heap.size Y Y' := by
  have HR := hm7 (rrows7_any w T g s parts Y h)
  have HO : Hid ((rsel7 s parts).length ≤ 10000000000) := by
    obtain ⟨av, iv, P, h⟩ := h
    have h1 := h.ok.c
    rw [← (srt7_perm _).length_eq] at h1
    exact Nat.le_trans (List.length_filter_le _ _) h1
  have HC := hm7 hc
  have HK := hm7 hk
  obtain ⟨ca, cc, rfl, -⟩ := hc
  obtain ⟨ka, kc, rfl, -⟩ := hk
  obtain ⟨cn, hcn⟩ : ∃ n, cols.length = n := ⟨_, rfl⟩
  obtain ⟨kn, hkn⟩ : ∃ n, keys.length = n := ⟨_, rfl⟩
  rw [hcn] at HC ⊢
  rw [hkn] at HK ⊢
  clear h
  by_cases hl : cn = kn
  · subst hl
    have HLL : Hid (cols.length = keys.length) := by show _ = _; omega
    clear hcn hkn
    go_enter Try.func68, Try.ntmps68
    go_wp2_with (go_at_call 55; refine HR.out.mono ?_; rintro e Y1 ⟨v3, rfl, Q0, ho, hq, hb⟩; have HO1 := hm7 ho; have HQ1 := hm7 hq; have HB1 := hm7 hb; obtain ⟨aa, ac, hv3, -⟩ := row7_form ho.o; obtain ⟨n, hn⟩ : ∃ n, Q0.length = n := ⟨_, rfl⟩; rw [hn] at hv3; subst hv3; have HN := hm7 hn; clear ho hq hb hn)
    have hnb : n ≤ 10000000000 := by have := HO.out; rw [← HQ1.out, List.length_map, HN.out] at this; exact this
    go_loopg [9, 11] n (fun gg u i wr => ∃ (j : Nat) (Q : List (List Int × Value)), j + gg = n ∧ i = .int .i64 j ∧ OL wr Y.heap.size u Q ∧ (∀ b, u.ownBlock = some b → Y1.heap.size ≤ b) ∧ Q = (Q0.take j).filter (fun p => fits8 cols keys p.1) ∧ Below Y1.heap.size Y1 wr)
    case atStart => exact ⟨0, [], by omega, rfl, OL.nil _ _, (by intro b hb; cases hb), rfl, Below.refl _ _⟩
    case round =>
      obtain ⟨j, Q, hj, rfl, hol, hown, hq, hb⟩ := hrel
      have HOL := hm7 hol
      have HOW := hm7 hown
      have HQ := hm7 hq
      have HB := hm7 hb
      obtain ⟨ua, uc, hu, -⟩ := row7_form hol.o
      have hql : Q.length ≤ j := by rw [hq]; exact Nat.le_trans (List.length_filter_le _ _) (by rw [List.length_take]; omega)
      obtain ⟨qn, hqn⟩ : ∃ n, Q.length = n := ⟨_, rfl⟩
      rw [hqn] at hu hql
      subst hu
      have HQL := hm7 hqn
      clear hol hq hb hqn hown
      cases gk with
      | succ gg =>
        have hlt : (j : Int) < (n : Int) := by omega
        have j0 : (0 : Int) ≤ (j : Int) := by omega
        obtain ⟨p, hp⟩ : ∃ p, Q0[j]? = some p := ⟨_, List.getElem?_eq_getElem (by have := HN.out; omega)⟩
        have hol1 := HO1.out.below HB.out
        obtain ⟨b1, rfl, -, -, p0, -⟩ := row7_at (by have := hol1.o; rw [HN.out] at this; exact this) (i := j) (u := p.2) (by rw [List.getElem?_map, hp]; rfl)
        have hli := hol1.l p (List.mem_of_getElem? hp)
        have hs1 := HB1.out.size
        have hs2 := HB.out.size
        have HLI : Hid (Li (fun b => Y.heap.size ≤ b ∧ (Value.slice ua qn uc).ownBlock ≠ some b) wr p.2 p.1) := by
          refine ((HO1.out.l p (List.mem_of_getElem? hp)).mono (G := fun b => Y.heap.size ≤ b ∧ b < Y1.heap.size) (fun b hl hb => ⟨hb.1, hl⟩) |>.below HB.out).mono fun b _ hb => ⟨hb.1, fun e => ?_⟩
          have := HOW.out b e
          omega
        have HF := hm7 (rfits7_any _ G N p.1 cols keys p.2 (.slice ca cn cc) (.slice ka cn kc) wr hli ((HC.out.below HB1.out).below HB.out) ((HK.out.below HB1.out).below HB.out) HLL.out)
        obtain ⟨pa, pc, hpv, -⟩ := hli
        generalize hpn : p.1.length = pn at hpv
        rw [hpv] at p0 HF HLI
        have HTF := hm7 (take_filter7 (fun p : List Int × Value => fits8 cols keys p.1) hp)
        have HPV : Hid (p = (p.1, .slice pa pn pc)) := by show _ = _; rw [← hpv]
        clear hp hpv hpn hol1
        cases k1 : fits8 cols keys p.1 with
        | true =>
          rw [k1] at HF
          have HKK := hm7 k1
          clear k1
          go_wp2_with (first | (go_at_call 94; refine HF.out.mono ?_; rintro e w2 ⟨rfl, n2, rfl⟩) | (at_builtin; refine gapp Try.underlying29 Try.infoInts7 rfl (by omega) rfl _ _ rfl Y.heap.size (.slice ua qn uc) qn (Q.map Prod.snd) rfl (row7_below (row7_below (by have := HOL.out.o; rw [HQL.out] at this; exact this) (below_dn7 wr n2)) (below1 _ _)) wr.heap.size (.slice pa pn pc) rfl (Bk.new _ _ _) rfl (by omega) (by simp; omega) ?_; intro g2 c2' w5 ho5 hg5 hv5 hl5; have HH5 := hm7 (And.intro ho5 (And.intro hg5 hv5)); clear ho5 hg5 hv5))
          have hm := (HOL.out.below (below_dn7 wr n2)).more HQL.out (x := p.1) (HLI.out.below (below_dn7 wr n2)) HH5.out.1 HH5.out.2.1 HH5.out.2.2
          have hfr : Fr (fun b => Y1.heap.size ≤ b) wr w5 := ((Fr.of (below_dn7 wr n2)).then (below1 _ _)).trans (Fr.grown HH5.out.2.1 fun b hb => HOW.out b hb) fun _ _ h => h
          go_roundg gg
          case measure => omega
          case rel =>
            refine ⟨j + 1, _, by omega, by go_num, hm.1, fun b hb => ?_, ?_, HB.out.trans (hfr.low hs2)⟩
            · have e2 : g2 = b := by simpa [Value.ownBlock] using hb
              rcases HH5.out.2.2 with h | h
              · exact HOW.out b (by rw [← e2]; exact h)
              · simp at h; omega
            · rw [HTF.out, HKK.out, ← HQ.out, ← HPV.out]; rfl
        | false =>
          rw [k1] at HF
          have HKK := hm7 k1
          clear k1
          go_wp2_with (go_at_call 94; refine HF.out.mono ?_; rintro e w2 ⟨rfl, n2, rfl⟩)
          go_roundg gg
          case measure => omega
          case rel => exact ⟨j + 1, Q, by omega, by go_num, by have := HOL.out.below (below_dn7 wr n2); exact this, HOW.out, by rw [HTF.out, HKK.out, ← HQ.out]; simp, HB.out.trans ((below_dn7 wr n2).mono hs2)⟩
      | zero =>
        have hlt : ¬ (j : Int) < (n : Int) := by omega
        obtain rfl : j = n := by omega
        go_wp2
        go_ret
        refine ⟨.slice ua qn uc, rfl, Q, HOL.out, ?_, HB1.out.trans (HB.out.mono HB1.out.size)⟩
        rw [HQ.out, List.take_of_length_le (by have := HN.out; omega), rfnd7, ← HQ1.out, List.filter_map]
        rfl
  · have hq : ((cn : Int) == (kn : Int)) = false := by simpa using fun e : (cn : Int) = kn => hl (by omega)
    have HE := hm7 (rfnd7_no (by omega : cols.length ≠ keys.length) s parts)
    clear hcn hkn
    go_enter Try.func68, Try.ntmps68
    go_wp2
    go_ret
    exact ⟨_, rfl, [], OL.nil _ _, by rw [HE.out]; rfl, Below.refl _ _⟩
/-- Where the row stands, its part. -/
theorem Pl7.part {s : St7} {r : List Int} {k : Nat} {there : Bool} (h : Pl7 (srt7 s.rows) r k there) : (there = true → (srt7 s.rows)[k]? = some r) ∧ (there = false → r ∉ s.rows) := by
  constructor
  · intro ht
    have hk : k < (srt7 s.rows).length := by
      rcases Nat.lt_or_eq_of_le h.le with h1 | h1
      · exact h1
      · rw [h.en h1] at ht; cases ht
    have h2 := h.hi _ (List.getElem?_eq_getElem hk)
    have h3 := h2.2.1 ht
    rw [List.getElem?_eq_getElem hk]
    congr 1
    exact cmpR_eq h3
  · intro ht hm
    obtain ⟨i, hi⟩ := List.getElem?_of_mem ((srt7_perm _).mem_iff.2 hm)
    obtain ⟨hil, hie⟩ := List.getElem?_eq_some_iff.1 hi
    have h1 : k ≤ i := by
      rcases Nat.lt_or_ge i k with h1 | h1
      · have := h.lo i r h1 hi
        rw [cmpR_refl] at this; omega
      · exact h1
    have hk : k < (srt7 s.rows).length := by omega
    have h2 := h.hi _ (List.getElem?_eq_getElem hk)
    have h3 : cmpR ((srt7 s.rows)[k]) r ≤ 0 := by
      rcases Nat.lt_or_eq_of_le h1 with h4 | h4
      · have := List.pairwise_iff_getElem.1 (srt7_srt s.rows) k i hk hil h4
        rw [hie] at this
        exact this
      · have e : (srt7 s.rows)[k] = r := by rw [← hie]; congr
        rw [e, cmpR_refl]; omega
    have h5 := h2.2.2 (by omega)
    rw [ht] at h5
    cases h5
theorem part7_no {s : St7} (ho : s.Ok) {r : List Int} (hr : w64 r) (h : r ∉ s.rows) : part7 s r = 0 := by
  unfold part7
  cases hx : txi s.rows (tx r) with
  | none => rfl
  | some j =>
    obtain ⟨r', h1, h2⟩ := txi_some hx
    have hm := List.mem_of_getElem? h1
    exact absurd (tx_inj (ho.w r' hm) hr h2 ▸ hm) h
set_option maxRecDepth 20000 in
set_option maxHeartbeats 1000000 in
theorem rpart7_any (w : World) (T G : Nat → Prop) (g : Nat) (s : St7) (v : Value) (r : List Int) (Y : World) (h : RR w T g s Y) (hv : Li G Y v r) :
    Calls Try.prog 53 #[.pointer (some ⟨g, 0, none⟩), v] Y fun e Y' => e = .returned (.int .i64 (part7 s r)) ∧ ∃ n, Y' = Y.drewN n := by
  have HR := hm7 h
  have HV := hm7 hv
  obtain ⟨av, iv, P, h⟩ := h
  have H := hm7 h
  obtain ⟨c0, c1, c2⟩ := three7 h.b
  obtain ⟨aa, ac, ha, -⟩ := row7_form h.a
  obtain ⟨ia, ic, hi, -⟩ := row7_form h.i
  obtain ⟨an, hn⟩ : ∃ n, P.length = n := ⟨_, rfl⟩
  obtain ⟨n, hin⟩ : ∃ n, ((srt7 s.rows).map (part7 s)).length = n := ⟨_, rfl⟩
  rw [hn] at ha
  rw [hin] at hi
  subst ha hi
  have HW : Hid (w64 r) := by obtain ⟨a, c, -, -, -, h, -⟩ := hv; exact h
  obtain ⟨va, vc, rfl⟩ : ∃ a c, v = .slice a r.length c := by obtain ⟨a, c, e, -⟩ := hv; exact ⟨_, _, e⟩
  have HIN := hm7 hin
  have hwd := h.ok.e
  have HN := hm7 hn
  clear h hn hin hv c1
  by_cases hrl : r.length = s.wd
  · have HP := hm7 (place7_any w T G g s (.slice va r.length vc) r Y HR.out HV.out hrl)
    rw [hrl] at HP HV ⊢
    go_enter Try.func53, Try.ntmps53
    go_upto_region 4 with (go_at_call 66; refine HP.out.mono ?_; rintro e Y1 ⟨k, there, rfl, hpl, m, rfl⟩)
    have HPL := hm7 hpl.part
    have HLE := hm7 hpl.le
    clear hpl
    cases there with
    | true =>
      have hk := HPL.out.1 rfl
      have hkl := (List.getElem?_eq_some_iff.1 hk).1
      have hkn : (k : Int) < (n : Int) := by have := HIN.out; rw [List.length_map] at this; omega
      have k0 : (0 : Int) ≤ (k : Int) := by omega
      obtain ⟨b2, rfl, -, -, q0, -⟩ := row7_at (by have := H.out.i; unfold OwI at this; rw [HIN.out] at this; exact this) (i := k) (u := .int .i64 (part7 s r)) (by simp only [ibs7, List.getElem?_map, hk]; rfl)
      clear hk hkl
      go_wp2
      go_ret
      exact ⟨rfl, _, rfl⟩
    | false =>
      have HZ := hm7 (part7_no H.out.ok HW.out (HPL.out.2 rfl))
      go_wp2
      go_ret
      exact ⟨by rw [HZ.out]; rfl, _, rfl⟩
  · have HZ : Hid (part7 s r = 0) := part7_no H.out.ok HW.out fun hm => hrl (H.out.ok.wid r hm)
    have hq : ((r.length : Int) == (s.wd : Int)) = false := by simpa using fun e : (r.length : Int) = s.wd => hrl (by omega)
    obtain ⟨rn, hrn⟩ : ∃ n, r.length = n := ⟨_, rfl⟩
    rw [hrn] at hq HV ⊢
    clear hrn hrl
    go_enter Try.func53, Try.ntmps53
    go_wp2
    go_ret
    exact ⟨by rw [HZ.out]; rfl, 0, rfl⟩
end Go.Proofs.Ytofopfjmcbgfjaa
