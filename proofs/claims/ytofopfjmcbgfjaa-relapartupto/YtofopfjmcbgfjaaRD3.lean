/-
  ref 7: fits, Rows, Len.
-/
import Derived.Test.YtofopfjmcbgfjaaRD2
import Derived.Test.YtofopfjmcbgfjaaRA46
namespace Go.Proofs.Ytofopfjmcbgfjaa
open Go.RowKit
attribute [local go_sem ↓] Go.wp_at_zero Go.wp_at_succ

set_option maxRecDepth 20000 in
set_option maxHeartbeats 600000 in
theorem rfits7_any (F G N : Nat → Prop) (row cols keys : List Int) (rv cv kv : Value) (w : World) (hr : Li F w rv row) (hc : Li G w cv cols) (hk : Li N w kv keys) (hl : cols.length = keys.length) :
    Calls Try.prog 94 #[rv, cv, kv] w fun e w' => e = .returned (.bool (fits8 cols keys row)) ∧ ∃ n, w' = w.drewN n := by
  obtain ⟨ra, rc, rfl, -, -, -, hr⟩ := hr
  obtain ⟨ca, cc, rfl, g1, g2, -, hc⟩ := hc
  obtain ⟨ka, kc, rfl, -, -, -, hk⟩ := hk
  obtain ⟨rn, hrn⟩ : ∃ n, row.length = n := ⟨_, rfl⟩
  obtain ⟨n, hn⟩ : ∃ n, cols.length = n := ⟨_, rfl⟩
  obtain ⟨n', hn'⟩ : ∃ n, keys.length = n := ⟨_, rfl⟩
  have hnb : n ≤ 9223372036854775807 := by omega
  rw [hrn, hn, hn']
  clear g1 g2
  have hnn : n = n' := by omega
  subst hnn
  have HZL : Hid ((cols.zip keys).length = n) := by show _ = _; rw [List.length_zip, hn, hn', Nat.min_self]
  have HLL : Hid (cols.length = keys.length) := by show _ = _; rw [hn, hn']
  go_enter Try.func94, Try.ntmps94
  go_wp2
  go_loopg [7] n (fun gg i wr => ∃ j m : Nat, j + gg = n ∧ i = .int .i64 j ∧ wr = w.drewN m ∧ ∀ p ∈ (cols.zip keys).take j, ask8 row p = true)
  case atStart => exact ⟨0, 0, by omega, rfl, rfl, by simp⟩
  case round =>
    obtain ⟨j, m, hj, rfl, rfl, hall⟩ := hrel
    have HA := hm7 hall
    clear hall
    cases gk with
    | succ gg =>
      have hlt : (j : Int) < (n : Int) := by omega
      have j0 : (0 : Int) ≤ (j : Int) := by omega
      obtain ⟨c, hcj⟩ : ∃ c, cols[j]? = some c := ⟨_, List.getElem?_eq_getElem (by omega)⟩
      obtain ⟨k, hkj⟩ : ∃ c, keys[j]? = some c := ⟨_, List.getElem?_eq_getElem (by omega)⟩
      rcases hc with ⟨hc, -⟩ | ⟨b1, o1, rfl, -, -, hc⟩
      · rw [hc] at hcj; simp at hcj
      rcases hk with ⟨hk, -⟩ | ⟨b2, o2, rfl, -, -, hk⟩
      · rw [hk] at hkj; simp at hkj
      have p0 := hc j c hcj
      have q0 := hk j k hkj
      have HJ := hm7 (And.intro hcj hkj)
      clear hc hk hcj hkj
      by_cases i1 : c < 0
      · have HF : Hid (fits8 cols keys row = false) := fits8_no HJ.out.1 HJ.out.2 (decide_eq_false (by simp; omega))
        have hd1 : decide (c < 0) = true := decide_eq_true i1
        clear hr
        go_wp2
        go_quiet (fail)
        go_wp2
        go_ret
        exact ⟨by rw [HF.out]; rfl, _, by rw [World.drewN_drewN]⟩
      · have hd1 : decide (c < 0) = false := decide_eq_false i1
        by_cases i2 : (rn : Int) ≤ c
        · have hd2 : decide ((rn : Int) ≤ c) = true := decide_eq_true i2
          have hd3 : decide (c ≥ (rn : Int)) = true := decide_eq_true i2
          have HF : Hid (fits8 cols keys row = false) := fits8_no HJ.out.1 HJ.out.2 (decide_eq_false (by simp; omega))
          clear hr
          go_wp2
          go_quiet (fail)
          go_wp2
          go_ret
          exact ⟨by rw [HF.out]; rfl, _, by rw [World.drewN_drewN]⟩
        · obtain ⟨cn, rfl⟩ : ∃ cn : Nat, c = (cn : Int) := ⟨c.toNat, by omega⟩
          obtain ⟨x, hx⟩ : ∃ x, row[cn]? = some x := ⟨_, List.getElem?_eq_getElem (by omega)⟩
          rcases hr with ⟨hr, -⟩ | ⟨b3, o3, rfl, -, -, hr⟩
          · rw [hr] at hx; simp at hx
          have r0 := hr cn x hx
          have i3 : (cn : Int) < (rn : Int) := by omega
          have i4 : (0 : Int) ≤ (cn : Int) := by omega
          have hd2 : decide ((rn : Int) ≤ (cn : Int)) = false := decide_eq_false i2
          have hd3 : decide (rn ≤ cn) = false := decide_eq_false (by omega)
          have HX := hm7 hx
          clear hr hx
          by_cases i5 : x = k
          · subst i5
            go_wp2
            go_quiet (fail)
            go_wp2
            go_roundg gg
            case measure => omega
            case rel =>
              refine ⟨j + 1, _, by omega, by go_num, by first | rfl | rw [World.drewN_drewN], fun p hp => ?_⟩
              rw [take_next7 (y := ((cn : Int), x)) (by rw [List.getElem?_zip_eq_some]; exact HJ.out)] at hp
              rcases List.mem_append.1 hp with hp | hp
              · exact HA.out p hp
              · rw [List.mem_singleton] at hp
                rw [hp]
                exact decide_eq_true ⟨i4, by simp only; omega, by simp [HX.out]⟩
          · have HF : Hid (fits8 cols keys row = false) := fits8_no HJ.out.1 HJ.out.2 (decide_eq_false (by simp [HX.out, i5]))
            have hs1 : (x == k) = false := by simpa using i5
            go_wp2
            go_quiet (fail)
            go_wp2
            go_ret
            exact ⟨by rw [HF.out]; rfl, _, by rw [World.drewN_drewN]⟩
    | zero =>
      have hlt : ¬ (j : Int) < (n : Int) := by omega
      have HF : Hid (fits8 cols keys row = true) := fits8_yes HLL.out (n := j) (by have := HZL.out; omega) HA.out
      clear hr hc hk hn hn'
      go_wp2
      go_ret
      exact ⟨by rw [HF.out]; rfl, _, rfl⟩
/-- The document's rows of these parts. -/
def rsel7 (s : St7) (parts : Int) : List (List Int) := (srt7 s.rows).filter fun r => hp7 parts (part7 s r)
def RwQ (Y : World) (L : List (List Int)) (e : Ending) (Y' : World) : Prop := ∃ u, e = .returned u ∧ ∃ Q, OL Y' Y.heap.size u Q ∧ Q.map Prod.fst = L ∧ Below Y.heap.size Y Y'
theorem take_filter7 {α : Type} (f : α → Bool) {L : List α} {j : Nat} {x : α} (h : L[j]? = some x) : (L.take (j + 1)).filter f = (L.take j).filter f ++ if f x then [x] else [] := by
  rw [take_next7 h, List.filter_append]
  cases hf : f x <;> simp [hf]
set_option maxRecDepth 20000 in
set_option maxHeartbeats 2000000 in
theorem rrows7_any (w : World) (T : Nat → Prop) (g : Nat) (s : St7) (parts : Int) (Y : World) (h : RR w T g s Y) :
    Calls Try.prog 55 #[.pointer (some ⟨g, 0, none⟩), .int .i64 parts] Y (RwQ Y (rsel7 s parts)) := by
  obtain ⟨av, iv, P, h⟩ := h
  have H := hm7 h
  obtain ⟨aa, ac, ha, -⟩ := row7_form h.a
  obtain ⟨ia, ic, hi, -⟩ := row7_form h.i
  obtain ⟨n, hn⟩ : ∃ n, P.length = n := ⟨_, rfl⟩
  have hps : P.length = (srt7 s.rows).length := by rw [← h.p, List.length_map]
  have hin : ((srt7 s.rows).map (part7 s)).length = n := by rw [List.length_map, ← hps, hn]
  rw [hn] at ha
  rw [hin] at hi
  subst ha hi
  have hnb : n ≤ 10000000000 := by
    have h1 := h.ok.c
    rw [← (srt7_perm _).length_eq] at h1
    omega
  have HLL : Hid ((srt7 s.rows).length = n) := by show _ = _; omega
  have HN := hm7 hn
  have HIN := hm7 hin
  clear h hn hps hin
  go_enter Try.func55, Try.ntmps55
  go_wp2
  go_loopg [5, 6] n (fun gg u i wr => ∃ (j : Nat) (Q : List (List Int × Value)), j + gg = n ∧ i = .int .i64 j ∧ OL wr Y.heap.size u Q ∧ Q.map Prod.fst = ((srt7 s.rows).take j).filter (fun r => hp7 parts (part7 s r)) ∧ Below Y.heap.size Y wr)
  case atStart => exact ⟨0, [], by omega, rfl, OL.nil _ _, rfl, Below.refl _ _⟩
  case round =>
    obtain ⟨j, Q, hj, rfl, hol, hq, hb⟩ := hrel
    have HOL := hm7 hol
    have HQ := hm7 hq
    have HB := hm7 hb
    have HR := hm7 (H.out.below hb)
    obtain ⟨c0, c1, c2⟩ := three7 HR.out.b
    obtain ⟨ua, uc, hu, -⟩ := row7_form hol.o
    have hql : Q.length ≤ j := by have h1 := congrArg List.length hq; simp only [List.length_map] at h1; rw [h1]; exact Nat.le_trans (List.length_filter_le _ _) (by rw [List.length_take]; omega)
    obtain ⟨qn, hqn⟩ : ∃ n, Q.length = n := ⟨_, rfl⟩
    rw [hqn] at hu hql
    subst hu
    have HQL := hm7 hqn
    clear hol hq hb hqn c0
    cases gk with
    | succ gg =>
      have hlt : (j : Int) < (n : Int) := by omega
      have j0 : (0 : Int) ≤ (j : Int) := by omega
      obtain ⟨p, hp⟩ : ∃ p, P[j]? = some p := ⟨_, List.getElem?_eq_getElem (by have := HN.out; omega)⟩
      have hpl : (srt7 s.rows)[j]? = some p.1 := by rw [← H.out.p, List.getElem?_map, hp]; rfl
      obtain ⟨b1, rfl, -, -, p0, -⟩ := row7_at (by have := HR.out.a; rw [HN.out] at this; exact this) (i := j) (u := p.2) (by rw [List.getElem?_map, hp]; rfl)
      obtain ⟨b2, rfl, -, -, q0, -⟩ := row7_at (by have := HR.out.i; unfold OwI at this; rw [HIN.out] at this; exact this) (i := j) (u := .int .i64 (part7 s p.1)) (by simp only [ibs7, List.getElem?_map, hpl]; rfl)
      have hli := HR.out.r p (List.mem_of_getElem? hp)
      have hmem := (srt7_perm _).mem_iff.1 (List.mem_of_getElem? hpl)
      have hwd := H.out.ok.wid p.1 hmem
      have HC := hm7 (copied7_any _ p.2 p.1 wr hli (by have := H.out.ok.d (List.ne_nil_of_mem hmem); omega))
      have HPW := hm7 (H.out.ok.w p.1 hmem)
      obtain ⟨pa, pc, hpv, -⟩ := hli
      generalize hpn : p.1.length = pn at hpv
      rw [hpv] at p0 HC
      have HTF := hm7 (take_filter7 (fun r => hp7 parts (part7 s r)) hpl)
      clear hp hpl hpv hpn hwd hmem
      obtain ⟨pt, hpt⟩ : ∃ x, part7 s p.1 = x := ⟨_, rfl⟩
      rw [hpt] at q0
      cases k1 : (bits BinOp.and IntKind.i64 parts pt != 0) with
      | true =>
        have HF : Hid (hp7 parts (part7 s p.1) = true) := by show _ = _; rw [hpt]; exact k1
        clear hpt
        go_wp2_with (first | (go_at_call 67; refine HC.out.mono ?_; rintro e w3 ⟨v3, rfl, ho3, hb3⟩; obtain ⟨va, vc, hv3, -⟩ := row7_form ho3; obtain ⟨vn, hvn⟩ : ∃ vn, p.1.length = vn := ⟨_, rfl⟩; rw [hvn] at hv3; subst hv3; have HO3 := hm7 ho3; have HB3 := hm7 hb3; clear ho3 hb3 hvn) | (at_builtin; refine gapp Try.underlying29 Try.infoInts7 rfl (by omega) rfl _ _ rfl Y.heap.size (.slice ua qn uc) qn (Q.map Prod.snd) rfl (row7_below (row7_below (by have := HOL.out.o; rw [HQL.out] at this; exact this) HB3.out) (below1 _ _)) w3.heap.size (.slice va vn vc) rfl (Bk.new _ _ _) rfl (by omega) (by have := HB.out.size; have := HB3.out.size; simp; omega) ?_; intro g2 c2' w5 ho5 hg5 hv5 hl5; have HH5 := hm7 (And.intro ho5 (And.intro hg5 hv5)); clear ho5 hg5 hv5))
        have hm := (HOL.out.below HB3.out).more HQL.out (x := p.1) ((OwI.li HO3.out HPW.out).mono fun b _ hb => ⟨by have := HB.out.size; omega, fun e => by have := (HOL.out.o.lt b e).2; omega⟩) HH5.out.1 HH5.out.2.1 HH5.out.2.2
        go_roundg gg
        case measure => omega
        case rel => exact ⟨j + 1, _, by omega, by go_num, hm.1, by rw [List.map_append, HQ.out, HTF.out, HF.out]; rfl, HB.out.trans ((HB3.out.mono HB.out.size).trans (hm.2.low (Nat.le_trans HB.out.size HB3.out.size)))⟩
      | false =>
        have HF : Hid (hp7 parts (part7 s p.1) = false) := by show _ = _; rw [hpt]; exact k1
        clear hpt
        go_wp2
        go_roundg gg
        case measure => omega
        case rel => exact ⟨j + 1, Q, by omega, by go_num, by have := HOL.out; exact this, by rw [HQ.out, HTF.out, HF.out]; simp, HB.out⟩
    | zero =>
      have hlt : ¬ (j : Int) < (n : Int) := by omega
      obtain rfl : j = n := by omega
      go_wp2
      go_ret
      refine ⟨.slice ua qn uc, rfl, Q, HOL.out, ?_, HB.out⟩
      rw [HQ.out, List.take_of_length_le (by have := HLL.out; omega)]
      rfl
theorem rlen7_any (w : World) (T : Nat → Prop) (g : Nat) (s : St7) (parts : Int) (Y : World) (h : RR w T g s Y) :
    Calls Try.prog 54 #[.pointer (some ⟨g, 0, none⟩), .int .i64 parts] Y fun e Y' => e = .returned (.int .i64 ((rsel7 s parts).length : Int)) ∧ Below Y.heap.size Y Y' := by
  have HC := hm7 (rrows7_any w T g s parts Y h)
  clear h
  go_enter Try.func54, Try.ntmps54
  go_wp2_with (go_at_call 55; refine HC.out.mono ?_; rintro e w3 ⟨v3, rfl, Q, ho, hq, hb⟩; obtain ⟨va, vc, hv3, -⟩ := row7_form ho.o; rw [show Q.length = (rsel7 s parts).length by rw [← hq, List.length_map]] at hv3; subst hv3; clear ho hq)
  go_ret
  exact ⟨rfl, hb⟩
end Go.Proofs.Ytofopfjmcbgfjaa
