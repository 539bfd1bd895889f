/-
  law 7: grown.
-/
import Derived.Test.YtofopfjmcbgfjaaRA27
namespace Go.Proofs.Ytofopfjmcbgfjaa
open Go.RowKit
attribute [local go_sem ↓] Go.wp_at_zero Go.wp_at_succ

/-- What grown leaves. -/
def GW (w : World) (s : St7) (e : Ending) (w' : World) : Prop :=
  ∃ (g : Nat) (F S : Nat → Prop), e = .returned (.tuple #[.pointer (some ⟨g, 0, none⟩), .bool true]) ∧ RM w' g F S 0 s ∧ (∀ b, F b ∨ S b → w.heap.size ≤ b) ∧ Below w.heap.size w w'
theorem wd7_mem {k : Nat} {q : List (List Int × Value) × Value} : ∀ r ∈ bt7 k q, r.length = k := by
  intro r hr
  simp only [bt7, List.mem_map] at hr
  obtain ⟨p, -, rfl⟩ := hr
  exact wd7_len _ _
/-- How far the rows of one batch have come. -/
structure GI (w w3 : World) (g : Nat) (XB : Nat) (s : St7) (l : List (List Int)) (wr : World) (F S : Nat → Prop) : Prop where
  r : RM wr g F S 0 (adL s l)
  d : ∀ b, F b ∨ S b → w.heap.size ≤ b ∧ (b < XB ∨ w3.heap.size ≤ b)
  b : Below w.heap.size w wr
  f : Fr (fun b => b < XB ∨ w3.heap.size ≤ b) w3 wr
theorem GI.add {w w3 wr w' : World} {g XB : Nat} {s : St7} {l : List (List Int)} {F S : Nat → Prop} {r : List Int} {e : Ending} (h : GI w w3 g XB s l wr F S) (ha : AD wr g F S 0 (adL s l) r e w') (hw : w.heap.size ≤ w3.heap.size) : ∃ F' S', GI w w3 g XB s (l ++ [r]) w' F' S' := by
  obtain ⟨-, ⟨F', S', h1, h2, h3⟩, h4⟩ := ha
  have hz := h.f.size
  refine ⟨F', S', by rw [adL_snoc]; exact h1, fun b hb => ?_, ?_, h.f.trans h4 fun b _ hF => (h.d b (Or.inl hF)).2⟩
  · rcases hb with hb | hb
    · rcases h2 b hb with hb | hb
      · exact h.d b (Or.inl hb)
      · exact ⟨by omega, Or.inr (by omega)⟩
    · rcases h3 b hb with hb | hb
      · exact h.d b (Or.inr hb)
      · exact ⟨by omega, Or.inr (by omega)⟩
  · exact h.b.trans ((h4.mono (Q := fun b => w.heap.size ≤ b) fun b _ hF => (h.d b (Or.inl hF)).1).low h.b.size)
set_option maxRecDepth 20000 in
set_option maxHeartbeats 2000000 in
theorem grown7_any (Bs : List (List (List Int × Value) × Value)) (v : Value) (k : Nat) (w : World) (h : Bt7 w v Bs) (hk : k ≤ 5) (hB : tot7 Bs ≤ 1048576) (hBl : Bs.length ≤ 1048576) :
    Calls Try.prog 10 #[.int .i64 (k : Int), v] w (GW w (grw k Bs Bs.length)) := by
  have H := hm7 h
  obtain ⟨a, cap, rfl, -, -⟩ := h
  obtain ⟨n, hn⟩ : ∃ n, Bs.length = n := ⟨_, rfl⟩
  rw [hn] at H hBl ⊢
  have HN := hm7 hn
  clear hn
  have hnew := new7_any k (by omega) w
  have HNEW := hm7 hnew
  clear hnew
  have qP : ∀ (w : World) (x : Addr), (binOp .eql 25 (.pointer (some x)) (.pointer none)).run Try.prog w = .ok (.bool false) w := by
    intro w x
    rfl
  go_enter Try.func10, Try.ntmps10
  go_wp2_with (go_at_call 21; refine HNEW.out.mono ?_; rintro e W0 ⟨g, rfl, hg, hrm, hb⟩; have HRM := hm7 hrm; have HW0 := hm7 hb; clear hrm hb)
  clear HNEW
  go_loopg [8] n (fun gg i wr => ∃ (j : Nat) (F S : Nat → Prop), j + gg = n ∧ i = .int .i64 j ∧ RM wr g F S 0 (grw k Bs j) ∧ (∀ b, F b ∨ S b → w.heap.size ≤ b) ∧ Below w.heap.size w wr)
  case atStart => exact ⟨0, _, _, by omega, rfl, HRM.out, fun b hb => hb.elim (fun h => h.1) False.elim, HW0.out⟩
  case round =>
    obtain ⟨j, F, S, hj, rfl, hr, hd, hb⟩ := hrel
    have HR := hm7 hr
    have HD := hm7 hd
    have HB := hm7 hb
    clear hr hd hb
    cases gk with
    | succ gg =>
      have hlt : (j : Int) < (n : Int) := by omega
      have j0 : (0 : Int) ≤ (j : Int) := by omega
      have j1 : (j : Int) < 2147483648 := by omega
      by_cases hj0 : 0 < j
      · have i2 : (0 : Int) < (j : Int) := by omega
        have HTU := hm7 (turn7_any g F S 0 (grw k Bs j) wr HR.out)
        have HJ : Hid (tn7 j (grw k Bs j) = Turn7 (grw k Bs j)) := if_pos hj0
        go_upto_region 9 with (go_at_call 18; refine HTU.out.mono ?_; rintro e w1 ⟨rfl, hr1, hf1⟩; have HR1 := hm7 hr1; have HF1 := hm7 hf1; clear hr1 hf1)
        have HTN : Hid (RM w1 g F S 0 (tn7 j (grw k Bs j))) := by rw [HJ.out]; exact HR1.out
        have HXB : Hid (Below w.heap.size w w1) := HB.out.trans ((HF1.out.mono (Q := fun b => w.heap.size ≤ b) fun b _ hF => HD.out b (Or.inl hF)).low HB.out.size)
        clear HTU HR HJ HR1
        have p00 := HXB.out.size
        obtain ⟨q, hq⟩ : ∃ q, Bs[j]? = some q := ⟨_, List.getElem?_eq_getElem (by have := HN.out; omega)⟩
        obtain ⟨a', cap', hv', hc', hl'⟩ := H.out.below HXB.out
        rw [HN.out] at hv'
        simp only [Value.slice.injEq, true_and] at hv'
        obtain ⟨rfl, rfl⟩ := hv'
        rcases hc' with hc' | ⟨b, o, rfl, -, hc'⟩
        · rw [hc'] at hq; simp at hq
        have q0 := hc' j q hq
        have hrn := hl' q (List.mem_of_getElem? hq)
        have hqt := tot7_get hq
        have hgl := grw_len k Bs j (by have := HN.out; omega)
        have HBR := hm7 (brought7_any q.1 q.2 k w1 hrn (by omega) (by omega))
        obtain ⟨qa, qc, hqv, -, -⟩ := hrn
        have HQT : Hid (tot7 (Bs.take j) + q.1.length ≤ tot7 Bs ∧ (grw k Bs j).rows.length ≤ tot7 (Bs.take j)) := ⟨hqt, hgl⟩
        generalize hqn : q.1.length = qn at hqv
        rw [hqv] at q0 HBR
        have HQ := hm7 hq
        clear hq hc' hl' hqv hqn hqt hgl
        go_wp2_with (go_at_call 19; refine HBR.out.mono ?_; rintro e w3 ⟨u, rfl, Q, hol, hqm, hb3⟩; obtain ⟨ua, uc, hu, -⟩ := row7_form hol.o; obtain ⟨n2, hn2⟩ : ∃ n2, Q.length = n2 := ⟨_, rfl⟩; rw [hn2] at hu; subst hu; have HOL := hm7 hol; have HQM := hm7 hqm; have HB3 := hm7 hb3; have HN2 := hm7 hn2; clear hol hqm hb3 hn2)
        clear HBR q0
        have HQL : Hid (n2 = q.1.length) := by have := congrArg List.length HQM.out; simp at this; rw [HN2.out] at this; exact this
        have hn2b : n2 ≤ 1048576 := by have h1 := HQL.out; have h2 := HQT.out.1; omega
        have p01 := HB3.out.size
        go_loopg [10] n2 (fun gg2 i wr => ∃ (y : Nat) (F S : Nat → Prop), y + gg2 = n2 ∧ i = .int .i64 y ∧ GI w w3 g w1.heap.size (tn7 j (grw k Bs j)) ((Q.map Prod.fst).take y) wr F S)
        case atStart => exact ⟨0, F, S, by omega, rfl, HTN.out.below HB3.out, fun b hb => ⟨HD.out b hb, Or.inl (hb.elim (fun h => (HTN.out.q b h).2) (HTN.out.q2 b))⟩, HXB.out.trans (HB3.out.mono p00), Fr.refl _ _⟩
        case round =>
          obtain ⟨y, F2, S2, hy, rfl, hgi⟩ := hrel
          have HGI := hm7 hgi
          clear hgi
          cases gk with
          | succ gg2 =>
            have hlt2 : (y : Int) < (n2 : Int) := by omega
            have y0 : (0 : Int) ≤ (y : Int) := by omega
            have hol := HOL.out.fr HGI.out.f fun b h1 h2 h3 => by omega
            obtain ⟨p, hp⟩ : ∃ p, Q[y]? = some p := ⟨_, List.getElem?_eq_getElem (by have := HN2.out; omega)⟩
            obtain ⟨bu, rfl, -, -, q1, -⟩ := row7_at (by have := hol.o; rw [HN2.out] at this; exact this) (i := y) (u := p.2) (by rw [List.getElem?_map, hp]; rfl)
            have hli := hol.l p (List.mem_of_getElem? hp)
            have hpf : (Q.map Prod.fst)[y]? = some p.1 := by rw [List.getElem?_map, hp]; rfl
            have hpl : p.1.length = k := by
              have h1 : p.1 ∈ Q.map Prod.fst := List.mem_of_getElem? hpf
              rw [HQM.out] at h1
              exact wd7_mem (q := q) p.1 h1
            have HAD := hm7 (add8_any g F2 S2 _ 0 _ p.2 p.1 wr HGI.out.r hli (by rw [(adL_wd _ _).1, (tn7_rows _ _).2, grw_wd, hpl]) (by omega) (by
              have h1 := adL_len ((Q.map Prod.fst).take y) (tn7 j (grw k Bs j))
              rw [(tn7_rows _ _).1, List.length_take, List.length_map, HN2.out] at h1
              have h2 := HQT.out
              have h3 := HQL.out
              omega))
            obtain ⟨pa, pc, hpv, -⟩ := hli
            generalize p.1.length = pn at hpv
            rw [hpv] at q1 HAD
            have HPF := hm7 hpf
            clear hp hpf hpv hol hpl
            go_wp2_with (go_at_call 16; refine HAD.out.mono ?_; rintro e w4 had; obtain ⟨t0, t1, ht⟩ : ∃ t0 t1, e = .returned (.tuple #[.bool t0, .int .i64 t1]) := ⟨_, _, had.1⟩; subst ht; have HA4 := hm7 had; clear had)
            have hnx := HGI.out.add HA4.out (by omega)
            rw [← take_next0 HPF.out] at hnx
            obtain ⟨F3, S3, hgi3⟩ := hnx
            go_roundg gg2
            case measure => omega
            case rel => exact ⟨y + 1, F3, S3, by omega, by go_num, hgi3⟩
          | zero =>
            have hlt2 : ¬ (y : Int) < (n2 : Int) := by omega
            go_wp2
            go_roundg gg
            case measure => omega
            case rel =>
              refine ⟨j + 1, F2, S2, by omega, by go_num, ?_, fun b hb => (HGI.out.d b hb).1, HGI.out.b⟩
              have h1 := HGI.out.r
              rw [List.take_of_length_le (by rw [List.length_map, HN2.out]; omega), HQM.out] at h1
              rw [grw, HQ.out]
              exact h1
      · have i2 : ¬ (0 : Int) < (j : Int) := by omega
        have HTN : Hid (RM wr g F S 0 (tn7 j (grw k Bs j))) := by rw [tn7, if_neg hj0]; exact HR.out
        have HXB : Hid (Below w.heap.size w wr) := HB.out
        clear HR
        obtain ⟨X, hX⟩ : ∃ X, X = wr := ⟨_, rfl⟩
        subst hX
        have p00 := HXB.out.size
        obtain ⟨q, hq⟩ : ∃ q, Bs[j]? = some q := ⟨_, List.getElem?_eq_getElem (by have := HN.out; omega)⟩
        obtain ⟨a', cap', hv', hc', hl'⟩ := H.out.below HXB.out
        rw [HN.out] at hv'
        simp only [Value.slice.injEq, true_and] at hv'
        obtain ⟨rfl, rfl⟩ := hv'
        rcases hc' with hc' | ⟨b, o, rfl, -, hc'⟩
        · rw [hc'] at hq; simp at hq
        have q0 := hc' j q hq
        have hrn := hl' q (List.mem_of_getElem? hq)
        have hqt := tot7_get hq
        have hgl := grw_len k Bs j (by have := HN.out; omega)
        have HBR := hm7 (brought7_any q.1 q.2 k X hrn (by omega) (by omega))
        obtain ⟨qa, qc, hqv, -, -⟩ := hrn
        have HQT : Hid (tot7 (Bs.take j) + q.1.length ≤ tot7 Bs ∧ (grw k Bs j).rows.length ≤ tot7 (Bs.take j)) := ⟨hqt, hgl⟩
        generalize hqn : q.1.length = qn at hqv
        rw [hqv] at q0 HBR
        have HQ := hm7 hq
        clear hq hc' hl' hqv hqn hqt hgl
        go_wp2_with (go_at_call 19; refine HBR.out.mono ?_; rintro e w3 ⟨u, rfl, Q, hol, hqm, hb3⟩; obtain ⟨ua, uc, hu, -⟩ := row7_form hol.o; obtain ⟨n2, hn2⟩ : ∃ n2, Q.length = n2 := ⟨_, rfl⟩; rw [hn2] at hu; subst hu; have HOL := hm7 hol; have HQM := hm7 hqm; have HB3 := hm7 hb3; have HN2 := hm7 hn2; clear hol hqm hb3 hn2)
        clear HBR q0
        have HQL : Hid (n2 = q.1.length) := by have := congrArg List.length HQM.out; simp at this; rw [HN2.out] at this; exact this
        have hn2b : n2 ≤ 1048576 := by have h1 := HQL.out; have h2 := HQT.out.1; omega
        have p01 := HB3.out.size
        go_loopg [10] n2 (fun gg2 i wr => ∃ (y : Nat) (F S : Nat → Prop), y + gg2 = n2 ∧ i = .int .i64 y ∧ GI w w3 g X.heap.size (tn7 j (grw k Bs j)) ((Q.map Prod.fst).take y) wr F S)
        case atStart => exact ⟨0, F, S, by omega, rfl, HTN.out.below HB3.out, fun b hb => ⟨HD.out b hb, Or.inl (hb.elim (fun h => (HTN.out.q b h).2) (HTN.out.q2 b))⟩, HXB.out.trans (HB3.out.mono p00), Fr.refl _ _⟩
        case round =>
          obtain ⟨y, F2, S2, hy, rfl, hgi⟩ := hrel
          have HGI := hm7 hgi
          clear hgi
          cases gk with
          | succ gg2 =>
            have hlt2 : (y : Int) < (n2 : Int) := by omega
            have y0 : (0 : Int) ≤ (y : Int) := by omega
            have hol := HOL.out.fr HGI.out.f fun b h1 h2 h3 => by omega
            obtain ⟨p, hp⟩ : ∃ p, Q[y]? = some p := ⟨_, List.getElem?_eq_getElem (by have := HN2.out; omega)⟩
            obtain ⟨bu, rfl, -, -, q1, -⟩ := row7_at (by have := hol.o; rw [HN2.out] at this; exact this) (i := y) (u := p.2) (by rw [List.getElem?_map, hp]; rfl)
            have hli := hol.l p (List.mem_of_getElem? hp)
            have hpf : (Q.map Prod.fst)[y]? = some p.1 := by rw [List.getElem?_map, hp]; rfl
            have hpl : p.1.length = k := by
              have h1 : p.1 ∈ Q.map Prod.fst := List.mem_of_getElem? hpf
              rw [HQM.out] at h1
              exact wd7_mem (q := q) p.1 h1
            have HAD := hm7 (add8_any g F2 S2 _ 0 _ p.2 p.1 wr HGI.out.r hli (by rw [(adL_wd _ _).1, (tn7_rows _ _).2, grw_wd, hpl]) (by omega) (by
              have h1 := adL_len ((Q.map Prod.fst).take y) (tn7 j (grw k Bs j))
              rw [(tn7_rows _ _).1, List.length_take, List.length_map, HN2.out] at h1
              have h2 := HQT.out
              have h3 := HQL.out
              omega))
            obtain ⟨pa, pc, hpv, -⟩ := hli
            generalize p.1.length = pn at hpv
            rw [hpv] at q1 HAD
            have HPF := hm7 hpf
            clear hp hpf hpv hol hpl
            go_wp2_with (go_at_call 16; refine HAD.out.mono ?_; rintro e w4 had; obtain ⟨t0, t1, ht⟩ : ∃ t0 t1, e = .returned (.tuple #[.bool t0, .int .i64 t1]) := ⟨_, _, had.1⟩; subst ht; have HA4 := hm7 had; clear had)
            have hnx := HGI.out.add HA4.out (by omega)
            rw [← take_next0 HPF.out] at hnx
            obtain ⟨F3, S3, hgi3⟩ := hnx
            go_roundg gg2
            case measure => omega
            case rel => exact ⟨y + 1, F3, S3, by omega, by go_num, hgi3⟩
          | zero =>
            have hlt2 : ¬ (y : Int) < (n2 : Int) := by omega
            go_wp2
            go_roundg gg
            case measure => omega
            case rel =>
              refine ⟨j + 1, F2, S2, by omega, by go_num, ?_, fun b hb => (HGI.out.d b hb).1, HGI.out.b⟩
              have h1 := HGI.out.r
              rw [List.take_of_length_le (by rw [List.length_map, HN2.out]; omega), HQM.out] at h1
              rw [grw, HQ.out]
              exact h1
    | zero =>
      have hlt : ¬ (j : Int) < (n : Int) := by omega
      obtain rfl : j = n := by omega
      go_wp2
      go_ret2
      exact ⟨g, F, S, rfl, HR.out, HD.out, HB.out⟩
end Go.Proofs.Ytofopfjmcbgfjaa
