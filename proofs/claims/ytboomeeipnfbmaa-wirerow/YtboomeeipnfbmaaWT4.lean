/-
  wire: law 23: find, isBook.
-/
import Derived.Test.YtboomeeipnfbmaaWT3
import Derived.BigQuiet
namespace Go.Proofs.Ytboomeeipnfbmaa
open Go.RowKit
attribute [local go_sem ↓] Go.wp_at_zero Go.wp_at_succ

theorem LmW.at_ {F : Nat → Prop} {w : World} {a : Option Addr} {n cap : Nat} {l : List MsW} (h : LmW F w (.slice a n cap) l) {i : Nat} {m : MsW} (hm : l[i]? = some m) : n = l.length ∧ ∃ b o u, a = some ⟨b, o, none⟩ ∧ w.cell? ⟨b, o + i * 2, none⟩ = some (.int .i64 (m.n : Int)) ∧ w.cell? ⟨b, o + i * 2 + 1, none⟩ = some u ∧ LbW F w u m.b := by
  obtain ⟨a', c', e, h1, h2, h3⟩ := h
  simp only [Value.slice.injEq] at e
  obtain ⟨rfl, rfl, rfl⟩ := e
  rcases h3 with ⟨rfl, -⟩ | ⟨b, o, rfl, h3, h4, h5⟩
  · simp at hm
  · obtain ⟨c1, u, c2, c3⟩ := h5 i m hm
    exact ⟨rfl, b, o, u, rfl, c1, c2, c3⟩
set_option maxRecDepth 20000 in
set_option maxHeartbeats 1000000 in
theorem findW_any {F : Nat → Prop} {w : World} {v : Value} {s : WrW} (h : LmW F w v s.row) (ho : s.Ok) (n : Int) : Calls Try.prog 30 #[v, .int .i64 n] w fun e Y' => e = .returned (.int .i64 (plI s n)) ∧ Y' = w := by
  have H := hm7 h
  have HO := hm7 ho
  obtain ⟨a, cap, rfl, -⟩ := h.form
  obtain ⟨N, hN⟩ : ∃ N, s.row.length = N := ⟨_, rfl⟩
  rw [hN] at H ⊢
  have HN := hm7 hN
  have hb : N ≤ 4096 := by have h2 := ho.r; have h3 := ho.g; omega
  clear h hN ho
  go_enter Try.func30, Try.ntmps30
  go_wp2
  go_loopg [5] N (fun gg i wr => ∃ j : Nat, j + gg = N ∧ i = .int .i64 j ∧ (∀ (k : Nat) (m : MsW), k < j → s.row[k]? = some m → (m.n : Int) ≠ n) ∧ wr = w)
  case atStart => exact ⟨0, by omega, rfl, fun k m hk => by omega, rfl⟩
  case round =>
    obtain ⟨j, hj, rfl, hp, rfl⟩ := hrel
    have HP := hm7 hp
    clear hp
    cases gk with
    | succ gg =>
      have hlt : (j : Int) < (N : Int) := by omega
      have j0 : (0 : Int) ≤ (j : Int) := by omega
      obtain ⟨m, hm⟩ : ∃ m, s.row[j]? = some m := ⟨_, List.getElem?_eq_getElem (by have := HN.out; omega)⟩
      obtain ⟨-, b, o, u, rfl, c1, -, -⟩ := H.out.at_ hm
      have HM := hm7 hm
      obtain ⟨x, hx⟩ : ∃ x : Int, (m.n : Int) = x := ⟨_, rfl⟩
      rw [hx] at c1
      have HX := hm7 hx
      clear hm hx
      by_cases he : x = n
      · subst he
        go_wp2
        go_ret
        refine ⟨ret_i ?_, rfl⟩
        unfold plI
        have := plW_at HO.out HM.out
        rw [HX.out] at this
        rw [this]
      · have he' : (x == n) = false := by simpa using he
        go_wp2
        go_roundg gg
        case measure => omega
        case rel =>
          refine ⟨j + 1, by omega, by go_num, fun k m' hk hm' => ?_, rfl⟩
          by_cases e : k = j
          · subst e
            rw [HM.out] at hm'
            cases hm'
            rw [HX.out]
            exact he
          · exact HP.out k m' (by omega) hm'
    | zero =>
      have hlt : ¬ (j : Int) < (N : Int) := by omega
      go_wp2
      go_ret
      refine ⟨ret_i ?_, rfl⟩
      unfold plI
      cases hpl : plW s n with
      | none => rfl
      | some i =>
        obtain ⟨m, hm, hn, hi⟩ := plW_some hpl
        exact absurd hn (HP.out i m (by have := HN.out; omega) hm)
theorem lfW_le (G : List Bool) (j : Nat) : lfW G j ≤ j := by
  unfold lfW
  have := List.length_filter_le (fun k => decide (G[k]? = some false)) (List.range j)
  simpa using this
set_option maxRecDepth 20000 in
set_option maxHeartbeats 2000000 in
theorem isBookW_any {F N : Nat → Prop} {base : Nat} {w : World} {rv bv gv : Value} {s : WrW} {L : List (List Int × Value)} {G : List Bool} (h : LmW F w rv s.row) (ho : s.Ok) (hx : BoX base N w bv gv L G) (hr : ReW s (L.map Prod.fst) G) :
    Calls Try.prog 21 #[rv, bv, gv] w fun e Y' => e = .returned (.bool true) ∧ ∃ n, Y' = w.drewN n := by
  have H := hm7 h
  have HO := hm7 ho
  have HX := hm7 hx
  have HR := hm7 hr
  obtain ⟨ra, rc, rfl, -⟩ := h.form
  obtain ⟨ba, bc, rfl, -⟩ := row7_form hx.o
  obtain ⟨ga, gc, rfl, -⟩ := row7_form hx.p
  have hL : L.length = s.gv := by have := hr.lb; rw [List.length_map] at this; exact this
  have hG : G.length = s.gv := hr.lg
  obtain ⟨R, hRl⟩ : ∃ R, s.row.length = R := ⟨_, rfl⟩
  obtain ⟨M, hM⟩ : ∃ M, s.gv = M := ⟨_, rfl⟩
  rw [hM] at hL hG
  rw [hRl] at H ⊢
  rw [hL, hG] at HX ⊢
  have HL := hm7 hL
  have HG := hm7 hG
  have hM4 : M ≤ 4096 := by rw [← hM]; exact ho.g
  have HE : Hid (lfW G M = R) := hm7 (by rw [← hM, ← hRl]; exact hr.left ho)
  have HM := hm7 hM
  have hR4 : R ≤ 4096 := by have := ho.r; have := ho.g; omega
  clear h ho hx hr hL hG hRl hM
  go_enter Try.func21, Try.ntmps21
  go_upto_region 3 with (fail)
  go_loopg [7, 8, 9] M (fun gg lf i _ wr => ∃ j : Nat, j + gg = M ∧ lf = .int .i64 (lfW G j : Int) ∧ i = .int .i64 j ∧ ∃ n, wr = w.drewN n)
  case atStart => exact ⟨0, by omega, rfl, rfl, 0, rfl⟩
  case round =>
    obtain ⟨j, hj, rfl, rfl, nn, rfl⟩ := hrel
    cases gk with
    | zero =>
      obtain rfl : j = M := by omega
      have hlt : ¬ (j : Int) < (j : Int) := by omega
      have HE2 := HE.out
      rw [HE2]
      go_wp2
      go_ret
      exact ⟨ret_b (by simp), nn, rfl⟩
    | succ gg =>
      have hlt : (j : Int) < (M : Int) := by omega
      have j0 : (0 : Int) ≤ (j : Int) := by omega
      obtain ⟨lf, hlf⟩ : ∃ lf, lfW G j = lf := ⟨_, rfl⟩
      have hlfb : lf ≤ 4096 := by rw [← hlf]; have := lfW_le G j; omega
      rw [hlf]
      have HLF := hm7 hlf
      clear hlf
      have hw1 : IntKind.i64.wrap ((j : Int) + 1) = (j : Int) + 1 := by simp [IntKind.wrap, IntKind.bits, IntKind.signed]; omega
      obtain ⟨c, hc⟩ : ∃ c, G[j]? = some c := ⟨_, List.getElem?_eq_getElem (by have := HG.out; omega)⟩
      obtain ⟨q, hq⟩ : ∃ q, L[j]? = some q := ⟨_, List.getElem?_eq_getElem (by have := HL.out; omega)⟩
      obtain ⟨gb, rfl, -, -, -, g1, -⟩ := HX.out.atG hc
      obtain ⟨bb, rfl, -, -, -, b1, -⟩ := HX.out.atB hq
      have hqu := HX.out.u q (List.mem_of_getElem? hq)
      have HF := hm7 (findW_any (H.out.drewN nn) HO.out ((j : Int) + 1))
      have HC := hm7 hc
      cases c with
      | true =>
        have hpl : plI s ((j : Int) + 1) = -1 := plI_none (HR.out.gone hc)
        rw [hpl] at HF
        have HLS : Hid (lfW G (j + 1) = lf) := hm7 (by rw [lfW_succ, HC.out, HLF.out]; simp)
        clear hc hq hqu hpl
        go_upto_region 6 with (go_at_call 30; with_reducible refine HF.out.mono ?_; rintro e Y1 ⟨rfl, rfl⟩)
        go_quiet (fail)
        go_wp2
        go_roundg gg
        case measure => omega
        case rel => exact ⟨j + 1, by omega, by rw [HLS.out], by go_num, _, rfl⟩
      | false =>
        obtain ⟨i, m, hp, hi, hmn, hB, hby⟩ := HR.out.there HO.out hc
        rw [plI_some hp] at HF
        have hqb : q.1 = m.b := by rw [List.getElem?_map, hq] at hB; simpa using hB
        rw [hqb] at hqu
        obtain ⟨hRn, rb, ro, ru, rfl, -, r1, r2⟩ := H.out.at_ hi
        have HSB : Hid (∀ k, Calls Try.prog 12 #[ru, q.2] (w.drewN k) fun e w' => e = .returned (.bool true) ∧ ∃ n, w' = w.drewN (k + n)) := hm7 fun k => by
          have := sameW_any _ _ m.b m.b _ _ (w.drewN k) (r2.drewN k) (hqu.drewN k)
          rw [decide_eq_true rfl] at this
          exact this.mono fun e w' ⟨h1, n, h2⟩ => ⟨h1, n, by rw [h2, World.drewN_drewN]⟩
        have hiR : i < R := by rw [hRn]; exact (List.getElem?_eq_some_iff.1 hi).1
        have i0 : (0 : Int) ≤ (i : Int) := by omega
        have i1 : (i : Int) < (R : Int) := by omega
        obtain ⟨qv, hqv⟩ : ∃ qv, q.2 = qv := ⟨_, rfl⟩
        rw [hqv] at b1 HSB
        obtain ⟨xa, xn, xc, rfl⟩ : ∃ a n c, ru = .slice a n c := by obtain ⟨a, c, e, -⟩ := r2.form; exact ⟨_, _, _, e⟩
        obtain ⟨ya, yn, yc, rfl⟩ : ∃ a n c, qv = .slice a n c := by obtain ⟨a, c, e, -⟩ := hqu.form; exact ⟨_, _, _, by rw [← hqv]; exact e⟩
        have HLS : Hid (lfW G (j + 1) = lf + 1) := hm7 (by rw [lfW_succ, HC.out, HLF.out]; simp)
        clear hc hq hqu hp hi hmn hB hby hqb hRn r2 hqv
        go_upto_region 6 with (go_at_call 30; with_reducible refine HF.out.mono ?_; rintro e Y1 ⟨rfl, rfl⟩)
        go_quiet ((go_at_call 12; with_reducible refine (HSB.out _).mono ?_; rintro e Yx ⟨rfl, mx, rfl⟩; first | exact ⟨rfl, _, rfl⟩ | exact ⟨rfl, _, by rw [Nat.add_assoc]⟩))
        go_wp2
        go_roundg gg
        case measure => omega
        case rel => exact ⟨j + 1, by omega, by rw [HLS.out]; go_num, by go_num, _, rfl⟩
end Go.Proofs.Ytboomeeipnfbmaa
