/-
  wire: law 23: WireRow.
-/
import Derived.Test.YtboomeeipnfbmaaWT4
import Derived.Deep.Cut
import Derived.Deep.CutRange
import Derived.Lib.SmallJoins
import Derived.Test.YtboomeeipnfbmaaWSB
import Derived.Test.YtboomeeipnfbmaaWRF
namespace Go.Proofs.Ytboomeeipnfbmaa
open Go.RowKit
attribute [local go_sem ↓] Go.wp_at_zero Go.wp_at_succ

def flW : List Int := [102, 105, 114, 115, 116]
theorem litF (Y : World) (F : Nat → Prop) (hF : F Y.heap.size) : LbW F (Y.alloc (.cells #[.int .u8 102, .int .u8 105, .int .u8 114, .int .u8 115, .int .u8 116] 5 (5, 6))) (.slice (some ⟨Y.heap.size, 0, none⟩) 5 5) flW := by
  refine ⟨_, 5, rfl, Nat.le_refl _, by omega, (by intro y hy; simp [flW] at hy; omega), Or.inr ⟨Y.heap.size, 0, rfl, by simp, hF, fun i y hy => ?_⟩⟩
  match i with
  | 0 => simp [flW] at hy; subst hy; exact World.cell?_alloc_mark Y _ _ _ 0
  | 1 => simp [flW] at hy; subst hy; exact World.cell?_alloc_mark Y _ _ _ 1
  | 2 => simp [flW] at hy; subst hy; exact World.cell?_alloc_mark Y _ _ _ 2
  | 3 => simp [flW] at hy; subst hy; exact World.cell?_alloc_mark Y _ _ _ 3
  | 4 => simp [flW] at hy; subst hy; exact World.cell?_alloc_mark Y _ _ _ 4
  | i + 5 => simp [flW] at hy
theorem convF (Y : World) : (convert 24 24 (.slice (some ⟨Y.heap.size, 0, none⟩) 5 5)).run Try.prog (Y.alloc (.cells #[.int .u8 102, .int .u8 105, .int .u8 114, .int .u8 115, .int .u8 116] 5)) = .ok (.slice (some ⟨Y.heap.size, 0, none⟩) 5 5) (Y.alloc (.cells #[.int .u8 102, .int .u8 105, .int .u8 114, .int .u8 115, .int .u8 116] 5 (5, 6))) :=
  Lib.run_convert_bytes_const Y 24 5 _ 5 5 Try.underlying24 Try.underlying5
theorem BoX.init {base x g1 g2 : Nat} {N : Nat → Prop} {w : World} (hx : w.heap[x]? = some (.cells #[.int .u8 102, .int .u8 105, .int .u8 114, .int .u8 115, .int .u8 116] 5 (5, 6))) (h1 : Bk w g1 #[.slice (some ⟨x, 0, none⟩) 5 5] 24) (h2 : Bk w g2 #[.bool false] 4) (hl : LbW (fun b => b = x) w (.slice (some ⟨x, 0, none⟩) 5 5) flW) (hb : base ≤ x ∧ base ≤ g1 ∧ base ≤ g2) (hN : ¬ N x ∧ ¬ N g1 ∧ ¬ N g2) :
    BoX base N w (.slice (some ⟨g1, 0, none⟩) 1 1) (.slice (some ⟨g2, 0, none⟩) 1 1) [(flW, .slice (some ⟨x, 0, none⟩) 5 5)] [false] := by
  refine ⟨⟨rfl, Or.inr ⟨g1, 1, _, rfl, hb.2.1, h1, Nat.le_refl _, by unfold maxLen; omega, rfl, rfl⟩⟩, ⟨rfl, Or.inr ⟨g2, 1, _, rfl, hb.2.2, h2, Nat.le_refl _, by unfold maxLen; omega, rfl, rfl⟩⟩, fun q hq => ?_, fun q hq hn y hy => ?_, fun q hq y o n c e i hi => ?_, fun i j y z b hi hj _ _ _ _ => ?_, fun y hy => ?_, fun y hy => ?_⟩
  · rw [List.mem_singleton] at hq
    subst hq
    exact hl.mono fun b _ e => by rw [e]; exact ⟨hb.1, hN.1⟩
  · rw [List.mem_singleton] at hq
    subst hq
    simp only [Value.ownBlock, Option.some.injEq] at hy
    subst hy
    exact ⟨_, _, hx⟩
  · rw [List.mem_singleton] at hq
    subst hq
    simp only [Value.slice.injEq, Option.some.injEq, Addr.mk.injEq, and_true] at e
    obtain ⟨⟨rfl, rfl⟩, -, -⟩ := e
    simp only [flW, List.length_cons, List.length_nil] at hi
    simp [World.frozen?, hx]
    omega
  · have l1 := (List.getElem?_eq_some_iff.1 hi).1
    have l2 := (List.getElem?_eq_some_iff.1 hj).1
    simp only [List.length_singleton] at l1 l2
    omega
  · simp only [Value.ownBlock, Option.some.injEq] at hy
    subst hy
    exact hN.2.1
  · simp only [Value.ownBlock, Option.some.injEq] at hy
    subst hy
    exact hN.2.2
theorem Try.infoBytesW : (Try.prog.info? 24).map (fun i => (i.zero, i.size, i.bytes)) = some (some (.slice none 0 0), 1, 24) := by kernel_rfl
theorem Try.infoBoolW : (Try.prog.info? 4).map (fun i => (i.zero, i.size, i.bytes)) = some (some (.bool false), 1, 1) := by kernel_rfl
theorem OwW.fm {w : World} {base : Nat} {v : Value} {l : List Int} (h : OwW w base v l) : ∃ a cap, v = .slice a l.length cap := by
  obtain ⟨a, c, e, -⟩ := row7_form (show w.ownsRow base 5 1 v l.length (ubW l) from h)
  exact ⟨a, c, e⟩
theorem one_srcW {w : World} {b : Nat} {u : Value} {e : TypeId} (h : Bk w b #[u] e) : (Value.slice (some ⟨b, 0, none⟩) 1 1 = .slice none 0 0 ∧ 1 = 0 ∧ [u] = []) ∨ ∃ (ad : Addr) (c : Nat), Value.slice (some ⟨b, 0, none⟩) 1 1 = .slice (some ad) 1 c ∧ [u].length = 1 * 1 ∧ ∀ (j : Nat) x, [u][j]? = some x → w.cell? (ad.add j) = some x := by
  refine Or.inr ⟨⟨b, 0, none⟩, 1, rfl, rfl, fun j x hx => ?_⟩
  exact World.news_of_block (cs := #[u]) (t := e) (fr := (0, 0)) h j x (by simpa using hx)
set_option maxRecDepth 20000 in
set_option maxHeartbeats 32000000 in
theorem wireRowW_any {sv : Value} {SL : List (OvW × Value)} {Y : World} (h : ScW (fun x => x < Y.heap.size) Y sv SL) :
    Calls Try.prog 6 #[sv] Y fun e Y' => e = .returned (.bool true) ∧ Below Y.heap.size Y Y' := by
  have HSC := hm7 h
  obtain ⟨⟨sa, sc, rfl, hl, hx⟩, -⟩ := h
  obtain ⟨NS, hNS⟩ : ∃ N, SL.length = N := ⟨_, rfl⟩
  rw [hNS] at hl HSC ⊢
  have HNS := hm7 hNS
  clear hNS
  go_enter Try.func6, Try.ntmps6
  go_upto_region 4 with (go_at_call 9; with_reducible refine (wnewW_any Y.heap.size Y (Nat.le_refl _)).mono ?_; rintro e Y1 ⟨T, v, rfl, hw, ht, hb⟩; obtain ⟨g, rfl⟩ := hw.ptr; have HW := hm7 hw; have HB1 := hm7 hb; clear hw ht hb)
  obtain ⟨Y2, hY2⟩ : ∃ Y2, Y1.alloc (.cells #[.int .u8 102, .int .u8 105, .int .u8 114, .int .u8 115, .int .u8 116] 5 (5, 6)) = Y2 := ⟨_, rfl⟩
  have hcv := convF Y1
  rw [hY2] at hcv
  have hb2 : Below Y1.heap.size Y1 Y2 := by rw [← hY2]; exact below1 _ _
  have hl2 := litF Y1 (fun x => Y1.heap.size ≤ x) (Nat.le_refl _)
  rw [hY2] at hl2
  have p1 : sndE ⟨[], 0⟩ flW = 0 := sndE_ok (by simp [flW]) (by simp)
  have hS := wsendW_any (HW.out.below hb2) hl2 (fun x hx hF => by have := HW.out.lt x hx; omega)
  rw [sndN_ok p1, sndS_ok p1, p1] at hS
  have HS := hm7 hS
  have HB2 := hm7 (HB1.out.trans (hb2.mono HB1.out.size))
  have HZ2 := hm7 hb2
  clear hS p1 hl2 hb2
  go_upto_region 7 with (go_at_call 10; with_reducible refine HS.out.mono ?_; rintro e Y3 ⟨rfl, hq⟩; obtain ⟨T3, hw, hs⟩ := hq.st; have HW3 := hm7 hw; have HB3 := hm7 ((HW.out.below HZ2.out).go hs HB2.out HB2.out.size); clear hq hw hs)
  clear hcv hY2 HS
  obtain ⟨W1, hW1⟩ : ∃ W, Y3.alloc (.cells #[.int .u8 102, .int .u8 105, .int .u8 114, .int .u8 115, .int .u8 116] 5 (5, 6)) = W := ⟨_, rfl⟩
  have hcv := convF Y3
  rw [hW1] at hcv
  obtain ⟨W2, hW2⟩ : ∃ W, W1.alloc (.cells #[.slice (some ⟨Y3.heap.size, 0, none⟩) 5 5] 24) = W := ⟨_, rfl⟩
  obtain ⟨W3, hW3⟩ : ∃ W, W2.alloc (.cells #[.bool false] 4) = W := ⟨_, rfl⟩
  have q1 : Below Y3.heap.size Y3 W1 := by rw [← hW1]; exact below1 _ _
  have q2 : Below W1.heap.size W1 W2 := by rw [← hW2]; exact below1 _ _
  have q3 : Below W2.heap.size W2 W3 := by rw [← hW3]; exact below1 _ _
  have z1 : W1.heap.size = Y3.heap.size + 1 := by rw [← hW1]; simp
  have z2 : W2.heap.size = W1.heap.size + 1 := by rw [← hW2]; simp
  have e1 : W1.heap[Y3.heap.size]? = some (.cells #[.int .u8 102, .int .u8 105, .int .u8 114, .int .u8 115, .int .u8 116] 5 (5, 6)) := by rw [← hW1]; exact heap_alloc_new _ _
  have e2 : Bk W2 W1.heap.size #[.slice (some ⟨Y3.heap.size, 0, none⟩) 5 5] 24 := by rw [← hW2]; exact Bk.new _ _ _
  have e3 : Bk W3 W2.heap.size #[.bool false] 4 := by rw [← hW3]; exact Bk.new _ _ _
  have l1 := litF Y3 (fun x => x = Y3.heap.size) rfl
  rw [hW1] at l1
  have HBX : Hid (BoX Y.heap.size T3 W3 (.slice (some ⟨W1.heap.size, 0, none⟩) 1 1) (.slice (some ⟨W2.heap.size, 0, none⟩) 1 1) [(flW, .slice (some ⟨Y3.heap.size, 0, none⟩) 5 5)] [false]) := hm7 (BoX.init ((q3.block _ (by omega)).trans ((q2.block _ (by omega)).trans e1)) (e2.below q3) e3 ((l1.below q2).below q3) (by have := HB3.out.size; omega) ⟨fun h => by have := HW3.out.lt _ h; omega, fun h => by have := HW3.out.lt _ h; omega, fun h => by have := HW3.out.lt _ h; omega⟩)
  have HWW : Hid (WzW Y.heap.size T3 (.pointer (some ⟨g, 0, none⟩)) (putW ⟨[], 0⟩ flW) W3) := hm7 (((HW3.out.below q1).below q2).below q3)
  have HBB : Hid (Below Y.heap.size Y W3) := hm7 (HB3.out.trans ((q1.trans (q2.mono q1.size)).trans (q3.mono (Nat.le_trans q1.size q2.size)) |>.mono HB3.out.size))
  have HRR : Hid (ReW (putW ⟨[], 0⟩ flW) ([(flW, Value.slice (some ⟨Y3.heap.size, 0, none⟩) 5 5)].map Prod.fst) [false]) := hm7 (by
    have h0 : ReW ⟨[], 0⟩ [] [] := ⟨rfl, rfl, by simp, by simp⟩
    exact h0.put flW)
  clear q1 q2 q3 z1 z2 e1 e2 e3 l1
  go_upto_region 10 with (fail)
  go_loopg [8, 6, 7, 9, 10, 11, 12, 13] NS (fun gg i bv gv _ _ _ _ _ wr => ∃ (j : Nat) (T : Nat → Prop) (s : WrW) (L : List (List Int × Value)) (G : List Bool), j + gg = NS ∧ i = .int .i64 j ∧ WzW Y.heap.size T (.pointer (some ⟨g, 0, none⟩)) s wr ∧ BoX Y.heap.size T wr bv gv L G ∧ ReW s (L.map Prod.fst) G ∧ Below Y.heap.size Y wr)
  case atStart => exact ⟨0, T3, _, _, _, by omega, rfl, HWW.out, HBX.out, HRR.out, HBB.out⟩
  case round =>
    obtain ⟨j, T, s, L, G, hj, rfl, hw, hbo, hre, hb⟩ := hrel
    have HWr := hm7 hw
    have HBo := hm7 hbo
    have HRe := hm7 hre
    have HBr := hm7 hb
    obtain ⟨ba, bc, hbv, -⟩ := row7_form hbo.o
    obtain ⟨ga, gc, hgv, -⟩ := row7_form hbo.p
    obtain ⟨M, hM⟩ : ∃ M, s.gv = M := ⟨_, rfl⟩
    have hLM : L.length = M := by have := hre.lb; rw [List.length_map] at this; omega
    have hGM : G.length = M := by have := hre.lg; omega
    rw [hLM] at hbv
    rw [hGM] at hgv
    subst hbv hgv
    have hM4 : M ≤ 4096 := by rw [← hM]; exact hw.ok.g
    have HM := hm7 hM
    have HLM := hm7 hLM
    have HGM := hm7 hGM
    have hsz := hb.size
    clear hbo hre hM hLM hGM
    cases gk with
    | zero =>
      have hlt : ¬ (j : Int) < (NS : Int) := by omega
      clear hw hb hx
      go_upto_region 57 with (fail)
      go_wp2_with (first | (go_at_call 22; with_reducible refine (wwaitW_any HWr.out).mono ?_; rintro e Y9 ⟨u, Z, rfl, hz, ho, hb⟩; have hlm := ho.lm; rw [hz] at hlm; have HX9 := hm7 (And.intro hlm hb); obtain ⟨na, nc, rfl, -⟩ := hlm.form; clear hlm ho hz hb) | (go_at_call 21; with_reducible refine (isBookW_any HX9.out.1 HWr.out.ok (HBo.out.below HX9.out.2) HRe.out).mono ?_; rintro e Y10 ⟨rfl, m10, rfl⟩))
      go_ret
      exact ⟨rfl, (HBr.out.trans (HX9.out.2.mono HBr.out.size)).trans ⟨rfl, rfl, rfl, Nat.le_refl _, fun _ _ => rfl⟩⟩
    | succ gg =>
      have hlt : (j : Int) < (NS : Int) := by omega
      have j0 : (0 : Int) ≤ (j : Int) := by omega
      have hsw := HSC.out.same hb.size fun x hx hF => hb.block x hF
      obtain ⟨p, hp⟩ : ∃ p, SL[j]? = some p := ⟨_, List.getElem?_eq_getElem (by have := HNS.out; omega)⟩
      obtain ⟨hpl, hpn⟩ := hsw.by_ p (List.mem_of_getElem? hp)
      rcases hx with hx | ⟨sb, so, rfl, hsb, hsF, -⟩
      · rw [hx] at hp; simp at hp
      have hcell : wr.cell? ⟨sb, so + j * 5, none⟩ = some (.int .i64 p.1.k) ∧ wr.cell? ⟨sb, so + j * 5 + 1, none⟩ = some (.int .i64 p.1.n) ∧ wr.cell? ⟨sb, so + j * 5 + 2, none⟩ = some (.int .i64 p.1.m) ∧ wr.cell? ⟨sb, so + j * 5 + 3, none⟩ = some (.int .i64 p.1.q) ∧ wr.cell? ⟨sb, so + j * 5 + 4, none⟩ = some p.2 := by
        obtain ⟨⟨a', c', e', -, h2⟩, -⟩ := hsw
        simp only [Value.slice.injEq] at e'
        obtain ⟨rfl, -, -⟩ := e'
        rcases h2 with h2 | ⟨b', o', e2, -, -, h3⟩
        · rw [h2] at hp; simp at hp
        · cases e2; exact h3 j p hp
      obtain ⟨⟨k, n, m, q, b⟩, bv0⟩ := p
      simp only at hpl hpn hcell
      obtain ⟨oa, oc, rfl, -⟩ := hpl.form
      obtain ⟨x0, x1, x2, x3, x4⟩ := hcell
      obtain ⟨on, hon⟩ : ∃ on, b.length = on := ⟨_, rfl⟩
      rw [hon] at x4 hpl hpn
      have HON := hm7 hon
      obtain ⟨A, hA⟩ : ∃ A, wr.heap.size = A := ⟨_, rfl⟩
      obtain ⟨W4, hW4⟩ : ∃ W, wr.alloc (.cells #[.int .i64 k, .int .i64 n, .int .i64 m, .int .i64 q, .slice oa on oc] 42) = W := ⟨_, rfl⟩
      have q4 : Below wr.heap.size wr W4 := by rw [← hW4]; exact below1 _ _
      have hk4 : Bk W4 A #[.int .i64 k, .int .i64 n, .int .i64 m, .int .i64 q, .slice oa on oc] 42 := by rw [← hW4, ← hA]; exact Bk.new _ _ _
      have HK4 := hm7 hk4
      have HW4 := hm7 (hw.below q4)
      have HB4 := hm7 (hb.trans (q4.mono hb.size))
      have HBo4 := hm7 (HBo.out.below q4)
      have HPL4 := hm7 (hpl.below q4)
      have HZ4 := hm7 q4.size
      have c0 : W4.cell? ⟨A, 0, none⟩ = some (.int .i64 k) := hk4.cell (i := 0) rfl
      have c1 : W4.cell? ⟨A, 1, none⟩ = some (.int .i64 n) := hk4.cell (i := 1) rfl
      have c2 : W4.cell? ⟨A, 2, none⟩ = some (.int .i64 m) := hk4.cell (i := 2) rfl
      have c3 : W4.cell? ⟨A, 3, none⟩ = some (.int .i64 q) := hk4.cell (i := 3) rfl
      have c4 : W4.cell? ⟨A, 4, none⟩ = some (.slice oa on oc) := hk4.cell (i := 4) rfl
      clear hw hb hsw hp hpl hon q4 hk4
      go_upto_region 13 with (fail)
      obtain ⟨th, hth⟩ : ∃ th, (plW s n).isSome = th := ⟨_, rfl⟩
      have HTH := hm7 hth
      clear hth
      go_cut [10] from 34 to 258 (fun s10 wx => s10 = .bool th ∧ wx = W4)
      case first =>
        as_aux_lemma =>
          by_cases h1 : n < 1
          · have g1 : ¬ n ≥ 1 := by omega
            have ht : th = false := by rw [← HTH.out, out_plW HWr.out.ok (Or.inl h1)]; rfl
            subst ht
            go_wp2
            go_meet
            case rel => exact ⟨rfl, rfl⟩
          · have g1 : n ≥ 1 := by omega
            by_cases h2 : (M : Int) < n
            · have g2 : ¬ n ≤ (M : Int) := by omega
              have ht : th = false := by rw [← HTH.out, out_plW HWr.out.ok (Or.inr (by rw [HM.out]; exact h2))]; rfl
              subst ht
              go_wp2
              go_meet
              case rel => exact ⟨rfl, rfl⟩
            · obtain ⟨k0, rfl⟩ : ∃ k0 : Nat, n = (k0 : Int) + 1 := ⟨n.toNat - 1, by omega⟩
              have g2 : (k0 : Int) + 1 ≤ (M : Int) := by omega
              have hk0 : (0 : Int) ≤ (k0 : Int) := by omega
              have hk1 : (k0 : Int) < (M : Int) := by omega
              have hs1 : (k0 : Int) + 1 - 1 = (k0 : Int) := by omega
              have hw1 : IntKind.i64.wrap ((k0 : Int) + 1 - 1) = (k0 : Int) := by rw [hs1]; simp [IntKind.wrap, IntKind.bits, IntKind.signed]; omega
              obtain ⟨c, hc⟩ : ∃ c, G[k0]? = some c := ⟨_, List.getElem?_eq_getElem (by have := HGM.out; omega)⟩
              obtain ⟨gb, rfl, -, -, -, d0, -⟩ := HBo4.out.atG hc
              cases c with
              | true =>
                have ht : th = false := by rw [← HTH.out, HRe.out.gone hc]; rfl
                subst ht
                clear hc
                go_wp2
                go_meet
                case rel => exact ⟨rfl, rfl⟩
              | false =>
                obtain ⟨i, mm, hp, -⟩ := HRe.out.there HWr.out.ok hc
                have ht : th = true := by rw [← HTH.out, hp]; rfl
                subst ht
                clear hc hp
                go_wp2
                go_meet
                case rel => exact ⟨rfl, rfl⟩
      case rest =>
        obtain ⟨rfl, rfl⟩ := hcut
        have HD := hm7 (doW_any (o := ⟨k, n, m, q, b⟩) HW4.out (by rw [← HON.out] at HPL4; exact HPL4.out) (by rw [HON.out]; exact hpn))
        rw [HON.out] at HD
        obtain ⟨tn, htn⟩ : ∃ z, (tolW s ⟨k, n, m, q, b⟩).n = z := ⟨_, rfl⟩
        obtain ⟨te, hte⟩ : ∃ z, (tolW s ⟨k, n, m, q, b⟩).e = z := ⟨_, rfl⟩
        obtain ⟨tb, htb⟩ : ∃ z, (tolW s ⟨k, n, m, q, b⟩).b = z := ⟨_, rfl⟩
        have HTN := hm7 htn
        have HTE := hm7 hte
        have HTB := hm7 htb
        have HDO : Hid (Calls Try.prog 19 #[.pointer (some ⟨g, 0, none⟩), .agg #[.int .i64 k, .int .i64 n, .int .i64 m, .int .i64 q, .slice oa on oc]] wc fun e Y' => ∃ (ta ra : Option Addr) (tl tc rn rc : Nat) (T' : Nat → Prop), e = .returned (.tuple #[.agg #[.int .i64 tn, .slice ta tl tc, .int .i64 te, .slice ra rn rc], .bool true]) ∧ LbW (fun x => (T x ∨ wc.heap.size ≤ x) ∧ ¬ T' x) Y' (.slice ta tl tc) tb ∧ WzW Y.heap.size T' (.pointer (some ⟨g, 0, none⟩)) (stpW s ⟨k, n, m, q, b⟩) Y' ∧ (∀ x, T' x → T x ∨ wc.heap.size ≤ x) ∧ Fr T wc Y') := hm7 (HD.out.mono fun e Y' h => by
          obtain ⟨tv, T1, rfl, ⟨tb', tr, rfl, ht1, ht2⟩, hw1, hw2, hw3⟩ := h
          rw [htn, hte]
          rw [htb] at ht1
          obtain ⟨ta, tc, rfl, -⟩ := ht1.form
          obtain ⟨ra, rc, rfl, -⟩ := ht2.form
          exact ⟨ta, ra, _, tc, _, rc, T1, rfl, ht1, hw1, hw2, hw3⟩)
        clear htn hte htb HD
        go_upto_region 15 with (go_at_call 19; with_reducible refine HDO.out.mono ?_; rintro e W5 ⟨ta, ra, tl, tc, rn, rc, T1, rfl, hx5⟩; have HX5 := hm7 hx5; clear hx5)
        obtain ⟨ht1, hw1, hw2, hw3⟩ := HX5.out
        obtain ⟨B, hB⟩ : ∃ B, W5.heap.size = B := ⟨_, rfl⟩
        obtain ⟨W6, hW6⟩ : ∃ W, W5.alloc (.cells #[.int .i64 tn, .slice ta tl tc, .int .i64 te, .slice ra rn rc] 45) = W := ⟨_, rfl⟩
        have q6 : Below W5.heap.size W5 W6 := by rw [← hW6]; exact below1 _ _
        have hk6 : Bk W6 B #[.int .i64 tn, .slice ta tl tc, .int .i64 te, .slice ra rn rc] 45 := by rw [← hW6, ← hB]; exact Bk.new _ _ _
        try rw [hW6]
        have t0 : W6.cell? ⟨B, 0, none⟩ = some (.int .i64 tn) := hk6.cell (i := 0) rfl
        have t1 : W6.cell? ⟨B, 1, none⟩ = some (.slice ta tl tc) := hk6.cell (i := 1) rfl
        have t2 : W6.cell? ⟨B, 2, none⟩ = some (.int .i64 te) := hk6.cell (i := 2) rfl
        have hAT : ¬ T A := fun ht => by have := HWr.out.lt A ht; omega
        have hAl : A < wc.heap.size := HK4.out.lt
        have hk5 : Bk W6 A #[.int .i64 k, .int .i64 n, .int .i64 m, .int .i64 q, .slice oa on oc] 42 := (HK4.out.fr hw3 hAT).below q6
        have o0 : W6.cell? ⟨A, 0, none⟩ = some (.int .i64 k) := hk5.cell (i := 0) rfl
        have o1 : W6.cell? ⟨A, 1, none⟩ = some (.int .i64 n) := hk5.cell (i := 1) rfl
        have o2 : W6.cell? ⟨A, 2, none⟩ = some (.int .i64 m) := hk5.cell (i := 2) rfl
        have o3 : W6.cell? ⟨A, 3, none⟩ = some (.int .i64 q) := hk5.cell (i := 3) rfl
        have o4 : W6.cell? ⟨A, 4, none⟩ = some (.slice oa on oc) := hk5.cell (i := 4) rfl
        have HW6 := hm7 (hw1.below q6)
        have HBo6 := hm7 ((HBo4.out.go hw3 hw2).below q6)
        have HB6 : Hid (Below Y.heap.size Y W6) := hm7 ((HW4.out.go ⟨hw3, hw2⟩ HB4.out HB4.out.size).trans (q6.mono (by have := HB4.out.size; have := hw3.size; omega)))
        have HT6 : Hid (LbW (fun x => Y.heap.size ≤ x ∧ ¬ T1 x) W6 (.slice ta tl tc) tb) := hm7 ((ht1.below q6).mono fun x _ hx => ⟨hx.1.elim (fun ht => (HW4.out.t x ht).1) (fun hz => by have := HB4.out.size; omega), hx.2⟩)
        have HO6 : Hid (LbW (fun x => x < Y.heap.size) W6 (.slice oa on oc) b) := hm7 ((HPL4.out.fr hw3 fun x _ hx ht => by have := (HW4.out.t x ht).1; omega).below q6)
        have hBA : B ≠ A := by have := hw3.size; omega
        clear ht1 hw1 hw2 hw3 hW6 q6 hk6 hk5 c0 c1 c2 c3 c4 HX5 HDO HK4 HW4 HB4 HBo4 HPL4
        go_upto_region 17 with (fail)
        by_cases k1 : k = 1
        · subst k1
          have es : stpW s ⟨1, n, m, q, b⟩ = sndS s b := by simp [stpW]
          have en : sndN s b = tn := by have := HTN.out; simpa [tolW] using this
          have ee : sndE s b = te := by have := HTE.out; simpa [tolW] using this
          rw [es] at HW6
          by_cases hl1 : 1048576 < on
          · have e1 : sndE s b = 233 := by unfold sndE; rw [if_pos (by rw [HON.out]; exact hl1)]
            have e3 : sndS s b = s := by unfold sndS; rw [e1, if_neg (by decide)]
            obtain rfl : te = 233 := by omega
            rw [e3] at HW6
            have hl2 : ¬ (on : Int) ≤ 1048576 := by omega
            clear es en ee e1 e3
            as_aux_lemma =>
              go_wp2
              go_roundg gg
              case measure => omega
              case rel =>
                exact ⟨j + 1, T1, _, L, G, by omega, by go_num, HW6.out, HBo6.out, HRe.out, HB6.out⟩
          · by_cases hg : 4096 ≤ M
            · have e1 : sndE s b = 234 := by unfold sndE; rw [if_neg (by rw [HON.out]; exact hl1), if_pos (by rw [HM.out]; exact hg)]
              have e3 : sndS s b = s := by unfold sndS; rw [e1, if_neg (by decide)]
              obtain rfl : te = 234 := by omega
              rw [e3] at HW6
              have hl2 : (on : Int) ≤ 1048576 := by omega
              have hg2 : ¬ (M : Int) < 4096 := by omega
              clear es en ee e1 e3
              as_aux_lemma =>
                go_wp2
                go_roundg gg
                case measure => omega
                case rel =>
                  exact ⟨j + 1, T1, _, L, G, by omega, by go_num, HW6.out, HBo6.out, HRe.out, HB6.out⟩
            · have e1 : sndE s b = 0 := by unfold sndE; rw [if_neg (by rw [HON.out]; exact hl1), if_neg (by rw [HM.out]; exact hg)]
              have e3 : sndS s b = putW s b := by unfold sndS; rw [if_pos e1]
              have e4 : sndN s b = (M : Int) + 1 := by unfold sndN; rw [if_pos e1, HM.out]; omega
              obtain rfl : te = 0 := by omega
              obtain rfl : tn = (M : Int) + 1 := by omega
              rw [e3] at HW6
              have hl2 : (on : Int) ≤ 1048576 := by omega
              have hg2 : (M : Int) < 4096 := by omega
              have hmw : IntKind.i64.wrap ((M : Int) + 1) = (M : Int) + 1 := by simp [IntKind.wrap, IntKind.bits, IntKind.signed]; omega
              clear es en ee e1 e3 e4
              as_aux_lemma =>
                go_upto_region 22 with (fail)
                have HCP := hm7 (ccopyW_any _ (.slice oa on oc) (b) W6 HO6.out (by rw [HON.out]; omega))
                clear HTE HTN HTB
                go_upto_region 23 with (first
                  | (go_at_call 20; with_reducible refine HCP.out.mono ?_; rintro e W7 ⟨u, rfl, ho7, hb7⟩; obtain ⟨ua, uc, rfl⟩ := ho7.fm; have HX7 := hm7 (And.intro ho7 hb7); clear ho7 hb7)
                  | (at_builtin; refine gappW Try.underlying39 Try.infoBytesW rfl (by omega) rfl _ _ rfl Y.heap.size (.slice ba M bc) M (L.map Prod.snd) rfl (by have := row7_below (row7_below HBo6.out.o HX7.out.2) (below1 W7 (.cells #[.slice ua (b).length uc] 24)); rw [HLM.out] at this; exact this) (.slice (some ⟨W7.heap.size, 0, none⟩) 1 1) 1 [.slice ua (b).length uc] rfl (one_srcW (Bk.new W7 #[.slice ua (b).length uc] 24)) (by simp [Value.oneCell']) (by omega) (by omega) (by have := HB6.out.size; have := HX7.out.2.size; simp; omega) ?_; intro v8 w8 ho8 hg8 hv8; obtain ⟨a8, c8, rfl, -⟩ := row7_form ho8; have HX8 := hm7 (And.intro ho8 (And.intro hg8 hv8)); clear ho8 hg8 hv8))
                have HNs : Hid (∀ x, T1 x → x < W6.heap.size) := hm7 HW6.out.lt
                have hq7 : Below W6.heap.size W6 (W7.alloc (.cells #[.slice ua (b).length uc] 24)) := bel_step HX7.out.2 (below1 _ _)
                have HBo8 := hm7 ((HBo6.out.below hq7).pushB (b := b) HX8.out.2.1 (by rw [HLM.out]; exact HX8.out.1) HX8.out.2.2 (own_base (row7_below HX7.out.1 (below1 _ _)) HB6.out.size) HO6.out.y (fun x hx => by
                  have h1 := (World.ownsRow.lt HX7.out.1 x hx).1
                  refine ⟨fun ht => by have := HNs.out x ht; omega, fun r hr hn e => ?_⟩
                  obtain ⟨x', e2, -, h2⟩ := (HBo6.out.u r hr).own hn
                  rw [e] at e2
                  cases e2
                  omega) (fun x hx => by have := HNs.out x hx; have := hq7.size; omega))
                have HW8 := hm7 ((HW6.out.below hq7).fr (P := fun b => (Value.slice ba M bc).ownBlock = some b) (Fr.own HX8.out.2.1) fun b _ ht e => HBo6.out.nb b e ht)
                have HB8 : Hid (Below Y.heap.size Y w8) := hm7 ((HB6.out.trans (hq7.mono HB6.out.size)).trans ((Fr.own HX8.out.2.1).mono (fun x _ e => (World.ownsRow.lt HBo6.out.o x e).1) |>.low (Nat.le_trans HB6.out.size hq7.size)))
                have HZ8 : Hid (W6.heap.size ≤ w8.heap.size) := hm7 (Nat.le_trans hq7.size HX8.out.2.1.size)
                clear hq7
                go_wp2_with (at_builtin; refine gappW Try.underlying40 Try.infoBoolW rfl (by omega) rfl _ _ rfl Y.heap.size (.slice ga M gc) M (G.map Value.bool) rfl (by have := row7_below HBo8.out.p (below1 w8 (.cells #[.bool false] 4)); rw [HGM.out] at this; exact this) (.slice (some ⟨w8.heap.size, 0, none⟩) 1 1) 1 [.bool false] rfl (one_srcW (Bk.new w8 #[.bool false] 4)) (by simp [Value.oneCell']) (by omega) (by omega) (by have := HB8.out.size; simp; omega) ?_; intro v9 w9 ho9 hg9 hv9; obtain ⟨a9, c9, rfl, -⟩ := row7_form ho9; have HX9 := hm7 (And.intro ho9 (And.intro hg9 hv9)); clear ho9 hg9 hv9)
                go_roundg gg
                case measure => omega
                case rel =>
                  have hq9 : Below w8.heap.size w8 (w8.alloc (.cells #[.bool false] 4)) := below1 _ _
                  have hbx := (HBo8.out.below hq9).pushG (c := false) HX9.out.2.1 (by rw [HGM.out]; exact HX9.out.1) HX9.out.2.2 (fun x hx => by have := HW8.out.lt x hx; have := hq9.size; omega)
                  have hww := (HW8.out.below hq9).fr (P := fun b => (Value.slice ga M gc).ownBlock = some b) (Fr.own HX9.out.2.1) fun b _ ht e => HBo6.out.ng b e ht
                  have hbb : Below Y.heap.size Y w9 := (HB8.out.trans (hq9.mono HB8.out.size)).trans ((Fr.own HX9.out.2.1).mono (fun x _ e => (World.ownsRow.lt HBo6.out.p x e).1) |>.low (Nat.le_trans HB8.out.size hq9.size))
                  exact ⟨j + 1, T1, _, _, _, by omega, by go_num, hww, hbx, by rw [List.map_append]; exact HRe.out.put b, hbb⟩
        · by_cases k9 : k = 9
          · subst k9
            have es : stpW s ⟨9, n, m, q, b⟩ = s := by simp [stpW]
            rw [es] at HW6
            clear es
            as_aux_lemma =>
              go_wp2
              go_roundg gg
              case measure => omega
              case rel =>
                exact ⟨j + 1, T1, _, L, G, by omega, by go_num, HW6.out, HBo6.out, HRe.out, HB6.out⟩
          · by_cases k10 : k = 10
            · subst k10
              have es : stpW s ⟨10, n, m, q, b⟩ = s := by simp [stpW]
              rw [es] at HW6
              clear es
              as_aux_lemma =>
                go_wp2
                go_roundg gg
                case measure => omega
                case rel =>
                  exact ⟨j + 1, T1, _, L, G, by omega, by go_num, HW6.out, HBo6.out, HRe.out, HB6.out⟩
            · have b1 : (k == 1) = false := by simpa using k1
              have b9 : (k == 9) = false := by simpa using k9
              have b10 : (k == 10) = false := by simpa using k10
              by_cases hr : k < 1 ∨ k > 10
              · have es : stpW s ⟨k, n, m, q, b⟩ = s := by
                  unfold stpW
                  simp only
                  repeat' rw [if_neg (by omega)]
                rw [es] at HW6
                have hr2 : k < 1 ∨ (¬ k < 1 ∧ k > 10) := by omega
                clear es hr
                rcases hr2 with hr | ⟨hr, hr3⟩
                · as_aux_lemma =>
                    go_wp2
                    go_roundg gg
                    case measure => omega
                    case rel =>
                      exact ⟨j + 1, T1, _, L, G, by omega, by go_num, HW6.out, HBo6.out, HRe.out, HB6.out⟩
                · as_aux_lemma =>
                    go_wp2
                    go_roundg gg
                    case measure => omega
                    case rel =>
                      exact ⟨j + 1, T1, _, L, G, by omega, by go_num, HW6.out, HBo6.out, HRe.out, HB6.out⟩
              · have hr1 : ¬ k < 1 := by omega
                have hr2 : ¬ k > 10 := by omega
                have hr3 : k = 2 ∨ k = 3 ∨ k = 4 ∨ k = 5 ∨ k = 6 ∨ k = 7 ∨ k = 8 := by omega
                cases th with
                | false =>
                  have hpn2 : plW s n = none := by have := HTH.out; rwa [Option.isSome_eq_false_iff, Option.isNone_iff_eq_none] at this
                  have hz : te = 231 ∧ stpW s ⟨k, n, m, q, b⟩ = s := by
                    have h1 := HTE.out
                    rcases hr3 with rfl | rfl | rfl | rfl | rfl | rfl | rfl <;>
                      simp [tolW, stpW, lokE, cpyE, swpE, flpE, cutE, takS, cpyS, swpS, flpS, cutS, hpn2] at h1 ⊢ <;> omega
                  obtain ⟨rfl, es⟩ := hz
                  rw [es] at HW6
                  clear es hpn2 hr3
                  as_aux_lemma =>
                    go_wp2
                    go_roundg gg
                    case measure => omega
                    case rel =>
                      exact ⟨j + 1, T1, _, L, G, by omega, by go_num, HW6.out, HBo6.out, HRe.out, HB6.out⟩
                | true =>
                  obtain ⟨i, hp⟩ := Option.isSome_iff_exists.1 HTH.out
                  obtain ⟨mm, hmm, hnn, -⟩ := plW_some hp
                  have hmem := List.mem_of_getElem? hmm
                  have hn1 := HWr.out.ok.n mm hmem
                  rw [HM.out] at hn1
                  obtain ⟨k0, hk0⟩ : ∃ k0, mm.n = k0 + 1 := ⟨mm.n - 1, by omega⟩
                  obtain rfl : n = (k0 : Int) + 1 := by omega
                  obtain ⟨hB, hG⟩ := HRe.out.a mm hmem
                  rw [show mm.n - 1 = k0 by omega] at hB hG
                  obtain ⟨qe, hq, he⟩ : ∃ qe, L[k0]? = some qe ∧ qe.1 = mm.b := by
                    rw [List.getElem?_map, Option.map_eq_some_iff] at hB
                    exact hB
                  have hby := byW_at hp hmm
                  have hbl := HWr.out.ok.l mm hmem
                  have hqm := List.mem_of_getElem? hq
                  obtain ⟨gb, rfl, hgb1, hgb2, -, d0, df⟩ := HBo6.out.atB hq
                  obtain ⟨gg0, rfl, hgg1, hgg2, -, f0, ff⟩ := HBo6.out.atG hG
                  have hlq := HBo6.out.u qe hqm
                  obtain ⟨ea, ec, hev, hec⟩ := hlq.form
                  obtain ⟨el, hel⟩ : ∃ el, mm.b.length = el := ⟨_, rfl⟩
                  rw [he, hel] at hev hec
                  rw [hev] at d0
                  have HLQ : Hid (LbW (fun x => Y.heap.size ≤ x ∧ ¬ T1 x) W6 (.slice ea el ec) mm.b) := hm7 (by rw [← he, ← hev]; exact hlq)
                  have hk00 : (0 : Int) ≤ (k0 : Int) := by omega
                  have hk01 : (k0 : Int) < (M : Int) := by omega
                  have hs1 : (k0 : Int) + 1 - 1 = (k0 : Int) := by omega
                  have hw1 : IntKind.i64.wrap ((k0 : Int) + 1 - 1) = (k0 : Int) := by rw [hs1]; simp [IntKind.wrap, IntKind.bits, IntKind.signed]; omega
                  have HP := hm7 hp
                  have HMM := hm7 hmm
                  have HG := hm7 hG
                  have HQE := hm7 hq
                  have HE1 := hm7 he
                  have HEV := hm7 hev
                  have HBY := hm7 hby
                  have HEL := hm7 hel
                  have HNN := hm7 hnn
                  clear hp hmm hnn hmem hn1 hB hG hq he hby hqm hlq hev hel HTH k1 k9 k10 hr
                  rcases hr3 with rfl | rfl | rfl | rfl | rfl | rfl | rfl
                  · have es : stpW s ⟨2, (k0 : Int) + 1, m, q, b⟩ = s := by simp [stpW]
                    have ee : te = 0 := by have := HTE.out; simp [tolW, lokE, HP.out] at this; omega
                    have eb : tb = mm.b := by have := HTB.out; simp [tolW] at this; rw [← this, HBY.out]
                    subst ee eb
                    rw [es] at HW6
                    have HSB := hm7 (sameW_any _ _ mm.b mm.b _ _ W6 HT6.out HLQ.out)
                    rw [decide_eq_true rfl] at HSB
                    clear es
                    as_aux_lemma =>
                      go_wp2_with (go_at_call 12; with_reducible refine HSB.out.mono ?_; rintro e W7 ⟨rfl, m7, rfl⟩)
                      go_roundg gg
                      case measure => omega
                      case rel =>
                        have hg : G.set k0 false = G := List.ext_getElem? fun i => by
                          rw [List.getElem?_set]
                          split
                          · rename_i e; subst e; rw [HG.out]; split
                            · rfl
                            · rename_i hn; exact absurd (List.getElem?_eq_some_iff.1 HG.out).1 hn
                          · rfl
                        have hb7 : Below W6.heap.size W6 (W6.drewN m7) := ⟨rfl, rfl, rfl, Nat.le_refl _, fun _ _ => rfl⟩
                        have hbx := (HBo6.out.below hb7).setG k0 false
                        rw [hg] at hbx
                        exact ⟨j + 1, T1, _, L, G, by omega, by go_num, (HW6.out.below hb7).fr (P := fun x => x = gg0) ((Fr.refl (fun x => x = gg0) _).set (Or.inl rfl)) (fun b _ ht e => HBo6.out.ng gg0 rfl (e ▸ ht)), hbx, HRe.out, (HB6.out.trans (hb7.mono HB6.out.size)).setCell (p := ⟨gg0, k0, none⟩) hgg1 _⟩
                  · have es : stpW s ⟨3, (k0 : Int) + 1, m, q, b⟩ = takS s ((k0 : Int) + 1) := by simp [stpW]
                    have ee : te = 0 := by have := HTE.out; simp [tolW, lokE, HP.out] at this; omega
                    have eb : tb = mm.b := by have := HTB.out; simp [tolW] at this; rw [← this, HBY.out]
                    subst ee eb
                    rw [es] at HW6
                    have HSB := hm7 (sameW_any _ _ mm.b mm.b _ _ W6 HT6.out HLQ.out)
                    rw [decide_eq_true rfl] at HSB
                    clear es
                    as_aux_lemma =>
                      go_wp2_with (go_at_call 12; with_reducible refine HSB.out.mono ?_; rintro e W7 ⟨rfl, m7, rfl⟩)
                      go_roundg gg
                      case measure => omega
                      case rel =>
                        have hb7 : Below W6.heap.size W6 (W6.drewN m7) := ⟨rfl, rfl, rfl, Nat.le_refl _, fun _ _ => rfl⟩
                        have hbx := (HBo6.out.below hb7).setG k0 true
                        exact ⟨j + 1, T1, _, L, G.set k0 true, by omega, by go_num, (HW6.out.below hb7).fr (P := fun x => x = gg0) ((Fr.refl (fun x => x = gg0) _).set (Or.inl rfl)) (fun b _ ht e => HBo6.out.ng gg0 rfl (e ▸ ht)), hbx, HRe.out.take HWr.out.ok HG.out, (HB6.out.trans (hb7.mono HB6.out.size)).setCell (p := ⟨gg0, k0, none⟩) hgg1 _⟩
                  · have es : stpW s ⟨4, (k0 : Int) + 1, m, q, b⟩ = takS s ((k0 : Int) + 1) := by simp [stpW]
                    have ee : te = 0 := by have := HTE.out; simp [tolW, lokE, HP.out] at this; omega
                    subst ee
                    rw [es] at HW6
                    clear es
                    as_aux_lemma =>
                      go_wp2
                      go_roundg gg
                      case measure => omega
                      case rel =>
                        have hbx := HBo6.out.setG k0 true
                        exact ⟨j + 1, T1, _, L, G.set k0 true, by omega, by go_num, HW6.out.fr (P := fun x => x = gg0) ((Fr.refl (fun x => x = gg0) _).set (Or.inl rfl)) (fun b _ ht e => HBo6.out.ng gg0 rfl (e ▸ ht)), hbx, HRe.out.take HWr.out.ok HG.out, HB6.out.setCell (p := ⟨gg0, k0, none⟩) hgg1 _⟩
                  · have es : stpW s ⟨5, (k0 : Int) + 1, m, q, b⟩ = cpyS s ((k0 : Int) + 1) := by simp [stpW]
                    have en : cpyN s ((k0 : Int) + 1) = tn := by have := HTN.out; simpa [tolW] using this
                    have ee : cpyE s ((k0 : Int) + 1) = te := by have := HTE.out; simpa [tolW] using this
                    rw [es] at HW6
                    by_cases hg : 4096 ≤ M
                    · have e1 : cpyE s ((k0 : Int) + 1) = 234 := by unfold cpyE; rw [HP.out]; simp only; rw [if_pos (by rw [HM.out]; exact hg)]
                      have e3 : cpyS s ((k0 : Int) + 1) = s := by unfold cpyS; rw [e1, if_neg (by decide)]
                      obtain rfl : te = 234 := by omega
                      rw [e3] at HW6
                      have hg2 : ¬ (M : Int) < 4096 := by omega
                      clear es en ee e1 e3
                      as_aux_lemma =>
                        go_wp2
                        go_roundg gg
                        case measure => omega
                        case rel =>
                          exact ⟨j + 1, T1, _, L, G, by omega, by go_num, HW6.out, HBo6.out, HRe.out, HB6.out⟩
                    · have e1 : cpyE s ((k0 : Int) + 1) = 0 := by unfold cpyE; rw [HP.out]; simp only; rw [if_neg (by rw [HM.out]; exact hg)]
                      have e3 : cpyS s ((k0 : Int) + 1) = putW s mm.b := by unfold cpyS; rw [if_pos e1, HBY.out]
                      have e4 : cpyN s ((k0 : Int) + 1) = (M : Int) + 1 := by unfold cpyN; rw [if_pos e1, HM.out]; omega
                      obtain rfl : te = 0 := by omega
                      obtain rfl : tn = (M : Int) + 1 := by omega
                      rw [e3] at HW6
                      have hg2 : (M : Int) < 4096 := by omega
                      have hmw : IntKind.i64.wrap ((M : Int) + 1) = (M : Int) + 1 := by simp [IntKind.wrap, IntKind.bits, IntKind.signed]; omega
                      clear es en ee e1 e3 e4
                      as_aux_lemma =>
                        go_upto_region 45 with (fail)
                        have HCP := hm7 (ccopyW_any _ (.slice ea el ec) (mm.b) W6 HLQ.out (by have := HWr.out.ok.l mm (List.mem_of_getElem? HMM.out); omega))
                        clear HTE HTN HTB
                        go_upto_region 46 with (first
                          | (go_at_call 20; with_reducible refine HCP.out.mono ?_; rintro e W7 ⟨u, rfl, ho7, hb7⟩; obtain ⟨ua, uc, rfl⟩ := ho7.fm; have HX7 := hm7 (And.intro ho7 hb7); clear ho7 hb7)
                          | (at_builtin; refine gappW Try.underlying39 Try.infoBytesW rfl (by omega) rfl _ _ rfl Y.heap.size (.slice (some ⟨gb, 0, none⟩) M bc) M (L.map Prod.snd) rfl (by have := row7_below (row7_below HBo6.out.o HX7.out.2) (below1 W7 (.cells #[.slice ua (mm.b).length uc] 24)); rw [HLM.out] at this; exact this) (.slice (some ⟨W7.heap.size, 0, none⟩) 1 1) 1 [.slice ua (mm.b).length uc] rfl (one_srcW (Bk.new W7 #[.slice ua (mm.b).length uc] 24)) (by simp [Value.oneCell']) (by omega) (by omega) (by have := HB6.out.size; have := HX7.out.2.size; simp; omega) ?_; intro v8 w8 ho8 hg8 hv8; obtain ⟨a8, c8, rfl, -⟩ := row7_form ho8; have HX8 := hm7 (And.intro ho8 (And.intro hg8 hv8)); clear ho8 hg8 hv8))
                        have HNs : Hid (∀ x, T1 x → x < W6.heap.size) := hm7 HW6.out.lt
                        have hq7 : Below W6.heap.size W6 (W7.alloc (.cells #[.slice ua (mm.b).length uc] 24)) := bel_step HX7.out.2 (below1 _ _)
                        have HBo8 := hm7 ((HBo6.out.below hq7).pushB (b := mm.b) HX8.out.2.1 (by rw [HLM.out]; exact HX8.out.1) HX8.out.2.2 (own_base (row7_below HX7.out.1 (below1 _ _)) HB6.out.size) HLQ.out.y (fun x hx => by
                          have h1 := (World.ownsRow.lt HX7.out.1 x hx).1
                          refine ⟨fun ht => by have := HNs.out x ht; omega, fun r hr hn e => ?_⟩
                          obtain ⟨x', e2, -, h2⟩ := (HBo6.out.u r hr).own hn
                          rw [e] at e2
                          cases e2
                          omega) (fun x hx => by have := HNs.out x hx; have := hq7.size; omega))
                        have HW8 := hm7 ((HW6.out.below hq7).fr (P := fun b => (Value.slice (some ⟨gb, 0, none⟩) M bc).ownBlock = some b) (Fr.own HX8.out.2.1) fun b _ ht e => HBo6.out.nb b e ht)
                        have HB8 : Hid (Below Y.heap.size Y w8) := hm7 ((HB6.out.trans (hq7.mono HB6.out.size)).trans ((Fr.own HX8.out.2.1).mono (fun x _ e => (World.ownsRow.lt HBo6.out.o x e).1) |>.low (Nat.le_trans HB6.out.size hq7.size)))
                        have HZ8 : Hid (W6.heap.size ≤ w8.heap.size) := hm7 (Nat.le_trans hq7.size HX8.out.2.1.size)
                        clear hq7
                        go_wp2_with (at_builtin; refine gappW Try.underlying40 Try.infoBoolW rfl (by omega) rfl _ _ rfl Y.heap.size (.slice (some ⟨gg0, 0, none⟩) M gc) M (G.map Value.bool) rfl (by have := row7_below HBo8.out.p (below1 w8 (.cells #[.bool false] 4)); rw [HGM.out] at this; exact this) (.slice (some ⟨w8.heap.size, 0, none⟩) 1 1) 1 [.bool false] rfl (one_srcW (Bk.new w8 #[.bool false] 4)) (by simp [Value.oneCell']) (by omega) (by omega) (by have := HB8.out.size; simp; omega) ?_; intro v9 w9 ho9 hg9 hv9; obtain ⟨a9, c9, rfl, -⟩ := row7_form ho9; have HX9 := hm7 (And.intro ho9 (And.intro hg9 hv9)); clear ho9 hg9 hv9)
                        go_roundg gg
                        case measure => omega
                        case rel =>
                          have hq9 : Below w8.heap.size w8 (w8.alloc (.cells #[.bool false] 4)) := below1 _ _
                          have hbx := (HBo8.out.below hq9).pushG (c := false) HX9.out.2.1 (by rw [HGM.out]; exact HX9.out.1) HX9.out.2.2 (fun x hx => by have := HW8.out.lt x hx; have := hq9.size; omega)
                          have hww := (HW8.out.below hq9).fr (P := fun b => (Value.slice (some ⟨gg0, 0, none⟩) M gc).ownBlock = some b) (Fr.own HX9.out.2.1) fun b _ ht e => HBo6.out.ng b e ht
                          have hbb : Below Y.heap.size Y w9 := (HB8.out.trans (hq9.mono HB8.out.size)).trans ((Fr.own HX9.out.2.1).mono (fun x _ e => (World.ownsRow.lt HBo6.out.p x e).1) |>.low (Nat.le_trans HB8.out.size hq9.size))
                          exact ⟨j + 1, T1, _, _, _, by omega, by go_num, hww, hbx, by rw [List.map_append]; exact HRe.out.put mm.b, hbb⟩
                  · have es : stpW s ⟨6, (k0 : Int) + 1, m, q, b⟩ = swpS s ((k0 : Int) + 1) m := by simp [stpW]
                    rw [es] at HW6
                    clear es
                    as_aux_lemma =>
                      go_wp2
                      go_roundg gg
                      case measure => omega
                      case rel =>
                        exact ⟨j + 1, T1, _, L, G, by omega, by go_num, HW6.out, HBo6.out, HRe.out.swp _ _, HB6.out⟩
                  · have es : stpW s ⟨7, (k0 : Int) + 1, m, q, b⟩ = flpS s ((k0 : Int) + 1) m q := by simp [stpW]
                    have ee : flpE s ((k0 : Int) + 1) m = te := by have := HTE.out; simpa [tolW] using this
                    have hE : flpE s ((k0 : Int) + 1) m = if m < 0 ∨ (el : Int) ≤ m then 232 else 0 := by unfold flpE; rw [HP.out, HBY.out, HEL.out]
                    rw [es] at HW6
                    by_cases hbad : m < 0 ∨ (el : Int) ≤ m
                    · rw [if_pos hbad] at hE
                      have e3 : flpS s ((k0 : Int) + 1) m q = s := by unfold flpS; rw [hE]; rfl
                      obtain rfl : te = 232 := by omega
                      rw [e3] at HW6
                      have hbad2 : ¬ m ≥ 0 ∨ (m ≥ 0 ∧ ¬ m < (el : Int)) := by omega
                      clear es ee hE e3 hbad
                      rcases hbad2 with hbad | ⟨hbad, hb2⟩
                      · as_aux_lemma =>
                          go_wp2
                          go_roundg gg
                          case measure => omega
                          case rel =>
                            exact ⟨j + 1, T1, _, L, G, by omega, by go_num, HW6.out, HBo6.out, HRe.out, HB6.out⟩
                      · as_aux_lemma =>
                          go_wp2
                          go_roundg gg
                          case measure => omega
                          case rel =>
                            exact ⟨j + 1, T1, _, L, G, by omega, by go_num, HW6.out, HBo6.out, HRe.out, HB6.out⟩
                    · rw [if_neg hbad] at hE
                      obtain ⟨jj, rfl⟩ : ∃ jj : Nat, m = (jj : Int) := ⟨m.toNat, by omega⟩
                      have hj0 : (jj : Int) ≥ 0 := by omega
                      have hj00 : (0 : Int) ≤ (jj : Int) := by omega
                      have hj1 : (jj : Int) < (el : Int) := by omega
                      obtain ⟨xv, hxv⟩ : ∃ x, mm.b[jj]? = some x := ⟨_, List.getElem?_eq_getElem (by have := HEL.out; omega)⟩
                      have e3 : flpS s ((k0 : Int) + 1) (jj : Int) q = newB s ((k0 : Int) + 1) (mm.b.set jj (xrB xv q)) := by
                        unfold flpS
                        rw [hE, if_pos rfl, HBY.out]
                        unfold flpL
                        rw [Int.toNat_natCast, List.getD_eq_getElem?_getD, hxv]
                        rfl
                      have hty : bytW (mm.b.set jj (xrB xv q)) := by
                        have := flpL_byt (HWr.out.ok.b mm (List.mem_of_getElem? HMM.out)) (jj : Int) q
                        unfold flpL at this
                        rw [Int.toNat_natCast, List.getD_eq_getElem?_getD, hxv] at this
                        exact this
                      obtain rfl : te = 0 := by omega
                      rw [e3] at HW6
                      have hand := and255W q
                      have hwr := wrap256W q
                      have hx2 : bits BinOp.xor IntKind.u8 xv (q % 256) = xrB xv q := rfl
                      obtain ⟨z, hz⟩ : ∃ z, xrB xv q = z := ⟨_, rfl⟩
                      rw [hz] at hx2 hty HW6
                      have HTY := hm7 hty
                      have hbne : mm.b ≠ [] := fun e => by rw [e] at hxv; simp at hxv
                      obtain ⟨a2, c2, eu, -, -, -, h4⟩ := HLQ.out
                      rcases h4 with ⟨h4, -⟩ | ⟨xb, oo, rfl, hxl, hxT, hcells⟩
                      · exact absurd h4 hbne
                      simp only [Value.slice.injEq] at eu
                      obtain ⟨rfl, -, rfl⟩ := eu
                      have r0 := hcells jj xv hxv
                      have rf := HBo6.out.f qe (List.mem_of_getElem? HQE.out) xb oo _ _ HEV.out jj (by rw [HE1.out, HEL.out]; omega)
                      have HCE := hm7 hcells
                      have HXJ := hm7 hxv
                      clear es ee hE e3 hbad hty hz hbne hcells hxv
                      as_aux_lemma =>
                        go_upto_region 51 with (fail)
                        go_region
                        all_goals go_wp2
                        go_roundg gg
                        case measure => omega
                        case rel =>
                          have hcel : ∀ (i : Nat) (y : Int), qe.1[i]? = some y → W6.cell? ⟨xb, oo + i, none⟩ = some (.int .u8 y) := by rw [HE1.out]; exact HCE.out
                          have hbx := HBo6.out.flip HQE.out HEV.out (j := jj) (z := z) (by rw [HE1.out, HEL.out]; omega) (by rw [HE1.out]; exact HTY.out) hcel hxT
                          have hfr : Fr (fun x => x = xb) W6 (W6.setCell ⟨xb, oo + jj, none⟩ (.int .u8 z)) := (Fr.refl _ _).set (Or.inl rfl)
                          have hdr : Below (W6.setCell ⟨xb, oo + jj, none⟩ (.int .u8 z)).heap.size (W6.setCell ⟨xb, oo + jj, none⟩ (.int .u8 z)) (W6.setCell ⟨xb, oo + jj, none⟩ (.int .u8 z)).drew := ⟨rfl, rfl, rfl, Nat.le_refl _, fun _ _ => rfl⟩
                          have hre := HRe.out.newB HWr.out.ok HG.out (mm.b.set jj z)
                          refine ⟨j + 1, T1, _, L.set k0 (qe.1.set jj z, qe.2), G, by omega, by go_num, (HW6.out.fr hfr fun b _ ht e => hxT.2 (e ▸ ht)).below hdr, hbx.below hdr, ?_, (HB6.out.setCell (p := ⟨xb, oo + jj, none⟩) hxT.1 _).trans (hdr.mono (by have := HB6.out.size; simp; omega))⟩
                          rw [List.map_set]
                          simp only
                          rw [HE1.out]
                          exact hre
                  · have es : stpW s ⟨8, (k0 : Int) + 1, m, q, b⟩ = cutS s ((k0 : Int) + 1) m := by simp [stpW]
                    have ee : cutE s ((k0 : Int) + 1) m = te := by have := HTE.out; simpa [tolW] using this
                    have hE : cutE s ((k0 : Int) + 1) m = if m < 0 ∨ (el : Int) < m then 232 else 0 := by unfold cutE; rw [HP.out, HBY.out, HEL.out]
                    rw [es] at HW6
                    by_cases hbad : m < 0 ∨ (el : Int) < m
                    · rw [if_pos hbad] at hE
                      have e3 : cutS s ((k0 : Int) + 1) m = s := by unfold cutS; rw [hE]; rfl
                      obtain rfl : te = 232 := by omega
                      rw [e3] at HW6
                      have hbad2 : ¬ m ≥ 0 ∨ (m ≥ 0 ∧ ¬ m ≤ (el : Int)) := by omega
                      clear es ee hE e3 hbad
                      rcases hbad2 with hbad | ⟨hbad, hb2⟩
                      · as_aux_lemma =>
                          go_wp2
                          go_roundg gg
                          case measure => omega
                          case rel =>
                            exact ⟨j + 1, T1, _, L, G, by omega, by go_num, HW6.out, HBo6.out, HRe.out, HB6.out⟩
                      · as_aux_lemma =>
                          go_wp2
                          go_roundg gg
                          case measure => omega
                          case rel =>
                            exact ⟨j + 1, T1, _, L, G, by omega, by go_num, HW6.out, HBo6.out, HRe.out, HB6.out⟩
                    · rw [if_neg hbad] at hE
                      obtain ⟨jj, rfl⟩ : ∃ jj : Nat, m = (jj : Int) := ⟨m.toNat, by omega⟩
                      have hj0 : (jj : Int) ≥ 0 := by omega
                      have hj00 : (0 : Int) ≤ (jj : Int) := by omega
                      have hj1 : (jj : Int) ≤ (el : Int) := by omega
                      have hj2 : (jj : Int) ≤ (ec : Int) := by omega
                      have e3 : cutS s ((k0 : Int) + 1) (jj : Int) = newB s ((k0 : Int) + 1) (mm.b.take jj) := by
                        unfold cutS
                        rw [hE, if_pos rfl, HBY.out, Int.toNat_natCast]
                      obtain rfl : te = 0 := by omega
                      rw [e3] at HW6
                      have df0 := df k0
                      clear es ee hE e3 hbad
                      as_aux_lemma =>
                        go_upto_region 56 with (fail)
                        go_region
                        all_goals go_wp2
                        go_roundg gg
                        case measure => omega
                        case rel =>
                          have hbx := HBo6.out.setB HQE.out HEV.out (l := jj) (by omega)
                          have hfr : Fr (fun x => x = gb) W6 (W6.setCell ⟨gb, k0, none⟩ (.slice ea jj ec)) := (Fr.refl _ _).set (Or.inl rfl)
                          have hdr : Below (W6.setCell ⟨gb, k0, none⟩ (.slice ea jj ec)).heap.size (W6.setCell ⟨gb, k0, none⟩ (.slice ea jj ec)) (W6.setCell ⟨gb, k0, none⟩ (.slice ea jj ec)).drew := ⟨rfl, rfl, rfl, Nat.le_refl _, fun _ _ => rfl⟩
                          have hre := HRe.out.newB HWr.out.ok HG.out (mm.b.take jj)
                          refine ⟨j + 1, T1, _, L.set k0 (qe.1.take jj, .slice ea jj ec), G, by omega, by go_num, (HW6.out.fr hfr fun b _ ht e => HBo6.out.nb gb rfl (e ▸ ht)).below hdr, hbx.below hdr, ?_, (HB6.out.setCell (p := ⟨gb, k0, none⟩) hgb1 _).trans (hdr.mono (by have := HB6.out.size; simp; omega))⟩
                          rw [List.map_set]
                          simp only
                          rw [HE1.out]
                          exact hre
end Go.Proofs.Ytboomeeipnfbmaa
