/-
  wire: law 23: WireFull.
-/
import Derived.Test.YtboomeeipnfbmaaWSB
import Derived.Lib.SmallJoins
namespace Go.Proofs.Ytboomeeipnfbmaa
open Go.RowKit
attribute [local go_sem ↓] Go.wp_at_zero Go.wp_at_succ

/-- The bytes of a text of one letter, as they are laid. -/
theorem litM (Y : World) (F : Nat → Prop) (hF : F Y.heap.size) : LbW F (Y.alloc (.cells #[.int .u8 120] 5 (1, 2))) (.slice (some ⟨Y.heap.size, 0, none⟩) 1 1) [120] := by
  refine ⟨_, 1, rfl, Nat.le_refl _, by omega, (by intro y hy; simp at hy; omega), Or.inr ⟨Y.heap.size, 0, rfl, by simp, hF, fun i y hy => ?_⟩⟩
  cases i with
  | zero => simp at hy; subst hy; exact World.cell?_alloc_mark Y _ _ _ 0
  | succ i => simp at hy
theorem convM (Y : World) : (convert 24 24 (.slice (some ⟨Y.heap.size, 0, none⟩) 1 1)).run Try.prog (Y.alloc (.cells #[.int .u8 120] 5)) = .ok (.slice (some ⟨Y.heap.size, 0, none⟩) 1 1) (Y.alloc (.cells #[.int .u8 120] 5 (1, 2))) :=
  Lib.run_convert_bytes_const Y 24 5 _ 1 1 Try.underlying24 Try.underlying5
theorem OzW.lb' {Y : World} {base : Nat} {u : Value} {l : List Int} (h : OzW Y base u l) : ∃ a c, u = .slice a l.length c ∧ True := by
  rcases h.2 with h | ⟨rfl, a, h⟩
  · obtain ⟨a, c, h, -⟩ := row7_form h; exact ⟨a, c, h, trivial⟩
  · exact ⟨a, 0, h, trivial⟩
/-- So many numbers were given, and the last message is there. -/
def LstW (s : WrW) (k : Nat) : Prop := s.gv = k ∧ ∃ m ∈ s.row, m.n = k ∧ m.b = [120]
theorem LstW.pl {s : WrW} {k : Nat} (h : LstW s k) (ho : s.Ok) : ∃ i m, plW s (k : Int) = some i ∧ s.row[i]? = some m ∧ m.n = k ∧ m.b = [120] := by
  obtain ⟨-, m, hm, hn, hb⟩ := h
  obtain ⟨i, hi⟩ := List.getElem?_of_mem hm
  have := plW_at ho hi
  rw [hn] at this
  exact ⟨i, m, this, hi, hn, hb⟩
theorem LstW.lok {s : WrW} {k : Nat} (h : LstW s k) (ho : s.Ok) : lokE s (k : Int) = 0 ∧ byW s (k : Int) = [120] := by
  obtain ⟨i, m, hp, hm, -, hb⟩ := h.pl ho
  exact ⟨by unfold lokE; rw [hp], by rw [byW_at hp hm, hb]⟩
theorem LstW.cpy {s : WrW} {k : Nat} (h : LstW s k) (ho : s.Ok) (hk : k < 4096) : cpyE s (k : Int) = 0 ∧ cpyN s (k : Int) = ((k + 1 : Nat) : Int) ∧ cpyS s (k : Int) = putW s [120] := by
  obtain ⟨i, m, hp, hm, -, hb⟩ := h.pl ho
  have e : cpyE s (k : Int) = 0 := by unfold cpyE; rw [hp]; simp only; rw [if_neg (by have := h.1; omega)]
  exact ⟨e, by unfold cpyN; rw [if_pos e, h.1], by unfold cpyS; rw [if_pos e, (h.lok ho).2]⟩
theorem LstW.cpyF {s : WrW} (h : LstW s 4096) (ho : s.Ok) : cpyE s 4096 = 234 ∧ cpyN s 4096 = 0 ∧ cpyS s 4096 = s := by
  obtain ⟨i, m, hp, hm, -, hb⟩ := h.pl ho
  have e : cpyE s 4096 = 234 := by unfold cpyE; rw [show ((4096 : Nat) : Int) = 4096 by rfl] at hp; rw [hp]; simp only; rw [if_pos (by have := h.1; omega)]
  exact ⟨e, by unfold cpyN; rw [if_neg (by rw [e]; decide)], by unfold cpyS; rw [if_neg (by rw [e]; decide)]⟩
theorem LstW.none_ {s : WrW} {k : Nat} (h : s.gv = k) (ho : s.Ok) {n : Int} (hn : (k : Int) < n) : plW s n = none := by
  cases hp : plW s n with
  | none => rfl
  | some i =>
    obtain ⟨m, hm, e, -⟩ := plW_some hp
    have := (ho.n m (List.mem_of_getElem? hm)).2
    omega
theorem LstW.put {s : WrW} {k : Nat} (h : LstW s k) : LstW (putW s [120]) (k + 1) := ⟨by unfold putW; simp only; rw [h.1], ⟨s.gv + 1, [120]⟩, by unfold putW; simp, by simp only; rw [h.1], rfl⟩
/-- Behind a put the elder one can go. -/
theorem LstW.old {s : WrW} {k : Nat} (h : LstW s k) (ho : (putW s [120]).Ok) : lokE (putW s [120]) (k : Int) = 0 ∧ LstW (takS (putW s [120]) (k : Int)) (k + 1) := by
  obtain ⟨hg, m, hm, hn, hb⟩ := h
  have hm2 : m ∈ (putW s [120]).row := by unfold putW; simp [hm]
  obtain ⟨i, hi⟩ := List.getElem?_of_mem hm2
  have hp := plW_at ho hi
  rw [hn] at hp
  refine ⟨by unfold lokE; rw [hp], ?_⟩
  have e : takS (putW s [120]) (k : Int) = ⟨(putW s [120]).row.eraseIdx i, (putW s [120]).gv⟩ := by unfold takS; rw [hp]
  rw [e]
  refine ⟨by unfold putW; simp only; rw [hg], ⟨s.gv + 1, [120]⟩, ?_, by simp only; rw [hg], rfl⟩
  simp only
  rw [List.mem_eraseIdx_iff_getElem?]
  refine ⟨s.row.length, ?_, by unfold putW; simp⟩
  intro e2
  subst e2
  unfold putW at hi
  simp at hi
  rw [← hi] at hn
  simp at hn
  omega
theorem LstW.gone {s : WrW} {k : Nat} (h : LstW s k) (ho : s.Ok) : plW (takS s (k : Int)) (k : Int) = none ∧ (takS s (k : Int)).gv = k := by
  obtain ⟨i, m, hp, hm, hn, -⟩ := h.pl ho
  have e : takS s (k : Int) = ⟨s.row.eraseIdx i, s.gv⟩ := by unfold takS; rw [hp]
  rw [e]
  refine ⟨?_, h.1⟩
  unfold plW
  rw [List.findIdx?_eq_none_iff]
  intro x hx
  simp only at hx
  rw [List.mem_eraseIdx_iff_getElem?] at hx
  obtain ⟨j, hj, hx⟩ := hx
  simp only [decide_eq_false_iff_not]
  intro e2
  exact hj (num_one ho hx hm (by omega))
set_option maxRecDepth 20000 in
set_option maxHeartbeats 8000000 in
theorem wireFullW_any (copies dropped : Int) (Y : World) : Calls Try.prog 4 #[.int .i64 copies, .int .i64 dropped] Y fun e Y' => e = .returned (.bool true) ∧ Below Y.heap.size Y Y' := by
  have f1 : sndE ⟨[], 0⟩ [120] = 0 := rfl
  have f2 : sndS ⟨[], 0⟩ [120] = putW ⟨[], 0⟩ [120] := rfl
  have f3 : sndN ⟨[], 0⟩ [120] = 1 := rfl
  go_enter Try.func4, Try.ntmps4
  go_upto_region 4 with (go_at_call 9; with_reducible refine (wnewW_any Y.heap.size Y (Nat.le_refl _)).mono ?_; rintro e Y0 ⟨T0, v, rfl, hw, ht, hb⟩; obtain ⟨g, rfl⟩ := hw.ptr; have HW0 := hm7 hw; have HB0 := hm7 hb; clear hw ht hb)
  have HA0 := hm7 (below1 Y0 (.cells #[.int .u8 120] 5 (1, 2)))
  have HS0 := hm7 (wsendW_any (HW0.out.below HA0.out) (litM Y0 (fun x => Y0.heap.size ≤ x) (Nat.le_refl _)) (fun x hx hF => by have := HW0.out.lt x hx; omega))
  rw [f1, f2, f3] at HS0
  have hcv := convM Y0
  go_wp2_with (go_at_call 10; with_reducible refine HS0.out.mono ?_; rintro e Y1 ⟨rfl, hq⟩; obtain ⟨T1, hw, hs⟩ := hq.st; have HW1 := hm7 hw; have HB1 := hm7 ((HW0.out.below HA0.out).go hs (HB0.out.trans (HA0.out.mono HB0.out.size)) (Nat.le_trans HB0.out.size HA0.out.size)); clear hq hw hs)
  have HL0 : Hid (LstW (putW ⟨[], 0⟩ [120]) 1) := ⟨rfl, ⟨1, [120]⟩, by simp [putW], rfl, rfl⟩
  go_loopg [8, 6, 7] 4095 (fun gg i n e wr => ∃ (j : Nat) (s : WrW) (T : Nat → Prop), j + gg = 4095 ∧ i = .int .i64 ((j : Int) + 2) ∧ n = .int .i64 ((j : Int) + 1) ∧ e = .int .i64 0 ∧ LstW s (j + 1) ∧ WzW Y.heap.size T (.pointer (some ⟨g, 0, none⟩)) s wr ∧ Below Y.heap.size Y wr)
  case atStart => exact ⟨0, _, T1, by omega, rfl, rfl, rfl, HL0.out, HW1.out, HB1.out⟩
  case round =>
    obtain ⟨j, s, T, hj, rfl, rfl, rfl, hl, hw, hb⟩ := hrel
    have HL := hm7 hl
    have HW := hm7 hw
    have HB := hm7 hb
    cases gk with
    | succ gg =>
      have hlt : (j : Int) + 2 ≤ 4096 := by omega
      have hs1 : (j : Int) + 2 - 1 = (j : Int) + 1 := by omega
      have hwr : IntKind.i64.wrap ((j : Int) + 1) = (j : Int) + 1 := by simp [IntKind.wrap, IntKind.bits, IntKind.signed]; omega
      obtain ⟨q1, q2, q3⟩ := hl.cpy hw.ok (by omega)
      have ej : ((j + 1 : Nat) : Int) = (j : Int) + 1 := by omega
      have ej2 : ((j + 1 + 1 : Nat) : Int) = (j : Int) + 2 := by omega
      have hC := wcpyW_any hw ((j + 1 : Nat) : Int)
      rw [q1, q2, q3, ej, ej2] at hC
      have HC := hm7 hC
      have HA := hm7 (below1 wr (.cells #[.int .u8 120] 5 (1, 2)))
      have p1 : sndE s [120] = 0 := sndE_ok (by simp) (by have := hl.1; omega)
      have hS := wsendW_any (hw.below HA.out) (litM wr (fun x => wr.heap.size ≤ x) (Nat.le_refl _)) (fun x hx hF => by have := hw.lt x hx; omega)
      rw [sndN_ok p1, sndS_ok p1, p1, hl.1, ej2] at hS
      have HS := hm7 hS
      have hcv := convM wr
      have HP := hm7 hl.put
      have hgn := hl.old
      have HG := hm7 hgn
      obtain ⟨a7, ha7⟩ : ∃ a, bits BinOp.and IntKind.i64 ((j : Int) + 2) 7 = a := ⟨_, rfl⟩
      obtain ⟨c7, hc7⟩ : ∃ a, bits BinOp.and IntKind.i64 copies 7 = a := ⟨_, rfl⟩
      obtain ⟨a15, ha15⟩ : ∃ a, bits BinOp.and IntKind.i64 ((j : Int) + 2) 15 = a := ⟨_, rfl⟩
      obtain ⟨d15, hd15⟩ : ∃ a, bits BinOp.and IntKind.i64 dropped 15 = a := ⟨_, rfl⟩
      clear hl hw hb hC hS q1 q2 q3 p1 hgn
      by_cases h7 : a7 = c7
      · subst h7
        go_upto_region 13 with (go_at_call 13; with_reducible refine HC.out.mono ?_; rintro e Y5 ⟨rfl, hq⟩; obtain ⟨T5, hw, hs⟩ := hq.st; have HW5 := hm7 hw; have HB5 := hm7 (HW.out.go hs HB.out HB.out.size); clear hq hw hs)
        obtain ⟨g1, g2⟩ := HG.out HW5.out.ok
        have hD := wdropW_any HW5.out ((j + 1 : Nat) : Int)
        rw [g1, ej] at hD
        rw [ej] at g2
        have HD := hm7 hD
        have HG2 := hm7 g2
        clear g1 g2 hD
        by_cases hj0 : 0 < j
        · have k1 : decide ((j : Int) + 2 > 2) = true := decide_eq_true (by omega)
          have k1' : (j : Int) + 2 > 2 := by omega
          by_cases h15 : a15 = d15
          · subst h15
            go_wp2_with (go_at_call 14; with_reducible refine HD.out.mono ?_; rintro e Y6 ⟨rfl, hq⟩; obtain ⟨T6, hw, hs⟩ := hq.st; have HW6 := hm7 hw; have HB6 := hm7 (HW5.out.go hs HB5.out HB5.out.size); clear hq hw hs)
            go_roundg gg
            case measure => omega
            case rel => exact ⟨j + 1, _, T6, by omega, by go_num, by go_num, rfl, HG2.out, HW6.out, HB6.out⟩
          · have h15' : (a15 == d15) = false := by simpa using h15
            go_wp2
            go_roundg gg
            case measure => omega
            case rel => exact ⟨j + 1, _, T5, by omega, by go_num, by go_num, rfl, HP.out, HW5.out, HB5.out⟩
        · have k1 : decide ((j : Int) + 2 > 2) = false := decide_eq_false (by omega)
          have k1' : ¬ (j : Int) + 2 > 2 := by omega
          go_wp2
          go_roundg gg
          case measure => omega
          case rel => exact ⟨j + 1, _, T5, by omega, by go_num, by go_num, rfl, HP.out, HW5.out, HB5.out⟩
      · have h7' : (a7 == c7) = false := by simpa using h7
        go_upto_region 13 with (go_at_call 10; with_reducible refine HS.out.mono ?_; rintro e Y5 ⟨rfl, hq⟩; obtain ⟨T5, hw, hs⟩ := hq.st; have HW5 := hm7 hw; have HB5 := hm7 ((HW.out.below HA.out).go hs (HB.out.trans (HA.out.mono HB.out.size)) (Nat.le_trans HB.out.size HA.out.size)); clear hq hw hs)
        obtain ⟨g1, g2⟩ := HG.out HW5.out.ok
        have hD := wdropW_any HW5.out ((j + 1 : Nat) : Int)
        rw [g1, ej] at hD
        rw [ej] at g2
        have HD := hm7 hD
        have HG2 := hm7 g2
        clear g1 g2 hD
        by_cases hj0 : 0 < j
        · have k1 : decide ((j : Int) + 2 > 2) = true := decide_eq_true (by omega)
          have k1' : (j : Int) + 2 > 2 := by omega
          by_cases h15 : a15 = d15
          · subst h15
            go_wp2_with (go_at_call 14; with_reducible refine HD.out.mono ?_; rintro e Y6 ⟨rfl, hq⟩; obtain ⟨T6, hw, hs⟩ := hq.st; have HW6 := hm7 hw; have HB6 := hm7 (HW5.out.go hs HB5.out HB5.out.size); clear hq hw hs)
            go_roundg gg
            case measure => omega
            case rel => exact ⟨j + 1, _, T6, by omega, by go_num, by go_num, rfl, HG2.out, HW6.out, HB6.out⟩
          · have h15' : (a15 == d15) = false := by simpa using h15
            go_wp2
            go_roundg gg
            case measure => omega
            case rel => exact ⟨j + 1, _, T5, by omega, by go_num, by go_num, rfl, HP.out, HW5.out, HB5.out⟩
        · have k1 : decide ((j : Int) + 2 > 2) = false := decide_eq_false (by omega)
          have k1' : ¬ (j : Int) + 2 > 2 := by omega
          go_wp2
          go_roundg gg
          case measure => omega
          case rel => exact ⟨j + 1, _, T5, by omega, by go_num, by go_num, rfl, HP.out, HW5.out, HB5.out⟩
    | zero =>
      obtain rfl : j = 4095 := by omega
      have hlt : ¬ (((4095 : Nat) : Int) + 2 ≤ 4096) := by omega
      have hgv : s.gv = 4096 := hl.1
      have hl2 : LstW s 4096 := hl
      have f1 : sndE s [] = 234 := by unfold sndE; rw [if_neg (by simp), if_pos (by omega)]
      have f2 : sndN s [] = 0 := sndN_no (by rw [f1]; decide)
      have f3 : sndS s [] = s := sndS_no (by rw [f1]; decide)
      obtain ⟨g1, g2, g3⟩ := hl2.cpyF hw.ok
      have k0 : plW s 4097 = none := LstW.none_ hgv hw.ok (by omega)
      have k1 : cpyE s 4097 = 231 := by unfold cpyE; rw [k0]
      have k2 : cpyN s 4097 = 0 := by unfold cpyN; rw [if_neg (by rw [k1]; decide)]
      have k3 : cpyS s 4097 = s := by unfold cpyS; rw [if_neg (by rw [k1]; decide)]
      obtain ⟨l1, l2⟩ := hl2.lok hw.ok
      obtain ⟨m1, m2⟩ := hl2.gone hw.ok
      rw [show ((4096 : Nat) : Int) = 4096 from rfl] at l1 l2 m1 m2
      obtain ⟨s2, hs2⟩ : ∃ s2, takS s 4096 = s2 := ⟨_, rfl⟩
      rw [hs2] at m1 m2
      have n1 : sndE s2 [] = 234 := by unfold sndE; rw [if_neg (by simp), if_pos (by omega)]
      have n2 : sndN s2 [] = 0 := sndN_no (by rw [n1]; decide)
      have n3 : sndS s2 [] = s2 := sndS_no (by rw [n1]; decide)
      have o1 : lokE s2 4096 = 231 := by unfold lokE; rw [m1]
      have P := hm7 (And.intro f1 (And.intro f2 (And.intro f3 (And.intro g1 (And.intro g2 (And.intro g3 (And.intro k1 (And.intro k2 k3))))))))
      have Q := hm7 (And.intro l1 (And.intro l2 (And.intro hs2 (And.intro n1 (And.intro n2 (And.intro n3 o1))))))
      clear f1 f2 f3 g1 g2 g3 k0 k1 k2 k3 l1 l2 m1 m2 hs2 n1 n2 n3 o1 hl hl2 hw hb hgv hj
      go_upto_region 18 with (go_at_call 10; with_reducible refine (wsendW_any HW.out (LbW.nil (fun _ => False) _) (fun _ _ h => h)).mono ?_; rintro e Y3 ⟨hret, hq⟩; obtain ⟨T3, hw, hs⟩ := hq.st; rw [P.out.1, P.out.2.1] at hret; rw [P.out.2.2.1] at hw; subst hret; have HW3 := hm7 hw; have HB3 := hm7 (HW.out.go hs HB.out HB.out.size); clear hq hw hs)
      go_upto_region 19 with (go_at_call 13; with_reducible refine (wcpyW_any HW3.out 4096).mono ?_; rintro e Y4 ⟨hret, hq⟩; obtain ⟨T4, hw, hs⟩ := hq.st; rw [P.out.2.2.2.1, P.out.2.2.2.2.1] at hret; rw [P.out.2.2.2.2.2.1] at hw; subst hret; have HW4 := hm7 hw; have HB4 := hm7 (HW3.out.go hs HB3.out HB3.out.size); clear hq hw hs)
      go_upto_region 22 with (go_at_call 13; with_reducible refine (wcpyW_any HW4.out 4097).mono ?_; rintro e Y5 ⟨hret, hq⟩; obtain ⟨T5, hw, hs⟩ := hq.st; rw [P.out.2.2.2.2.2.2.1, P.out.2.2.2.2.2.2.2.1] at hret; rw [P.out.2.2.2.2.2.2.2.2] at hw; subst hret; have HW5 := hm7 hw; have HB5 := hm7 (HW4.out.go hs HB4.out HB4.out.size); clear hq hw hs)
      go_upto_region 23 with (go_at_call 11; with_reducible refine (wtakeW_any HW5.out 4096).mono ?_; rintro e Y6 ⟨u, T6, hret, hw, h1, h2, h3⟩; rw [Q.out.1] at hret; rw [Q.out.2.1] at h3; rw [Q.out.2.2.1] at hw; subst hret; obtain ⟨ua, uc, rfl, -⟩ := h3.form; have hs : StW T5 T6 Y5 Y6 := ⟨h2, h1⟩; have HU := hm7 h3; have HW6 := hm7 hw; have HB6 := hm7 (HW5.out.go hs HB5.out HB5.out.size); clear h1 h2 h3 hw hs)
      go_upto_region 24 with (go_at_call 10; with_reducible refine (wsendW_any HW6.out (LbW.nil (fun _ => False) _) (fun _ _ h => h)).mono ?_; rintro e Y7 ⟨hret, hq⟩; obtain ⟨T7, hw, hs⟩ := hq.st; rw [Q.out.2.2.2.1, Q.out.2.2.2.2.1] at hret; rw [Q.out.2.2.2.2.2.1] at hw; subst hret; have HW7 := hm7 hw; have HU7 := hm7 (hs.lb HU.out fun x hx => hx.2); have HB7 := hm7 (HW6.out.go hs HB6.out HB6.out.size); clear hq hw hs)
      go_upto_region 25 with (go_at_call 15; with_reducible refine (wlookW_any HW7.out 4096).mono ?_; rintro e Y8 ⟨w, hret, hu, hb⟩; rw [Q.out.2.2.2.2.2.2] at hret; subst hret; obtain ⟨wa, wc, hwf, -⟩ := hu.lb'; subst hwf; have HU8 := hm7 (HU7.out.below hb); have HB8 := hm7 (HB7.out.trans (hb.mono HB7.out.size)); clear hu hb)
      have hcv := convM Y8
      have hb9 := below1 Y8 (.cells #[.int .u8 120] 5 (1, 2))
      have HM := hm7 (sameW_any _ _ [120] [120] _ _ _ (HU8.out.below hb9) (litM Y8 (fun _ => True) trivial))
      rw [decide_eq_true rfl, show ([120] : List Int).length = 1 from rfl] at HM
      have HB9 := hm7 (HB8.out.trans (hb9.mono HB8.out.size))
      clear hb9
      go_wp2_with (go_at_call 12; with_reducible refine HM.out.mono ?_; rintro e Y9 ⟨rfl, m9, rfl⟩)
      go_ret
      exact ⟨rfl, HB9.out.trans ⟨rfl, rfl, rfl, Nat.le_refl _, fun _ _ => rfl⟩⟩
end Go.Proofs.Ytboomeeipnfbmaa
