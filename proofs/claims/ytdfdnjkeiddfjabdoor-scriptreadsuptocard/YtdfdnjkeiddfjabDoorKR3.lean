/-
  ref's quoted.
-/
import Derived.Test.YtdfdnjkeiddfjabDoorKR1
namespace Go.Proofs.YtdfdnjkeiddfjabDoor
open Go.RowKit

set_option maxRecDepth 20000 in
set_option maxHeartbeats 2000000 in
theorem qquoted_any (s : ByteArray) (j : Nat) (hj : j < s.size) (hs : s.size ≤ 9000000) (w : World) :
    Calls Tryd.prog 67 #[.string s, .int .i64 j] w fun e w' => e = .returned (TR.v j (qd (((blK s).drop (j + 1)).length + 1) ((blK s).drop (j + 1)) 1 [])) ∧ Below w.heap.size w w' := by
  obtain ⟨R, hR⟩ : ∃ R, qd (((blK s).drop (j + 1)).length + 1) ((blK s).drop (j + 1)) 1 [] = R := ⟨_, rfl⟩
  rw [hR]
  have HR0 : Hid (qd (((blK s).drop (j + 1)).length + 1) ((blK s).drop (j + 1)) 1 [] = R) := hR
  clear hR
  go_enter Tryd.func67, Tryd.ntmps67
  go_upto_region 1 with fail
  have bx := BxK.start w
  revert bx
  generalize (w.alloc (.cells #[.int .i64 0, .string ⟨#[]⟩, .int .i64 0, .int .i64 0, .int .i64 0] 60)).alloc (.cells #[.int .i64 0, .int .i64 0] 32) = W1
  intro bx
  have HX0 : Hid (BxK w W1) := bx
  clear bx
  go_wp2
  go_loopg [6, 7] (s.size - (j + 1)) (fun g u i wr => ∃ (off f : Nat) (acc : List Int), j + off + g = s.size ∧ i = .int .i64 ((j + off : Nat) : Int) ∧ ((blK s).drop (j + off)).length < f ∧ qd f ((blK s).drop (j + off)) off acc = R ∧ byt acc ∧ acc.length < off ∧ OwnB wr (w.heap.size + 2) u acc ∧ (acc = [] → u = .slice none 0 0) ∧ BxK w wr)
  case atStart => exact ⟨1, _, [], by omega, by rw [Int.natCast_add]; rfl, Nat.lt_succ_self _, HR0.out, (fun x hx => by simp at hx), by simp, OwnB.nil _ _, fun _ => rfl, HX0.out⟩
  case round =>
    obtain ⟨off, f, acc, hg, rfl, hf, hr, hby, hlen, ho, hnil, bx⟩ := hrel
    have hbz := bx.lt
    have HBX : Hid (BxK w wr) := bx
    have HO : Hid (OwnB wr (w.heap.size + 2) u6 acc) := ho
    have HN : Hid (acc = [] → u6 = .slice none 0 0) := hnil
    have HY : Hid (byt acc) := hby
    have HR : Hid (qd f ((blK s).drop (j + off)) off acc = R) := hr
    have HF : Hid (((blK s).drop (j + off)).length < f) := hf
    obtain ⟨d0, d1, d2, d3, d4⟩ := fiveK bx.t
    obtain ⟨f0, f1, f2, f3, f4⟩ := fiveFK bx.t
    obtain ⟨b0, b1, b2, b3⟩ := two bx.f
    obtain ⟨f, rfl⟩ : ∃ f', f = f' + 1 := ⟨f - 1, by omega⟩
    clear bx ho hnil hby hr hf HR0 HX0
    obtain ⟨E, hE⟩ : ∃ E : Int, ((j + off : Nat) : Int) = E := ⟨_, rfl⟩
    have HE : Hid (((j + off : Nat) : Int) = E) := hE
    cases gk with
    | succ g =>
      have hlt : j + off < s.size := by omega
      have hidx := run_index_atK s (j + off) hlt E hE.symm
      have hrg := at_range s (j + off)
      have i1 : E < (s.size : Int) := by omega
      have i0 : 0 ≤ E := by omega
      have i9 : E < 4611686018427387904 := by omega
      have cE := qescape_any s (j + off) hlt (by omega)
      have HD : Hid ((blK s).drop (j + off) = atK_ s (j + off) :: (blK s).drop (j + off + 1)) := bl_drop hlt
      rw [hE] at cE ⊢
      rw [HD.out] at HR HF
      rw [qd_cons] at HR
      obtain ⟨c, hc⟩ : ∃ c, atK_ s (j + off) = c := ⟨_, rfl⟩
      rw [hc] at hidx hrg HR HF
      have h0 := hrg.1
      have h1 := hrg.2
      clear hE hc HD hrg
      by_cases q1 : c = 34
      · have hR := HR.out
        rw [if_pos q1] at hR
        subst q1
        have hcv := conv_all HO.out HN.out HY.out
        have HRR : Hid (TR.ok 3 acc 0 (off + 1) = R) := hR
        clear hR cE HR
        go_wp2
        refine bodyPost_ret (v := TR.v j R) ?_ rfl ⟨rfl, HBX.out.bel ⟨3, ofL acc, 0, j, E + 1⟩ 0 0⟩
        rw [← HRR.out]
        have e1 : TR.v j (.ok 3 acc 0 (off + 1)) = .tuple #[Tk.v ⟨3, ofL acc, 0, j, E + 1⟩, .agg #[.int .i64 0, .int .i64 0]] := by
          have := HE.out; subst this; simp only [TR.v, TR.tk, TR.err, TR.pl]; congr 1
        rw [e1]
        exact HBX.out.res Tryd.results67 _ ⟨3, ofL acc, 0, j, E + 1⟩ 0 0 rfl rfl
      · have n1 : (c == 34) = false := beq_eq_false_iff_ne.2 q1
        have n1' : (c != 34) = true := by rw [bne, n1]; rfl
        have hR := HR.out
        rw [if_neg q1] at hR
        clear q1 HR
        by_cases q2 : c = 92
        · rw [if_pos q2] at hR
          subst q2
          have HEV : Hid (qes s (j + off) = match esc ((blK s).drop (j + off + 1)) with | some (b, k) => (b, k + 1) | none => (0, 0)) := rfl
          cases ee : esc ((blK s).drop (j + off + 1)) with
          | none =>
            rw [ee] at hR HEV
            have hv : qes s (j + off) = (0, 0) := HEV.out
            rw [hv] at cE
            have HRR : Hid (TR.bad 44 off = R) := hR
            have cE' : ∀ (X : World), Calls Tryd.prog 81 #[.string s, .int .i64 E] X fun e w' => e = .returned (.tuple #[.int .u8 0, .int .i64 0]) ∧ Below X.heap.size X w' := fun X => cE X
            clear hR cE HEV ee hv n1 n1'
            go_wp2_with (go_at_call 81; refine (cE' _).mono ?_; rintro e w1 ⟨rfl, hb1⟩; have HB1 : Hid (Below _ _ _) := hb1; clear d0 d1 d2 d3 d4 f0 f1 f2 f3 f4 b0 b1 b2 b3; obtain ⟨d0, d1, d2, d3, d4⟩ := fiveK (HBX.out.later hb1).t; obtain ⟨f0, f1, f2, f3, f4⟩ := fiveFK (HBX.out.later hb1).t; obtain ⟨b0, b1, b2, b3⟩ := two (HBX.out.later hb1).f; clear hb1)
            have hbx := HBX.out.later HB1.out
            refine bodyPost_ret (v := TR.v j R) ?_ rfl ⟨rfl, hbx.bel ⟨0, ⟨#[]⟩, 0, 0, 0⟩ 44 E⟩
            rw [← HRR.out]
            have e1 : TR.v j (.bad 44 off) = .tuple #[Tk.v ⟨0, ⟨#[]⟩, 0, 0, 0⟩, .agg #[.int .i64 44, .int .i64 E]] := by
              have := HE.out; subst this; rfl
            rw [e1]
            exact hbx.res Tryd.results67 _ ⟨0, ⟨#[]⟩, 0, 0, 0⟩ 44 E rfl rfl
          | some bk =>
            obtain ⟨b, k⟩ := bk
            rw [ee] at hR HEV
            have hrg := esc_rng ee
            have hv : qes s (j + off) = (b, k + 1) := HEV.out
            rw [hv] at cE
            rw [List.length_drop, bl_len] at hrg
            obtain ⟨N, hN⟩ : ∃ N : Int, ((k + 1 : Nat) : Int) = N := ⟨_, rfl⟩
            have HN2 : Hid (((k + 1 : Nat) : Int) = N) := hN
            have cE' : ∀ (X : World), Calls Tryd.prog 81 #[.string s, .int .i64 E] X fun e w' => e = .returned (.tuple #[.int .u8 b, .int .i64 N]) ∧ Below X.heap.size X w' := fun X => by
              have := cE X; simp only [hN] at this; exact this
            have n2 : (N == 0) = false := beq_eq_false_iff_ne.2 (by omega)
            have hw1 : IntKind.i64.wrap (E + N) = E + N := by rw [IntKind.wrap_i64]; omega
            have hR' : qd f ((blK s).drop (j + (off + 1 + k))) (off + 1 + k) (acc ++ [b]) = R := by
              rw [← hR]; simp only [List.drop_drop]; congr 2 <;> omega
            have HRR : Hid (qd f ((blK s).drop (j + (off + 1 + k))) (off + 1 + k) (acc ++ [b]) = R) := hR'
            have HF2 : Hid (((blK s).drop (j + (off + 1 + k))).length < f) := by
              have h := HF.out
              show _ < f
              simp only [List.length_cons, List.length_drop, bl_len] at h ⊢
              omega
            have HY2 : Hid (byt (acc ++ [b])) := fun x hx => by
              rcases List.mem_append.1 hx with hx | hx
              · exact HY.out x hx
              · simp at hx; omega
            clear hR hR' cE HEV ee hv n1 n1' hN
            go_wp2_with (first | (go_at_call 81; refine (cE' _).mono ?_; rintro e w1 ⟨rfl, hb1⟩; have HO1 : Hid (OwnB w1 (w.heap.size + 2) u6 acc) := HO.out.later hb1; have HBX1 : Hid (BxK w w1) := HBX.out.later hb1; have hz1 := hb1.size; clear d0 d1 d2 d3 d4 f0 f1 f2 f3 f4 b0 b1 b2 b3; obtain ⟨d0, d1, d2, d3, d4⟩ := fiveK (HBX.out.later hb1).t; obtain ⟨f0, f1, f2, f3, f4⟩ := fiveFK (HBX.out.later hb1).t; obtain ⟨b0, b1, b2, b3⟩ := two (HBX.out.later hb1).f; clear hb1) | (at_builtin; refine app_bytes rfl _ _ rfl (w.heap.size + 2) u6 acc rfl (HO1.out.later (below1K _ _)) w1.heap.size [b] rfl (heap_alloc_new w1 _) (by simp) (by simp; omega) (by simp; omega) ?_; intro v' w2 ho2 hb2))
            go_roundg (s.size - (j + (off + 1 + k)))
            case measure => omega
            case rel => exact ⟨off + 1 + k, f, acc ++ [b], by omega, by have h1 := HE.out; have h2 := HN2.out; congr 1; omega, HF2.out, HRR.out, HY2.out, by simp; omega, ho2, fun h => by simp at h, (HBX1.out.later (below1K _ _)).laterB hb2⟩
        · have n2 : (c == 92) = false := beq_eq_false_iff_ne.2 q2
          have n2' : (c != 92) = true := by rw [bne, n2]; rfl
          rw [if_neg q2] at hR
          clear q2
          by_cases q3 : c < 32 ∨ c = 127
          · rw [if_pos q3] at hR
            have HRR : Hid (TR.bad 44 off = R) := hR
            clear hR cE
            have q4 : c < 32 ∨ (32 ≤ c ∧ c = 127) := by omega
            clear q3
            rcases q4 with q3 | ⟨q3, rfl⟩ <;>
            · go_wp2
              refine bodyPost_ret (v := TR.v j R) ?_ rfl ⟨rfl, HBX.out.bel ⟨0, ⟨#[]⟩, 0, 0, 0⟩ 44 E⟩
              rw [← HRR.out]
              have e1 : TR.v j (.bad 44 off) = .tuple #[Tk.v ⟨0, ⟨#[]⟩, 0, 0, 0⟩, .agg #[.int .i64 44, .int .i64 E]] := by
                have := HE.out; subst this; rfl
              rw [e1]
              exact HBX.out.res Tryd.results67 _ ⟨0, ⟨#[]⟩, 0, 0, 0⟩ 44 E rfl rfl
          · rw [if_neg q3] at hR
            have m1 : ¬ c < 32 := by omega
            have m2 : (c == 127) = false := beq_eq_false_iff_ne.2 (by omega)
            have HRR : Hid (qd f ((blK s).drop (j + (off + 1))) (off + 1) (acc ++ [c]) = R) := hR
            have HF2 : Hid (((blK s).drop (j + (off + 1))).length < f) := by
              have h := HF.out
              show _ < f
              simp only [List.length_cons, List.length_drop, bl_len] at h ⊢
              omega
            have HY2 : Hid (byt (acc ++ [c])) := fun x hx => by
              rcases List.mem_append.1 hx with hx | hx
              · exact HY.out x hx
              · simp at hx; omega
            clear hR cE q3
            go_wp2_with (at_builtin; refine app_bytes rfl _ _ rfl (w.heap.size + 2) u6 acc rfl (HO.out.later (below1K _ _)) wr.heap.size [c] rfl (heap_alloc_new wr _) (by simp) (by simp; omega) (by simp; omega) ?_; intro v' w2 ho2 hb2)
            go_roundg g
            case measure => omega
            case rel => exact ⟨off + 1, f, acc ++ [c], by omega, by have := HE.out; go_num, HF2.out, HRR.out, HY2.out, by simp; omega, ho2, fun h => by simp at h, (HBX.out.later (below1K _ _)).laterB hb2⟩
    | zero =>
      have i1 : ¬ E < (s.size : Int) := by omega
      have hR := HR.out
      rw [bl_drop_end (by omega), qd_end] at hR
      rw [hE]
      have HRR : Hid (TR.bad 43 0 = R) := hR
      clear hR HR hE
      go_wp2
      refine bodyPost_ret (v := TR.v j R) ?_ rfl ⟨rfl, HBX.out.bel ⟨0, ⟨#[]⟩, 0, 0, 0⟩ 43 j⟩
      rw [← HRR.out]
      exact HBX.out.res Tryd.results67 _ ⟨0, ⟨#[]⟩, 0, 0, 0⟩ 43 j rfl rfl
end Go.Proofs.YtdfdnjkeiddfjabDoor
