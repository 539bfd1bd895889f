/-
  signAt.
-/
import Derived.Test.YtdfdnjkeiddfjaaDoorK4
namespace Go.Proofs.YtdfdnjkeiddfjaaDoor
open Go.RowKit

theorem sgF_no {l : List Int} {m : Nat} (h : sk (ofL (l.take (m + 1))) = 0) : sgF l (m + 1) = sgF l m := by show (if _ then _ else _) = _; rw [if_pos h]
theorem sgF_yes {l : List Int} {m : Nat} (h : ¬ sk (ofL (l.take (m + 1))) = 0) : sgF l (m + 1) = .ok (sk (ofL (l.take (m + 1))) : Nat) [] 0 (m + 1) := by show (if _ then _ else _) = _; rw [if_neg h]
set_option maxRecDepth 20000 in
set_option maxHeartbeats 1000000 in
theorem signAt_any (s : ByteArray) (j : Nat) (hj : j < s.size) (hs : s.size < 4611686018427387000) (w : World) (hS : SignsOk w) :
    Calls Tryd.prog 42 #[.string s, .int .i64 j] w fun e w' => e = .returned (TR.v j (sgt ((blK s).drop j))) ∧ Below w.heap.size w w' := by
  have HX : Hid (∀ m, j + m ≤ s.size → s.extract j (j + m) = ofL (((blK s).drop j).take m)) := fun m _ => by rw [extract_eq]; congr 2; omega
  have hll : ((blK s).drop j).length = s.size - j := by rw [List.length_drop, bl_len]
  obtain ⟨R, hR⟩ : ∃ R, sgt ((blK s).drop j) = R := ⟨_, rfl⟩
  have HR0 : Hid (sgF ((blK s).drop j) (min 2 (s.size - j)) = R) := by show _ = R; rw [← hR, sgt, hll]
  rw [hR]
  obtain ⟨l, hl⟩ : ∃ l, (blK s).drop j = l := ⟨_, rfl⟩
  rw [hl] at HX HR0
  have HS : Hid (SignsOk w) := hS
  clear hR hl hll hS
  go_enter Tryd.func42, Tryd.ntmps42
  go_upto_region 1 with fail
  have B4 := BlkK.old w #[.int .i64 0, .string ⟨#[]⟩, .int .i64 0, .int .i64 0, .int .i64 0] 43 (.cells #[.int .i64 0, .int .i64 0] 27)
  have B5 := BlkK.new2 w #[.int .i64 0, .int .i64 0] 27 (.cells #[.int .i64 0, .string ⟨#[]⟩, .int .i64 0, .int .i64 0, .int .i64 0] 43)
  have hb := below2K w (.cells #[.int .i64 0, .string ⟨#[]⟩, .int .i64 0, .int .i64 0, .int .i64 0] 43) (.cells #[.int .i64 0, .int .i64 0] 27)
  revert B4 B5 hb
  generalize (w.alloc (.cells #[.int .i64 0, .string ⟨#[]⟩, .int .i64 0, .int .i64 0, .int .i64 0] 43)).alloc (.cells #[.int .i64 0, .int .i64 0] 27) = W1
  intro B4 B5 hb
  have H4 : Hid (BlkK W1 w.heap.size (Tk.cs ⟨0, ⟨#[]⟩, 0, 0, 0⟩) 43) := B4
  have H5 : Hid (BlkK W1 (w.heap.size + 1) (fcs 0 0) 27) := B5
  have HB : Hid (Below w.heap.size w W1) := hb
  have HS1 : Hid (SignsOk W1) := HS.out.later hb
  clear B4 B5 hb
  have hm : (∃ m, m = min 2 (s.size - j) ∧ j + m ≤ s.size ∧ ((s.size < j + 2 ∧ s.size = j + m) ∨ (¬ s.size < j + 2 ∧ m = 2))) := ⟨_, rfl, by omega, by omega⟩
  obtain ⟨m, hm1, hm2, hm3⟩ := hm
  rw [← hm1] at HR0
  have HM : Hid (j + m ≤ s.size) := hm2
  have hend : min ((j : Int) + 2) (s.size : Int) = ((j + m : Nat) : Int) := by omega
  clear hm1 hm2 hm3
  go_wp2
  go_loopg [6] m (fun g i wr => i = .int .i64 ((j + g : Nat) : Int) ∧ j + g ≤ s.size ∧ sgF l g = R ∧ wr = W1)
  case atStart => exact ⟨by rw [Int.natCast_add], HM.out, HR0.out, rfl⟩
  case round =>
    obtain ⟨rfl, hjs, hr, rfl⟩ := hrel
    have HR : Hid (sgF l gk = R) := hr
    clear hr HR0 hend
    cases gk with
    | succ g =>
      have i1 : (j : Int) < ((j + (g + 1) : Nat) : Int) := by omega
      have i2 : ((j + (g + 1) : Nat) : Int) ≤ (s.size : Int) := by omega
      have i3 : (0 : Int) ≤ (j : Int) := by omega
      have i4 : (j : Int) ≤ ((j + (g + 1) : Nat) : Int) := by omega
      have hx : s.extract j (((j + (g + 1) : Nat) : Int)).toNat = ofL (l.take (g + 1)) := by
        rw [Int.toNat_natCast]; exact HX.out _ hjs
      have ck := fun (W : World) (h : SignsOk W) => signKind_any (ofL (l.take (g + 1))) W h
      have HN : Hid (sk (ofL (l.take (g + 1))) = 0 → sgF l g = R) := fun h => by rw [← HR.out, sgF_no h]
      have HY : Hid (¬ sk (ofL (l.take (g + 1))) = 0 → R = .ok (sk (ofL (l.take (g + 1))) : Nat) [] 0 (g + 1)) := fun h => by rw [← HR.out, sgF_yes h]
      obtain ⟨E, hE⟩ : ∃ E : Int, ((j + (g + 1) : Nat) : Int) = E := ⟨_, rfl⟩
      rw [hE] at i1 i2 i4 hx ⊢
      have HE : Hid (((j + (g + 1) : Nat) : Int) = E) := hE
      generalize sk (ofL (l.take (g + 1))) = K at *
      generalize ofL (l.take (g + 1)) = X at *
      clear HX hE HR
      by_cases hk : K = 0
      · have HN1 : Hid _ := HN.out hk
        have n1 : ((K : Int) == 0) = true := by simp [hk]
        have n2 : ((K : Int) != 0) = false := by simp [hk]
        clear hk HN HY
        go_wp2_with (go_at_call 66; refine (ck _ HS1.out).mono ?_; rintro e w1 ⟨rfl, rfl⟩)
        go_roundg g
        case measure => omega
        case rel => exact ⟨by have := HE.out; congr 1; omega, by omega, HN1.out, rfl⟩
      · have HY1 : Hid _ := HY.out hk
        have n1 : ((K : Int) == 0) = false := beq_eq_false_iff_ne.2 (by omega)
        have n2 : ((K : Int) != 0) = true := by rw [bne, n1]; rfl
        obtain ⟨d0, d1, d2, d3, d4⟩ := fiveK H4.out
        obtain ⟨f0, f1, f2, f3, f4⟩ := fiveFK H4.out
        obtain ⟨b0, b1, b2, b3⟩ := two H5.out
        clear hk HN HY
        go_wp2_with (go_at_call 66; refine (ck _ HS1.out).mono ?_; rintro e w1 ⟨rfl, rfl⟩)
        obtain ⟨q1, q2⟩ := fw_blk ⟨(K : Nat), ⟨#[]⟩, 0, j, E⟩ 0 0 H4.out H5.out (by omega)
        refine bodyPost_ret (v := TR.v j R) ?_ rfl ⟨rfl, fw_below (t := ⟨(K : Nat), ⟨#[]⟩, 0, j, E⟩) (e := 0) (p := 0) HB.out (Nat.le_refl _) (Nat.le_succ _)⟩
        rw [HY1.out]
        have e1 : TR.v j (.ok (K : Nat) [] 0 (g + 1)) = .tuple #[Tk.v ⟨(K : Nat), ⟨#[]⟩, 0, j, E⟩, .agg #[.int .i64 0, .int .i64 0]] := by
          have := HE.out; subst this; rfl
        rw [e1]
        exact ret_tf Tryd.results42 _ _ _ _ ⟨(K : Nat), ⟨#[]⟩, 0, j, E⟩ 0 0 rfl rfl q1 q2
    | zero =>
      have i1 : ¬ (j : Int) < ((j + 0 : Nat) : Int) := by omega
      obtain ⟨d0, d1, d2, d3, d4⟩ := fiveK H4.out
      obtain ⟨f0, f1, f2, f3, f4⟩ := fiveFK H4.out
      obtain ⟨b0, b1, b2, b3⟩ := two H5.out
      have hR : R = .bad 42 0 := HR.out.symm
      subst hR
      clear HX
      go_wp2
      obtain ⟨q1, q2⟩ := fw_blk ⟨0, ⟨#[]⟩, 0, 0, 0⟩ 42 j H4.out H5.out (by omega)
      exact bodyPost_ret (v := TR.v j (.bad 42 0)) (ret_tf Tryd.results42 _ _ _ _ ⟨0, ⟨#[]⟩, 0, 0, 0⟩ 42 j rfl rfl q1 q2) rfl ⟨rfl, fw_below (t := ⟨0, ⟨#[]⟩, 0, 0, 0⟩) (e := 42) (p := j) HB.out (Nat.le_refl _) (Nat.le_succ _)⟩
end Go.Proofs.YtdfdnjkeiddfjaaDoor
