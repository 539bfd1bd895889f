import Derived.Test.YtdfdnjkeiddfjabDoorSC1
import Derived.Test.YtdfdnjkeiddfjabDoorJ4
import Derived.Test.YtdfdnjkeiddfjabDoorK4
/-
  script (stage 25): the document's used, name.
-/
namespace Go.Proofs.YtdfdnjkeiddfjabDoor
open Go.RowKit
attribute [local go_sem ↓] Go.wp_at_zero Go.wp_at_succ

/-- Stands this letter in the text? -/
def inS (ps : ByteArray) (p : Int) : Bool := (List.range ps.size).any fun j => decide (atK_ ps j = p)
theorem inS_yes {ps : ByteArray} {p : Int} {j : Nat} (hj : j < ps.size) (h : atK_ ps j = p) : inS ps p = true := by
  unfold inS
  rw [List.any_eq_true]
  exact ⟨j, List.mem_range.2 hj, by simpa using h⟩
theorem inS_no {ps : ByteArray} {p : Int} (h : ∀ j, j < ps.size → atK_ ps j ≠ p) : inS ps p = false := by
  unfold inS
  rw [List.any_eq_false]
  exact fun j hj => by simpa using h j (List.mem_range.1 hj)
set_option maxRecDepth 20000 in
set_option maxHeartbeats 1000000 in
theorem usedS_any (nm ps : ByteArray) (k p : Int) (hs : ps.size ≤ 9000000) (w : World) : Calls Tryd.prog 27 #[.agg #[.string nm, .int .i64 k, .string ps], .int .u8 p] w fun e w' => e = .returned (.bool (inS ps p)) ∧ Below w.heap.size w w' := by
  obtain ⟨W, hW⟩ : ∃ W, w.alloc (.cells #[.string nm, .int .i64 k, .string ps] 52) = W := ⟨_, rfl⟩
  have hb : Below w.heap.size w W := by rw [← hW]; exact below1K _ _
  have c2 : W.cell? ⟨w.heap.size, 2, none⟩ = some (.string ps) := by rw [← hW]; exact World.cell?_alloc_mark w _ _ _ 2
  have HB : Hid (Below w.heap.size w W) := hb
  obtain ⟨N, hN⟩ : ∃ N, ps.size = N := ⟨_, rfl⟩
  have HN : Hid (ps.size = N) := hN
  rw [hN] at hs
  clear hb
  go_enter Tryd.func27, Tryd.ntmps27
  go_upto_region 2 with (fail)
  go_loopg [5] N (fun gg i wr => ∃ j : Nat, j + gg = N ∧ i = .int .i64 j ∧ (∀ x, x < j → atK_ ps x ≠ p) ∧ wr = W)
  case atStart => exact ⟨0, by omega, rfl, fun x hx => by omega, by first | rfl | exact hW⟩
  case round =>
    obtain ⟨j, hj, rfl, hp, rfl⟩ := hrel
    have HP : Hid (∀ x, x < j → atK_ ps x ≠ p) := hp
    clear hp
    cases gk with
    | succ gg =>
      have hlt : (j : Int) < (N : Int) := by omega
      have hix := fun w' k' => run_index_atK ps j (by have := HN.out; omega) (j : Int) rfl w' k'
      obtain ⟨x, hx⟩ : ∃ x, atK_ ps j = x := ⟨_, rfl⟩
      have HX : Hid (atK_ ps j = x) := hx
      simp only [hx] at hix
      clear hx
      by_cases he : x = p
      · subst he
        go_wp2
        go_ret
        exact ⟨ret_bS (inS_yes (j := j) (by have := HN.out; omega) HX.out).symm, HB.out⟩
      · have he' : (x == p) = false := by simpa using he
        go_wp2
        go_roundg gg
        case measure => omega
        case rel =>
          refine ⟨j + 1, by omega, by go_num, fun y hy => ?_, rfl⟩
          by_cases e : y = j
          · subst e; rw [HX.out]; exact he
          · exact HP.out y (by omega)
    | zero =>
      have hlt : ¬ (j : Int) < (N : Int) := by omega
      go_wp2
      go_ret
      exact ⟨ret_bS (inS_no fun y hy => HP.out y (by have := HN.out; omega)).symm, HB.out⟩
/-- Who or To, as it is written. -/
def nmS (s : ByteArray) : ByteArray := if wrd s = true then s else qtB s
end Go.Proofs.YtdfdnjkeiddfjabDoor
/-
  script (stage 25): the document's name, Rows. (The table is written by program.)
-/
namespace Go.Proofs.YtdfdnjkeiddfjabDoor
open Go.RowKit
attribute [local go_sem ↓] Go.wp_at_zero Go.wp_at_succ

theorem nameS_any (s : ByteArray) (hs : s.size ≤ 2000000) (w : World) : Calls Tryd.prog 28 #[.string s] w fun e w' => e = .returned (.string (nmS s)) ∧ Below w.heap.size w w' := by
  have HW : Hid (∀ X, Calls Tryd.prog 50 #[.string s] X fun e w' => e = .returned (.bool (wrd s)) ∧ w' = X) := fun X => qword_any s (by omega) X
  have HQ : Hid (∀ X, Calls Tryd.prog 29 #[.string s] X fun e w' => e = .returned (.string (qtB s)) ∧ Below X.heap.size X w') := fun X => qquote_any s hs X
  unfold nmS
  obtain ⟨c, hc⟩ : ∃ c, wrd s = c := ⟨_, rfl⟩
  rw [hc] at HW ⊢
  clear hc
  cases c with
  | true =>
    go_enter Tryd.func28, Tryd.ntmps28
    go_wp2_with (go_at_call 50; refine (HW.out _).mono ?_; rintro e w1 ⟨rfl, rfl⟩)
    go_ret
    exact ⟨rfl, Below.refl _ _⟩
  | false =>
    go_enter Tryd.func28, Tryd.ntmps28
    go_wp2_with (first | (go_at_call 50; with_reducible refine (HW.out _).mono ?_; rintro e w1 ⟨rfl, rfl⟩) | (go_at_call 29; refine (HQ.out _).mono ?_; rintro e w2 ⟨rfl, hb⟩; have HB : Hid (Below _ _ w2) := hb; clear hb))
    go_ret
    exact ⟨rfl, HB.out⟩
/-- A row of the table. -/
structure RwS where
  x : ByteArray
  k : Int
  p : ByteArray
def rwS : List RwS := [⟨⟨#[101, 110, 114, 111, 108, 108]⟩, 1, ⟨#[119]⟩⟩, ⟨⟨#[97, 115, 115, 101, 114, 116]⟩, 2, ⟨#[119, 116]⟩⟩, ⟨⟨#[114, 101, 116, 114, 97, 99, 116]⟩, 3, ⟨#[119, 116]⟩⟩, ⟨⟨#[101, 120, 112, 111, 114, 116]⟩, 4, ⟨#[119, 116, 110]⟩⟩, ⟨⟨#[105, 109, 112, 111, 114, 116]⟩, 5, ⟨#[119, 110]⟩⟩, ⟨⟨#[102, 111, 114, 103, 101, 116]⟩, 6, ⟨#[119, 116]⟩⟩, ⟨⟨#[113, 117, 101, 114, 121]⟩, 7, ⟨#[119, 116, 110]⟩⟩, ⟨⟨#[97, 115, 107]⟩, 8, ⟨#[119, 116]⟩⟩, ⟨⟨#[119, 97, 116, 99, 104]⟩, 9, ⟨#[119, 116]⟩⟩, ⟨⟨#[110, 101, 119, 115]⟩, 10, ⟨#[119, 110]⟩⟩, ⟨⟨#[119, 104, 121]⟩, 11, ⟨#[119, 116]⟩⟩, ⟨⟨#[108, 111, 115, 115]⟩, 12, ⟨#[119, 111]⟩⟩, ⟨⟨#[112, 114, 111, 118, 101]⟩, 13, ⟨#[119, 116, 110]⟩⟩, ⟨⟨#[115, 104, 111, 119]⟩, 14, ⟨#[119, 110]⟩⟩, ⟨⟨#[99, 108, 97, 117, 115, 101, 115]⟩, 15, ⟨#[119]⟩⟩, ⟨⟨#[100, 114, 111, 112]⟩, 16, ⟨#[110]⟩⟩, ⟨⟨#[99, 111, 112, 121]⟩, 17, ⟨#[110]⟩⟩, ⟨⟨#[115, 119, 97, 112]⟩, 18, ⟨#[110, 109]⟩⟩, ⟨⟨#[102, 108, 105, 112]⟩, 19, ⟨#[110, 109, 107]⟩⟩, ⟨⟨#[99, 117, 116]⟩, 20, ⟨#[110, 109]⟩⟩, ⟨⟨#[102, 111, 114, 103, 101]⟩, 21, ⟨#[98]⟩⟩, ⟨⟨#[119, 97, 105, 116, 105, 110, 103]⟩, 22, ⟨#[]⟩⟩, ⟨⟨#[99, 114, 97, 115, 104]⟩, 23, ⟨#[119, 109]⟩⟩, ⟨⟨#[114, 101, 100, 117, 110, 100, 97, 110, 116]⟩, 24, ⟨#[119]⟩⟩]
def RwS.c (r : RwS) : List Value := [.string r.x, .int .i64 r.k, .string r.p]
set_option maxRecDepth 20000 in
set_option maxHeartbeats 2000000 in
theorem rowsS_any (w : World) : Calls Tryd.prog 17 #[] w fun e w' => e = .returned (.slice (some ⟨w.heap.size, 0, none⟩) 24 24) ∧ BlkK w' w.heap.size (rwS.flatMap RwS.c).toArray 52 ∧ Below w.heap.size w w' := by
  go_enter Tryd.func17, Tryd.ntmps17
  go_wp2
  go_ret
  exact ⟨rfl, BlkK.new w _ _, below1K _ _⟩
end Go.Proofs.YtdfdnjkeiddfjabDoor
/-
  signAt.
-/
namespace Go.Proofs.YtdfdnjkeiddfjabDoor
open Go.RowKit

theorem sgF_no {l : List Int} {m : Nat} (h : sk (ofL (l.take (m + 1))) = 0) : sgF l (m + 1) = sgF l m := by show (if _ then _ else _) = _; rw [if_pos h]
theorem sgF_yes {l : List Int} {m : Nat} (h : ¬ sk (ofL (l.take (m + 1))) = 0) : sgF l (m + 1) = .ok (sk (ofL (l.take (m + 1))) : Nat) [] 0 (m + 1) := by show (if _ then _ else _) = _; rw [if_neg h]
set_option maxRecDepth 20000 in
set_option maxHeartbeats 1000000 in
theorem signAt_any (s : ByteArray) (j : Nat) (hj : j < s.size) (hs : s.size < 4611686018427387000) (w : World) (hS : SignsOk w) :
    Calls Tryd.prog 59 #[.string s, .int .i64 j] w fun e w' => e = .returned (TR.v j (sgt ((blK s).drop j))) ∧ Below w.heap.size w w' := by
  have HX : Hid (∀ m, j + m ≤ s.size → s.extract j (j + m) = ofL (((blK s).drop j).take m)) := fun m _ => by rw [extract_eq]; congr 2; omega
  have hll : ((blK s).drop j).length = s.size - j := by rw [List.length_drop, bl_len]
  obtain ⟨R, hR⟩ : ∃ R, sgt ((blK s).drop j) = R := ⟨_, rfl⟩
  have HR0 : Hid (sgF ((blK s).drop j) (min 2 (s.size - j)) = R) := by show _ = R; rw [← hR, sgt, hll]
  rw [hR]
  obtain ⟨l, hl⟩ : ∃ l, (blK s).drop j = l := ⟨_, rfl⟩
  rw [hl] at HX HR0
  have HS : Hid (SignsOk w) := hS
  clear hR hl hll hS
  go_enter Tryd.func59, Tryd.ntmps59
  go_upto_region 1 with fail
  have B4 := BlkK.old w #[.int .i64 0, .string ⟨#[]⟩, .int .i64 0, .int .i64 0, .int .i64 0] 60 (.cells #[.int .i64 0, .int .i64 0] 32)
  have B5 := BlkK.new2 w #[.int .i64 0, .int .i64 0] 32 (.cells #[.int .i64 0, .string ⟨#[]⟩, .int .i64 0, .int .i64 0, .int .i64 0] 60)
  have hb := below2K w (.cells #[.int .i64 0, .string ⟨#[]⟩, .int .i64 0, .int .i64 0, .int .i64 0] 60) (.cells #[.int .i64 0, .int .i64 0] 32)
  revert B4 B5 hb
  generalize (w.alloc (.cells #[.int .i64 0, .string ⟨#[]⟩, .int .i64 0, .int .i64 0, .int .i64 0] 60)).alloc (.cells #[.int .i64 0, .int .i64 0] 32) = W1
  intro B4 B5 hb
  have H4 : Hid (BlkK W1 w.heap.size (Tk.cs ⟨0, ⟨#[]⟩, 0, 0, 0⟩) 60) := B4
  have H5 : Hid (BlkK W1 (w.heap.size + 1) (fcs 0 0) 32) := B5
  have HB : Hid (Below w.heap.size w W1) := hb
  have HS1 : Hid (SignsOk W1) := HS.out.later hb
  clear B4 B5 hb
  have hm : (∃ m, m = min 2 (s.size - j) ∧ j + m ≤ s.size ∧ ((s.size < j + 2 ∧ s.size = j + m) ∨ (¬ s.size < j + 2 ∧ m = 2))) := ⟨_, rfl, by omega, by omega⟩
  obtain ⟨m, hm1, hm2, hm3⟩ := hm
  rw [← hm1] at HR0
  have HM : Hid (j + m ≤ s.size) := hm2
  have hend : min ((j : Int) + 2) (s.size : Int) = ((j + m : Nat) : Int) := by omega
  clear hm1 hm2 hm3
  go_wp2
  go_loopg [6] m (fun g i wr => i = .int .i64 ((j + g : Nat) : Int) ∧ j + g ≤ s.size ∧ sgF l g = R ∧ wr = W1)
  case atStart => exact ⟨by rw [Int.natCast_add], HM.out, HR0.out, rfl⟩
  case round =>
    obtain ⟨rfl, hjs, hr, rfl⟩ := hrel
    have HR : Hid (sgF l gk = R) := hr
    clear hr HR0 hend
    cases gk with
    | succ g =>
      have i1 : (j : Int) < ((j + (g + 1) : Nat) : Int) := by omega
      have i2 : ((j + (g + 1) : Nat) : Int) ≤ (s.size : Int) := by omega
      have i3 : (0 : Int) ≤ (j : Int) := by omega
      have i4 : (j : Int) ≤ ((j + (g + 1) : Nat) : Int) := by omega
      have hx : s.extract j (((j + (g + 1) : Nat) : Int)).toNat = ofL (l.take (g + 1)) := by
        rw [Int.toNat_natCast]; exact HX.out _ hjs
      have ck := fun (W : World) (h : SignsOk W) => signKind_any (ofL (l.take (g + 1))) W h
      have HN : Hid (sk (ofL (l.take (g + 1))) = 0 → sgF l g = R) := fun h => by rw [← HR.out, sgF_no h]
      have HY : Hid (¬ sk (ofL (l.take (g + 1))) = 0 → R = .ok (sk (ofL (l.take (g + 1))) : Nat) [] 0 (g + 1)) := fun h => by rw [← HR.out, sgF_yes h]
      obtain ⟨E, hE⟩ : ∃ E : Int, ((j + (g + 1) : Nat) : Int) = E := ⟨_, rfl⟩
      rw [hE] at i1 i2 i4 hx ⊢
      have HE : Hid (((j + (g + 1) : Nat) : Int) = E) := hE
      generalize sk (ofL (l.take (g + 1))) = K at *
      generalize ofL (l.take (g + 1)) = X at *
      clear HX hE HR
      by_cases hk : K = 0
      · have HN1 : Hid _ := HN.out hk
        have n1 : ((K : Int) == 0) = true := by simp [hk]
        have n2 : ((K : Int) != 0) = false := by simp [hk]
        clear hk HN HY
        go_wp2_with (go_at_call 80; refine (ck _ HS1.out).mono ?_; rintro e w1 ⟨rfl, rfl⟩)
        go_roundg g
        case measure => omega
        case rel => exact ⟨by have := HE.out; congr 1; omega, by omega, HN1.out, rfl⟩
      · have HY1 : Hid _ := HY.out hk
        have n1 : ((K : Int) == 0) = false := beq_eq_false_iff_ne.2 (by omega)
        have n2 : ((K : Int) != 0) = true := by rw [bne, n1]; rfl
        obtain ⟨d0, d1, d2, d3, d4⟩ := fiveK H4.out
        obtain ⟨f0, f1, f2, f3, f4⟩ := fiveFK H4.out
        obtain ⟨b0, b1, b2, b3⟩ := two H5.out
        clear hk HN HY
        go_wp2_with (go_at_call 80; refine (ck _ HS1.out).mono ?_; rintro e w1 ⟨rfl, rfl⟩)
        obtain ⟨q1, q2⟩ := fw_blk ⟨(K : Nat), ⟨#[]⟩, 0, j, E⟩ 0 0 H4.out H5.out (by omega)
        refine bodyPost_ret (v := TR.v j R) ?_ rfl ⟨rfl, fw_below (t := ⟨(K : Nat), ⟨#[]⟩, 0, j, E⟩) (e := 0) (p := 0) HB.out (Nat.le_refl _) (Nat.le_succ _)⟩
        rw [HY1.out]
        have e1 : TR.v j (.ok (K : Nat) [] 0 (g + 1)) = .tuple #[Tk.v ⟨(K : Nat), ⟨#[]⟩, 0, j, E⟩, .agg #[.int .i64 0, .int .i64 0]] := by
          have := HE.out; subst this; rfl
        rw [e1]
        exact ret_tf Tryd.results59 _ _ _ _ ⟨(K : Nat), ⟨#[]⟩, 0, j, E⟩ 0 0 rfl rfl q1 q2
    | zero =>
      have i1 : ¬ (j : Int) < ((j + 0 : Nat) : Int) := by omega
      obtain ⟨d0, d1, d2, d3, d4⟩ := fiveK H4.out
      obtain ⟨f0, f1, f2, f3, f4⟩ := fiveFK H4.out
      obtain ⟨b0, b1, b2, b3⟩ := two H5.out
      have hR : R = .bad 42 0 := HR.out.symm
      subst hR
      clear HX
      go_wp2
      obtain ⟨q1, q2⟩ := fw_blk ⟨0, ⟨#[]⟩, 0, 0, 0⟩ 42 j H4.out H5.out (by omega)
      exact bodyPost_ret (v := TR.v j (.bad 42 0)) (ret_tf Tryd.results59 _ _ _ _ ⟨0, ⟨#[]⟩, 0, 0, 0⟩ 42 j rfl rfl q1 q2) rfl ⟨rfl, fw_below (t := ⟨0, ⟨#[]⟩, 0, 0, 0⟩) (e := 42) (p := j) HB.out (Nat.le_refl _) (Nat.le_succ _)⟩
end Go.Proofs.YtdfdnjkeiddfjabDoor
