/-
  spelt.
-/
import Derived.Test.YtkobpmekonaemaaDoorK24
namespace Go.Proofs.YtkobpmekonaemaaDoor
open Go.RowKit

/-- Numbers that lie in memory. -/
def Is (w : World) (v : Value) (h : List Int) : Prop :=
  ∃ a cap, v = .slice a h.length cap ∧ (h = [] ∨ ∃ b o, a = some ⟨b, o, none⟩ ∧ b < w.heap.size ∧ ∀ (i : Nat) (x : Int), h[i]? = some x → w.cell? ⟨b, o + i, none⟩ = some (.int .i64 x))
/-- The way in which a byte is written. -/
def kf (h : List Int) (i : Nat) : Int := match h[i % h.length]? with
  | some x => bits BinOp.and IntKind.i64 x 3
  | none => 0
def spB (s : ByteArray) (h : List Int) : ByteArray := ofL (34 :: (rpl (kf h) 0 (bl s) ++ [34]))
set_option maxRecDepth 20000 in
set_option maxHeartbeats 8000000 in
theorem spelt_any (s : ByteArray) (h : List Int) (v : Value) (w : World) (hI : Is w v h) (hs : s.size ≤ 2000000) (hh : h.length ≤ 2000000) :
    Calls Tryd.prog 20 #[.string s, v] w fun e w' => e = .returned (.string (spB s h)) ∧ Below w.heap.size w w' := by
  obtain ⟨va, vc, rfl, hmem⟩ := hI
  have HMem : Hid (h = [] ∨ ∃ b o, va = some ⟨b, o, none⟩ ∧ b < w.heap.size ∧ ∀ (i : Nat) (x : Int), h[i]? = some x → w.cell? ⟨b, o + i, none⟩ = some (.int .i64 x)) := hmem
  clear hmem
  go_enter Tryd.func20, Tryd.ntmps20
  go_upto_region 2 with fail
  have ho := OwnB.lit w [34] (by simp)
  have hb := below1 w (.cells #[.int .u8 34] 5)
  simp only [ibs, List.map_cons, List.map_nil, List.length_cons, List.length_nil] at ho
  revert ho hb
  generalize w.alloc (.cells #[.int .u8 34] 5) = W1
  generalize (Value.slice (some ⟨w.heap.size, 0, none⟩) 1 1) = v1
  intro hb ho
  have HO : Hid (OwnB W1 w.heap.size v1 [34]) := ho
  have HB : Hid (Below w.heap.size w W1) := hb
  clear ho hb
  go_wp2
  go_loopg [5, 6] s.size (fun g u i wr => ∃ j : Nat, j + g = s.size ∧ i = .int .i64 j ∧ OwnB wr w.heap.size u (34 :: rpl (kf h) 0 ((bl s).take j)) ∧ Below w.heap.size w wr)
  case atStart => exact ⟨0, by omega, rfl, HO.out, HB.out⟩
  case round =>
    obtain ⟨j, hj, rfl, ho, hb⟩ := hrel
    have hlen := (rpl_len (kf h) ((bl s).take j) 0).2
    have htl : ((bl s).take j).length = j := by rw [List.length_take, bl_len]; omega
    rw [htl] at hlen
    cases gk with
    | succ g =>
      have hlt : j < s.size := by omega
      have i1 : (j : Int) < (s.size : Int) := by omega
      have hidx := run_index_at s j hlt (j : Int) rfl
      have hr := at_range s j
      have HR : Hid (∀ v' w', OwnB w' w.heap.size v' (34 :: rpl (kf h) 0 ((bl s).take j) ++ rep (at_ s j) (kf h j)) → OwnB w' w.heap.size v' (34 :: rpl (kf h) 0 ((bl s).take (j + 1)))) := fun v' w' hh => by
        rw [take_snoc s j hlt, rpl_snoc, htl, Nat.zero_add]; exact hh
      have HK : Hid (∃ K, kf h j = K ∧ ((h = [] ∧ K = 0) ∨ (¬ h = [] ∧ ∃ x, h[j % h.length]? = some x ∧ bits BinOp.and IntKind.i64 x 3 = K))) := by
        by_cases hz : h = []
        · exact ⟨0, by rw [hz]; rfl, Or.inl ⟨hz, rfl⟩⟩
        · have hp : 0 < h.length := List.length_pos_iff.2 hz
          have hm : j % h.length < h.length := Nat.mod_lt _ hp
          refine ⟨_, rfl, Or.inr ⟨hz, _, List.getElem?_eq_getElem hm, ?_⟩⟩
          unfold kf; rw [List.getElem?_eq_getElem hm]
      obtain ⟨K, hKe, hK⟩ := HK.out
      rw [hKe] at HR
      obtain ⟨c, hc⟩ : ∃ c, at_ s j = c := ⟨_, rfl⟩
      rw [hc] at hidx hr HR
      have hl1 : (34 :: rpl (kf h) 0 ((bl s).take j)).length ≤ 4 * j + 1 := by simp only [List.length_cons]; omega
      obtain ⟨l, hl⟩ : ∃ l, 34 :: rpl (kf h) 0 ((bl s).take j) = l := ⟨_, rfl⟩
      rw [hl] at ho HR hl1
      have h0 := hr.1
      have h1 := hr.2
      have HOw : Hid (OwnB wr w.heap.size u5 l) := ho
      have HBw : Hid (Below w.heap.size w wr) := hb
      have hsz := hb.size
      have a0 := hxd_rng (c / 16) (by omega) (by omega)
      have hd1 := fun W K => run_index_hx W K (c / 16) (by omega) (by omega)
      have hd2 := fun W K => run_index_hx W K (c % 16) (by omega) (by omega)
      have hD1 := fun W K => run_index_hX W K (c / 16) (by omega) (by omega)
      have hD2 := fun W K => run_index_hX W K (c % 16) (by omega) (by omega)
      have hq1 : Int.tdiv c 16 = c / 16 := Int.tdiv_eq_ediv_of_nonneg h0
      have hq2 : Int.tmod c 16 = c % 16 := Int.tmod_eq_emod_of_nonneg h0
      have hw1 : IntKind.u8.wrap (c / 16) = c / 16 := by simp [IntKind.wrap_u8]; omega
      have hw2 : IntKind.u8.wrap (c % 16) = c % 16 := by simp [IntKind.wrap_u8]; omega
      clear ho hb hc hl hr HK hKe htl hlen
      have hcs : (32 ≤ c ∧ ¬ c = 127 ∧ ¬ c = 34 ∧ ¬ c = 92) ∨ c = 34 ∨ c = 92 ∨ c = 10 ∨ c = 9 ∨ c = 127 ∨ (c < 32 ∧ ¬ c = 10 ∧ ¬ c = 9) := by omega
      have hks : K < 2 ∨ K = 3 ∨ (2 ≤ K ∧ ¬ K = 3) := by omega
      rcases hK with ⟨hz, hK0⟩ | ⟨hz, x, hx, hKx⟩
      · subst hz
        subst hK0
        clear hks
        have hzl : ¬ (0 : Int) < ((([] : List Int).length : Nat) : Int) := by simp
        rcases hcs with ⟨r1, r2, r3, r4⟩ | rfl | rfl | rfl | rfl | r0 | ⟨r1, r2, r3⟩
        · have r2b : (c != 127) = true := by simp [r2]
          have r3b : (c != 34) = true := by simp [r3]
          have r4b : (c != 92) = true := by simp [r4]
          have r2c : (c == 127) = false := beq_eq_false_iff_ne.2 r2
          have r3c : (c == 34) = false := beq_eq_false_iff_ne.2 r3
          have r4c : (c == 92) = false := beq_eq_false_iff_ne.2 r4
          have r5c : (c == 10) = false := beq_eq_false_iff_ne.2 (by omega)
          have r6c : (c == 9) = false := beq_eq_false_iff_ne.2 (by omega)
          have HQ : Hid (rep c 0 = [c]) := by show rep _ _ = _; unfold rep; (repeat (first | rw [if_pos (by omega)] | rw [if_neg (by omega)]))
          clear r2 r3 r4
          clear hd1 hd2 hD1 hD2 hq1 hq2 hw1 hw2 a0
          go_wp2_with (at_builtin; refine app_bytes rfl _ _ rfl w.heap.size u5 l rfl (HOw.out.later (below1 _ _)) wr.heap.size [c] rfl (heap_alloc_new wr _) (by simp) (by simp; omega) (by simp; omega) ?_; intro v' w1 ho1 hb1)
          go_roundg g
          case measure => omega
          case rel => exact ⟨j + 1, by omega, by go_num, HR.out _ _ (by rw [HQ.out]; exact ho1), HBw.out.trans (((below1 _ _).mono hsz).trans hb1)⟩
        · have HQ : Hid (rep 34 0 = [92, 34]) := by show rep _ _ = _; unfold rep; (repeat (first | rw [if_pos (by omega)] | rw [if_neg (by omega)]))
          clear hd1 hd2 hD1 hD2 hq1 hq2 hw1 hw2 a0
          go_wp2_with (at_builtin; refine app_bytes rfl _ _ rfl w.heap.size u5 l rfl (HOw.out.later (below1 _ _)) wr.heap.size [92, 34] rfl (heap_alloc_new wr _) (by simp) (by simp; omega) (by simp; omega) ?_; intro v' w1 ho1 hb1)
          go_roundg g
          case measure => omega
          case rel => exact ⟨j + 1, by omega, by go_num, HR.out _ _ (by rw [HQ.out]; exact ho1), HBw.out.trans (((below1 _ _).mono hsz).trans hb1)⟩
        · have HQ : Hid (rep 92 0 = [92, 92]) := by show rep _ _ = _; unfold rep; (repeat (first | rw [if_pos (by omega)] | rw [if_neg (by omega)]))
          clear hd1 hd2 hD1 hD2 hq1 hq2 hw1 hw2 a0
          go_wp2_with (at_builtin; refine app_bytes rfl _ _ rfl w.heap.size u5 l rfl (HOw.out.later (below1 _ _)) wr.heap.size [92, 92] rfl (heap_alloc_new wr _) (by simp) (by simp; omega) (by simp; omega) ?_; intro v' w1 ho1 hb1)
          go_roundg g
          case measure => omega
          case rel => exact ⟨j + 1, by omega, by go_num, HR.out _ _ (by rw [HQ.out]; exact ho1), HBw.out.trans (((below1 _ _).mono hsz).trans hb1)⟩
        · have HQ : Hid (rep 10 0 = [92, 110]) := by show rep _ _ = _; unfold rep; (repeat (first | rw [if_pos (by omega)] | rw [if_neg (by omega)]))
          clear hd1 hd2 hD1 hD2 hq1 hq2 hw1 hw2 a0
          go_wp2_with (at_builtin; refine app_bytes rfl _ _ rfl w.heap.size u5 l rfl (HOw.out.later (below1 _ _)) wr.heap.size [92, 110] rfl (heap_alloc_new wr _) (by simp) (by simp; omega) (by simp; omega) ?_; intro v' w1 ho1 hb1)
          go_roundg g
          case measure => omega
          case rel => exact ⟨j + 1, by omega, by go_num, HR.out _ _ (by rw [HQ.out]; exact ho1), HBw.out.trans (((below1 _ _).mono hsz).trans hb1)⟩
        · have HQ : Hid (rep 9 0 = [92, 116]) := by show rep _ _ = _; unfold rep; (repeat (first | rw [if_pos (by omega)] | rw [if_neg (by omega)]))
          clear hd1 hd2 hD1 hD2 hq1 hq2 hw1 hw2 a0
          go_wp2_with (at_builtin; refine app_bytes rfl _ _ rfl w.heap.size u5 l rfl (HOw.out.later (below1 _ _)) wr.heap.size [92, 116] rfl (heap_alloc_new wr _) (by simp) (by simp; omega) (by simp; omega) ?_; intro v' w1 ho1 hb1)
          go_roundg g
          case measure => omega
          case rel => exact ⟨j + 1, by omega, by go_num, HR.out _ _ (by rw [HQ.out]; exact ho1), HBw.out.trans (((below1 _ _).mono hsz).trans hb1)⟩
        · have b127 : (c == 127) = true := by rw [r0]; rfl
          have d127 : (c != 127) = false := by rw [r0]; rfl
          have b34 : (c == 34) = false := by rw [r0]; rfl
          have d34 : (c != 34) = true := by rw [r0]; rfl
          have b92 : (c == 92) = false := by rw [r0]; rfl
          have d92 : (c != 92) = true := by rw [r0]; rfl
          have b10 : (c == 10) = false := by rw [r0]; rfl
          have d10 : (c != 10) = true := by rw [r0]; rfl
          have b9 : (c == 9) = false := by rw [r0]; rfl
          have d9 : (c != 9) = true := by rw [r0]; rfl
          have r1 : 32 ≤ c := by omega
          have HQ : Hid (rep c 0 = [92, 120, hxd (c / 16), hxd (c % 16)]) := by show rep _ _ = _; unfold rep; (repeat (first | rw [if_pos (by omega)] | rw [if_neg (by omega)]))
          clear r0
          obtain ⟨x1, e1⟩ : ∃ y, hxd (c / 16) = y := ⟨_, rfl⟩
          obtain ⟨x2, e2⟩ : ∃ y, hxd (c % 16) = y := ⟨_, rfl⟩
          rw [e1] at hd1 HQ
          rw [e2] at hd2 HQ
          clear hD1 hD2 e1 e2 a0
          go_wp2
          go_region_held3 (fun _ => True) (first | go_keep | trivial)
            ((refine step_bytes rfl _ _ rfl w.heap.size u5 l rfl ((HOw.out.later (below1 _ _)).later (Below.refl _ _).drew) wr.heap.size [92, 120, x1, x2] rfl (heap_alloc_new wr _) (by simp) (by simp; omega) (by simp; omega) ?_; intro v' w1 ho1 hb1))
          all_goals
            go_wp2
            go_roundg g
            case measure => omega
            case rel => exact ⟨j + 1, by omega, by go_num, HR.out _ _ (by rw [HQ.out]; exact ho1), HBw.out.trans (((below1 _ _).drew.mono hsz).trans hb1)⟩
        · have r2c : (c == 10) = false := beq_eq_false_iff_ne.2 r2
          have r3c : (c == 9) = false := beq_eq_false_iff_ne.2 r3
          have r4c : (c == 34) = false := beq_eq_false_iff_ne.2 (by omega)
          have r5c : (c == 92) = false := beq_eq_false_iff_ne.2 (by omega)
          have HQ : Hid (rep c 0 = [92, 120, hxd (c / 16), hxd (c % 16)]) := by show rep _ _ = _; unfold rep; (repeat (first | rw [if_pos (by omega)] | rw [if_neg (by omega)]))
          clear r2 r3
          obtain ⟨x1, e1⟩ : ∃ y, hxd (c / 16) = y := ⟨_, rfl⟩
          obtain ⟨x2, e2⟩ : ∃ y, hxd (c % 16) = y := ⟨_, rfl⟩
          rw [e1] at hd1 HQ
          rw [e2] at hd2 HQ
          clear hD1 hD2 e1 e2 a0
          go_wp2
          go_region_held3 (fun _ => True) (first | go_keep | trivial)
            ((refine step_bytes rfl _ _ rfl w.heap.size u5 l rfl ((HOw.out.later (below1 _ _)).later (Below.refl _ _).drew) wr.heap.size [92, 120, x1, x2] rfl (heap_alloc_new wr _) (by simp) (by simp; omega) (by simp; omega) ?_; intro v' w1 ho1 hb1))
          all_goals
            go_wp2
            go_roundg g
            case measure => omega
            case rel => exact ⟨j + 1, by omega, by go_num, HR.out _ _ (by rw [HQ.out]; exact ho1), HBw.out.trans (((below1 _ _).drew.mono hsz).trans hb1)⟩
      · have hp : 0 < h.length := List.length_pos_iff.2 hz
        have hm : j % h.length < h.length := Nat.mod_lt _ hp
        rcases HMem.out with hm0 | ⟨b, o, rfl, hblt, hm0⟩
        · exact absurd hm0 hz
        have c0 : wr.cell? ⟨b, o + j % h.length, none⟩ = some (.int .i64 x) := by rw [HBw.out.cell (p := ⟨b, o + j % h.length, none⟩) hblt]; exact hm0 _ x hx
        have ip : (0 : Int) < ((h.length : Nat) : Int) := by omega
        have hne : ((h.length : Nat) : Int) ≠ 0 := by omega
        have hne2 : (((h.length : Nat) : Int) == 0) = false := beq_eq_false_iff_ne.2 hne
        have ht : Int.tmod (j : Int) (h.length : Int) = ((j % h.length : Nat) : Int) := by rw [Int.tmod_eq_emod_of_nonneg (by omega)]; exact (Int.natCast_emod j h.length).symm
        have hwt : IntKind.i64.wrap ((j % h.length : Nat) : Int) = ((j % h.length : Nat) : Int) := by rw [IntKind.wrap_i64]; omega
        obtain ⟨m, hmm⟩ : ∃ m, j % h.length = m := ⟨_, rfl⟩
        rw [hmm] at c0 ht hwt hm
        have im0 : (0 : Int) ≤ (m : Int) := by omega
        have im1 : (m : Int) < ((h.length : Nat) : Int) := by omega
        clear hz hx hm0 hmm HMem
        rcases hks with k1 | rfl | ⟨k1, k2⟩
        · rcases hcs with ⟨r1, r2, r3, r4⟩ | rfl | rfl | rfl | rfl | r0 | ⟨r1, r2, r3⟩
          · have r2b : (c != 127) = true := by simp [r2]
            have r3b : (c != 34) = true := by simp [r3]
            have r4b : (c != 92) = true := by simp [r4]
            have r2c : (c == 127) = false := beq_eq_false_iff_ne.2 r2
            have r3c : (c == 34) = false := beq_eq_false_iff_ne.2 r3
            have r4c : (c == 92) = false := beq_eq_false_iff_ne.2 r4
            have r5c : (c == 10) = false := beq_eq_false_iff_ne.2 (by omega)
            have r6c : (c == 9) = false := beq_eq_false_iff_ne.2 (by omega)
            have HQ : Hid (rep c K = [c]) := by show rep _ _ = _; unfold rep; (repeat (first | rw [if_pos (by omega)] | rw [if_neg (by omega)]))
            have k3 : (K == 3) = false := beq_eq_false_iff_ne.2 (by omega)
            clear r2 r3 r4
            clear hd1 hd2 hD1 hD2 hq1 hq2 hw1 hw2 a0
            go_wp2_with (at_builtin; refine app_bytes rfl _ _ rfl w.heap.size u5 l rfl (HOw.out.later (below1 _ _)) wr.heap.size [c] rfl (heap_alloc_new wr _) (by simp) (by simp; omega) (by simp; omega) ?_; intro v' w1 ho1 hb1)
            go_roundg g
            case measure => omega
            case rel => exact ⟨j + 1, by omega, by go_num, HR.out _ _ (by rw [HQ.out]; exact ho1), HBw.out.trans (((below1 _ _).mono hsz).trans hb1)⟩
          · have HQ : Hid (rep 34 K = [92, 34]) := by show rep _ _ = _; unfold rep; (repeat (first | rw [if_pos (by omega)] | rw [if_neg (by omega)]))
            have k3 : (K == 3) = false := beq_eq_false_iff_ne.2 (by omega)
            clear hd1 hd2 hD1 hD2 hq1 hq2 hw1 hw2 a0
            go_wp2_with (at_builtin; refine app_bytes rfl _ _ rfl w.heap.size u5 l rfl (HOw.out.later (below1 _ _)) wr.heap.size [92, 34] rfl (heap_alloc_new wr _) (by simp) (by simp; omega) (by simp; omega) ?_; intro v' w1 ho1 hb1)
            go_roundg g
            case measure => omega
            case rel => exact ⟨j + 1, by omega, by go_num, HR.out _ _ (by rw [HQ.out]; exact ho1), HBw.out.trans (((below1 _ _).mono hsz).trans hb1)⟩
          · have HQ : Hid (rep 92 K = [92, 92]) := by show rep _ _ = _; unfold rep; (repeat (first | rw [if_pos (by omega)] | rw [if_neg (by omega)]))
            have k3 : (K == 3) = false := beq_eq_false_iff_ne.2 (by omega)
            clear hd1 hd2 hD1 hD2 hq1 hq2 hw1 hw2 a0
            go_wp2_with (at_builtin; refine app_bytes rfl _ _ rfl w.heap.size u5 l rfl (HOw.out.later (below1 _ _)) wr.heap.size [92, 92] rfl (heap_alloc_new wr _) (by simp) (by simp; omega) (by simp; omega) ?_; intro v' w1 ho1 hb1)
            go_roundg g
            case measure => omega
            case rel => exact ⟨j + 1, by omega, by go_num, HR.out _ _ (by rw [HQ.out]; exact ho1), HBw.out.trans (((below1 _ _).mono hsz).trans hb1)⟩
          · have HQ : Hid (rep 10 K = [92, 110]) := by show rep _ _ = _; unfold rep; (repeat (first | rw [if_pos (by omega)] | rw [if_neg (by omega)]))
            have k3 : (K == 3) = false := beq_eq_false_iff_ne.2 (by omega)
            clear hd1 hd2 hD1 hD2 hq1 hq2 hw1 hw2 a0
            go_wp2_with (at_builtin; refine app_bytes rfl _ _ rfl w.heap.size u5 l rfl (HOw.out.later (below1 _ _)) wr.heap.size [92, 110] rfl (heap_alloc_new wr _) (by simp) (by simp; omega) (by simp; omega) ?_; intro v' w1 ho1 hb1)
            go_roundg g
            case measure => omega
            case rel => exact ⟨j + 1, by omega, by go_num, HR.out _ _ (by rw [HQ.out]; exact ho1), HBw.out.trans (((below1 _ _).mono hsz).trans hb1)⟩
          · have HQ : Hid (rep 9 K = [92, 116]) := by show rep _ _ = _; unfold rep; (repeat (first | rw [if_pos (by omega)] | rw [if_neg (by omega)]))
            have k3 : (K == 3) = false := beq_eq_false_iff_ne.2 (by omega)
            clear hd1 hd2 hD1 hD2 hq1 hq2 hw1 hw2 a0
            go_wp2_with (at_builtin; refine app_bytes rfl _ _ rfl w.heap.size u5 l rfl (HOw.out.later (below1 _ _)) wr.heap.size [92, 116] rfl (heap_alloc_new wr _) (by simp) (by simp; omega) (by simp; omega) ?_; intro v' w1 ho1 hb1)
            go_roundg g
            case measure => omega
            case rel => exact ⟨j + 1, by omega, by go_num, HR.out _ _ (by rw [HQ.out]; exact ho1), HBw.out.trans (((below1 _ _).mono hsz).trans hb1)⟩
          · have b127 : (c == 127) = true := by rw [r0]; rfl
            have d127 : (c != 127) = false := by rw [r0]; rfl
            have b34 : (c == 34) = false := by rw [r0]; rfl
            have d34 : (c != 34) = true := by rw [r0]; rfl
            have b92 : (c == 92) = false := by rw [r0]; rfl
            have d92 : (c != 92) = true := by rw [r0]; rfl
            have b10 : (c == 10) = false := by rw [r0]; rfl
            have d10 : (c != 10) = true := by rw [r0]; rfl
            have b9 : (c == 9) = false := by rw [r0]; rfl
            have d9 : (c != 9) = true := by rw [r0]; rfl
            have r1 : 32 ≤ c := by omega
            have HQ : Hid (rep c K = [92, 120, hxd (c / 16), hxd (c % 16)]) := by show rep _ _ = _; unfold rep; (repeat (first | rw [if_pos (by omega)] | rw [if_neg (by omega)]))
            have k3 : (K == 3) = false := beq_eq_false_iff_ne.2 (by omega)
            clear r0
            obtain ⟨x1, e1⟩ : ∃ y, hxd (c / 16) = y := ⟨_, rfl⟩
            obtain ⟨x2, e2⟩ : ∃ y, hxd (c % 16) = y := ⟨_, rfl⟩
            rw [e1] at hd1 HQ
            rw [e2] at hd2 HQ
            clear hD1 hD2 e1 e2 a0
            go_wp2
            go_region_held3 (fun _ => True) (first | go_keep | trivial)
              ((refine step_bytes rfl _ _ rfl w.heap.size u5 l rfl ((HOw.out.later (below1 _ _)).later (Below.refl _ _).drew) wr.heap.size [92, 120, x1, x2] rfl (heap_alloc_new wr _) (by simp) (by simp; omega) (by simp; omega) ?_; intro v' w1 ho1 hb1))
            all_goals
              go_wp2
              go_roundg g
              case measure => omega
              case rel => exact ⟨j + 1, by omega, by go_num, HR.out _ _ (by rw [HQ.out]; exact ho1), HBw.out.trans (((below1 _ _).drew.mono hsz).trans hb1)⟩
          · have r2c : (c == 10) = false := beq_eq_false_iff_ne.2 r2
            have r3c : (c == 9) = false := beq_eq_false_iff_ne.2 r3
            have r4c : (c == 34) = false := beq_eq_false_iff_ne.2 (by omega)
            have r5c : (c == 92) = false := beq_eq_false_iff_ne.2 (by omega)
            have HQ : Hid (rep c K = [92, 120, hxd (c / 16), hxd (c % 16)]) := by show rep _ _ = _; unfold rep; (repeat (first | rw [if_pos (by omega)] | rw [if_neg (by omega)]))
            have k3 : (K == 3) = false := beq_eq_false_iff_ne.2 (by omega)
            clear r2 r3
            obtain ⟨x1, e1⟩ : ∃ y, hxd (c / 16) = y := ⟨_, rfl⟩
            obtain ⟨x2, e2⟩ : ∃ y, hxd (c % 16) = y := ⟨_, rfl⟩
            rw [e1] at hd1 HQ
            rw [e2] at hd2 HQ
            clear hD1 hD2 e1 e2 a0
            go_wp2
            go_region_held3 (fun _ => True) (first | go_keep | trivial)
              ((refine step_bytes rfl _ _ rfl w.heap.size u5 l rfl ((HOw.out.later (below1 _ _)).later (Below.refl _ _).drew) wr.heap.size [92, 120, x1, x2] rfl (heap_alloc_new wr _) (by simp) (by simp; omega) (by simp; omega) ?_; intro v' w1 ho1 hb1))
            all_goals
              go_wp2
              go_roundg g
              case measure => omega
              case rel => exact ⟨j + 1, by omega, by go_num, HR.out _ _ (by rw [HQ.out]; exact ho1), HBw.out.trans (((below1 _ _).drew.mono hsz).trans hb1)⟩
        · clear hcs
          have HQ : Hid (rep c 3 = [92, 120, hxD (c / 16), hxD (c % 16)]) := by show rep _ _ = _; unfold rep; (repeat (first | rw [if_pos (by omega)] | rw [if_neg (by omega)]))
          go_upto_region 9 with fail
          go_cut [9] from 31 to 44 (fun s9 wx => ∃ bb : Bool, s9 = .bool bb ∧ wx = wr)
          case first =>
            obtain ⟨B1, f1⟩ : ∃ z, (c != 127) = z := ⟨_, rfl⟩
            obtain ⟨B2, f2⟩ : ∃ z, (c != 34) = z := ⟨_, rfl⟩
            obtain ⟨B3, f3⟩ : ∃ z, (c != 92) = z := ⟨_, rfl⟩
            by_cases r1 : 32 ≤ c <;> cases B1 <;> cases B2 <;> cases B3
            all_goals
              go_wp2_with fail
              go_meet
              case rel => exact ⟨_, rfl, rfl⟩
          case rest =>
            obtain ⟨bb, rfl, hwc⟩ := hcut
            have hwc' := hwc.symm
            subst hwc'
            obtain ⟨x1, e1⟩ : ∃ y, hxD (c / 16) = y := ⟨_, rfl⟩
            obtain ⟨x2, e2⟩ : ∃ y, hxD (c % 16) = y := ⟨_, rfl⟩
            rw [e1] at hD1 HQ
            rw [e2] at hD2 HQ
            clear hd1 hd2 e1 e2 a0
            go_wp2
            go_region_held3 (fun _ => True) (first | go_keep | trivial)
              ((refine step_bytes rfl _ _ rfl w.heap.size u5 l rfl ((HOw.out.later (below1 _ _)).later (Below.refl _ _).drew) wr.heap.size [92, 120, x1, x2] rfl (heap_alloc_new wr _) (by simp) (by simp; omega) (by simp; omega) ?_; intro v' w1 ho1 hb1))
            all_goals
              go_wp2
              go_roundg g
              case measure => omega
              case rel => exact ⟨j + 1, by omega, by go_num, HR.out _ _ (by rw [HQ.out]; exact ho1), HBw.out.trans (((below1 _ _).drew.mono hsz).trans hb1)⟩
        · clear hcs
          have HQ : Hid (rep c K = [92, 120, hxd (c / 16), hxd (c % 16)]) := by show rep _ _ = _; unfold rep; (repeat (first | rw [if_pos (by omega)] | rw [if_neg (by omega)]))
          have k3 : (K == 3) = false := beq_eq_false_iff_ne.2 k2
          have k4 : ¬ K < 2 := by omega
          clear k2
          go_upto_region 9 with fail
          go_cut [9] from 31 to 44 (fun s9 wx => ∃ bb : Bool, s9 = .bool bb ∧ wx = wr)
          case first =>
            obtain ⟨B1, f1⟩ : ∃ z, (c != 127) = z := ⟨_, rfl⟩
            obtain ⟨B2, f2⟩ : ∃ z, (c != 34) = z := ⟨_, rfl⟩
            obtain ⟨B3, f3⟩ : ∃ z, (c != 92) = z := ⟨_, rfl⟩
            by_cases r1 : 32 ≤ c <;> cases B1 <;> cases B2 <;> cases B3
            all_goals
              go_wp2_with fail
              go_meet
              case rel => exact ⟨_, rfl, rfl⟩
          case rest =>
            obtain ⟨bb, rfl, hwc⟩ := hcut
            have hwc' := hwc.symm
            subst hwc'
            obtain ⟨x1, e1⟩ : ∃ y, hxd (c / 16) = y := ⟨_, rfl⟩
            obtain ⟨x2, e2⟩ : ∃ y, hxd (c % 16) = y := ⟨_, rfl⟩
            rw [e1] at hd1 HQ
            rw [e2] at hd2 HQ
            clear hD1 hD2 e1 e2 a0
            go_wp2
            go_region_held3 (fun _ => True) (first | go_keep | trivial)
              ((refine step_bytes rfl _ _ rfl w.heap.size u5 l rfl ((HOw.out.later (below1 _ _)).later (Below.refl _ _).drew) wr.heap.size [92, 120, x1, x2] rfl (heap_alloc_new wr _) (by simp) (by simp; omega) (by simp; omega) ?_; intro v' w1 ho1 hb1))
            all_goals
              go_wp2
              go_roundg g
              case measure => omega
              case rel => exact ⟨j + 1, by omega, by go_num, HR.out _ _ (by rw [HQ.out]; exact ho1), HBw.out.trans (((below1 _ _).drew.mono hsz).trans hb1)⟩
    | zero =>
      obtain rfl : j = s.size := by omega
      have hz : ¬ ((s.size : Int) < (s.size : Int)) := by omega
      have et : (bl s).take s.size = bl s := List.take_of_length_le (by rw [bl_len]; exact Nat.le_refl _)
      rw [et] at ho hlen
      have HOw : Hid (OwnB wr w.heap.size u5 (34 :: rpl (kf h) 0 (bl s))) := ho
      have HBw : Hid (Below w.heap.size w wr) := hb
      have hsz := hb.size
      have hl1 : (34 :: rpl (kf h) 0 (bl s)).length ≤ 4 * s.size + 1 := by simp only [List.length_cons]; omega
      have HY : Hid (byt (34 :: rpl (kf h) 0 (bl s) ++ [34])) := fun x hx => by
        rcases List.mem_append.1 hx with hx | hx
        · rcases List.mem_cons.1 hx with rfl | hx
          · omega
          · exact rpl_byt _ _ _ (bl_byt s) x hx
        · simp at hx; omega
      have HE : Hid (spB s h = ⟨(i2b (34 :: rpl (kf h) 0 (bl s) ++ [34])).toArray⟩) := rfl
      generalize 34 :: rpl (kf h) 0 (bl s) = l at *
      clear ho hb
      go_wp2_with (at_builtin; refine app_bytes rfl _ _ rfl w.heap.size u5 l rfl (HOw.out.later (below1 _ _)) wr.heap.size [34] rfl (heap_alloc_new wr _) (by simp) (by simp; omega) (by simp; omega) ?_; intro v' w1 ho1 hb1; have hcv := conv_bytes ho1 (by simp) HY.out; have HB1 : Hid _ := hb1; clear ho1 hb1)
      go_ret
      exact ⟨by rw [HE.out]; rfl, HBw.out.trans (((below1 _ _).mono hsz).trans HB1.out)⟩
end Go.Proofs.YtkobpmekonaemaaDoor
