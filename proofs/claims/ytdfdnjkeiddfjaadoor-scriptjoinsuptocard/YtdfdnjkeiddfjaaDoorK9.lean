/-
  Cut.
-/
import Derived.Test.YtdfdnjkeiddfjaaDoorK8
namespace Go.Proofs.YtdfdnjkeiddfjaaDoor
open Go.RowKit

theorem ret_sf {fn : Func} (hf : fn.results = #[.tmp 4, .cell 5 27]) (tmps : Array Value) (w : World) (v : Value) (g : Nat) (e p : Int)
    (h4 : tmps[4]?.getD undef = v) (h5 : tmps[5]?.getD undef = .pointer (some ⟨g, 0, none⟩)) (hg : BlkK w g (fcs e p) 27) :
    (results fn tmps).run Tryd.prog w = .ok (.tuple #[v, .agg #[.int .i64 e, .int .i64 p]]) w := by
  obtain ⟨b0, b1, -, -⟩ := two hg
  simp [results, hf, h4, h5, go_sem, b0, b1]
/-- The box of a fault. -/
structure Fx (w W : World) : Prop where
  f : BlkK W w.heap.size (fcs 0 0) 27
  b : Below w.heap.size w W
theorem Fx.start (w : World) : Fx w (w.alloc (.cells #[.int .i64 0, .int .i64 0] 27)) := ⟨BlkK.new w _ _, below1K w _⟩
theorem Fx.later {w W W' : World} (h : Fx w W) (hb : Below W.heap.size W W') : Fx w W' := ⟨h.f.later hb, below_stepK h.b hb⟩
theorem Fx.lt {w W : World} (h : Fx w W) : w.heap.size + 1 ≤ W.heap.size := h.f.lt
theorem Fx.laterB {w W W' : World} (h : Fx w W) (hb : Below (w.heap.size + 1) W W') : Fx w W' := ⟨h.f.laterB hb (by omega), h.b.trans (hb.mono (by omega))⟩
abbrev fw2 (W : World) (g : Nat) (e p : Int) : World := (W.setCell ⟨g, 0, none⟩ (.int .i64 e)).setCell ⟨g, 1, none⟩ (.int .i64 p)
theorem Fx.res {fn : Func} (hf : fn.results = #[.tmp 4, .cell 5 27]) {w W : World} (h : Fx w W) (tmps : Array Value) (v : Value) (e p : Int)
    (h4 : tmps[4]?.getD undef = v) (h5 : tmps[5]?.getD undef = .pointer (some ⟨w.heap.size, 0, none⟩)) :
    (results fn tmps).run Tryd.prog (fw2 W w.heap.size e p) = .ok (.tuple #[v, .agg #[.int .i64 e, .int .i64 p]]) (fw2 W w.heap.size e p) :=
  ret_sf hf _ _ v _ e p h4 h5 (store2 h.f)
theorem Fx.bel {w W : World} (h : Fx w W) (e p : Int) : Below w.heap.size w (fw2 W w.heap.size e p) := (h.b.setCell (Nat.le_refl _) _).setCell (Nat.le_refl _) _
theorem OwnK.set {w : World} {base g i : Nat} {v a : Value} {l : List Tk} (h : OwnK w (base + 1) v l) (hg : g = base) : OwnK (w.setCell ⟨g, i, none⟩ a) (base + 1) v l := by
  refine ⟨h.1, ?_⟩
  rcases h.2 with hn | ⟨g', cap, cur, hv, hbb, hg', rest⟩
  · exact Or.inl hn
  · exact Or.inr ⟨g', cap, cur, hv, hbb, by rw [heap_setCell_other _ _ _ _ (show g' ≠ g by omega)]; exact hg', rest⟩
theorem OwnK.low {w : World} {base : Nat} {v : Value} {l : List Tk} (h : OwnK w (base + 1) v l) : OwnK w base v l := by
  refine ⟨h.1, ?_⟩
  rcases h.2 with hn | ⟨g', cap, cur, hv, hbb, rest⟩
  · exact Or.inl hn
  · exact Or.inr ⟨g', cap, cur, hv, by omega, rest⟩
/-- What Cut answers. -/
def KPost (w : World) (R : List Tk × Int × Int) (e : Ending) (w' : World) : Prop :=
  ∃ v', e = .returned (.tuple #[v', .agg #[.int .i64 R.2.1, .int .i64 R.2.2]]) ∧ OwnK w' w.heap.size v' R.1 ∧ Below w.heap.size w w'
set_option maxRecDepth 20000 in
set_option maxHeartbeats 2000000 in
theorem cut_any (s : ByteArray) (most : Int) (hs : s.size ≤ 9000000) (w : World) (hE : EnvOk w) :
    Calls Tryd.prog 14 #[.string s, .int .i64 most] w (KPost w (cutL (blK s) most)) := by
  unfold cutL
  rw [bl_len]
  have HE : Hid (EnvOk w) := hE
  clear hE
  by_cases hm : most < (s.size : Int)
  · rw [if_pos hm]
    go_enter Tryd.func14, Tryd.ntmps14
    go_upto_region 1 with fail
    have fx := Fx.start w
    revert fx
    generalize w.alloc (.cells #[.int .i64 0, .int .i64 0] 27) = W1
    intro fx
    have HFX : Hid (Fx w W1) := fx
    obtain ⟨b0, b1, b2, b3⟩ := two fx.f
    clear fx
    go_step3
    go_wp2
    exact bodyPost_ret (v := .tuple #[.slice none 0 0, .agg #[.int .i64 41, .int .i64 0]]) (HFX.out.res Tryd.results14 _ _ 41 0 rfl rfl) rfl ⟨_, rfl, OwnK.nil _ _, HFX.out.bel 41 0⟩
  · rw [if_neg hm]
    obtain ⟨R, hR⟩ : ∃ R, ct (s.size + 1) (blK s) 0 [] = R := ⟨_, rfl⟩
    have HR0 : Hid (ct (s.size + 1) (blK s) 0 [] = R) := hR
    rw [hR]
    clear hR
    go_enter Tryd.func14, Tryd.ntmps14
    go_upto_region 1 with fail
    have fx := Fx.start w
    revert fx
    generalize w.alloc (.cells #[.int .i64 0, .int .i64 0] 27) = W1
    intro fx
    have HFX0 : Hid (Fx w W1) := fx
    clear fx
    go_step3
    go_wp2
    go_step3
    go_wp2
    go_loopg [6, 7] s.size (fun g u i wr => ∃ (off f : Nat) (acc : List Tk), off + g = s.size ∧ i = .int .i64 (off : Int) ∧ ((blK s).drop off).length < f ∧ ct f ((blK s).drop off) off acc = R ∧ acc.length ≤ off ∧ OwnK wr (w.heap.size + 1) u acc ∧ Fx w wr)
    case atStart => exact ⟨0, s.size + 1, [], by omega, rfl, by rw [List.drop_zero, bl_len]; omega, by rw [List.drop_zero]; exact HR0.out, by simp, OwnK.nil _ _, HFX0.out⟩
    case round =>
      obtain ⟨off, f, acc, hg, rfl, hf, hr, hlen, ho, fx⟩ := hrel
      have hbz := fx.lt
      have HFX : Hid (Fx w wr) := fx
      have HO : Hid (OwnK wr (w.heap.size + 1) u6 acc) := ho
      have HR : Hid (ct f ((blK s).drop off) off acc = R) := hr
      have HF : Hid (((blK s).drop off).length < f) := hf
      have HEr : Hid (EnvOk wr) := HE.out.later fx.b
      obtain ⟨b0, b1, b2, b3⟩ := two fx.f
      obtain ⟨f, rfl⟩ : ∃ f', f = f' + 1 := ⟨f - 1, by omega⟩
      clear fx ho hr hf HR0 HFX0 HE
      cases gk with
      | succ g =>
        have hlt : off < s.size := by omega
        have hidx := run_index_atK s off hlt (off : Int) rfl
        have i1 : (off : Int) < (s.size : Int) := by omega
        have HD : Hid ((blK s).drop off = atK_ s off :: (blK s).drop (off + 1)) := bl_drop hlt
        have HL : Hid (((blK s).drop (off + 1)).length = s.size - (off + 1)) := by show _ = _; rw [List.length_drop, bl_len]
        have cl := lineEnd_any s off (by omega) (by omega)
        have ct1 := fun (X : World) (h : EnvOk X) => tokenAt_any s off hlt hs X h
        rw [HD.out] at HR HF cl ct1
        rw [ct_cons] at HR
        obtain ⟨r, hrr⟩ : ∃ r, (blK s).drop (off + 1) = r := ⟨_, rfl⟩
        have HRd : Hid ((blK s).drop (off + 1) = r) := hrr
        rw [hrr] at HR HF cl ct1 HL HD
        obtain ⟨c, hc⟩ : ∃ c, atK_ s off = c := ⟨_, rfl⟩
        rw [hc] at hidx HR HF cl ct1 HD
        clear hrr hc
        by_cases q1 : c = 32 ∨ c = 9 ∨ c = 10 ∨ c = 13
        · have hR := HR.out
          rw [if_pos q1] at hR
          have HRR : Hid (ct f ((blK s).drop (off + 1)) (off + 1) acc = R) := by show _ = R; rw [HRd.out]; exact hR
          have HF2 : Hid (((blK s).drop (off + 1)).length < f) := by
            have h := HF.out; show _ < f; rw [HRd.out]; simp only [List.length_cons] at h; omega
          clear hR HR HF cl ct1 HD HL HRd
          rcases q1 with rfl | rfl | rfl | rfl <;>
          · go_wp2
            go_roundg g
            case measure => omega
            case rel => exact ⟨off + 1, f, acc, by omega, by go_num, HF2.out, HRR.out, by omega, HO.out, HFX.out⟩
        · have hR := HR.out
          rw [if_neg q1] at hR
          have n1 : (c == 32) = false := beq_eq_false_iff_ne.2 (by omega)
          have n2 : (c == 9) = false := beq_eq_false_iff_ne.2 (by omega)
          have n3 : (c == 10) = false := beq_eq_false_iff_ne.2 (by omega)
          have n4 : (c == 13) = false := beq_eq_false_iff_ne.2 (by omega)
          by_cases q2 : c = 37
          · rw [if_pos q2] at hR
            have hle := le_le (c :: r)
            have hle1 : 1 ≤ le_ (c :: r) := by rw [le_no (by omega)]; omega
            have n5 : (c == 37) = true := by simp [q2]
            obtain ⟨m, hm'⟩ : ∃ m, le_ (c :: r) = m := ⟨_, rfl⟩
            rw [hm'] at hR hle hle1 cl
            have hll := HL.out
            simp only [List.length_cons] at hle
            have HRR : Hid (ct f ((blK s).drop (off + m)) (off + m) acc = R) := by show _ = R; rw [← hR, ← HD.out, List.drop_drop]
            have HF2 : Hid (((blK s).drop (off + m)).length < f) := by
              have h := HF.out; show _ < f; rw [List.length_drop, bl_len]; simp only [List.length_cons] at h; omega
            have hm2 : off + m ≤ s.size := by omega
            clear hR HR HF ct1 HD HL HRd q1 q2 hm' hll
            go_wp2_with (go_at_call 27; refine (cl _).mono ?_; rintro e w1 ⟨rfl, rfl⟩)
            go_roundg (s.size - (off + m))
            case measure => omega
            case rel => exact ⟨off + m, f, acc, by omega, rfl, HF2.out, HRR.out, by omega, HO.out, HFX.out⟩
          · rw [if_neg q2] at hR
            have n5 : (c == 37) = false := beq_eq_false_iff_ne.2 q2
            have htl := tok_len c r
            have hll := HL.out
            clear q1 q2 cl HR
            cases et : tok (c :: r) with
            | bad e o =>
              rw [et] at hR ct1
              have hne := htl.2 e o et
              have n6 : (e == 0) = false := beq_eq_false_iff_ne.2 hne
              have n7 : (e != 0) = true := by rw [bne, n6]; rfl
              have HRR : Hid (([], e, ((off + o : Nat) : Int)) = R) := hR
              obtain ⟨p, hp⟩ : ∃ p : Int, ((off + o : Nat) : Int) = p := ⟨_, rfl⟩
              have HP : Hid (((off + o : Nat) : Int) = p) := hp
              simp only [TR.v, TR.tk, TR.err, TR.pl, hp] at ct1
              clear hR et htl hp hne
              go_wp2_with (go_at_call 28; refine (ct1 _ HEr.out).mono ?_; rintro e w2 ⟨rfl, hb2⟩; have HB2 : Hid (Below _ _ _) := hb2; clear b0 b1 b2 b3; obtain ⟨b0, b1, b2, b3⟩ := two (HFX.out.later hb2).f; clear hb2)
              have bY := below2K w2 (.cells #[.int .i64 0, .string ⟨#[]⟩, .int .i64 0, .int .i64 0, .int .i64 0] 43) (.cells #[.int .i64 e, .int .i64 p] 27)
              have fG := BlkK.new2 w2 #[.int .i64 e, .int .i64 p] 27 (.cells #[.int .i64 0, .string ⟨#[]⟩, .int .i64 0, .int .i64 0, .int .i64 0] 43)
              have hfy := (HFX.out.later HB2.out).later bY
              revert bY fG hfy
              generalize (w2.alloc (.cells #[.int .i64 0, .string ⟨#[]⟩, .int .i64 0, .int .i64 0, .int .i64 0] 43)).alloc (.cells #[.int .i64 e, .int .i64 p] 27) = Y
              intro bY fG hfy
              have HFY : Hid (Fx w Y) := hfy
              obtain ⟨g0, g1, g2, g3⟩ := two fG
              clear b0 b1 b2 b3
              obtain ⟨b0, b1, b2, b3⟩ := two hfy.f
              have hrg : R = ([], e, p) := by rw [← HRR.out, HP.out]
              subst hrg
              clear bY fG hfy hidx ct1 HRR
              go_region
              all_goals
                go_wp2
                exact bodyPost_ret (v := .tuple #[.slice none 0 0, .agg #[.int .i64 e, .int .i64 p]]) ((HFY.out.later (Below.refl _ _).drew).res Tryd.results14 _ _ e p rfl rfl) rfl ⟨_, rfl, OwnK.nil _ _, (HFY.out.later (Below.refl _ _).drew).bel e p⟩
            | ok k x n len =>
              rw [et] at hR ct1
              have hln := htl.1 k x n len et
              have hR2 : ct f ((blK s).drop (off + len)) (off + len) (acc ++ [⟨k, ofL x, n, off, (off + len : Nat)⟩]) = R := by
                rw [← hR]; simp only [← HD.out, List.drop_drop]
              obtain ⟨X, hX⟩ : ∃ X, ofL x = X := ⟨_, rfl⟩
              obtain ⟨E, hEE⟩ : ∃ E : Int, ((off + len : Nat) : Int) = E := ⟨_, rfl⟩
              have HEE : Hid (((off + len : Nat) : Int) = E) := hEE
              rw [hX, hEE] at hR2
              have HRR : Hid (ct f ((blK s).drop (off + len)) (off + len) (acc ++ [⟨k, X, n, off, E⟩]) = R) := hR2
              have HF2 : Hid (((blK s).drop (off + len)).length < f) := by
                have h := HF.out; show _ < f; rw [List.length_drop, bl_len]; simp only [List.length_cons] at h; omega
              have hm2 : off + len ≤ s.size := by omega
              simp only [TR.v, TR.tk, TR.err, TR.pl, hX, hEE] at ct1
              clear hR hR2 et htl hX hEE HF HD HL HRd hll
              go_upto_region 17 with (go_at_call 28; refine (ct1 _ HEr.out).mono ?_; rintro e w2 ⟨rfl, hb2⟩; have HB2 : Hid (Below _ _ _) := hb2; clear b0 b1 b2 b3; obtain ⟨b0, b1, b2, b3⟩ := two (HFX.out.later hb2).f; clear hb2)
              have bY := below2K w2 (.cells #[.int .i64 k, .string X, .int .i64 n, .int .i64 off, .int .i64 E] 43) (.cells #[.int .i64 0, .int .i64 0] 27)
              have fG := BlkK.old w2 #[.int .i64 k, .string X, .int .i64 n, .int .i64 off, .int .i64 E] 43 (.cells #[.int .i64 0, .int .i64 0] 27)
              have hfy := (HFX.out.later HB2.out).later bY
              have hoy := (HO.out.later HB2.out).later bY
              revert bY fG hfy hoy
              generalize (w2.alloc (.cells #[.int .i64 k, .string X, .int .i64 n, .int .i64 off, .int .i64 E] 43)).alloc (.cells #[.int .i64 0, .int .i64 0] 27) = Y
              intro bY fG hfy hoy
              have HFY : Hid (Fx w Y) := hfy
              have HOY : Hid (OwnK Y (w.heap.size + 1) u6 acc) := hoy
              have HGY : Hid (BlkK Y w2.heap.size #[.int .i64 k, .string X, .int .i64 n, .int .i64 off, .int .i64 E] 43) := fG
              have hYz := hfy.lt
              have HNE : Hid (u6.ownBlock ≠ some w2.heap.size) := fun e => by
                have h1 := (World.ownsRow.lt HO.out _ e).2
                have h2 := HB2.out.size
                omega
              obtain ⟨g0, g1, g2, g3, g4⟩ := fiveK fG
              clear b0 b1 b2 b3 bY fG hfy hoy hidx ct1
              go_wp2_with (at_builtin; refine app_tok rfl _ _ rfl (w.heap.size + 1) u6 acc rfl (HOY.out.later (below1K _ _)) Y.heap.size ⟨k, X, n, off, E⟩ rfl (heap_alloc_new Y _) (by omega) (by simp; omega) ?_; intro v' w3 ho3 hb3 hg3; have HO3 : Hid (OwnK w3 (w.heap.size + 1) v' (acc ++ [⟨k, X, n, off, E⟩])) := ho3; have HFX3 : Hid (Fx w w3) := ((HFY.out.later (below1K _ _)).laterB hb3); have hB3 : BlkK w3 w2.heap.size #[.int .i64 k, .string X, .int .i64 n, .int .i64 off, .int .i64 E] 43 := (hg3.block _ (HGY.out.later (below1K _ _)).lt (fun e => HNE.out e.symm)).trans (HGY.out.later (below1K _ _)); clear g0 g1 g2 g3 g4; obtain ⟨g0, g1, g2, g3, g4⟩ := fiveK hB3; clear ho3 hb3 hg3 hB3)
              go_roundg (s.size - (off + len))
              case measure => omega
              case rel => exact ⟨off + len, f, _, by omega, by rw [← HEE.out], HF2.out, HRR.out, by simp; omega, HO3.out, HFX3.out⟩
      | zero =>
        obtain rfl : off = s.size := by omega
        have hz : ¬ ((s.size : Int) < (s.size : Int)) := by omega
        have hR := HR.out
        rw [bl_drop_end (Nat.le_refl _), ct_end] at hR
        subst hR
        clear HR HF
        go_wp2
        exact bodyPost_ret (v := .tuple #[u6, .agg #[.int .i64 0, .int .i64 0]]) (HFX.out.res Tryd.results14 _ _ 0 0 rfl rfl) rfl ⟨_, rfl, ((HO.out.set rfl).set rfl).low, HFX.out.bel 0 0⟩
end Go.Proofs.YtdfdnjkeiddfjaaDoor
