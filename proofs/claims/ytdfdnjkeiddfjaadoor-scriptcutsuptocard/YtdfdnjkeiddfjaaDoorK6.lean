/-
  quotedAt.
-/
import Derived.Test.YtdfdnjkeiddfjaaDoorK5
namespace Go.Proofs.YtdfdnjkeiddfjaaDoor
open Go.RowKit

theorem BlkK.laterB {W W' : World} {B g : Nat} {c : Array Value} {t : TypeId} (h : BlkK W g c t) (hb : Below B W W') (hg : g < B) : BlkK W' g c t := (hb.block _ hg).trans h
theorem OwnB.nil (w : World) (base : Nat) : OwnB w base (.slice none 0 0) [] := ⟨by simp [ibs], Or.inl ⟨rfl, rfl⟩⟩
theorem conv_nil (w : World) : (convert 22 9 (.slice none 0 0)).run Tryd.prog w = .ok (.string ⟨#[]⟩) w := by
  rw [run_convert_bytes_string w 22 9 5 none 0 0 Tryd.underlying22 Tryd.underlying5 Tryd.underlying9]
  simp [Conv.bytesToString, go_sem]
  rfl
theorem conv_all {w : World} {base : Nat} {v : Value} {l : List Int} (h : OwnB w base v l) (hn : l = [] → v = .slice none 0 0) (hb : byt l) : (convert 22 9 v).run Tryd.prog w = .ok (.string (ofL l)) w := by
  cases l with
  | nil => rw [hn rfl, conv_nil]; rfl
  | cons x l => exact conv_bytes h (by simp) hb
theorem hex2_rng {l : List Int} {b : Int} (h : hex2 l = some b) : 0 ≤ b ∧ b ≤ 255 ∧ 2 ≤ l.length := by
  match l, h with
  | [], h => cases h
  | [_], h => cases h
  | a :: c :: r, h =>
    simp only [hex2] at h
    cases u : hexv a with
    | none => rw [u] at h; cases h
    | some x =>
      cases v : hexv c with
      | none => rw [u, v] at h; cases h
      | some y =>
        rw [u, v] at h
        have h1 := hexv_rng u
        have h2 := hexv_rng v
        have h3 : x * 16 + y = b := by simpa using h
        refine ⟨by omega, by omega, by simp⟩
theorem esc_rng {l : List Int} {b : Int} {k : Nat} (h : esc l = some (b, k)) : 0 ≤ b ∧ b ≤ 255 ∧ 1 ≤ k ∧ k ≤ l.length ∧ k ≤ 3 := by
  cases l with
  | nil => cases h
  | cons c r =>
    rw [esc_cons] at h
    by_cases q1 : c = 34 ∨ c = 92
    · rw [if_pos q1] at h; simp at h; simp; omega
    · rw [if_neg q1] at h
      by_cases q2 : c = 110
      · rw [if_pos q2] at h; simp at h; simp; omega
      · rw [if_neg q2] at h
        by_cases q3 : c = 116
        · rw [if_pos q3] at h; simp at h; simp; omega
        · rw [if_neg q3] at h
          by_cases q4 : c = 120
          · rw [if_pos q4] at h
            cases e : hex2 r with
            | none => rw [e] at h; cases h
            | some x =>
              rw [e] at h
              have := hex2_rng e
              simp at h
              obtain ⟨rfl, rfl⟩ := h
              simp; omega
          · rw [if_neg q4] at h; cases h
theorem qd_end (f off : Nat) (acc : List Int) : qd (f + 1) [] off acc = .bad 43 0 := rfl
theorem qd_cons (f : Nat) (c : Int) (r : List Int) (off : Nat) (acc : List Int) : qd (f + 1) (c :: r) off acc =
    if c = 34 then .ok 3 acc 0 (off + 1)
    else if c = 92 then (match esc r with
      | some (b, k) => qd f (r.drop k) (off + 1 + k) (acc ++ [b])
      | none => .bad 44 off)
    else if c < 32 ∨ c = 127 then .bad 44 off
    else qd f r (off + 1) (acc ++ [c]) := rfl
/-- The two boxes of an answer. -/
structure BxK (w W : World) : Prop where
  t : BlkK W w.heap.size (Tk.cs ⟨0, ⟨#[]⟩, 0, 0, 0⟩) 43
  f : BlkK W (w.heap.size + 1) (fcs 0 0) 27
  b : Below w.heap.size w W
theorem BxK.start (w : World) : BxK w ((w.alloc (.cells #[.int .i64 0, .string ⟨#[]⟩, .int .i64 0, .int .i64 0, .int .i64 0] 43)).alloc (.cells #[.int .i64 0, .int .i64 0] 27)) :=
  ⟨BlkK.old w _ _ _, BlkK.new2 w _ _ _, below2K w _ _⟩
theorem BxK.later {w W W' : World} (h : BxK w W) (hb : Below W.heap.size W W') : BxK w W' := ⟨h.t.later hb, h.f.later hb, below_stepK h.b hb⟩
theorem BxK.lt {w W : World} (h : BxK w W) : w.heap.size + 2 ≤ W.heap.size := h.f.lt
theorem BxK.laterB {w W W' : World} (h : BxK w W) (hb : Below (w.heap.size + 2) W W') : BxK w W' := ⟨h.t.laterB hb (by omega), h.f.laterB hb (by omega), h.b.trans (hb.mono (by omega))⟩
/-- An answer is written into its boxes and handed back. -/
theorem BxK.res {fn : Func} (hf : fn.results = #[.cell 4 43, .cell 5 27]) {w W : World} (h : BxK w W) (tmps : Array Value) (t : Tk) (e p : Int)
    (h4 : tmps[4]?.getD undef = .pointer (some ⟨w.heap.size, 0, none⟩)) (h5 : tmps[5]?.getD undef = .pointer (some ⟨w.heap.size + 1, 0, none⟩)) :
    (results fn tmps).run Tryd.prog (fw W w.heap.size (w.heap.size + 1) t e p) = .ok (.tuple #[t.v, .agg #[.int .i64 e, .int .i64 p]]) (fw W w.heap.size (w.heap.size + 1) t e p) := by
  obtain ⟨q1, q2⟩ := fw_blk t e p h.t h.f (by omega)
  exact ret_tf hf _ _ _ _ t e p h4 h5 q1 q2
theorem BxK.bel {w W : World} (h : BxK w W) (t : Tk) (e p : Int) : Below w.heap.size w (fw W w.heap.size (w.heap.size + 1) t e p) := fw_below h.b (Nat.le_refl _) (Nat.le_succ _)
set_option maxRecDepth 20000 in
set_option maxHeartbeats 1000000 in
theorem quotedAt_any (s : ByteArray) (j : Nat) (hj : j < s.size) (hs : s.size ≤ 9000000) (w : World) :
    Calls Tryd.prog 41 #[.string s, .int .i64 j] w fun e w' => e = .returned (TR.v j (qd (((blK s).drop (j + 1)).length + 1) ((blK s).drop (j + 1)) 1 [])) ∧ Below w.heap.size w w' := by
  obtain ⟨R, hR⟩ : ∃ R, qd (((blK s).drop (j + 1)).length + 1) ((blK s).drop (j + 1)) 1 [] = R := ⟨_, rfl⟩
  rw [hR]
  have HR0 : Hid (qd (((blK s).drop (j + 1)).length + 1) ((blK s).drop (j + 1)) 1 [] = R) := hR
  clear hR
  go_enter Tryd.func41, Tryd.ntmps41
  go_upto_region 1 with fail
  have bx := BxK.start w
  revert bx
  generalize (w.alloc (.cells #[.int .i64 0, .string ⟨#[]⟩, .int .i64 0, .int .i64 0, .int .i64 0] 43)).alloc (.cells #[.int .i64 0, .int .i64 0] 27) = W1
  intro bx
  have HX0 : Hid (BxK w W1) := bx
  clear bx
  go_wp2
  go_loopg [6, 7] (s.size - (j + 1)) (fun g u i wr => ∃ (off f : Nat) (acc : List Int), j + off + g = s.size ∧ i = .int .i64 ((j + off : Nat) : Int) ∧ ((blK s).drop (j + off)).length < f ∧ qd f ((blK s).drop (j + off)) off acc = R ∧ byt acc ∧ acc.length < off ∧ OwnB wr (w.heap.size + 2) u acc ∧ (acc = [] → u = .slice none 0 0) ∧ BxK w wr)
  case atStart => exact ⟨1, _, [], by omega, by rw [Int.natCast_add]; rfl, Nat.lt_succ_self _, HR0.out, (fun x hx => by simp at hx), by simp, OwnB.nil _ _, fun _ => rfl, HX0.out⟩
  case round =>
    obtain ⟨off, f, acc, hg, rfl, hf, hr, hby, hlen, ho, hnil, bx⟩ := hrel
    have hbz := bx.lt
    have HBX : Hid (BxK w wr) := bx
    have HO : Hid (OwnB wr (w.heap.size + 2) u6 acc) := ho
    have HN : Hid (acc = [] → u6 = .slice none 0 0) := hnil
    have HY : Hid (byt acc) := hby
    have HR : Hid (qd f ((blK s).drop (j + off)) off acc = R) := hr
    have HF : Hid (((blK s).drop (j + off)).length < f) := hf
    obtain ⟨d0, d1, d2, d3, d4⟩ := fiveK bx.t
    obtain ⟨f0, f1, f2, f3, f4⟩ := fiveFK bx.t
    obtain ⟨b0, b1, b2, b3⟩ := two bx.f
    obtain ⟨f, rfl⟩ : ∃ f', f = f' + 1 := ⟨f - 1, by omega⟩
    clear bx ho hnil hby hr hf HR0 HX0
    obtain ⟨E, hE⟩ : ∃ E : Int, ((j + off : Nat) : Int) = E := ⟨_, rfl⟩
    have HE : Hid (((j + off : Nat) : Int) = E) := hE
    cases gk with
    | succ g =>
      have hlt : j + off < s.size := by omega
      have hidx := run_index_atK s (j + off) hlt E hE.symm
      have hrg := at_range s (j + off)
      have i1 : E < (s.size : Int) := by omega
      have i0 : 0 ≤ E := by omega
      have i9 : E < 4611686018427387904 := by omega
      have cE := escapeAt_any s (j + off) hlt (by omega)
      have HD : Hid ((blK s).drop (j + off) = atK_ s (j + off) :: (blK s).drop (j + off + 1)) := bl_drop hlt
      rw [hE] at cE ⊢
      rw [HD.out] at HR HF
      rw [qd_cons] at HR
      obtain ⟨c, hc⟩ : ∃ c, atK_ s (j + off) = c := ⟨_, rfl⟩
      rw [hc] at hidx hrg HR HF
      have h0 := hrg.1
      have h1 := hrg.2
      clear hE hc HD hrg
      by_cases q1 : c = 34
      · have hR := HR.out
        rw [if_pos q1] at hR
        subst q1
        have hcv := conv_all HO.out HN.out HY.out
        have HRR : Hid (TR.ok 3 acc 0 (off + 1) = R) := hR
        clear hR cE HR
        go_wp2
        refine bodyPost_ret (v := TR.v j R) ?_ rfl ⟨rfl, HBX.out.bel ⟨3, ofL acc, 0, j, E + 1⟩ 0 0⟩
        rw [← HRR.out]
        have e1 : TR.v j (.ok 3 acc 0 (off + 1)) = .tuple #[Tk.v ⟨3, ofL acc, 0, j, E + 1⟩, .agg #[.int .i64 0, .int .i64 0]] := by
          have := HE.out; subst this; simp only [TR.v, TR.tk, TR.err, TR.pl]; congr 1
        rw [e1]
        exact HBX.out.res Tryd.results41 _ ⟨3, ofL acc, 0, j, E + 1⟩ 0 0 rfl rfl
      · have n1 : (c == 34) = false := beq_eq_false_iff_ne.2 q1
        have hR := HR.out
        rw [if_neg q1] at hR
        clear q1 HR
        by_cases q2 : c = 92
        · rw [if_pos q2] at hR
          subst q2
          have HEV : Hid (escV s (j + off) = match esc ((blK s).drop (j + off + 1)) with | some (b, k) => (b, j + off + 1 + k) | none => (0, j + off)) := rfl
          cases ee : esc ((blK s).drop (j + off + 1)) with
          | none =>
            rw [ee] at hR HEV
            have hv : escV s (j + off) = (0, j + off) := HEV.out
            rw [hv] at cE
            have HRR : Hid (TR.bad 44 off = R) := hR
            have n2 : (((j + off : Nat) : Int) == E) = true := by rw [HE.out]; simp
            have cE' : ∀ (X : World), Calls Tryd.prog 65 #[.string s, .int .i64 E] X fun e w' => e = .returned (.tuple #[.int .u8 0, .int .i64 E]) ∧ w' = X := fun X => by
              have := cE X; simp only [HE.out] at this; exact this
            clear hR cE HEV ee n2 hv n1
            go_wp2_with (go_at_call 65; refine (cE' _).mono ?_; rintro e w1 ⟨rfl, rfl⟩)
            refine bodyPost_ret (v := TR.v j R) ?_ rfl ⟨rfl, HBX.out.bel ⟨0, ⟨#[]⟩, 0, 0, 0⟩ 44 E⟩
            rw [← HRR.out]
            have e1 : TR.v j (.bad 44 off) = .tuple #[Tk.v ⟨0, ⟨#[]⟩, 0, 0, 0⟩, .agg #[.int .i64 44, .int .i64 E]] := by
              have := HE.out; subst this; rfl
            rw [e1]
            exact HBX.out.res Tryd.results41 _ ⟨0, ⟨#[]⟩, 0, 0, 0⟩ 44 E rfl rfl
          | some bk =>
            obtain ⟨b, k⟩ := bk
            rw [ee] at hR HEV
            have hrg := esc_rng ee
            have hv : escV s (j + off) = (b, j + off + 1 + k) := HEV.out
            rw [hv] at cE
            rw [List.length_drop, bl_len] at hrg
            obtain ⟨E2, hE2⟩ : ∃ E : Int, ((j + off + 1 + k : Nat) : Int) = E := ⟨_, rfl⟩
            have HE2 : Hid (((j + off + 1 + k : Nat) : Int) = E2) := hE2
            have cE' : ∀ (X : World), Calls Tryd.prog 65 #[.string s, .int .i64 E] X fun e w' => e = .returned (.tuple #[.int .u8 b, .int .i64 E2]) ∧ w' = X := fun X => by
              have := cE X; simp only [hE2] at this; exact this
            have n2 : (E2 == E) = false := beq_eq_false_iff_ne.2 (by have := HE.out; omega)
            have hR' : qd f ((blK s).drop (j + (off + 1 + k))) (off + 1 + k) (acc ++ [b]) = R := by
              rw [← hR]; simp only [List.drop_drop]; congr 2 <;> omega
            have HRR : Hid (qd f ((blK s).drop (j + (off + 1 + k))) (off + 1 + k) (acc ++ [b]) = R) := hR'
            have HF2 : Hid (((blK s).drop (j + (off + 1 + k))).length < f) := by
              have h := HF.out
              show _ < f
              simp only [List.length_cons, List.length_drop, bl_len] at h ⊢
              omega
            have HY2 : Hid (byt (acc ++ [b])) := fun x hx => by
              rcases List.mem_append.1 hx with hx | hx
              · exact HY.out x hx
              · simp at hx; omega
            clear hR hR' cE HEV ee hv n1 hE2
            go_wp2_with (first | (go_at_call 65; refine (cE' _).mono ?_; rintro e w1 ⟨rfl, rfl⟩) | (at_builtin; refine app_bytes rfl _ _ rfl (w.heap.size + 2) u6 acc rfl (HO.out.later (below1K _ _)) w1.heap.size [b] rfl (heap_alloc_new w1 _) (by simp) (by simp; omega) (by simp; omega) ?_; intro v' w2 ho2 hb2))
            go_roundg (s.size - (j + (off + 1 + k)))
            case measure => omega
            case rel => exact ⟨off + 1 + k, f, acc ++ [b], by omega, by rw [← HE2.out]; congr 1; omega, HF2.out, HRR.out, HY2.out, by simp; omega, ho2, fun h => by simp at h, (HBX.out.later (below1K _ _)).laterB hb2⟩
        · have n2 : (c == 92) = false := beq_eq_false_iff_ne.2 q2
          rw [if_neg q2] at hR
          clear q2
          by_cases q3 : c < 32 ∨ c = 127
          · rw [if_pos q3] at hR
            have HRR : Hid (TR.bad 44 off = R) := hR
            clear hR cE
            have q4 : c < 32 ∨ (32 ≤ c ∧ c = 127) := by omega
            clear q3
            rcases q4 with q3 | ⟨q3, rfl⟩ <;>
            · go_wp2
              refine bodyPost_ret (v := TR.v j R) ?_ rfl ⟨rfl, HBX.out.bel ⟨0, ⟨#[]⟩, 0, 0, 0⟩ 44 E⟩
              rw [← HRR.out]
              have e1 : TR.v j (.bad 44 off) = .tuple #[Tk.v ⟨0, ⟨#[]⟩, 0, 0, 0⟩, .agg #[.int .i64 44, .int .i64 E]] := by
                have := HE.out; subst this; rfl
              rw [e1]
              exact HBX.out.res Tryd.results41 _ ⟨0, ⟨#[]⟩, 0, 0, 0⟩ 44 E rfl rfl
          · rw [if_neg q3] at hR
            have m1 : ¬ c < 32 := by omega
            have m2 : (c == 127) = false := beq_eq_false_iff_ne.2 (by omega)
            have HRR : Hid (qd f ((blK s).drop (j + (off + 1))) (off + 1) (acc ++ [c]) = R) := hR
            have HF2 : Hid (((blK s).drop (j + (off + 1))).length < f) := by
              have h := HF.out
              show _ < f
              simp only [List.length_cons, List.length_drop, bl_len] at h ⊢
              omega
            have HY2 : Hid (byt (acc ++ [c])) := fun x hx => by
              rcases List.mem_append.1 hx with hx | hx
              · exact HY.out x hx
              · simp at hx; omega
            clear hR cE q3
            go_wp2_with (at_builtin; refine app_bytes rfl _ _ rfl (w.heap.size + 2) u6 acc rfl (HO.out.later (below1K _ _)) wr.heap.size [c] rfl (heap_alloc_new wr _) (by simp) (by simp; omega) (by simp; omega) ?_; intro v' w2 ho2 hb2)
            go_roundg g
            case measure => omega
            case rel => exact ⟨off + 1, f, acc ++ [c], by omega, by have := HE.out; go_num, HF2.out, HRR.out, HY2.out, by simp; omega, ho2, fun h => by simp at h, (HBX.out.later (below1K _ _)).laterB hb2⟩
    | zero =>
      have i1 : ¬ E < (s.size : Int) := by omega
      have hR := HR.out
      rw [bl_drop_end (by omega), qd_end] at hR
      rw [hE]
      have HRR : Hid (TR.bad 43 0 = R) := hR
      clear hR HR hE
      go_wp2
      refine bodyPost_ret (v := TR.v j R) ?_ rfl ⟨rfl, HBX.out.bel ⟨0, ⟨#[]⟩, 0, 0, 0⟩ 43 j⟩
      rw [← HRR.out]
      exact HBX.out.res Tryd.results41 _ ⟨0, ⟨#[]⟩, 0, 0, 0⟩ 43 j rfl rfl
end Go.Proofs.YtdfdnjkeiddfjaaDoor
