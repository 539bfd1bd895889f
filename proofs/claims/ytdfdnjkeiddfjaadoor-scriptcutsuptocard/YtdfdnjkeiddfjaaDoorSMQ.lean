/-
  script (stage 25): the program's Read.
-/
import Derived.Test.YtdfdnjkeiddfjaaDoorSMO
import Derived.Test.YtdfdnjkeiddfjaaDoorSMP
import Derived.Test.YtdfdnjkeiddfjaaDoorSMH
import Derived.Test.YtdfdnjkeiddfjaaDoorK9
namespace Go.Proofs.YtdfdnjkeiddfjaaDoor
open Go.RowKit
attribute [local go_sem ↓] Go.wp_at_zero Go.wp_at_succ

theorem ct_ltS : ∀ (f : Nat) (l : List Int) (off : Nat) (acc : List Tk) (M : Nat), off + l.length ≤ M → (∀ t ∈ acc, t.a < (M : Int)) → ∀ t ∈ (ct f l off acc).1, t.a < (M : Int)
  | 0, _, _, acc, _, _, h => h
  | _ + 1, [], _, acc, _, _, h => h
  | f + 1, c :: r, off, acc, M, hM, h => by
    simp only [List.length_cons] at hM
    rw [ct_cons]
    by_cases q1 : c = 32 ∨ c = 9 ∨ c = 10 ∨ c = 13
    · rw [if_pos q1]
      exact ct_ltS f r _ acc M (by omega) h
    · rw [if_neg q1]
      by_cases q2 : c = 37
      · rw [if_pos q2]
        have hle := le_le (c :: r)
        simp only [List.length_cons] at hle
        exact ct_ltS f _ _ acc M (by rw [List.length_drop, List.length_cons]; omega) h
      · rw [if_neg q2]
        cases et : tok (c :: r) with
        | bad e o => intro t ht; cases ht
        | ok k x n len =>
          have htl := (tok_len c r).1 k x n len et
          refine ct_ltS f _ _ _ M (by rw [List.length_drop, List.length_cons]; omega) fun t ht => ?_
          rcases List.mem_append.1 ht with ht | ht
          · exact h t ht
          · rw [List.mem_singleton.1 ht]
            show (off : Int) < (M : Int); have h9 : (c :: r).length = r.length + 1 := rfl; omega
theorem cut_lt (s : ByteArray) : ∀ t ∈ (cutL (blK s) (s.size : Int)).1, t.a < (s.size : Int) := by
  rw [cutL_all]
  exact ct_ltS (s.size + 1) (blK s) 0 [] s.size (by rw [bl_len]; omega) (fun t ht => by cases ht)
theorem ct_cntS : ∀ (f : Nat) (l : List Int) (off : Nat) (acc : List Tk), (ct f l off acc).1.length ≤ acc.length + l.length
  | 0, l, _, acc => by show acc.length ≤ _; omega
  | _ + 1, [], _, acc => by show acc.length ≤ _; omega
  | f + 1, c :: r, off, acc => by
    rw [ct_cons]
    simp only [List.length_cons]
    by_cases q1 : c = 32 ∨ c = 9 ∨ c = 10 ∨ c = 13
    · rw [if_pos q1]; have := ct_cntS f r (off + 1) acc; omega
    · rw [if_neg q1]
      by_cases q2 : c = 37
      · rw [if_pos q2]
        have := ct_cntS f ((c :: r).drop (le_ (c :: r))) (off + le_ (c :: r)) acc
        rw [List.length_drop, List.length_cons] at this; omega
      · rw [if_neg q2]
        cases et : tok (c :: r) with
        | bad e o => show (0 : Nat) ≤ _; omega
        | ok k x n len =>
          have hln := (tok_len c r).1 k x n len et
          have := ct_cntS f ((c :: r).drop len) (off + len) (acc ++ [⟨k, ofL x, n, off, (off + len : Nat)⟩])
          rw [List.length_drop, List.length_cons, List.length_append, List.length_cons, List.length_nil] at this
          show (ct f ((c :: r).drop len) (off + len) (acc ++ [⟨k, ofL x, n, off, (off + len : Nat)⟩])).1.length ≤ _
          omega
/-- The boxes written: a step and a fault. -/
theorem rtG {w wx : World} (h : RtS w wx) {base : Nat} (hbase : w.heap.size + 2 ≤ base) (d : SdO) (e p : Int) {v : Value} {b : ByteArray} (ho : OwY wx base v (blK b)) :
    BlkK ((((((((((wx.setCell ⟨w.heap.size, 0, none⟩ (.int .i64 d.k)).setCell ⟨w.heap.size, 1, none⟩ (.string d.who)).setCell ⟨w.heap.size, 2, none⟩ (.string d.too)).setCell ⟨w.heap.size, 3, none⟩ (.string d.tx)).setCell ⟨w.heap.size, 4, none⟩ (v)).setCell ⟨w.heap.size, 5, none⟩ (.int .i64 d.n)).setCell ⟨w.heap.size, 6, none⟩ (.int .i64 d.m)).setCell ⟨w.heap.size, 7, none⟩ (.int .i64 d.q)).setCell ⟨w.heap.size + 1, 0, none⟩ (.int .i64 e)).setCell ⟨w.heap.size + 1, 1, none⟩ (.int .i64 p)) w.heap.size (d.cs v) 24 ∧
    BlkK ((((((((((wx.setCell ⟨w.heap.size, 0, none⟩ (.int .i64 d.k)).setCell ⟨w.heap.size, 1, none⟩ (.string d.who)).setCell ⟨w.heap.size, 2, none⟩ (.string d.too)).setCell ⟨w.heap.size, 3, none⟩ (.string d.tx)).setCell ⟨w.heap.size, 4, none⟩ (v)).setCell ⟨w.heap.size, 5, none⟩ (.int .i64 d.n)).setCell ⟨w.heap.size, 6, none⟩ (.int .i64 d.m)).setCell ⟨w.heap.size, 7, none⟩ (.int .i64 d.q)).setCell ⟨w.heap.size + 1, 0, none⟩ (.int .i64 e)).setCell ⟨w.heap.size + 1, 1, none⟩ (.int .i64 p)) (w.heap.size + 1) #[.int .i64 e, .int .i64 p] 27 ∧
    OwY ((((((((((wx.setCell ⟨w.heap.size, 0, none⟩ (.int .i64 d.k)).setCell ⟨w.heap.size, 1, none⟩ (.string d.who)).setCell ⟨w.heap.size, 2, none⟩ (.string d.too)).setCell ⟨w.heap.size, 3, none⟩ (.string d.tx)).setCell ⟨w.heap.size, 4, none⟩ (v)).setCell ⟨w.heap.size, 5, none⟩ (.int .i64 d.n)).setCell ⟨w.heap.size, 6, none⟩ (.int .i64 d.m)).setCell ⟨w.heap.size, 7, none⟩ (.int .i64 d.q)).setCell ⟨w.heap.size + 1, 0, none⟩ (.int .i64 e)).setCell ⟨w.heap.size + 1, 1, none⟩ (.int .i64 p)) base v (blK b) ∧
    Below w.heap.size w ((((((((((wx.setCell ⟨w.heap.size, 0, none⟩ (.int .i64 d.k)).setCell ⟨w.heap.size, 1, none⟩ (.string d.who)).setCell ⟨w.heap.size, 2, none⟩ (.string d.too)).setCell ⟨w.heap.size, 3, none⟩ (.string d.tx)).setCell ⟨w.heap.size, 4, none⟩ (v)).setCell ⟨w.heap.size, 5, none⟩ (.int .i64 d.n)).setCell ⟨w.heap.size, 6, none⟩ (.int .i64 d.m)).setCell ⟨w.heap.size, 7, none⟩ (.int .i64 d.q)).setCell ⟨w.heap.size + 1, 0, none⟩ (.int .i64 e)).setCell ⟨w.heap.size + 1, 1, none⟩ (.int .i64 p)) := by
  have hx : BxS wx w.heap.size zdS (.slice none 0 0) ⟨#[]⟩ := ⟨h.d, LbW.nil _ _⟩
  have := boxW (d' := d) (v' := v) (b' := b) (e := e) (p := p) hx h.f (by omega) ((ho.lb (bl_bytW _)).mono fun k _ hk => by have := hk.1; constructor <;> omega)
  exact ⟨this.1.blk, this.2.1, (((((((((ho.set (by omega)).set (by omega)).set (by omega)).set (by omega)).set (by omega)).set (by omega)).set (by omega)).set (by omega)).set (by omega)).set (by omega), this.2.2 _ (Nat.le_refl _) (Nat.le_succ _) _ h.b⟩
/-- A step and a fault are told. -/
theorem endG {fn : Func} {a : Act} {w wx : World} {tmps : Array Value} {d : SdO} {e p : Int} {b : ByteArray} {q : Option Addr} {c base : Nat} {i j : Nat} (hf : fn.results = #[.cell i 24, .cell j 27]) (ha : a = ⟨tmps, []⟩) (h4 : tmps[i]?.getD undef = .pointer (some ⟨w.heap.size, 0, none⟩)) (h5 : tmps[j]?.getD undef = .pointer (some ⟨w.heap.size + 1, 0, none⟩))
    (hd : BlkK wx w.heap.size (d.cs (.slice q b.size c)) 24) (hh : BlkK wx (w.heap.size + 1) #[.int .i64 e, .int .i64 p] 27) (ho : OwY wx base (.slice q b.size c) (blK b)) (hbase : w.heap.size ≤ base) (hb : Below w.heap.size w wx) : bodyPost Tryd.prog fn (RdQ w ⟨d, b, e, p⟩) .ret a wx := by
  subst ha
  refine bodyPost_ret (ret_RS hf _ _ w.heap.size (w.heap.size + 1) _ _ _ h4 h5 hd ⟨_, _, _, _, _, _, _, _, rfl⟩ hh) rfl ?_
  exact ⟨q, c, rfl, ho.mono hbase, hb⟩
theorem cut_cnt (s : ByteArray) : (cutL (blK s) (s.size : Int)).1.length ≤ s.size := by
  rw [cutL_all]
  have := ct_cntS (s.size + 1) (blK s) 0 []
  rw [bl_len] at this
  simpa using this
set_option maxRecDepth 20000 in
set_option maxHeartbeats 4000000 in
theorem aread_long (s : ByteArray) (w : World) (hz : 65536 < s.size) : Calls Tryd.prog 9 #[.string s] w (RdQ w (noS 251 0)) := by
  have hz2 : (s.size : Int) > 65536 := by omega
  go_enter Tryd.func9, Tryd.ntmps9
  go_wp2
  refine endE rfl rfl rfl rfl ?_ ?_ ?_
  · exact BlkK.old w z8S _ _
  · exact BlkK.new2 w #[.int .i64 251, .int .i64 0] _ _
  · exact below2K w _ _
set_option maxRecDepth 20000 in
set_option maxHeartbeats 4000000 in
theorem aread_bad (s : ByteArray) (w : World) (hz : s.size ≤ 65536) (hQ : EnvOk w) (e p : Int) (hc : cutL (blK s) (s.size : Int) = ([], e, p)) (he : e ≠ 0) : Calls Tryd.prog 9 #[.string s] w (RdQ w (noS e p)) := by
  have hz2 : ¬ (s.size : Int) > 65536 := by omega
  have HQ := hm7 hQ
  have HC : Hid (∀ X, EnvOk X → Calls Tryd.prog 14 #[.string s, .int .i64 (s.size : Int)] X (KPost X ([], e, p))) := fun X h => by rw [← hc]; exact cut_any s _ (by omega) X h
  have he2 : (e != 0) = true := by simpa using he
  have he3 : ¬ e = 0 := he
  clear hc hQ he
  go_enter Tryd.func9, Tryd.ntmps9
  go_upto_region 3 with (fail)
  have hr0 : RtS w ((w.alloc (.cells z8S 24)).alloc (.cells #[.int .i64 0, .int .i64 0] 27)) := ⟨BlkK.old w _ _ _, BlkK.new2 w _ _ _, below2K w _ _⟩
  simp only [z8S] at hr0
  revert hr0
  generalize (w.alloc _).alloc _ = W0
  intro hr0
  have HR0 := hm7 hr0
  have HQ0 := hm7 (HC.out W0 (HQ.out.later hr0.b))
  clear hr0
  go_upto_region 5 with (go_at_call 14; refine HQ0.out.mono ?_; rintro e' w1 ⟨v, rfl, hok, hbk⟩; have hr1 := HR0.out.later hbk; have HR1 := hm7 hr1; clear hbk hok hr1)
  have hbx := below1K w1 (.cells #[.int .i64 e, .int .i64 p] 27)
  have hfx := BlkK.new w1 #[.int .i64 e, .int .i64 p] 27
  have hr := HR1.out.later hbx
  revert hbx hfx hr
  generalize w1.alloc _ = W1
  intro hbx hfx hr
  have HR := hm7 hr
  obtain ⟨f0, f1⟩ := ft_cells hfx
  obtain ⟨⟨c0, c1, c2, c3, c4, c5, c6, c7⟩, cf, d0, d1, df⟩ := hr.cells
  have n1 : w1.heap.size ≠ w.heap.size := by have := HR1.out.d.lt; omega
  have n2 : w1.heap.size ≠ w.heap.size + 1 := by have := HR1.out.f.lt; omega
  clear hbx hfx hr
  go_region
  all_goals
    go_wp2
    obtain ⟨h1, h2, h3⟩ := rtE HR.out e p
    exact endE rfl rfl rfl rfl (bkD h1) (bkD h2) (blD h3)
theorem saidA_any (L : List Tk) (lv : Value) (len : Int) (w : World) (hk : Ks w lv L) (hE : EnS w) (hL : L.length ≤ 9000000) (hx : ∀ u ∈ L, u.x.size ≤ 9000000) (hpos : ∀ u ∈ L, u.a < len) : Calls Tryd.prog 21 #[lv, .int .i64 len] w (RdQ w (rlS len L)) := by
  rcases said_ways L len with ⟨h1, h2⟩ | ⟨j, t, l, hj, rfl, h1, h2, h3⟩
  · rw [h2]
    exact said_none L lv len w hk hE hL h1
  · rw [h3]
    exact said_some j hj t l lv len w hk hE hL hx hpos h1 h2
set_option maxRecDepth 20000 in
set_option maxHeartbeats 4000000 in
theorem aread_said (s : ByteArray) (w : World) (hz : s.size ≤ 65536) (hE : EnS w) (T : List Tk) (hc : cutL (blK s) (s.size : Int) = (T, 0, 0)) (hf : CutF s T) : Calls Tryd.prog 9 #[.string s] w (RdQ w (rlS s.size T)) := by
  have hz2 : ¬ (s.size : Int) > 65536 := by omega
  have HE := hm7 hE
  have HC : Hid (∀ X, EnvOk X → Calls Tryd.prog 14 #[.string s, .int .i64 (s.size : Int)] X (KPost X (T, 0, 0))) := fun X h => by rw [← hc]; exact cut_any s _ (by omega) X h
  have HX : Hid (∀ u ∈ T, u.x.size ≤ 9000000) := fun u hu => by have := (hf.sp u hu).2.1; omega
  have HP : Hid (∀ u ∈ T, u.a < (s.size : Int)) := fun u hu => by have := cut_lt s u (by rw [hc]; exact hu); exact this
  have HL : Hid (T.length ≤ 9000000) := by
    have := cut_cnt s
    rw [hc] at this
    show T.length ≤ 9000000
    simp only at this
    omega
  obtain ⟨RR, hRR⟩ : ∃ R, rlS (s.size : Int) T = R := ⟨_, rfl⟩
  have HRR := hm7 hRR
  rw [hRR]
  clear hc hE hf hRR
  go_enter Tryd.func9, Tryd.ntmps9
  go_upto_region 3 with (fail)
  have hr0 : RtS w ((w.alloc (.cells z8S 24)).alloc (.cells #[.int .i64 0, .int .i64 0] 27)) := ⟨BlkK.old w _ _ _, BlkK.new2 w _ _ _, below2K w _ _⟩
  have hz0 : ((w.alloc (.cells z8S 24)).alloc (.cells #[.int .i64 0, .int .i64 0] 27)).heap.size = w.heap.size + 2 := by simp
  simp only [z8S] at hr0 hz0
  revert hr0 hz0
  generalize (w.alloc _).alloc _ = W0
  intro hr0 hz0
  have HR0 := hm7 hr0
  have HZ0 := hm7 hz0
  have HQ0 := hm7 (HC.out W0 (HE.out.later hr0.b).env)
  have HE0 := hm7 (HE.out.later hr0.b)
  clear hr0 hz0
  go_upto_region 4 with (go_at_call 14; refine HQ0.out.mono ?_; rintro e' w1 ⟨v, rfl, hok, hbk⟩; have HR1 := hm7 (HR0.out.later hbk); have HK1 := hm7 hok.ks; have HE1 := hm7 (HE0.out.later hbk); have HS1 := hm7 hbk.size; clear hbk hok)
  have hbx := below1K w1 (.cells #[.int .i64 0, .int .i64 0] 27)
  have hfx := BlkK.new w1 #[.int .i64 0, .int .i64 0] 27
  revert hbx hfx
  generalize w1.alloc _ = W1
  intro hbx hfx
  have HR := hm7 (HR1.out.later hbx)
  have HKV := hm7 (HK1.out.later hbx)
  have HEV := hm7 (HE1.out.later hbx)
  have HSV := hm7 hbx.size
  obtain ⟨f0, f1⟩ := ft_cells hfx
  clear hbx hfx
  obtain ⟨va, vc, rfl, -⟩ := id HKV.out
  have HSA : Hid (Calls Tryd.prog 21 #[.slice va T.length vc, .int .i64 (s.size : Int)] W1 (RdQ W1 RR)) := by rw [← HRR.out]; exact saidA_any T _ _ W1 HKV.out HEV.out HL.out HX.out HP.out
  obtain ⟨d, b, e, p⟩ := RR
  have HSA2 : Hid (Calls Tryd.prog 21 #[.slice va T.length vc, .int .i64 (s.size : Int)] W1 fun en w' => ∃ a c, en = .returned (.tuple #[.agg #[.int .i64 d.k, .string d.who, .string d.too, .string d.tx, .slice a b.size c, .int .i64 d.n, .int .i64 d.m, .int .i64 d.q], .agg #[.int .i64 e, .int .i64 p]]) ∧ OwY w' W1.heap.size (.slice a b.size c) (blK b) ∧ Below W1.heap.size W1 w') := HSA.out
  clear HSA
  have HBS := hm7 (show w.heap.size + 2 ≤ W1.heap.size by have := HZ0.out; have := HS1.out; have := HSV.out; omega)
  go_upto_region 6 with (fail)
  go_wp2_with (go_at_call 21; refine HSA2.out.mono ?_; rintro en w2 ⟨qa, qc, rfl, hoy, hb2⟩; have HOY := hm7 hoy; have hr2 := HR.out.later hb2; have HR2 := hm7 hr2; obtain ⟨⟨c0, c1, c2, c3, c4, c5, c6, c7⟩, cf, d0, d1, df⟩ := hr2.cells; clear hoy hb2 hr2)
  obtain ⟨h1, h2, h3, h4⟩ := rtG HR2.out HBS.out d e p HOY.out
  exact endG rfl rfl rfl rfl h1 h2 h3 (by have := HBS.out; omega) h4
theorem aSRead_any (s : ByteArray) (hs : s.size ≤ 9000000) (w : World) (hE : EnS w) : Calls Tryd.prog 9 #[.string s] w (RdQ w (rdS s)) := by
  by_cases hz : 65536 < s.size
  · have e : rdS s = noS 251 0 := by unfold rdS; rw [if_pos hz]
    rw [e]
    exact aread_long s w hz
  · have hz2 : s.size ≤ 65536 := by omega
    rcases cut_all_ways s with ⟨e, p, hc, he, -, -⟩ | ⟨T, hc, hf⟩
    · have e2 : rdS s = noS e p := by unfold rdS; rw [if_neg hz, hc]; exact if_neg he
      rw [e2]
      exact aread_bad s w hz2 hE.env e p hc he
    · have e2 : rdS s = rlS s.size T := by unfold rdS; rw [if_neg hz, hc]; exact if_pos rfl
      rw [e2]
      exact aread_said s w hz2 hE T hc hf
end Go.Proofs.YtdfdnjkeiddfjaaDoor
