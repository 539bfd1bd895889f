/-
  hearsaylaw04.TokensAgain: the walk.
-/
import Derived.Test.YtekjicklbgpdcabDoorK34
import Derived.Test.YtekjicklbgpdcabDoorK37
namespace Go.Proofs.YtekjicklbgpdcabDoor
open Go.RowKit

/-- What Cut answers, and what its tokens are joined to. -/
theorem again_plain (s : ByteArray) (hs : s.size ≤ 1048576) : (∃ e p, cutL (bl s) s.size = ([], e, p) ∧ ¬ e = 0) ∨
    ∃ T z T', cutL (bl s) s.size = (T, 0, 0) ∧ (∀ t ∈ T, okt t) ∧ wts T ≤ 40000000 ∧ T.length ≤ 1048576 ∧ jz none T = some z ∧ z.length ≤ 5242880 ∧ cutL (bl (ofL z)) (ofL z).size = (T', 0, 0) ∧ T'.map Tk.bar = T.map Tk.bar := by
  rw [cutL_all]
  have hh := ct_has (s.size + 1) (bl s) 0 [] 1048576 (bl_byt s) (by rw [bl_len]; exact hs) (fun t ht => by simp at ht)
  rw [bl_len] at hh
  rcases ct_ends (s.size + 1) (bl s) 0 [] with ⟨e, p, h, he⟩ | ⟨T, h⟩
  · exact Or.inl ⟨e, p, h, he⟩
  · right
    rw [h] at hh
    simp only [List.map_nil, List.sum_nil, wts, List.length_nil] at hh
    obtain ⟨h1, h2, h3, h4⟩ := hh
    have ho : ∀ t ∈ T, okt t := fun t ht => ⟨by have := (h1 t ht).2.1; omega, (h1 t ht).2.2.1, (h1 t ht).2.2.2⟩
    have hall : T.all (fun t => (spl t).isSome) = true := by rw [List.all_eq_true]; exact fun t ht => (h1 t ht).1
    have hj := jz_some T none
    rw [hall] at hj
    obtain ⟨z, hz⟩ := Option.isSome_iff_exists.1 hj
    obtain ⟨T', hT', hm⟩ := cut_back hz ho
    refine ⟨T, z, T', h, ho, by unfold wts; omega, by omega, hz, ?_, hT', hm⟩
    have := jz_len T none z hz
    have e : (T.map fun t => ((spl t).getD ⟨#[]⟩).size + 1) = T.map spz := rfl
    rw [e] at this
    omega
set_option maxRecDepth 20000 in
set_option maxHeartbeats 2000000 in
theorem again_any (s : ByteArray) (hs : s.size ≤ 1048576) (w : World) (hE : EnvOk w) :
    Calls Tryd.prog 3 #[.string s] w fun e w' => e = .returned (.bool true) ∧ Below w.heap.size w w' := by
  have HE : Hid (EnvOk w) := hE
  have ch := fun (X : World) (h : EnvOk X) => head_any X h
  have cc := cut_any s s.size (by omega) w hE
  rcases again_plain s hs with ⟨e, p, h, he⟩ | ⟨T, z, T', hT, ho, hwt, hl, hz, hzl, hT', hm⟩
  · rw [h] at cc
    have n1 : (e == 0) = false := beq_eq_false_iff_ne.2 he
    have n2 : (e != 0) = true := by rw [bne, n1]; rfl
    clear h hE
    go_enter Tryd.func3, Tryd.ntmps3
    go_upto_region 2 with (go_at_call 8; refine cc.mono ?_; rintro x w1 ⟨v1, rfl, ho1, hb1⟩)
    obtain ⟨a1, c1, rfl⟩ : ∃ a cap, v1 = .slice a 0 cap := by
      obtain ⟨a, cap, hv, -⟩ := ho1.ks
      exact ⟨a, cap, hv⟩
    have bx := below1 w1 (.cells #[.int .i64 e, .int .i64 p] 25)
    have fx := Blk.new w1 #[.int .i64 e, .int .i64 p] 25
    revert bx fx
    generalize w1.alloc (.cells #[.int .i64 e, .int .i64 p] 25) = W1
    intro bx fx
    have HB1 : Hid (Below w.heap.size w W1) := below_step hb1 bx
    have HF1 : Hid (Blk W1 w1.heap.size #[.int .i64 e, .int .i64 p] 25) := fx
    clear bx fx ho1 hb1 cc he
    go_wp2_with (go_at_call 9; refine (ch _ (HE.out.later HB1.out)).mono ?_; rintro x w2 ⟨rfl, hb2⟩; obtain ⟨b0, b1, -, -⟩ := two (HF1.out.later hb2))
    go_ret
    exact ⟨rfl, below_step HB1.out hb2⟩
  · rw [hT] at cc
    have hll : T'.length = T.length := by have := congrArg List.length hm; simpa using this
    have hjn : jn T = some z := by unfold jn; rw [jnA_jz, hz]; rfl
    have hjn' : jn T' = some z := by unfold jn; rw [jnA_jz, jz_same hm, hz]; rfl
    have ho' : ∀ t ∈ T', okt t := bar_all (fun t => Iff.rfl) hm ho
    have hw' : wts T' ≤ 40000000 := by rw [wts_bar hm]; exact hwt
    have cj := fun (X : World) (u : Value) (h : Ks X u T) (hX : EnvOk X) => join_any T u X h hX ho (by omega) (by omega)
    have cj' := fun (X : World) (u : Value) (h : Ks X u T') (hX : EnvOk X) => join_any T' u X h hX ho' (by omega) (by omega)
    rw [hjn] at cj
    rw [hjn'] at cj'
    have ccut := fun (X : World) (h : EnvOk X) => cut_any (ofL z) (ofL z).size (by rw [ofL_size]; omega) X h
    rw [hT'] at ccut
    simp only [Option.getD_some, Option.isSome_some] at cj cj'
    obtain ⟨S, hS⟩ : ∃ S, ofL z = S := ⟨_, rfl⟩
    rw [hS] at cj cj' ccut
    have HM : Hid (T'.map Tk.bar = T.map Tk.bar) := hm
    have e1 := str_dec S S
    rw [decide_eq_true rfl] at e1
    clear hT hT' hjn hjn' ho ho' hw' hwt hz hm hS hE
    go_enter Tryd.func3, Tryd.ntmps3
    go_upto_region 2 with (go_at_call 8; refine cc.mono ?_; rintro x w1 ⟨v1, rfl, ho1, hb1⟩)
    have bx := below1 w1 (.cells #[.int .i64 0, .int .i64 0] 25)
    have fx := Blk.new w1 #[.int .i64 0, .int .i64 0] 25
    have hk1 := ho1.later bx
    revert bx fx hk1
    generalize w1.alloc (.cells #[.int .i64 0, .int .i64 0] 25) = W1
    intro bx fx hk1
    have HB1 : Hid (Below w.heap.size w W1) := below_step hb1 bx
    have HF1 : Hid (Blk W1 w1.heap.size #[.int .i64 0, .int .i64 0] 25) := fx
    have HK1 : Hid (OwnK W1 w.heap.size v1 T) := hk1
    clear bx fx ho1 hb1 hk1 cc
    go_upto_region 6 with (go_at_call 9; refine (ch _ (HE.out.later HB1.out)).mono ?_; rintro x w2 ⟨rfl, hb2⟩; obtain ⟨b0, b1, -, -⟩ := two (HF1.out.later hb2))
    have HB2 : Hid (Below w.heap.size w w2) := below_step HB1.out hb2
    have HK2 : Hid (OwnK w2 w.heap.size v1 T) := HK1.out.later hb2
    clear b0 b1 hb2 HK1 HF1 HB1 ch
    have cp2 := fun (X : World) (h : Below w2.heap.size w2 X) => copied_any T v1 X ((HK2.out.kso (by omega)).later h)
    go_upto_region 9 with (first
      | (go_at_call 11; refine (cp2 _ (Below.refl _ _)).mono ?_; rintro x w3 ⟨v3, rfl, ho3, hb3⟩)
      | (go_at_call 10; refine (cj _ _ ho3.ks (HE.out.later (below_step HB2.out hb3))).mono ?_; rintro x w4 ⟨rfl, hb4⟩))
    have HB4 : Hid (Below w.heap.size w w4) := below_step (below_step HB2.out hb3) hb4
    have HK4 : Hid (Ks w4 v1 T) := ((HK2.out.later hb3).later hb4).ks
    clear hb3 hb4 ho3 cj cp2 HK2 HB2
    go_upto_region 10 with (go_at_call 8; refine (ccut _ (HE.out.later HB4.out)).mono ?_; rintro x w5 ⟨v5, rfl, ho5, hb5⟩)
    have bx := below1 w5 (.cells #[.int .i64 0, .int .i64 0] 25)
    have fx := Blk.new w5 #[.int .i64 0, .int .i64 0] 25
    have hk5 := ho5.later bx
    revert bx fx hk5
    generalize w5.alloc (.cells #[.int .i64 0, .int .i64 0] 25) = W5
    intro bx fx hk5
    have h45 := below_step hb5 bx
    have HB5 : Hid (Below w.heap.size w W5) := below_step HB4.out h45
    have HF5 : Hid (Blk W5 w5.heap.size #[.int .i64 0, .int .i64 0] 25) := fx
    have HK5 : Hid (OwnK W5 w4.heap.size v5 T') := hk5
    have HT5 : Hid (Ks W5 v1 T) := HK4.out.later h45
    clear bx fx ho5 hb5 hk5 h45 ccut HK4 HB4
    have cp5 := copied_any T' v5 W5 (HK5.out.kso (by omega))
    go_upto_region 11 with (first
      | (go_at_call 11; refine cp5.mono ?_; rintro x w6 ⟨v6, rfl, ho6, hb6⟩)
      | (go_at_call 10; refine (cj' _ _ ho6.ks (HE.out.later (below_step HB5.out hb6))).mono ?_; rintro x w7 ⟨rfl, hb7⟩))
    have h57 := below_step hb6 hb7
    have HB7 : Hid (Below w.heap.size w w7) := below_step HB5.out h57
    have HK7 : Hid (Ks w7 v5 T') := (HK5.out.later h57).ks
    have HT7 : Hid (Ks w7 v1 T) := HT5.out.later h57
    obtain ⟨b0, b1, -, -⟩ := two (HF5.out.later h57)
    clear h57 hb6 hb7 ho6 cp5 cj' HK5 HT5 HB5 HF5
    go_wp2_with (go_at_call 12; refine (alike_any T' T v5 v1 _ HK7.out HT7.out HM.out (by omega)).mono ?_; rintro x w8 ⟨rfl, hb8⟩)
    go_ret
    exact ⟨rfl, below_step HB7.out hb8⟩
end Go.Proofs.YtekjicklbgpdcabDoor
