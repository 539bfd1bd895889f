/-
  hearsaylaw04.TokensBack: the walk.
-/
import Derived.Test.YtekjicklbgpdcaaDoorK34
namespace Go.Proofs.YtekjicklbgpdcaaDoor
open Go.RowKit

def spy (t : Tk) : Nat := ((spl t).getD ⟨#[]⟩).size + 1
theorem spy_le {t : Tk} (h : okt t) : spy t ≤ wt t := by
  unfold spy
  cases e : spl t with
  | none =>
    have h0 : (⟨#[]⟩ : ByteArray).size = 0 := rfl
    rw [Option.getD_none, h0]
    unfold wt; omega
  | some s => exact spl_size e h.2.1 h.2.2
theorem spy_sum : ∀ (l : List Tk), (∀ t ∈ l, okt t) → (l.map spy).sum ≤ wts l
  | [], _ => by simp [wts]
  | t :: l, h => by
    have h1 := spy_le (h t (by simp))
    have h2 := spy_sum l (fun u hu => h u (by simp [hu]))
    unfold wts at h2 ⊢
    simp only [List.map_cons, List.sum_cons]; omega
set_option maxRecDepth 20000 in
set_option maxHeartbeats 2000000 in
theorem back_any (l : List Tk) (v : Value) (w : World) (hv : KsO w v l) (hE : EnvOk w) (hok : ∀ t ∈ l, okt t) (hw : wts l ≤ 6291456) (hl : l.length ≤ 174762) :
    Calls Tryd.prog 8 #[v] w fun e w' => e = .returned (.bool true) ∧ Below w.heap.size w w' := by
  have HV : Hid (Ks w v l) := hv.ks
  have HE : Hid (EnvOk w) := hE
  have cc := copied_any l v w hv
  have ch := fun (X : World) (h : EnvOk X) => head_any X h
  have cj := fun (X : World) (u : Value) (h : Ks X u l) (hX : EnvOk X) => join_any l u X h hX hok (by omega) (by omega)
  obtain ⟨Z, hZ⟩ : ∃ Z, jz none l = Z := ⟨_, rfl⟩
  have hjn : jn l = Z := by unfold jn; rw [jnA_jz, hZ]; cases Z <;> rfl
  rw [hjn] at cj
  obtain ⟨AL, hAL⟩ : ∃ A, l.all (fun t => (spl t).isSome) = A := ⟨_, rfl⟩
  obtain ⟨ML, hML⟩ : ∃ M, (l.map spy).sum = M := ⟨_, rfl⟩
  have HAL0 : Hid (l.all (fun t => (spl t).isSome) = AL) := hAL
  have HML0 : Hid ((l.map spy).sum = ML) := hML
  have hsome : Z.isSome = AL := by rw [← hZ, ← hAL]; exact jz_some l none
  have hMLb : ML ≤ 6291456 := by have := spy_sum l hok; omega
  have HZ : Hid (jz none l = Z) := hZ
  have HOK : Hid (∀ t ∈ l, okt t) := hok
  obtain ⟨va, vc, rfl, -⟩ := hv.ks
  clear hv hE hok hjn hZ hAL hML hw
  go_enter Tryd.func8, Tryd.ntmps8
  go_upto_region 5 with (first
    | (go_at_call 22; refine cc.mono ?_; rintro e w1 ⟨v1, rfl, ho1, hb1⟩)
    | (go_at_call 21; refine (cj _ _ ho1.ks (HE.out.later hb1)).mono ?_; rintro e w2 ⟨rfl, hb2⟩))
  have HB2 : Hid (Below w.heap.size w w2) := below_step hb1 hb2
  clear hb1 hb2 ho1 cc cj
  go_loopg [5, 6, 7] l.length (fun g a m i wr => ∃ (j M : Nat) (A : Bool), j + g = l.length ∧ i = .int .i64 (j : Int) ∧ a = .bool A ∧ m = .int .i64 (M : Int) ∧ (A && (l.drop j).all (fun t => (spl t).isSome)) = AL ∧ M + ((l.drop j).map spy).sum = ML ∧ Below w.heap.size w wr)
  case atStart => exact ⟨0, 0, true, by omega, rfl, rfl, rfl, by rw [List.drop_zero, Bool.true_and]; exact HAL0.out, by rw [List.drop_zero]; have := HML0.out; omega, HB2.out⟩
  case round =>
    obtain ⟨j, M, A, hj, rfl, rfl, rfl, hA, hM, hbr⟩ := hrel
    have HBr : Hid (Below w.heap.size w wr) := hbr
    have HEr : Hid (EnvOk wr) := HE.out.later hbr
    cases gk with
    | succ g =>
      have hlt : j < l.length := by omega
      have i0 : (0 : Int) ≤ (j : Int) := by omega
      have i1 : (j : Int) < (l.length : Int) := by omega
      obtain ⟨t, ht⟩ : ∃ t, l[j]? = some t := ⟨_, List.getElem?_eq_getElem hlt⟩
      have hdr : l.drop j = t :: l.drop (j + 1) := by
        rw [List.drop_eq_getElem_cons hlt]
        rw [List.getElem?_eq_getElem hlt] at ht
        cases ht; rfl
      have hot := HOK.out t (List.mem_of_getElem? ht)
      have cs := fun (X : World) (h : EnvOk X) => spell_any t hot.1 hot.2.1 hot.2.2 X h
      rw [hdr, List.all_cons] at hA
      rw [hdr, List.map_cons, List.sum_cons] at hM
      have hsp : spy t = ((spl t).getD ⟨#[]⟩).size + 1 := rfl
      obtain ⟨a1, cap1, hva, hm1⟩ := HV.out.later hbr
      simp only [Value.slice.injEq, true_and] at hva
      obtain ⟨rfl, rfl⟩ := hva
      rcases hm1 with hm1 | ⟨b1, o1, rfl, hb1, hm1⟩
      · rw [hm1] at hlt; simp at hlt
      obtain ⟨c0, c1, c2, c3, c4⟩ := hm1 j t ht
      clear hm1 ht hdr hbr hot
      cases es : spl t with
      | none =>
        rw [es] at cs hsp hA
        simp only [Option.getD_none, Option.isSome_none] at cs hsp hA
        obtain ⟨tk, tx, tn, ta, te⟩ := t
        simp only at c0 c1 c2 c3 c4
        have hsz : (⟨#[]⟩ : ByteArray).size = 0 := rfl
        rw [hsz] at hsp
        have HM : Hid (M + 1 + ((l.drop (j + 1)).map spy).sum = ML) := by show _ = _; omega
        have HA : Hid ((false && (l.drop (j + 1)).all (fun t => (spl t).isSome)) = AL) := by show _ = _; rw [← hA]; cases A <;> rfl
        have hMb : M + 1 ≤ ML := by omega
        clear hA hM hsp hsz es
        cases A <;>
        · go_wp2_with (go_at_call 17; refine (cs _ HEr.out).mono ?_; rintro e w3 ⟨rfl, hb3⟩)
          go_roundg g
          case measure => omega
          case rel => exact ⟨j + 1, M + 1, false, by omega, by go_num, rfl, by go_num, HA.out, HM.out, below_step HBr.out hb3⟩
      | some s =>
        rw [es] at cs hsp hA
        simp only [Option.getD_some, Option.isSome_some, Bool.true_and] at cs hsp hA
        have hne := spl_ne es
        have hemp := isE s
        have hemp2 := strE s
        rw [decide_eq_false hne] at hemp hemp2
        obtain ⟨tk, tx, tn, ta, te⟩ := t
        simp only at c0 c1 c2 c3 c4
        have HM : Hid (M + s.size + 1 + ((l.drop (j + 1)).map spy).sum = ML) := by show _ = _; omega
        have HA : Hid ((A && (l.drop (j + 1)).all (fun t => (spl t).isSome)) = AL) := hA
        have hMb : M + s.size + 1 ≤ ML := by omega
        have hw1 : IntKind.i64.wrap ((M : Int) + (s.size : Int)) = (M : Int) + (s.size : Int) := by rw [IntKind.wrap_i64]; omega
        have hw2 : IntKind.i64.wrap ((M : Int) + (s.size : Int) + 1) = (M : Int) + (s.size : Int) + 1 := by rw [IntKind.wrap_i64]; omega
        clear hA hM hsp es hne
        cases A <;>
        · go_wp2_with (go_at_call 17; refine (cs _ HEr.out).mono ?_; rintro e w3 ⟨rfl, hb3⟩)
          go_roundg g
          case measure => omega
          case rel => exact ⟨j + 1, M + s.size + 1, _, by omega, by go_num, rfl, by go_num, HA.out, HM.out, below_step HBr.out hb3⟩
    | zero =>
      obtain rfl : j = l.length := by omega
      have hz : ¬ ((l.length : Int) < (l.length : Int)) := by omega
      rw [List.drop_length] at hA hM
      have hA2 : A = AL := by rw [← hA]; simp
      have hM2 : M = ML := by rw [← hM]; simp
      subst hA2 hM2
      clear hA hM hbr
      cases Z with
      | none =>
        obtain rfl : A = false := hsome.symm
        clear hsome
        have ho : ofL [] = ⟨#[]⟩ := rfl
        simp only [Option.getD_none, ho]
        go_wp2_with (go_at_call 14; refine (ch _ HEr.out).mono ?_; rintro e w3 ⟨rfl, hb3⟩)
        go_ret
        exact ⟨rfl, below_step HBr.out hb3⟩
      | some z =>
        obtain rfl : A = true := hsome.symm
        obtain ⟨T, hT, hTm⟩ := cut_back HZ.out HOK.out
        have hzl : (ofL z).size ≤ M := by
          have h1 := jz_len l none z HZ.out
          have h2 : (l.map spy).sum = M := HML0.out
          rw [ofL_size]
          exact Nat.le_trans h1 (Nat.le_of_eq h2)
        have hTl : T.length = l.length := by have := congrArg List.length hTm; simpa using this
        have ccut := fun (X : World) (h : EnvOk X) => cut_any (ofL z) (ofL z).size (by omega) X h
        rw [hT] at ccut
        have HTm : Hid (T.map Tk.bar = l.map Tk.bar) := hTm
        simp only [Option.getD_some]
        obtain ⟨S, hS⟩ : ∃ S, ofL z = S := ⟨_, rfl⟩
        rw [hS] at ccut hzl ⊢
        have hle : (S.size : Int) ≤ (M : Int) := by omega
        clear hsome hT hTm hS
        go_upto_region 17 with (first
          | (go_at_call 14; refine (ch _ HEr.out).mono ?_; rintro e w3 ⟨rfl, hb3⟩; have HB3 : Hid (Below w.heap.size w w3) := below_step HBr.out hb3; have HE3 : Hid (EnvOk w3) := HE.out.later HB3.out; clear hb3)
          | (go_at_call 13; refine (ccut _ HE3.out).mono ?_; rintro e w4 ⟨v4, rfl, ho4, hb4⟩))
        have bx := below1 w4 (.cells #[.int .i64 0, .int .i64 0] 27)
        have fx := Blk.new w4 #[.int .i64 0, .int .i64 0] 27
        have hk := (ho4.later bx).ks
        revert bx fx hk
        generalize w4.alloc (.cells #[.int .i64 0, .int .i64 0] 27) = W4
        intro bx fx hk
        have HB4 : Hid (Below w.heap.size w W4) := below_step (below_step HB3.out hb4) bx
        obtain ⟨b0, b1, -, -⟩ := two fx
        have ca := fun (X : World) (h : Below W4.heap.size W4 X) => alike_any T l v4 _ X (hk.later h) (HV.out.later (below_step HB4.out h)) HTm.out (by omega)
        clear bx fx ho4 hb4 ccut
        go_wp2_with (go_at_call 23; refine (ca _ (Below.refl _ _)).mono ?_; rintro e w5 ⟨rfl, hb5⟩)
        go_ret
        exact ⟨rfl, below_step HB4.out hb5⟩
end Go.Proofs.YtekjicklbgpdcaaDoor
