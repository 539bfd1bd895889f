/-
  hearsaylaw02.TermMakes, for every two atoms and every binding that are not too long.
-/
import Derived.Test.YtlojgaigbdnjjaaBK
import Derived.Test.YtlojgaigbdnjjaaS2
import Derived.Test.YtlojgaigbdnjjaaV2
import Derived.Test.YtlojgaigbdnjjaaP2
import Derived.Test.YtlojgaigbdnjjaaA1
import Derived.Test.YtlojgaigbdnjjaaO2
import Derived.Test.YtlojgaigbdnjjaaB9
import Derived.Deep.CutBlock
namespace Go.Proofs.Ytlojgaigbdnjjaa
open Go.RowKit
attribute [local go_sem ↓] Go.wp_at_zero Go.wp_at_succ

/-- What Match answered: m and b. -/
def MI (W : World) (base : Nat) (p a : At) (s : List Bd) (m : Value) (b : Bool) : Prop :=
  (b = false ∧ m = .slice none 0 0 ∧ mRes p a s = none) ∨ (b = true ∧ ∃ out out', mRes p a s = some out ∧ out'.Perm out ∧ srt out' ∧ Own W base m out')
theorem MI.later {W W' : World} {base : Nat} {p a : At} {s : List Bd} {m : Value} {b : Bool} (h : MI W base p a s m b) (hb : Below W.heap.size W W') : MI W' base p a s m b := by
  rcases h with h | ⟨h0, out, out', h1, h2, h3, h4⟩
  · exact Or.inl h
  · exact Or.inr ⟨h0, out, out', h1, h2, h3, h4.later hb⟩
theorem mi_of {w w' : World} {p a : At} {s : List Bd} {e : Ending} (h : MPost w (mRes p a s) e w') : ∃ m b, e = .returned (.tuple #[m, .bool b]) ∧ MI w' w.heap.size p a s m b ∧ Below w.heap.size w w' := by
  obtain ⟨hb, h⟩ := h
  cases hr : mRes p a s with
  | none => rw [hr] at h; exact ⟨_, _, h, Or.inl ⟨rfl, rfl, hr⟩, hb⟩
  | some out =>
    rw [hr] at h
    obtain ⟨v', out', he, ho, hp, hs⟩ := h
    exact ⟨_, _, he, Or.inr ⟨rfl, out, out', hr, hp, hs, ho⟩, hb⟩
theorem match_mi (p a : At) (s : List Bd) (x y v : Value) (w : World) (hx : Ts w x p.args) (hy : Ts w y a.args) (hv : Bs w v s) (hlen : s.length + p.args.length + 1 ≤ 1000000000000) :
    Calls Try.prog 11 #[p.v x, a.v y, v] w fun e w' => ∃ m b, e = .returned (.tuple #[m, .bool b]) ∧ MI w' w.heap.size p a s m b ∧ Below w.heap.size w w' :=
  (match_all p a s x y v w hx hy hv hlen).mono fun _ _ h => mi_of h
theorem made_of {p a : At} {s out out' : List Bd} (h : mRes p a s = some out) (hp : out'.Perm out) : p.made out' = a := by
  obtain ⟨h1, h2, -⟩ := mRes_makes p a s out out' h hp
  obtain ⟨b, n, l⟩ := a
  obtain ⟨b', n', l'⟩ := p
  simp only [At.pl, List.map_cons, List.cons.injEq] at h1
  simp only at h2
  simp only [At.made, h1.1, h1.2, h2]
theorem says_of {p a : At} {s out out' : List Bd} (h : mRes p a s = some out) (hp : out'.Perm out) (d : Bd) (hd : d ∈ s) : sayT out' d.x = sayT s d.x := by
  unfold sayT; rw [mRes_says p a s out out' h hp d hd]
theorem mi_len {p a : At} {s out out' : List Bd} (h : mRes p a s = some out) (hp : out'.Perm out) (hlen : s.length + p.args.length + 1 ≤ 1000000000000) : out'.length < 1000000000000000000 := by
  have := mRes_len p a s out h
  rw [hp.length_eq]; omega
theorem mi_found {W : World} {base : Nat} {p a : At} {s0 out : List Bd} {m : Value} {b : Bool} (h : MI W base p a s0 m b) (ho : mRes p a s0 = some out) (hn : nd out) :
    b = true ∧ ∃ out', Own W base m out' ∧ out'.length = out.length ∧ ∀ x, sayT out' x = sayT out x := by
  rcases h with ⟨-, -, h⟩ | ⟨hb, o1, out', h1, h2, -, h4⟩
  · rw [ho] at h; cases h
  · rw [ho] at h1
    cases h1
    exact ⟨hb, out', h4, h2.length_eq, fun x => by unfold sayT; rw [look_perm hn h2]⟩
theorem mi_none {W : World} {base : Nat} {p a : At} {s0 : List Bd} {m : Value} {b : Bool} (h : MI W base p a s0 m b) (ho : mRes p a s0 = none) : b = false := by
  rcases h with ⟨h, -⟩ | ⟨-, o1, out', h1, -⟩
  · exact h
  · rw [ho] at h1; cases h1
theorem found_one (s : List Bd) (p : At) (h : ¬ (p.by_.var = true ∧ (p.made s).by_.k = 0)) : ∃ out, mRes p (p.made s) [] = some out ∧ nd out ∧ out.length = (vs p.pl).length ∧ ∀ x ∈ vs p.pl, sayT out x = sayT s x := by
  obtain ⟨out, h1, h2, h3, h4⟩ := made_found s [] p h (under_nil s)
  refine ⟨out, h1, h2, ?_, h4⟩
  have := congrArg List.length h3
  simpa [fb, vs] using this
theorem found_two (s : List Bd) (p : At) (h : ¬ (p.by_.var = true ∧ (p.made s).by_.k = 0)) : ∃ out, mRes p (p.made s) s = some out ∧ nd out ∧ ∀ x ∈ vs p.pl, sayT out x = sayT s x := by
  obtain ⟨out, h1, h2, -, h4⟩ := made_found s s p h (under_fb s)
  exact ⟨out, h1, h2, h4⟩
theorem bs_nil (w : World) : Bs w (.slice none 0 0) [] := ⟨none, 0, rfl, by simp, Or.inl rfl⟩

set_option maxRecDepth 20000 in
set_option maxHeartbeats 4000000 in
theorem makes_any (p a : At) (s : List Bd) (x y v : Value) (w : World) (hx : Ts w x p.args) (hy : Ts w y a.args) (hv : Bs w v s) (hlen : s.length + p.args.length + 1 ≤ 1000000000000) :
    Calls Try.prog 4 #[p.v x, a.v y, v] w fun e w' => e = .returned (.bool true) ∧ Below w.heap.size w w' := by
  have m1 := fun (X : World) (h : Below w.heap.size w X) => match_mi p a s x y v X (hx.later h) (hy.later h) (hv.later h) hlen
  have ap : ∀ X, Below w.heap.size w X → Calls Try.prog 17 #[v, p.v x] X fun e w' => ∃ z, e = .returned ((p.made s).v z) ∧ Ts w' z (p.made s).args ∧ Below X.heap.size X w' := fun X h => apply_any s v p x X (hv.later h) (hx.later h) (by omega)
  have m2 := fun (X : World) (z : Value) (h : Below w.heap.size w X) (hz : Ts X z (p.made s).args) => match_mi p (p.made s) [] x z (.slice none 0 0) X (hx.later h) hz (bs_nil _) (by simp; omega)
  have m3 := fun (X : World) (z : Value) (h : Below w.heap.size w X) (hz : Ts X z (p.made s).args) => match_mi p (p.made s) s x z v X (hx.later h) hz (hv.later h) hlen
  have v1 := fun (X : World) (h : Below w.heap.size w X) => vars_any p x X (hx.later h) (by omega)
  have hbp : p.args.length + s.length + 1 ≤ 1000000000000 := by omega
  obtain ⟨⟨k, n, ss⟩, nm, l⟩ := p
  obtain ⟨⟨k', n', ss'⟩, nm', l'⟩ := a
  obtain ⟨⟨⟨mk, mn, mz⟩, mm, ml⟩, hM⟩ : ∃ M, At.made s ⟨⟨k, n, ss⟩, nm, l⟩ = M := ⟨_, rfl⟩
  rw [hM] at ap m2 m3
  simp only at hx hy hlen hbp
  have HM1 : Hid _ := m1
  have HAP : Hid _ := ap
  have HM2 : Hid _ := m2
  have HM3 : Hid _ := m3
  have HV1 : Hid _ := v1
  have HX : Hid (Ts w x l) := hx
  have HY : Hid (Ts w y l') := hy
  have HV : Hid (Bs w v s) := hv
  have HM : Hid (At.made s ⟨⟨k, n, ss⟩, nm, l⟩ = ⟨⟨mk, mn, mz⟩, mm, ml⟩) := hM
  clear m1 ap m2 m3 v1 hx hy hM
  obtain ⟨ad, cap, rfl, hsl, hrow⟩ := hv
  have HRow : Hid (s = [] ∨ ∃ b o, ad = some ⟨b, o, none⟩ ∧ BRow w b o s) := hrow
  clear hrow hsl
  go_enter Try.func4, Try.ntmps4
  go_upto_region 2 with (go_at_call 11; refine (HM1.out _ (below2 _ _ _)).mono ?_; rintro e W ⟨m, is, rfl, hmi, hb1⟩)
  have BP : Hid (Blk W w.heap.size #[.int .i64 k, .int .i64 n, .string ss, .string nm, x] 26) := (Blk.old _ _ _ _).later hb1
  have BA : Hid (Blk W (w.heap.size + 1) #[.int .i64 k', .int .i64 n', .string ss', .string nm', y] 26) := (Blk.new2 _ _ _ _).later hb1
  have BW : Hid (Below w.heap.size w W) := below_step (below2 _ _ _) hb1
  have MIH : Hid (MI W _ _ _ s m is) := hmi
  clear hb1 hmi HM1
  go_cut [39] from 26 to 39 (fun s39 wx => s39 = .bool false ∧ Below W.heap.size W wx)
  case first =>
    rcases MIH.out with ⟨rfl, rfl, hn⟩ | ⟨rfl, out, out', h1, hp, hs, ho⟩
    · clear MIH hn
      refine wp_region_held_drew (S := fun w' => Below W.heap.size W w') (by kernel_rfl) (Below.refl _ _).drew (fun hH => ?_)
      revert hH
      generalize W.drew = V
      intro hH
      refine wpAnyH_take (i := 0) (oi := ⟨_, _, _, _, _, _⟩) (v := .bool false) rfl (by kernel_rfl) (by kernel_rfl) (by kernel_rfl) (fun _ _ _ h => h) (Or.inl ⟨by rfl, fun w' _ => by go_simp⟩) hH ?_
      simp only [Act.put, List.setIfInBounds_toArray, List.set_cons_zero, List.set_cons_succ]
      refine wpAnyH_take (i := 1) (oi := ⟨_, _, _, _, _, _⟩) (v := .bool false) rfl (by kernel_rfl) (by kernel_rfl) (by kernel_rfl) (fun _ _ _ h => h) (Or.inl ⟨by rfl, fun w' _ => by go_simp⟩) hH ?_
      simp only [Act.put, List.setIfInBounds_toArray, List.set_cons_zero, List.set_cons_succ]
      refine wpAnyH_take (i := 2) (oi := ⟨_, _, _, _, _, _⟩) (v := undef) rfl (by kernel_rfl) (by kernel_rfl) (by kernel_rfl) (fun _ _ _ h => h) (Or.inr ⟨by rfl, rfl⟩) hH ?_
      simp only [Act.put, List.setIfInBounds_toArray, List.set_cons_zero, List.set_cons_succ]
      refine wpAnyH_take (i := 3) (oi := ⟨_, _, _, _, _, _⟩) (v := undef) rfl (by kernel_rfl) (by kernel_rfl) (by kernel_rfl) (fun _ _ _ h => h) (Or.inr ⟨by rfl, rfl⟩) hH ?_
      simp only [Act.put, List.setIfInBounds_toArray, List.set_cons_zero, List.set_cons_succ]
      refine wpAnyH_take (i := 4) (oi := ⟨_, _, _, _, _, _⟩) (v := undef) rfl (by kernel_rfl) (by kernel_rfl) (by kernel_rfl) (fun _ _ _ h => h) (Or.inr ⟨by rfl, rfl⟩) hH ?_
      simp only [Act.put, List.setIfInBounds_toArray, List.set_cons_zero, List.set_cons_succ]
      refine wpAnyH_take (i := 5) (oi := ⟨_, _, _, _, _, _⟩) (v := undef) rfl (by kernel_rfl) (by kernel_rfl) (by kernel_rfl) (fun _ _ _ h => h) (Or.inr ⟨by rfl, rfl⟩) hH ?_
      simp only [Act.put, List.setIfInBounds_toArray, List.set_cons_zero, List.set_cons_succ]
      refine wpAnyH_take (i := 6) (oi := ⟨_, _, _, _, _, _⟩) (v := undef) rfl (by kernel_rfl) (by kernel_rfl) (by kernel_rfl) (fun _ _ _ h => h) (Or.inr ⟨by rfl, rfl⟩) hH ?_
      simp only [Act.put, List.setIfInBounds_toArray, List.set_cons_zero, List.set_cons_succ]
      refine wpAnyH_take (i := 7) (oi := ⟨_, _, _, _, _, _⟩) (v := undef) rfl (by kernel_rfl) (by kernel_rfl) (by kernel_rfl) (fun _ _ _ h => h) (Or.inr ⟨by rfl, rfl⟩) hH ?_
      simp only [Act.put, List.setIfInBounds_toArray, List.set_cons_zero, List.set_cons_succ]
      refine wpAnyH_take (i := 8) (oi := ⟨_, _, _, _, _, _⟩) (v := undef) rfl (by kernel_rfl) (by kernel_rfl) (by kernel_rfl) (fun _ _ _ h => h) (Or.inr ⟨by rfl, rfl⟩) hH ?_
      simp only [Act.put, List.setIfInBounds_toArray, List.set_cons_zero, List.set_cons_succ]
      refine wpAnyH_take (i := 9) (oi := ⟨_, _, _, _, _, _⟩) (v := undef) rfl (by kernel_rfl) (by kernel_rfl) (by kernel_rfl) (fun _ _ _ h => h) (Or.inr ⟨by rfl, rfl⟩) hH ?_
      simp only [Act.put, List.setIfInBounds_toArray, List.set_cons_zero, List.set_cons_succ]
      refine wpAnyH_take (i := 10) (oi := ⟨_, _, _, _, _, _⟩) (v := undef) rfl (by kernel_rfl) (by kernel_rfl) (by kernel_rfl) (fun _ _ _ h => h) (Or.inr ⟨by rfl, rfl⟩) hH ?_
      simp only [Act.put, List.setIfInBounds_toArray, List.set_cons_zero, List.set_cons_succ]
      refine wpAnyH_take (i := 11) (oi := ⟨_, _, _, _, _, _⟩) (v := undef) rfl (by kernel_rfl) (by kernel_rfl) (by kernel_rfl) (fun _ _ _ h => h) (Or.inr ⟨by rfl, rfl⟩) hH ?_
      simp only [Act.put, List.setIfInBounds_toArray, List.set_cons_zero, List.set_cons_succ]
      refine wpAnyH_take (i := 12) (oi := ⟨_, _, _, _, _, _⟩) (v := undef) rfl (by kernel_rfl) (by kernel_rfl) (by kernel_rfl) (fun _ _ _ h => h) (Or.inr ⟨by rfl, rfl⟩) hH ?_
      simp only [Act.put, List.setIfInBounds_toArray, List.set_cons_zero, List.set_cons_succ]
      refine wpAnyH_take (i := 13) (oi := ⟨_, _, _, _, _, _⟩) (v := .bool false) rfl (by kernel_rfl) (by kernel_rfl) (by kernel_rfl) (fun _ _ _ h => h) (Or.inl ⟨by rfl, fun w' _ => by go_simp⟩) hH ?_
      simp only [Act.put, List.setIfInBounds_toArray, List.set_cons_zero, List.set_cons_succ]
      refine wpAnyH_done (by kernel_rfl) ?_ _
      go_wp2_with fail
      go_meet
      case rel => exact ⟨rfl, hH⟩
    · have hln := mi_len h1 hp hlen
      have hri := srt_rising (mRes_makes _ _ _ _ _ h1 hp).2.2 hs
      have hap : ∀ X, Below W.heap.size W X → Calls Try.prog 17 #[m, At.v ⟨⟨k, n, ss⟩, nm, l⟩ x] X fun e w' => ∃ z, e = .returned (At.v ⟨⟨k', n', ss'⟩, nm', l'⟩ z) ∧ Ts w' z l' ∧ Below X.heap.size X w' := fun X h => by
        have := apply_any out' m ⟨⟨k, n, ss⟩, nm, l⟩ x X ((ho.later h).bs hln) (HX.out.later (below_step (Hid.out BW) h)) (by simp only; omega)
        rw [show At.mk (become out' (Tm.mk k n ss)) nm (l.map (become out')) = _ from made_of h1 hp] at this
        rw [show l.map (become out') = l' from congrArg At.args (made_of h1 hp)] at this
        exact this
      have hsm : ∀ X z, Below W.heap.size W X → Ts X z l' → Calls Try.prog 16 #[At.v ⟨⟨k', n', ss'⟩, nm', l'⟩ z, At.v ⟨⟨k', n', ss'⟩, nm', l'⟩ y] X fun e w' => e = .returned (.bool true) ∧ Below X.heap.size X w' := fun X z h hz => by
        have := same_any ⟨⟨k', n', ss'⟩, nm', l'⟩ ⟨⟨k', n', ss'⟩, nm', l'⟩ z y X hz (HY.out.later (below_step (Hid.out BW) h))
        rw [decide_eq_true rfl] at this
        exact this
      clear h1 hp hs
      refine wp_region_held_drew (S := fun w' => Below W.heap.size W w') (by kernel_rfl) (Below.refl _ _).drew (fun hH => ?_)
      revert hH
      generalize W.drew = V
      intro hH
      refine wpAnyH_take (i := 0) (oi := ⟨_, _, _, _, _, _⟩) (v := .bool true) rfl (by kernel_rfl) (by kernel_rfl) (by kernel_rfl) (fun _ _ _ h => h) (Or.inl ⟨by rfl, fun w' _ => by go_simp⟩) hH ?_
      simp only [Act.put, List.setIfInBounds_toArray, List.set_cons_zero, List.set_cons_succ]
      refine wpAnyH_take (i := 1) (oi := ⟨_, _, _, _, _, _⟩) (v := .bool true) rfl (by kernel_rfl) (by kernel_rfl) (by kernel_rfl) (fun _ _ _ h => h) (Or.inl ⟨by rfl, fun w' _ => by go_simp⟩) hH ?_
      simp only [Act.put, List.setIfInBounds_toArray, List.set_cons_zero, List.set_cons_succ]
      refine wpAnyH_take (i := 2) (oi := ⟨_, _, _, _, _, _⟩) (v := m) rfl (by kernel_rfl) (by kernel_rfl) (by kernel_rfl) (fun _ _ _ h => h) (Or.inl ⟨by rfl, fun w' _ => by go_simp⟩) hH ?_
      simp only [Act.put, List.setIfInBounds_toArray, List.set_cons_zero, List.set_cons_succ]
      refine wpAnyH_ready (rs := [3]) (by kernel_rfl) (by simp) ?_
      refine (AllReadyH.cons (o := ⟨_, _, _, _, _, _⟩) rfl (fun K hK => ?_) AllReadyH.nil)
      go_simp
      refine (rising_any out' m _ ((ho.later hH).bs (by omega)) hri).mono ?_
      rintro e V1 ⟨rfl, hb1⟩
      refine hK.out _ _ (below_step hH hb1) (fun hH => ?_)
      clear hK K
      refine wpAnyH_take (i := 4) (oi := ⟨_, _, _, _, _, _⟩) (v := .bool false) rfl (by kernel_rfl) (by kernel_rfl) (by kernel_rfl) (fun _ _ _ h => h) (Or.inl ⟨by rfl, fun w' _ => by go_simp⟩) hH ?_
      simp only [Act.put, List.setIfInBounds_toArray, List.set_cons_zero, List.set_cons_succ]
      refine wpAnyH_take (i := 5) (oi := ⟨_, _, _, _, _, _⟩) (v := .bool false) rfl (by kernel_rfl) (by kernel_rfl) (by kernel_rfl) (fun _ _ _ h => h) (Or.inl ⟨by rfl, fun w' _ => by go_simp⟩) hH ?_
      simp only [Act.put, List.setIfInBounds_toArray, List.set_cons_zero, List.set_cons_succ]
      refine wpAnyH_take (i := 6) (oi := ⟨_, _, _, _, _, _⟩) (v := m) rfl (by kernel_rfl) (by kernel_rfl) (by kernel_rfl) (fun _ _ _ h => h) (Or.inl ⟨by rfl, fun w' _ => by go_simp⟩) hH ?_
      simp only [Act.put, List.setIfInBounds_toArray, List.set_cons_zero, List.set_cons_succ]
      refine wpAnyH_take (i := 7) (oi := ⟨_, _, _, _, _, _⟩) (v := .agg #[.int .i64 k, .int .i64 n, .string ss, .string nm, x]) rfl (by kernel_rfl) (by kernel_rfl) (by kernel_rfl) (fun _ _ _ h => h) (Or.inl ⟨by rfl, fun w' h => by obtain ⟨p0, p1, p2, p3, p4⟩ := five (Hid.out BP); have z := Blk.lt (Hid.out BP); have a0 := cell_step h z p0; have a1 := cell_step h z p1; have a2 := cell_step h z p2; have a3 := cell_step h z p3; have a4 := cell_step h z p4; clear p0 p1 p2 p3 p4; go_simp⟩) hH ?_
      simp only [Act.put, List.setIfInBounds_toArray, List.set_cons_zero, List.set_cons_succ]
      refine wpAnyH_take (i := 9) (oi := ⟨_, _, _, _, _, _⟩) (v := .agg #[.int .i64 k', .int .i64 n', .string ss', .string nm', y]) rfl (by kernel_rfl) (by kernel_rfl) (by kernel_rfl) (fun _ _ _ h => h) (Or.inl ⟨by rfl, fun w' h => by obtain ⟨p0, p1, p2, p3, p4⟩ := five (Hid.out BA); have z := Blk.lt (Hid.out BA); have a0 := cell_step h z p0; have a1 := cell_step h z p1; have a2 := cell_step h z p2; have a3 := cell_step h z p3; have a4 := cell_step h z p4; clear p0 p1 p2 p3 p4; go_simp⟩) hH ?_
      simp only [Act.put, List.setIfInBounds_toArray, List.set_cons_zero, List.set_cons_succ]
      refine wpAnyH_ready (rs := [8]) (by kernel_rfl) (by simp) ?_
      refine (AllReadyH.cons (o := ⟨_, _, _, _, _, _⟩) rfl (fun K hK => ?_) AllReadyH.nil)
      go_simp
      refine (hap _ hH).mono ?_
      rintro e V2 ⟨z, rfl, tz, hb2⟩
      refine hK.out _ _ (below_step hH hb2) (fun hH => ?_)
      clear hK K
      refine wpAnyH_ready (rs := [10]) (by kernel_rfl) (by simp) ?_
      refine (AllReadyH.cons (o := ⟨_, _, _, _, _, _⟩) rfl (fun K hK => ?_) AllReadyH.nil)
      go_simp
      refine (hsm _ z hH tz).mono ?_
      rintro e V3 ⟨rfl, hb3⟩
      refine hK.out _ _ (below_step hH hb3) (fun hH => ?_)
      clear hK K
      refine wpAnyH_take (i := 11) (oi := ⟨_, _, _, _, _, _⟩) (v := .bool false) rfl (by kernel_rfl) (by kernel_rfl) (by kernel_rfl) (fun _ _ _ h => h) (Or.inl ⟨by rfl, fun w' _ => by go_simp⟩) hH ?_
      simp only [Act.put, List.setIfInBounds_toArray, List.set_cons_zero, List.set_cons_succ]
      refine wpAnyH_take (i := 12) (oi := ⟨_, _, _, _, _, _⟩) (v := .bool false) rfl (by kernel_rfl) (by kernel_rfl) (by kernel_rfl) (fun _ _ _ h => h) (Or.inl ⟨by rfl, fun w' _ => by go_simp⟩) hH ?_
      simp only [Act.put, List.setIfInBounds_toArray, List.set_cons_zero, List.set_cons_succ]
      refine wpAnyH_take (i := 13) (oi := ⟨_, _, _, _, _, _⟩) (v := .bool false) rfl (by kernel_rfl) (by kernel_rfl) (by kernel_rfl) (fun _ _ _ h => h) (Or.inl ⟨by rfl, fun w' _ => by go_simp⟩) hH ?_
      simp only [Act.put, List.setIfInBounds_toArray, List.set_cons_zero, List.set_cons_succ]
      refine wpAnyH_done (by kernel_rfl) ?_ _
      go_wp2_with fail
      go_meet
      case rel => exact ⟨rfl, hH⟩
  case rest =>
    obtain ⟨rfl, hbc⟩ := hcut
    have BP : Hid (Blk wc _ _ _) := Blk.later (Hid.out BP) hbc
    have MIH : Hid (MI wc _ _ _ s m is) := MI.later (Hid.out MIH) hbc
    have BC : Hid (Below w.heap.size w wc) := below_step (Hid.out BW) hbc
    clear hbc BA BW
    obtain ⟨W1, hW1⟩ : ∃ W1, W1 = wc := ⟨_, rfl⟩
    subst hW1
    go_upto_block 0 with fail
    go_cut [] from 40 to 63 (fun wx => Below W1.heap.size W1 wx)
    case first =>
      clear BP
      go_wp2_with fail
      go_loopg [9] s.length (fun g i wr => ∃ j : Nat, j + g = s.length ∧ i = .int .i64 j ∧ Below W1.heap.size W1 wr)
      case atStart => exact ⟨0, by omega, rfl, Below.refl _ _⟩
      case round =>
        obtain ⟨j, hj, rfl, hbr⟩ := hrel
        rcases MIH.out with ⟨rfl, rfl, hn⟩ | ⟨rfl, out, out', h1, hp, hs, ho⟩
        · clear MIH hn
          go_wp2_with fail
          go_meet
          case rel => exact hbr
        · cases gk with
          | zero =>
            have hjl : j = s.length := by omega
            subst hjl
            have hz : ¬ ((s.length : Int) < (s.length : Int)) := by omega
            clear h1 hp hs ho MIH
            go_wp2_with fail
            go_meet
            case rel => exact hbr
          | succ g =>
            have hlt : j < s.length := by omega
            generalize wr = W at *
            rcases HRow.out with h | ⟨b, o, rfl, hbs, hr⟩
            · subst h; simp at hlt
            · obtain ⟨⟨dx, dt⟩, hd⟩ : ∃ d, s[j]? = some d := ⟨_, List.getElem?_eq_getElem hlt⟩
              have hw := below_step (Hid.out BC) hbr
              have cc := cell_step hw hbs (hr j _ hd).1
              have bW := lt_step hw hbs
              have hln := mi_len h1 hp hlen
              have hsy : sayT out' dx = sayT s dx := says_of h1 hp ⟨dx, dt⟩ (List.mem_of_getElem? hd)
              obtain ⟨⟨tk, tn, tz⟩, ht⟩ : ∃ t, sayT s dx = t := ⟨_, rfl⟩
              have hs1 : ∀ X, Below W.heap.size W X → Calls Try.prog 18 #[m, .int .i64 dx] X fun e w' => e = .returned (Tm.v ⟨tk, tn, tz⟩) ∧ Below X.heap.size X w' := fun X h => by
                have := says_any out' m dx X ((ho.later (below_step hbr h)).bs hln)
                rw [hsy, ht] at this; exact this
              have hs2 : ∀ X, Below W.heap.size W X → Calls Try.prog 18 #[.slice (some ⟨b, o, none⟩) s.length cap, .int .i64 dx] X fun e w' => e = .returned (Tm.v ⟨tk, tn, tz⟩) ∧ Below X.heap.size X w' := fun X h => by
                have := says_any s (.slice (some ⟨b, o, none⟩) s.length cap) dx X (HV.out.later (below_step hw h))
                rw [ht] at this; exact this
              have he := run_neq_tm ⟨tk, tn, tz⟩ ⟨tk, tn, tz⟩
              rw [decide_eq_true rfl] at he
              have i1 : (0 : Int) ≤ (j : Int) := by omega
              have i2 : (j : Int) < (s.length : Int) := by omega
              simp only at cc
              clear hr hd h1 hp hs ho hsy ht
              go_upto_region 7 with fail
              refine wp_region_held_drew (S := fun w' => Below W.heap.size W w') (by kernel_rfl) (Below.refl _ _).drew (fun hH => ?_)
              revert hH
              generalize W.drew = V
              intro hH
              refine wpAnyH_take (i := 0) (oi := ⟨_, _, _, _, _, _⟩) (v := m) rfl (by kernel_rfl) (by kernel_rfl) (by kernel_rfl) (fun _ _ _ h => h) (Or.inl ⟨by rfl, fun w' _ => by go_simp⟩) hH ?_
              simp only [Act.put, List.setIfInBounds_toArray, List.set_cons_zero, List.set_cons_succ]
              refine wpAnyH_take (i := 1) (oi := ⟨_, _, _, _, _, _⟩) (v := .slice (some ⟨b, o, none⟩) s.length cap) rfl (by kernel_rfl) (by kernel_rfl) (by kernel_rfl) (fun _ _ _ h => h) (Or.inl ⟨by rfl, fun w' _ => by go_simp⟩) hH ?_
              simp only [Act.put, List.setIfInBounds_toArray, List.set_cons_zero, List.set_cons_succ]
              refine wpAnyH_take (i := 2) (oi := ⟨_, _, _, _, _, _⟩) (v := .int .i64 j) rfl (by kernel_rfl) (by kernel_rfl) (by kernel_rfl) (fun _ _ _ h => h) (Or.inl ⟨by rfl, fun w' _ => by go_simp⟩) hH ?_
              simp only [Act.put, List.setIfInBounds_toArray, List.set_cons_zero, List.set_cons_succ]
              refine wpAnyH_take (i := 3) (oi := ⟨_, _, _, _, _, _⟩) (v := .pointer (some ⟨b, o + j * 4, none⟩)) rfl (by kernel_rfl) (by kernel_rfl) (by kernel_rfl) (fun _ _ _ h => h) (Or.inl ⟨by rfl, fun w' _ => by go_simp⟩) hH ?_
              simp only [Act.put, List.setIfInBounds_toArray, List.set_cons_zero, List.set_cons_succ]
              refine wpAnyH_take (i := 4) (oi := ⟨_, _, _, _, _, _⟩) (v := .pointer (some ⟨b, o + j * 4, none⟩)) rfl (by kernel_rfl) (by kernel_rfl) (by kernel_rfl) (fun _ _ _ h => h) (Or.inl ⟨by rfl, fun w' _ => by go_simp⟩) hH ?_
              simp only [Act.put, List.setIfInBounds_toArray, List.set_cons_zero, List.set_cons_succ]
              refine wpAnyH_take (i := 5) (oi := ⟨_, _, _, _, _, _⟩) (v := .int .i64 dx) rfl (by kernel_rfl) (by kernel_rfl) (by kernel_rfl) (fun _ _ _ h => h) (Or.inl ⟨by rfl, fun w' h => by have a0 := cell_step h bW cc; go_simp⟩) hH ?_
              simp only [Act.put, List.setIfInBounds_toArray, List.set_cons_zero, List.set_cons_succ]
              refine wpAnyH_take (i := 7) (oi := ⟨_, _, _, _, _, _⟩) (v := .slice (some ⟨b, o, none⟩) s.length cap) rfl (by kernel_rfl) (by kernel_rfl) (by kernel_rfl) (fun _ _ _ h => h) (Or.inl ⟨by rfl, fun w' _ => by go_simp⟩) hH ?_
              simp only [Act.put, List.setIfInBounds_toArray, List.set_cons_zero, List.set_cons_succ]
              refine wpAnyH_take (i := 8) (oi := ⟨_, _, _, _, _, _⟩) (v := .slice (some ⟨b, o, none⟩) s.length cap) rfl (by kernel_rfl) (by kernel_rfl) (by kernel_rfl) (fun _ _ _ h => h) (Or.inl ⟨by rfl, fun w' _ => by go_simp⟩) hH ?_
              simp only [Act.put, List.setIfInBounds_toArray, List.set_cons_zero, List.set_cons_succ]
              refine wpAnyH_take (i := 9) (oi := ⟨_, _, _, _, _, _⟩) (v := .int .i64 j) rfl (by kernel_rfl) (by kernel_rfl) (by kernel_rfl) (fun _ _ _ h => h) (Or.inl ⟨by rfl, fun w' _ => by go_simp⟩) hH ?_
              simp only [Act.put, List.setIfInBounds_toArray, List.set_cons_zero, List.set_cons_succ]
              refine wpAnyH_take (i := 10) (oi := ⟨_, _, _, _, _, _⟩) (v := .pointer (some ⟨b, o + j * 4, none⟩)) rfl (by kernel_rfl) (by kernel_rfl) (by kernel_rfl) (fun _ _ _ h => h) (Or.inl ⟨by rfl, fun w' _ => by go_simp⟩) hH ?_
              simp only [Act.put, List.setIfInBounds_toArray, List.set_cons_zero, List.set_cons_succ]
              refine wpAnyH_take (i := 11) (oi := ⟨_, _, _, _, _, _⟩) (v := .pointer (some ⟨b, o + j * 4, none⟩)) rfl (by kernel_rfl) (by kernel_rfl) (by kernel_rfl) (fun _ _ _ h => h) (Or.inl ⟨by rfl, fun w' _ => by go_simp⟩) hH ?_
              simp only [Act.put, List.setIfInBounds_toArray, List.set_cons_zero, List.set_cons_succ]
              refine wpAnyH_take (i := 12) (oi := ⟨_, _, _, _, _, _⟩) (v := .int .i64 dx) rfl (by kernel_rfl) (by kernel_rfl) (by kernel_rfl) (fun _ _ _ h => h) (Or.inl ⟨by rfl, fun w' h => by have a0 := cell_step h bW cc; go_simp⟩) hH ?_
              simp only [Act.put, List.setIfInBounds_toArray, List.set_cons_zero, List.set_cons_succ]
              refine wpAnyH_ready (rs := [6]) (by kernel_rfl) (by simp) ?_
              refine (AllReadyH.cons (o := ⟨_, _, _, _, _, _⟩) rfl (fun K hK => ?_) AllReadyH.nil)
              go_simp
              refine (hs1 _ hH).mono ?_
              rintro e V1 ⟨rfl, hb1⟩
              refine hK.out _ _ (below_step hH hb1) (fun hH => ?_)
              clear hK K
              refine wpAnyH_ready (rs := [13]) (by kernel_rfl) (by simp) ?_
              refine (AllReadyH.cons (o := ⟨_, _, _, _, _, _⟩) rfl (fun K hK => ?_) AllReadyH.nil)
              go_simp
              refine (hs2 _ hH).mono ?_
              rintro e V2 ⟨rfl, hb2⟩
              refine hK.out _ _ (below_step hH hb2) (fun hH => ?_)
              clear hK K
              refine wpAnyH_take (i := 14) (oi := ⟨_, _, _, _, _, _⟩) (v := .bool false) rfl (by kernel_rfl) (by kernel_rfl) (by kernel_rfl) (fun _ _ _ h => h) (Or.inl ⟨by rfl, fun w' _ => by go_simp⟩) hH ?_
              simp only [Act.put, List.setIfInBounds_toArray, List.set_cons_zero, List.set_cons_succ]
              refine wpAnyH_done (by kernel_rfl) ?_ _
              have hbX := below_step hbr hH
              clear hH
              go_wp2_with fail
              go_roundg g
              case measure => omega
              case rel => exact ⟨j + 1, by omega, by go_num, hbX⟩
    case rest =>
      have BP : Hid (Blk wc _ _ _) := Blk.later (Hid.out BP) hcut
      have MIH : Hid (MI wc _ _ _ s m is) := MI.later (Hid.out MIH) hcut
      have BC : Hid (Below w.heap.size w wc) := below_step (Hid.out BC) hcut
      clear hcut
      obtain ⟨W2, hW2⟩ : ∃ W2, W2 = wc := ⟨_, rfl⟩
      subst hW2
      go_upto_region 9 with fail
      go_cut [70] from 64 to 70 (fun s70 wx => s70 = .bool false ∧ wx = W2)
      case first =>
        rcases MIH.out with ⟨rfl, rfl, hn⟩ | ⟨rfl, out, out', h1, hp, hs, ho⟩
        all_goals
          clear MIH
          go_wp2_with fail
          go_meet
          case rel => exact ⟨rfl, rfl⟩
      case rest =>
        obtain ⟨rfl, rfl⟩ := hcut
        clear MIH
        obtain ⟨p0, p1, p2, p3, p4⟩ := five (Hid.out BP)
        go_upto_region 12 with (go_at_call 17; refine (HAP.out _ (Hid.out BC)).mono ?_; rintro e w3 ⟨z, rfl, tz, hb3⟩; have TZ : Hid (Ts w3 z ml) := tz; obtain ⟨za, zc, rfl, -, -⟩ := tz)
        have BM := Blk.new w3 #[.int .i64 mk, .int .i64 mn, .string mz, .string mm, .slice za ml.length zc] 26
        have hb4 := below1 w3 (.cells #[.int .i64 mk, .int .i64 mn, .string mz, .string mm, .slice za ml.length zc] 26)
        revert BM hb4
        generalize w3.alloc (.cells #[.int .i64 mk, .int .i64 mn, .string mz, .string mm, .slice za ml.length zc] 26) = W3
        intro BM hb4
        have BP3 : Hid (Blk W3 _ _ _) := (Blk.later (Hid.out BP) hb3).later hb4
        have BM3 : Hid (Blk W3 _ _ _) := BM
        have TZ3 : Hid (Ts W3 (.slice za ml.length zc) ml) := TZ.out.later hb4
        have BC3 : Hid (Below w.heap.size w W3) := below_step (below_step (Hid.out BC) hb3) hb4
        clear p0 p1 p2 p3 p4 BP BM TZ BC hb3 hb4 HAP
        obtain ⟨c, hc⟩ : ∃ c, (Tm.var ⟨k, n, ss⟩ && decide (mk = 0)) = c := ⟨_, rfl⟩
        have HC : Hid ((Tm.var ⟨k, n, ss⟩ && decide (mk = 0)) = c) := hc
        clear hc
        go_cut [82] from 74 to 82 (fun s82 wx => s82 = .bool c ∧ Below W3.heap.size W3 wx)
        case first =>
          obtain ⟨p0, p1, p2, p3, p4⟩ := five (Hid.out BP3)
          obtain ⟨vb, hvb⟩ : ∃ b, Tm.var ⟨k, n, ss⟩ = b := ⟨_, rfl⟩
          have HVB : Hid (Tm.var ⟨k, n, ss⟩ = vb) := hvb
          have hq : (mk == 0) = decide (mk = 0) := by by_cases h : mk = 0 <;> simp [h]
          obtain ⟨qb, hqb⟩ : ∃ q, decide (mk = 0) = q := ⟨_, rfl⟩
          rw [hqb] at hq
          have HQB : Hid (decide (mk = 0) = qb) := hqb
          clear hvb hqb
          cases vb
          · go_wp2_with (go_at_call 12; refine (var_any ⟨k, n, ss⟩ _).mono ?_; rw [HVB.out]; rintro e w4 ⟨rfl, hb4⟩)
            go_meet
            case rel => exact ⟨by rw [← HC.out, HVB.out]; rfl, hb4⟩
          · go_wp2_with (go_at_call 12; refine (var_any ⟨k, n, ss⟩ _).mono ?_; rw [HVB.out]; rintro e w4 ⟨rfl, hb4⟩; obtain ⟨m0, m1, m2, m3, m4⟩ := five (Blk.later (Hid.out BM3) hb4))
            go_meet
            case rel => exact ⟨by rw [← HC.out, HVB.out, HQB.out]; rfl, hb4⟩
        case rest =>
          obtain ⟨rfl, hbc⟩ := hcut
          have BP : Hid (Blk wc _ _ _) := Blk.later (Hid.out BP3) hbc
          have BM : Hid (Blk wc _ _ _) := Blk.later (Hid.out BM3) hbc
          have TZ : Hid (Ts wc (.slice za ml.length zc) ml) := TZ3.out.later hbc
          have BC : Hid (Below w.heap.size w wc) := below_step (Hid.out BC3) hbc
          clear BP3 BM3 TZ3 BC3 hbc
          obtain ⟨W4, hW4⟩ : ∃ W4, W4 = wc := ⟨_, rfl⟩
          subst hW4
          obtain ⟨p0, p1, p2, p3, p4⟩ := five (Hid.out BP)
          obtain ⟨m0, m1, m2, m3, m4⟩ := five (Hid.out BM)
          cases c
          · have hno : ¬ ((At.mk ⟨k, n, ss⟩ nm l).by_.var = true ∧ ((At.mk ⟨k, n, ss⟩ nm l).made s).by_.k = 0) := by
              rintro ⟨h1, h2⟩
              rw [HM.out] at h2
              have := HC.out
              simp only at h1 h2
              rw [h1, h2] at this
              simp at this
            obtain ⟨o1, f1, n1, l1, y1⟩ := found_one s _ hno
            obtain ⟨o2, f2, n2, y2⟩ := found_two s _ hno
            rw [HM.out] at f1 f2
            have l2 := mRes_len _ _ _ _ f2
            obtain ⟨L, hL⟩ : ∃ L, vs (At.pl ⟨⟨k, n, ss⟩, nm, l⟩) = L := ⟨_, rfl⟩
            rw [hL] at l1 y1 y2 HV1
            have F1 : Hid (mRes ⟨⟨k, n, ss⟩, nm, l⟩ ⟨⟨mk, mn, mz⟩, mm, ml⟩ [] = some o1) := f1
            have F2 : Hid (mRes ⟨⟨k, n, ss⟩, nm, l⟩ ⟨⟨mk, mn, mz⟩, mm, ml⟩ s = some o2) := f2
            have hLl : L.length < 1000000000000000000 := by
              have := mRes_len _ _ _ _ f1
              simp only [List.length_nil] at this
              omega
            simp only at l2
            clear f1 f2 hno hL
            go_upto_region 16 with (go_at_call 11; refine (HM2.out _ _ (Hid.out BC) TZ.out).mono ?_; rintro e w5 ⟨mn', b5, rfl, hmi, hb5⟩; obtain ⟨rfl, o1', ho1, e1, s1⟩ := mi_found hmi F1.out n1; rw [l1] at e1; clear hmi)
            have BP5 : Hid (Blk w5 _ _ _) := Blk.later (Hid.out BP) hb5
            have BM5 : Hid (Blk w5 _ _ _) := Blk.later (Hid.out BM) hb5
            have TZ5 : Hid (Ts w5 (.slice za ml.length zc) ml) := TZ.out.later hb5
            have BC5 : Hid (Below w.heap.size w w5) := below_step (Hid.out BC) hb5
            clear p0 p1 p2 p3 p4 m0 m1 m2 m3 m4 BP BM TZ BC hb5 HM2
            obtain ⟨p0, p1, p2, p3, p4⟩ := five (Hid.out BP5)
            obtain ⟨m0, m1, m2, m3, m4⟩ := five (Hid.out BM5)
            go_upto_region 17 with (go_at_call 11; refine (HM3.out _ _ (Hid.out BC5) TZ5.out).mono ?_; rintro e w6 ⟨mo', b6, rfl, hmi, hb6⟩; obtain ⟨rfl, o2', ho2, e2, s2⟩ := mi_found hmi F2.out n2; clear hmi)
            have BP6 : Hid (Blk w6 _ _ _) := Blk.later (Hid.out BP5) hb6
            have BC6 : Hid (Below w.heap.size w w6) := below_step (Hid.out BC5) hb6
            have ho1 := ho1.later hb6
            clear p0 p1 p2 p3 p4 m0 m1 m2 m3 m4 BP5 BM5 TZ5 BC5 hb6 HM3
            obtain ⟨p0, p1, p2, p3, p4⟩ := five (Hid.out BP6)
            go_upto_region 18 with (go_at_call 8; refine (HV1.out _ (Hid.out BC6)).mono ?_; rintro e W ⟨lv, rfl, hol, hb7⟩)
            have BW : Hid (Below w.heap.size w W) := below_step (Hid.out BC6) hb7
            have ho1 := ho1.later hb7
            have ho2 := ho2.later hb7
            obtain ⟨a1, c1, rfl⟩ := own_len ho1
            obtain ⟨a2, c2, rfl⟩ := own_len ho2
            have HO1 : Hid (Own W _ (.slice a1 o1'.length c1) o1') := ho1
            have HO2 : Hid (Own W _ (.slice a2 o2'.length c2) o2') := ho2
            have HOL : Hid (OwnI W _ lv L) := hol
            obtain ⟨la, lcap, rfl⟩ := ownI_len hol
            have hq1 : ((o1'.length : Int) != (L.length : Int)) = false := by rw [e1]; simp
            have z1 : o1'.length < 1000000000000000000 := by omega
            have z2 : o2'.length < 1000000000000000000 := by omega
            have Y1 : Hid (∀ x ∈ L, sayT o1' x = sayT s x) := fun x hx => by rw [s1, y1 x hx]
            have Y2 : Hid (∀ x ∈ L, sayT o2' x = sayT s x) := fun x hx => by rw [s2, y2 x hx]
            clear p0 p1 p2 p3 p4 BP6 BC6 hb7 ho1 ho2 hol HV1 e1 s1 s2 y1 y2 e2 l1 l2
            go_wp2_with fail
            go_loopg [18] L.length (fun g i wr => ∃ j : Nat, j + g = L.length ∧ i = .int .i64 j ∧ Below W.heap.size W wr)
            case atStart => exact ⟨0, by omega, rfl, Below.refl _ _⟩
            case round =>
              obtain ⟨j, hj, rfl, hbr⟩ := hrel
              cases gk with
              | zero =>
                have hjl : j = L.length := by omega
                subst hjl
                have hz : ¬ ((L.length : Int) < (L.length : Int)) := by omega
                go_wp2_with (go_at_call 10; refine (first_any _).mono ?_; rintro e w8 ⟨rfl, hb8⟩)
                go_ret
                exact ⟨ret_b rfl, below_step (below_step (Hid.out BW) hbr) hb8⟩
              | succ g =>
                have hlt : j < L.length := by omega
                obtain ⟨G, lc, hla, -, hGl⟩ := ownI_form HOL.out (by omega)
                simp only [Value.slice.injEq, true_and] at hla
                obtain ⟨rfl, rfl⟩ := hla
                obtain ⟨vx, hvx⟩ : ∃ v, L[j]? = some v := ⟨_, List.getElem?_eq_getElem hlt⟩
                have cg := cell_step hbr hGl (ownI_cells HOL.out j vx hvx)
                have gW := lt_step hbr hGl
                obtain ⟨⟨tk, tn, tz⟩, ht⟩ : ∃ t, sayT s vx = t := ⟨_, rfl⟩
                have k1 := Y1.out vx (List.mem_of_getElem? hvx)
                have k2 := Y2.out vx (List.mem_of_getElem? hvx)
                have hs1 : ∀ X, Below wr.heap.size wr X → Calls Try.prog 18 #[.slice a1 o1'.length c1, .int .i64 vx] X fun e w' => e = .returned (Tm.v ⟨tk, tn, tz⟩) ∧ Below X.heap.size X w' := fun X h => by
                  have := says_any o1' (.slice a1 o1'.length c1) vx X ((HO1.out.later (below_step hbr h)).bs z1)
                  rw [k1, ht] at this; exact this
                have hs2 : ∀ X, Below wr.heap.size wr X → Calls Try.prog 18 #[.slice ad s.length cap, .int .i64 vx] X fun e w' => e = .returned (Tm.v ⟨tk, tn, tz⟩) ∧ Below X.heap.size X w' := fun X h => by
                  have := says_any s (.slice ad s.length cap) vx X (HV.out.later (below_step (below_step (Hid.out BW) hbr) h))
                  rw [ht] at this; exact this
                have hs3 : ∀ X, Below wr.heap.size wr X → Calls Try.prog 18 #[.slice a2 o2'.length c2, .int .i64 vx] X fun e w' => e = .returned (Tm.v ⟨tk, tn, tz⟩) ∧ Below X.heap.size X w' := fun X h => by
                  have := says_any o2' (.slice a2 o2'.length c2) vx X ((HO2.out.later (below_step hbr h)).bs z2)
                  rw [k2, ht] at this; exact this
                have he := run_neq_tm ⟨tk, tn, tz⟩ ⟨tk, tn, tz⟩
                rw [decide_eq_true rfl] at he
                have i1 : (0 : Int) ≤ (j : Int) := by omega
                have i2 : (j : Int) < (L.length : Int) := by omega
                clear hvx k1 k2 ht
                go_upto_region 23 with fail
                refine wp_region_held_drew (S := fun w' => Below wr.heap.size wr w') (by kernel_rfl) (Below.refl _ _).drew (fun hH => ?_)
                revert hH
                generalize wr.drew = V
                intro hH
                refine wpAnyH_take (i := 0) (oi := ⟨_, _, _, _, _, _⟩) (v := .slice a1 o1'.length c1) rfl (by kernel_rfl) (by kernel_rfl) (by kernel_rfl) (fun _ _ _ h => h) (Or.inl ⟨by rfl, fun w' _ => by go_simp⟩) hH ?_
                simp only [Act.put, List.setIfInBounds_toArray, List.set_cons_zero, List.set_cons_succ]
                refine wpAnyH_take (i := 1) (oi := ⟨_, _, _, _, _, _⟩) (v := .slice (some ⟨G, 0, none⟩) L.length lcap) rfl (by kernel_rfl) (by kernel_rfl) (by kernel_rfl) (fun _ _ _ h => h) (Or.inl ⟨by rfl, fun w' _ => by go_simp⟩) hH ?_
                simp only [Act.put, List.setIfInBounds_toArray, List.set_cons_zero, List.set_cons_succ]
                refine wpAnyH_take (i := 2) (oi := ⟨_, _, _, _, _, _⟩) (v := .int .i64 j) rfl (by kernel_rfl) (by kernel_rfl) (by kernel_rfl) (fun _ _ _ h => h) (Or.inl ⟨by rfl, fun w' _ => by go_simp⟩) hH ?_
                simp only [Act.put, List.setIfInBounds_toArray, List.set_cons_zero, List.set_cons_succ]
                refine wpAnyH_take (i := 3) (oi := ⟨_, _, _, _, _, _⟩) (v := .pointer (some ⟨G, j, none⟩)) rfl (by kernel_rfl) (by kernel_rfl) (by kernel_rfl) (fun _ _ _ h => h) (Or.inl ⟨by rfl, fun w' _ => by go_simp⟩) hH ?_
                simp only [Act.put, List.setIfInBounds_toArray, List.set_cons_zero, List.set_cons_succ]
                refine wpAnyH_take (i := 4) (oi := ⟨_, _, _, _, _, _⟩) (v := .int .i64 vx) rfl (by kernel_rfl) (by kernel_rfl) (by kernel_rfl) (fun _ _ _ h => h) (Or.inl ⟨by rfl, fun w' h => by have a0 := cell_step h gW cg; go_simp⟩) hH ?_
                simp only [Act.put, List.setIfInBounds_toArray, List.set_cons_zero, List.set_cons_succ]
                refine wpAnyH_take (i := 6) (oi := ⟨_, _, _, _, _, _⟩) (v := .slice ad s.length cap) rfl (by kernel_rfl) (by kernel_rfl) (by kernel_rfl) (fun _ _ _ h => h) (Or.inl ⟨by rfl, fun w' _ => by go_simp⟩) hH ?_
                simp only [Act.put, List.setIfInBounds_toArray, List.set_cons_zero, List.set_cons_succ]
                refine wpAnyH_take (i := 7) (oi := ⟨_, _, _, _, _, _⟩) (v := .slice (some ⟨G, 0, none⟩) L.length lcap) rfl (by kernel_rfl) (by kernel_rfl) (by kernel_rfl) (fun _ _ _ h => h) (Or.inl ⟨by rfl, fun w' _ => by go_simp⟩) hH ?_
                simp only [Act.put, List.setIfInBounds_toArray, List.set_cons_zero, List.set_cons_succ]
                refine wpAnyH_take (i := 8) (oi := ⟨_, _, _, _, _, _⟩) (v := .int .i64 j) rfl (by kernel_rfl) (by kernel_rfl) (by kernel_rfl) (fun _ _ _ h => h) (Or.inl ⟨by rfl, fun w' _ => by go_simp⟩) hH ?_
                simp only [Act.put, List.setIfInBounds_toArray, List.set_cons_zero, List.set_cons_succ]
                refine wpAnyH_take (i := 9) (oi := ⟨_, _, _, _, _, _⟩) (v := .pointer (some ⟨G, j, none⟩)) rfl (by kernel_rfl) (by kernel_rfl) (by kernel_rfl) (fun _ _ _ h => h) (Or.inl ⟨by rfl, fun w' _ => by go_simp⟩) hH ?_
                simp only [Act.put, List.setIfInBounds_toArray, List.set_cons_zero, List.set_cons_succ]
                refine wpAnyH_take (i := 10) (oi := ⟨_, _, _, _, _, _⟩) (v := .int .i64 vx) rfl (by kernel_rfl) (by kernel_rfl) (by kernel_rfl) (fun _ _ _ h => h) (Or.inl ⟨by rfl, fun w' h => by have a0 := cell_step h gW cg; go_simp⟩) hH ?_
                simp only [Act.put, List.setIfInBounds_toArray, List.set_cons_zero, List.set_cons_succ]
                refine wpAnyH_ready (rs := [5]) (by kernel_rfl) (by simp) ?_
                refine (AllReadyH.cons (o := ⟨_, _, _, _, _, _⟩) rfl (fun K hK => ?_) AllReadyH.nil)
                go_simp
                refine (hs1 _ hH).mono ?_
                rintro e V1 ⟨rfl, hb1⟩
                refine hK.out _ _ (below_step hH hb1) (fun hH => ?_)
                clear hK K
                refine wpAnyH_ready (rs := [11]) (by kernel_rfl) (by simp) ?_
                refine (AllReadyH.cons (o := ⟨_, _, _, _, _, _⟩) rfl (fun K hK => ?_) AllReadyH.nil)
                go_simp
                refine (hs2 _ hH).mono ?_
                rintro e V2 ⟨rfl, hb2⟩
                refine hK.out _ _ (below_step hH hb2) (fun hH => ?_)
                clear hK K
                refine wpAnyH_take (i := 12) (oi := ⟨_, _, _, _, _, _⟩) (v := .bool false) rfl (by kernel_rfl) (by kernel_rfl) (by kernel_rfl) (fun _ _ _ h => h) (Or.inl ⟨by rfl, fun w' _ => by go_simp⟩) hH ?_
                simp only [Act.put, List.setIfInBounds_toArray, List.set_cons_zero, List.set_cons_succ]
                refine wpAnyH_take (i := 13) (oi := ⟨_, _, _, _, _, _⟩) (v := .bool false) rfl (by kernel_rfl) (by kernel_rfl) (by kernel_rfl) (fun _ _ _ h => h) (Or.inl ⟨by rfl, fun w' _ => by go_simp⟩) hH ?_
                simp only [Act.put, List.setIfInBounds_toArray, List.set_cons_zero, List.set_cons_succ]
                refine wpAnyH_take (i := 14) (oi := ⟨_, _, _, _, _, _⟩) (v := .slice a2 o2'.length c2) rfl (by kernel_rfl) (by kernel_rfl) (by kernel_rfl) (fun _ _ _ h => h) (Or.inl ⟨by rfl, fun w' _ => by go_simp⟩) hH ?_
                simp only [Act.put, List.setIfInBounds_toArray, List.set_cons_zero, List.set_cons_succ]
                refine wpAnyH_take (i := 15) (oi := ⟨_, _, _, _, _, _⟩) (v := .slice (some ⟨G, 0, none⟩) L.length lcap) rfl (by kernel_rfl) (by kernel_rfl) (by kernel_rfl) (fun _ _ _ h => h) (Or.inl ⟨by rfl, fun w' _ => by go_simp⟩) hH ?_
                simp only [Act.put, List.setIfInBounds_toArray, List.set_cons_zero, List.set_cons_succ]
                refine wpAnyH_take (i := 16) (oi := ⟨_, _, _, _, _, _⟩) (v := .int .i64 j) rfl (by kernel_rfl) (by kernel_rfl) (by kernel_rfl) (fun _ _ _ h => h) (Or.inl ⟨by rfl, fun w' _ => by go_simp⟩) hH ?_
                simp only [Act.put, List.setIfInBounds_toArray, List.set_cons_zero, List.set_cons_succ]
                refine wpAnyH_take (i := 17) (oi := ⟨_, _, _, _, _, _⟩) (v := .pointer (some ⟨G, j, none⟩)) rfl (by kernel_rfl) (by kernel_rfl) (by kernel_rfl) (fun _ _ _ h => h) (Or.inl ⟨by rfl, fun w' _ => by go_simp⟩) hH ?_
                simp only [Act.put, List.setIfInBounds_toArray, List.set_cons_zero, List.set_cons_succ]
                refine wpAnyH_take (i := 18) (oi := ⟨_, _, _, _, _, _⟩) (v := .int .i64 vx) rfl (by kernel_rfl) (by kernel_rfl) (by kernel_rfl) (fun _ _ _ h => h) (Or.inl ⟨by rfl, fun w' h => by have a0 := cell_step h gW cg; go_simp⟩) hH ?_
                simp only [Act.put, List.setIfInBounds_toArray, List.set_cons_zero, List.set_cons_succ]
                refine wpAnyH_take (i := 20) (oi := ⟨_, _, _, _, _, _⟩) (v := .slice ad s.length cap) rfl (by kernel_rfl) (by kernel_rfl) (by kernel_rfl) (fun _ _ _ h => h) (Or.inl ⟨by rfl, fun w' _ => by go_simp⟩) hH ?_
                simp only [Act.put, List.setIfInBounds_toArray, List.set_cons_zero, List.set_cons_succ]
                refine wpAnyH_take (i := 21) (oi := ⟨_, _, _, _, _, _⟩) (v := .slice (some ⟨G, 0, none⟩) L.length lcap) rfl (by kernel_rfl) (by kernel_rfl) (by kernel_rfl) (fun _ _ _ h => h) (Or.inl ⟨by rfl, fun w' _ => by go_simp⟩) hH ?_
                simp only [Act.put, List.setIfInBounds_toArray, List.set_cons_zero, List.set_cons_succ]
                refine wpAnyH_take (i := 22) (oi := ⟨_, _, _, _, _, _⟩) (v := .int .i64 j) rfl (by kernel_rfl) (by kernel_rfl) (by kernel_rfl) (fun _ _ _ h => h) (Or.inl ⟨by rfl, fun w' _ => by go_simp⟩) hH ?_
                simp only [Act.put, List.setIfInBounds_toArray, List.set_cons_zero, List.set_cons_succ]
                refine wpAnyH_take (i := 23) (oi := ⟨_, _, _, _, _, _⟩) (v := .pointer (some ⟨G, j, none⟩)) rfl (by kernel_rfl) (by kernel_rfl) (by kernel_rfl) (fun _ _ _ h => h) (Or.inl ⟨by rfl, fun w' _ => by go_simp⟩) hH ?_
                simp only [Act.put, List.setIfInBounds_toArray, List.set_cons_zero, List.set_cons_succ]
                refine wpAnyH_take (i := 24) (oi := ⟨_, _, _, _, _, _⟩) (v := .int .i64 vx) rfl (by kernel_rfl) (by kernel_rfl) (by kernel_rfl) (fun _ _ _ h => h) (Or.inl ⟨by rfl, fun w' h => by have a0 := cell_step h gW cg; go_simp⟩) hH ?_
                simp only [Act.put, List.setIfInBounds_toArray, List.set_cons_zero, List.set_cons_succ]
                refine wpAnyH_ready (rs := [19]) (by kernel_rfl) (by simp) ?_
                refine (AllReadyH.cons (o := ⟨_, _, _, _, _, _⟩) rfl (fun K hK => ?_) AllReadyH.nil)
                go_simp
                refine (hs3 _ hH).mono ?_
                rintro e V3 ⟨rfl, hb3⟩
                refine hK.out _ _ (below_step hH hb3) (fun hH => ?_)
                clear hK K
                refine wpAnyH_ready (rs := [25]) (by kernel_rfl) (by simp) ?_
                refine (AllReadyH.cons (o := ⟨_, _, _, _, _, _⟩) rfl (fun K hK => ?_) AllReadyH.nil)
                go_simp
                refine (hs2 _ hH).mono ?_
                rintro e V4 ⟨rfl, hb4⟩
                refine hK.out _ _ (below_step hH hb4) (fun hH => ?_)
                clear hK K
                refine wpAnyH_take (i := 26) (oi := ⟨_, _, _, _, _, _⟩) (v := .bool false) rfl (by kernel_rfl) (by kernel_rfl) (by kernel_rfl) (fun _ _ _ h => h) (Or.inl ⟨by rfl, fun w' _ => by go_simp⟩) hH ?_
                simp only [Act.put, List.setIfInBounds_toArray, List.set_cons_zero, List.set_cons_succ]
                refine wpAnyH_take (i := 27) (oi := ⟨_, _, _, _, _, _⟩) (v := .bool false) rfl (by kernel_rfl) (by kernel_rfl) (by kernel_rfl) (fun _ _ _ h => h) (Or.inl ⟨by rfl, fun w' _ => by go_simp⟩) hH ?_
                simp only [Act.put, List.setIfInBounds_toArray, List.set_cons_zero, List.set_cons_succ]
                refine wpAnyH_done (by kernel_rfl) ?_ _
                have hbX := below_step hbr hH
                clear hH
                go_wp2_with fail
                go_roundg g
                case measure => omega
                case rel => exact ⟨j + 1, by omega, by go_num, hbX⟩
          · have hmn : mRes ⟨⟨k, n, ss⟩, nm, l⟩ ⟨⟨mk, mn, mz⟩, mm, ml⟩ [] = none := by
              have h := HC.out
              simp only [Bool.and_eq_true, decide_eq_true_eq] at h
              have := made_none s ⟨⟨k, n, ss⟩, nm, l⟩ [] h.1 (by rw [HM.out]; exact h.2)
              rwa [HM.out] at this
            have HMN : Hid (mRes ⟨⟨k, n, ss⟩, nm, l⟩ ⟨⟨mk, mn, mz⟩, mm, ml⟩ [] = none) := hmn
            clear hmn
            go_wp2_with (first
              | (go_at_call 11; refine (HM2.out _ _ (Hid.out BC) TZ.out).mono ?_; rintro e w5 ⟨mn', b5, rfl, hmi, hb5⟩; obtain rfl := mi_none hmi HMN.out; clear hmi)
              | (go_at_call 10; refine (first_any _).mono ?_; rintro e w6 ⟨rfl, hb6⟩))
            go_ret
            exact ⟨ret_b rfl, below_step (below_step (Hid.out BC) hb5) hb6⟩
end Go.Proofs.Ytlojgaigbdnjjaa
