import Derived.Test.YtnikmcmkbjjcdaaGreatDoorSJ10
/-
  SyntaxJoins: a fault in either text. (Written by SJ11.py.)
-/
namespace Go.Proofs.YtnikmcmkbjjcdaaGreatDoor
open Go.RowKit
attribute [local go_sem ↓] Go.wp_at_zero Go.wp_at_succ

theorem rep_err {X w' : World} {e : Ending} {c p : Int} (h : ReP X (.error (c, p)) e w') : Below X.heap.size X w' ∧ e = .returned (.tuple #[.slice none 0 0, .agg #[.int .i64 c, .int .i64 p]]) := by
  obtain ⟨hb, v, c', a', rfl, hv, hc, ha⟩ := h
  refine ⟨hb, ?_⟩
  rw [hv, hc, ha]
set_option maxRecDepth 20000 in
set_option maxHeartbeats 4000000 in
theorem joins_a (a b : ByteArray) (A B : List Tk) (w : World) (ha : a.size ≤ 2000000) (hb : b.size ≤ 2000000) (h : SJH a b w) (hm : (two_ a b).size ≤ 1048576) (hca : cutL (blK a) 1048576 = (A, 0, 0)) (hcb : cutL (blK b) 1048576 = (B, 0, 0)) (ec ep : Int) (hpa : pg5 a 1048576 = .error (ec, ep)) :
    Calls Tryz.prog 5 #[.string a, .string b] w fun e w' => e = .returned (.bool true) ∧ Below w.heap.size w w' := by
  have HF := hm7 h.fi
  have HCA := hm7 (h.ca w (Below.refl _ _))
  have HCB := hm7 h.cb
  have HPA := hm7 h.pa
  have HPB := hm7 h.pb
  have HPT := hm7 h.pt
  have hs := two_size a b
  obtain ⟨A1, hA1⟩ : ∃ A1, a ++ (⟨#[10]⟩ : ByteArray) = A1 := ⟨_, rfl⟩
  have hs1 : A1.size = a.size + 1 := by rw [← hA1, ByteArray.size_append]; rfl
  obtain ⟨T, hT⟩ : ∃ T, A1 ++ b = T := ⟨_, rfl⟩
  have hTT : two_ a b = T := by rw [← hT, ← hA1]; rfl
  have g1 : ¬ 9223372036854775807 < a.size + 1 := by omega
  have g2 : ¬ 9223372036854775807 < A1.size + b.size := by omega
  have k1 : ¬ (1048576 : Int) < (T.size : Int) := by rw [hTT] at hm; omega
  rw [hca] at HCA
  rw [hcb] at HCB
  have hto := two_front (by omega) hca hcb hpa
  have k0 : ¬ ec = 0 := (er_pg hca hpa).1
  have k4 : (ec != 0) = true := by simpa using k0
  have k5 : (ec == 0) = false := by simpa using k0
  rw [hpa] at HPA
  rw [hTT] at HPT hto
  have HTO : Hid (ep = (a.size : Int) ∨ pg5 T 1048576 = .error (ec, ep)) := hto
  clear h hs hs1 hTT hm hca hcb hpa ha hb hto
  by_cases hp : ep = (a.size : Int)
  · subst hp
    clear HTO
    go_enter Tryz.func5, Tryz.ntmps5
    go_upto_region 3 with (go_at_call 13; refine HCA.out.mono ?_; rintro e W1 ⟨v1, rfl, -, hb⟩; have HB1 := hm7 (ft_step 0 0 hb); have HG1 := hm7 (Bk.new W1 #[.int .i64 0, .int .i64 0] 26); clear hb)
    go_upto_region 4 with (go_at_call 13; refine (HCB.out _ HB1.out).mono ?_; rintro e W2 ⟨v2, rfl, -, hb⟩; have HB2 := hm7 (ft_step 0 0 (HB1.out.trans (hb.mono HB1.out.size))); have HG12 := hm7 ((HG1.out.below hb).below (below1 W2 (.cells #[.int .i64 0, .int .i64 0] 26))); have c10 := HG12.out.cell (i := 0) (v := .int .i64 0) rfl; clear hb)
    go_upto_region 7 with (go_at_call 10; refine (HPA.out _ HB2.out).mono ?_; intro e W3 hh; obtain ⟨hb, rfl⟩ := rep_err hh; clear hh; have HB3 := hm7 (ft_step ec (a.size : Int) (HB2.out.trans (hb.mono HB2.out.size))); have HG3 := hm7 (Bk.new W3 #[.int .i64 ec, .int .i64 (a.size : Int)] 26); clear hb)
    go_upto_region 8 with (go_at_call 10; refine (HPB.out _ HB3.out).mono ?_; rintro e W4 ⟨hb, v4, c4, a4, rfl, -⟩; have HB4 := hm7 (ft_step c4 a4 (HB3.out.trans (hb.mono HB3.out.size))); have HG4 := hm7 (Bk.new W4 #[.int .i64 c4, .int .i64 a4] 26); have HG34 := hm7 ((HG3.out.below hb).below (below1 W4 (.cells #[.int .i64 c4, .int .i64 a4] 26))); clear hb)
    go_upto_region 9 with (go_at_call 10; refine (HPT.out _ HB4.out).mono ?_; rintro e W5 ⟨hb, v5, c5, a5, rfl, -⟩; have HB5 := hm7 (ft_step c5 a5 (HB4.out.trans (hb.mono HB4.out.size))); have HG5 := hm7 (Bk.new W5 #[.int .i64 c5, .int .i64 a5] 26); have HG35 := hm7 ((HG34.out.below hb).below (below1 W5 (.cells #[.int .i64 c5, .int .i64 a5] 26))); have c30 := HG35.out.cell (i := 0) (v := .int .i64 ec) rfl; clear hb)
    go_wp2_with (go_at_call 9; refine (HF.out _ HB5.out).mono ?_; rintro e W6 ⟨rfl, hb⟩; have HB6 := hm7 (HB5.out.trans (hb.mono HB5.out.size)); have d1 := (HG35.out.below hb).cell (i := 1) (v := .int .i64 (a.size : Int)) rfl; clear hb)
    go_ret
    exact ⟨rfl, HB6.out⟩
  · have hpt : pg5 T 1048576 = .error (ec, ep) := HTO.out.resolve_left hp
    rw [hpt] at HPT
    have hq : (ep == (a.size : Int)) = false := by simpa using hp
    have heq := eql_ft5 ec ep
    clear HTO hpt
    go_enter Tryz.func5, Tryz.ntmps5
    go_upto_region 3 with (go_at_call 13; refine HCA.out.mono ?_; rintro e W1 ⟨v1, rfl, -, hb⟩; have HB1 := hm7 (ft_step 0 0 hb); have HG1 := hm7 (Bk.new W1 #[.int .i64 0, .int .i64 0] 26); clear hb)
    go_upto_region 4 with (go_at_call 13; refine (HCB.out _ HB1.out).mono ?_; rintro e W2 ⟨v2, rfl, -, hb⟩; have HB2 := hm7 (ft_step 0 0 (HB1.out.trans (hb.mono HB1.out.size))); have HG12 := hm7 ((HG1.out.below hb).below (below1 W2 (.cells #[.int .i64 0, .int .i64 0] 26))); have c10 := HG12.out.cell (i := 0) (v := .int .i64 0) rfl; clear hb)
    go_upto_region 7 with (go_at_call 10; refine (HPA.out _ HB2.out).mono ?_; intro e W3 hh; obtain ⟨hb, rfl⟩ := rep_err hh; clear hh; have HB3 := hm7 (ft_step ec ep (HB2.out.trans (hb.mono HB2.out.size))); have HG3 := hm7 (Bk.new W3 #[.int .i64 ec, .int .i64 ep] 26); clear hb)
    go_upto_region 8 with (go_at_call 10; refine (HPB.out _ HB3.out).mono ?_; rintro e W4 ⟨hb, v4, c4, a4, rfl, -⟩; have HB4 := hm7 (ft_step c4 a4 (HB3.out.trans (hb.mono HB3.out.size))); have HG4 := hm7 (Bk.new W4 #[.int .i64 c4, .int .i64 a4] 26); have HG34 := hm7 ((HG3.out.below hb).below (below1 W4 (.cells #[.int .i64 c4, .int .i64 a4] 26))); clear hb)
    go_upto_region 9 with (go_at_call 10; refine (HPT.out _ HB4.out).mono ?_; intro e W5 hh; obtain ⟨hb, rfl⟩ := rep_err hh; clear hh; have HB5 := hm7 (ft_step ec ep (HB4.out.trans (hb.mono HB4.out.size))); have HG5 := hm7 (Bk.new W5 #[.int .i64 ec, .int .i64 ep] 26); have HG35 := hm7 ((HG34.out.below hb).below (below1 W5 (.cells #[.int .i64 ec, .int .i64 ep] 26))); have c30 := HG35.out.cell (i := 0) (v := .int .i64 ec) rfl; clear hb)
    go_wp2_with (go_at_call 9; refine (HF.out _ HB5.out).mono ?_; rintro e W6 ⟨rfl, hb⟩; have HB6 := hm7 (HB5.out.trans (hb.mono HB5.out.size)); have d0 := (HG35.out.below hb).cell (i := 0) (v := .int .i64 ec) rfl; have d1 := (HG35.out.below hb).cell (i := 1) (v := .int .i64 ep) rfl; have f0 := (HG5.out.below hb).cell (i := 0) (v := .int .i64 ec) rfl; have f1 := (HG5.out.below hb).cell (i := 1) (v := .int .i64 ep) rfl; clear hb)
    go_ret
    exact ⟨rfl, HB6.out⟩
set_option maxRecDepth 20000 in
set_option maxHeartbeats 4000000 in
theorem joins_b (a b : ByteArray) (A B : List Tk) (w : World) (ha : a.size ≤ 2000000) (hb : b.size ≤ 2000000) (h : SJH a b w) (hm : (two_ a b).size ≤ 1048576) (hca : cutL (blK a) 1048576 = (A, 0, 0)) (hcb : cutL (blK b) 1048576 = (B, 0, 0)) (ks : List Ck) (hpa : pg5 a 1048576 = .ok ks) (ec ep : Int) (hpb : pg5 b 1048576 = .error (ec, ep)) :
    Calls Tryz.prog 5 #[.string a, .string b] w fun e w' => e = .returned (.bool true) ∧ Below w.heap.size w w' := by
  have HF := hm7 h.fi
  have HCA := hm7 (h.ca w (Below.refl _ _))
  have HCB := hm7 h.cb
  have HPA := hm7 h.pa
  have HPB := hm7 h.pb
  have HPT := hm7 h.pt
  have hs := two_size a b
  obtain ⟨A1, hA1⟩ : ∃ A1, a ++ (⟨#[10]⟩ : ByteArray) = A1 := ⟨_, rfl⟩
  have hs1 : A1.size = a.size + 1 := by rw [← hA1, ByteArray.size_append]; rfl
  obtain ⟨T, hT⟩ : ∃ T, A1 ++ b = T := ⟨_, rfl⟩
  have hTT : two_ a b = T := by rw [← hT, ← hA1]; rfl
  have g1 : ¬ 9223372036854775807 < a.size + 1 := by omega
  have g2 : ¬ 9223372036854775807 < A1.size + b.size := by omega
  have k1 : ¬ (1048576 : Int) < (T.size : Int) := by rw [hTT] at hm; omega
  rw [hca] at HCA
  rw [hcb] at HCB
  have hto := two_back (by omega) hca hcb hpa
  obtain ⟨k0, r0, r1⟩ := er_pg hcb hpb
  have k0 : ¬ ec = 0 := k0
  have r0 : 0 ≤ ep := r0
  have r1 : ep ≤ 2000000 := by have : ep ≤ (b.size : Int) := r1; omega
  have k4 : (ec != 0) = true := by simpa using k0
  have k5 : (ec == 0) = false := by simpa using k0
  have hto2 : pg5 (two_ a b) 1048576 = .error (ec, ep + (a.size : Int) + 1) := by
    rw [hto, hpb]
    show Except.error (ec, ep + ((a.size + 1 : Nat) : Int)) = _
    rw [Int.natCast_add, ← Int.add_assoc]
    rfl
  have heq := eql_ft5 ec (ep + (a.size : Int) + 1)
  rw [hpa] at HPA
  rw [hpb] at HPB
  rw [hto2] at HPT
  rw [hTT] at HPT
  have s1 : (a.size : Int) ≤ 2000000 := by omega
  have s2 : (0 : Int) ≤ (a.size : Int) := by omega
  clear h hs hs1 hTT hm hca hcb hpa hpb ha hb hto hto2
  go_enter Tryz.func5, Tryz.ntmps5
  go_upto_region 3 with (go_at_call 13; refine HCA.out.mono ?_; rintro e W1 ⟨v1, rfl, -, hb⟩; have HB1 := hm7 (ft_step 0 0 hb); have HG1 := hm7 (Bk.new W1 #[.int .i64 0, .int .i64 0] 26); clear hb)
  go_upto_region 4 with (go_at_call 13; refine (HCB.out _ HB1.out).mono ?_; rintro e W2 ⟨v2, rfl, -, hb⟩; have HB2 := hm7 (ft_step 0 0 (HB1.out.trans (hb.mono HB1.out.size))); have HG12 := hm7 ((HG1.out.below hb).below (below1 W2 (.cells #[.int .i64 0, .int .i64 0] 26))); have c10 := HG12.out.cell (i := 0) (v := .int .i64 0) rfl; clear hb)
  go_upto_region 7 with (go_at_call 10; refine (HPA.out _ HB2.out).mono ?_; rintro e W3 ⟨hb, v3, c3, a3, rfl, hc, ha, -⟩; subst hc ha; have HB3 := hm7 (ft_step 0 0 (HB2.out.trans (hb.mono HB2.out.size))); have HG3 := hm7 (Bk.new W3 #[.int .i64 0, .int .i64 0] 26); clear hb)
  go_upto_region 8 with (go_at_call 10; refine (HPB.out _ HB3.out).mono ?_; intro e W4 hh; obtain ⟨hb, rfl⟩ := rep_err hh; clear hh; have HB4 := hm7 (ft_step ec ep (HB3.out.trans (hb.mono HB3.out.size))); have HG4 := hm7 (Bk.new W4 #[.int .i64 ec, .int .i64 ep] 26); have HG34 := hm7 ((HG3.out.below hb).below (below1 W4 (.cells #[.int .i64 ec, .int .i64 ep] 26))); clear hb)
  go_upto_region 9 with (go_at_call 10; refine (HPT.out _ HB4.out).mono ?_; intro e W5 hh; obtain ⟨hb, rfl⟩ := rep_err hh; clear hh; have HB5 := hm7 (ft_step ec (ep + (a.size : Int) + 1) (HB4.out.trans (hb.mono HB4.out.size))); have HG5 := hm7 (Bk.new W5 #[.int .i64 ec, .int .i64 (ep + (a.size : Int) + 1)] 26); have HG35 := hm7 ((HG34.out.below hb).below (below1 W5 (.cells #[.int .i64 ec, .int .i64 (ep + (a.size : Int) + 1)] 26))); have HG45 := hm7 ((HG4.out.below hb).below (below1 W5 (.cells #[.int .i64 ec, .int .i64 (ep + (a.size : Int) + 1)] 26))); have c30 := HG35.out.cell (i := 0) (v := .int .i64 0) rfl; have c40 := HG45.out.cell (i := 0) (v := .int .i64 ec) rfl; have c41 := HG45.out.cell (i := 1) (v := .int .i64 ep) rfl; clear hb)
  go_wp2_with (go_at_call 9; refine (HF.out _ HB5.out).mono ?_; rintro e W6 ⟨rfl, hb⟩; have HB6 := hm7 (HB5.out.trans (hb.mono HB5.out.size)); clear hb)
  go_ret
  exact ⟨rfl, HB6.out⟩
end Go.Proofs.YtnikmcmkbjjcdaaGreatDoor
/-
  SyntaxJoins: both texts are read well. (Written by SJ12.py.)
-/
namespace Go.Proofs.YtnikmcmkbjjcdaaGreatDoor
open Go.RowKit
attribute [local go_sem ↓] Go.wp_at_zero Go.wp_at_succ

theorem cls5_len {p : Int} {h : At} : ∀ {m : List (List Lf5)} {acc ks : List Ck}, cls5 p h m acc = .ok ks → ks.length = acc.length + m.length
  | [], acc, ks, e => by rw [← Except.ok.inj (show Except.ok acc = Except.ok ks from e)]; rfl
  | x :: r, acc, ks, e => by
    unfold cls5 at e
    by_cases e0 : ch5 (normC (ck5 h x)) = 0
    · rw [if_pos e0] at e
      have := cls5_len e
      rw [this, List.length_append]
      simp only [List.length_cons, List.length_nil]; omega
    · rw [if_neg e0] at e; cases e
theorem rl5_len {T : List Tk} {L nx n' : Nat} {ks : List Ck} (he : rl5 T L nx = .ok (ks, n')) : ks.length ≤ 64 := by
  unfold rl5 at he
  cases hr : rh5 T L (s05 nx) with
  | error x => rw [hr] at he; cases he
  | ok p =>
    obtain ⟨⟨h, m⟩, s⟩ := p
    rw [hr] at he
    have he' : (if 64 < m.length then _ else _ : Except (Int × Int) (List Ck × Nat)) = .ok (ks, n') := he
    by_cases hm : 64 < m.length
    · rw [if_pos hm] at he'; cases he'
    · rw [if_neg hm] at he'
      cases hc : cls5 (pl5 T L (s05 nx)) h m [] with
      | error x => rw [hc] at he'; cases he'
      | ok k2 =>
        rw [hc] at he'
        have e1 : k2 = ks := (Prod.mk.inj (Except.ok.inj he')).1
        have := cls5_len hc
        rw [← e1, this]
        simp only [List.length_nil]; omega
theorem pr5_len {T : List Tk} {L : Nat} : ∀ (f : Nat) (acc ks : List Ck) (nx : Nat), pr5 T L f acc nx = .ok ks → ks.length ≤ acc.length + 64 * f
  | 0, acc, ks, nx, e => by rw [← Except.ok.inj (show Except.ok acc = Except.ok ks from e)]; omega
  | f + 1, acc, ks, nx, e => by
    unfold pr5 at e
    by_cases hn : nx < T.length
    · rw [if_pos hn] at e
      cases hr : rl5 T L nx with
      | error x => rw [hr] at e; cases e
      | ok p =>
        obtain ⟨k2, n'⟩ := p
        rw [hr] at e
        have h1 := rl5_len hr
        have h2 := pr5_len f (acc ++ k2) ks n' e
        rw [List.length_append] at h2
        omega
    · rw [if_neg hn] at e
      rw [← Except.ok.inj e]; omega
theorem pg5_len {s : ByteArray} {T : List Tk} {ks : List Ck} (hc : cutL (blK s) 1048576 = (T, 0, 0)) (h : pg5 s 1048576 = .ok ks) : ks.length ≤ 200000000 := by
  have h1 := cut_small (s := s) (most := 1048576) (by decide) (by rw [hc])
  rw [hc] at h1
  have h2 : T.length ≤ 2000000 := h1.l
  rw [pg5_cut hc] at h
  have := pr5_len _ _ _ _ h
  simp only [List.length_nil] at this
  omega
theorem rep_ok {X w' : World} {e : Ending} {ks : List Ck} (h : ReP X (.ok ks) e w') : Below X.heap.size X w' ∧ ∃ v l, e = .returned (.tuple #[v, .agg #[.int .i64 0, .int .i64 0]]) ∧ l.map Cm.key = ks ∧ RL (fun b => X.heap.size ≤ b) w' v l := by
  obtain ⟨hb, v, c, a, rfl, hc, ha, l, h1, h2⟩ := h
  refine ⟨hb, v, l, ?_, h1, h2⟩
  rw [hc, ha]
/-- A list of clauses behind what is written beyond B. -/
theorem RL.past {B : Nat} {w w' : World} {v : Value} {l : List Cm} {g : Option Nat} (h : RL (fun b => b < B) w v l) (hg : w.grownBy w' g) (hB : ∀ k, g = some k → B ≤ k) : RL (fun b => b < B) w' v l :=
  h.fr (Q := fun b => B ≤ b) (Fr.grown hg hB) fun b h1 h2 => by omega
/-- Two lists, one behind the other. -/
theorem RL.both {B : Nat} {w : World} {v v3 v4 : Value} {l3 l4 : List Cm} {N : Nat} (h3 : RL (fun b => b < B) w v3 l3) (h4 : RL (fun b => b < B) w v4 l4) (hN : N = l3.length + l4.length) (ho : w.ownsRow 0 37 7 v N (l3.flatMap cc5 ++ l4.flatMap cc5)) (hv : ∀ k, v.ownBlock = some k → B ≤ k) : RL (fun _ => True) w v (l3 ++ l4) := by
  refine ⟨?_, fun _ _ => trivial, fun c hc => ?_⟩
  · rw [List.length_append, ← hN, List.flatMap_append]; exact ho
  · have hk : KF (fun b => b < B) w c := by
      rcases List.mem_append.1 hc with hc | hc
      · exact (h3.k c hc).mono fun b _ h => h.1
      · exact (h4.k c hc).mono fun b _ h => h.1
    exact hk.mono fun b _ h => ⟨trivial, fun e => by have := hv b e; omega⟩
theorem RL.one5 {F : Nat → Prop} {w : World} {v : Value} {l : List Cm} (h : RL F w v l) : ∀ u ∈ l.flatMap cc5, u.oneCell' = true := fun u hu => by
  obtain ⟨d, hd, hu⟩ := List.mem_flatMap.1 hu
  exact cc5_one (h.k d hd).ok u hu
theorem lit0_5 (W : World) : ((W.alloc (.cells #[.int .i64 0, .int .i64 0] 26)).alloc (.cells #[] 37)).ownsRow 0 37 7 (.slice (some ⟨W.heap.size + 1, 0, none⟩) 0 0) 0 [] := by
  have := World.ownsRow_lit (base := 0) (e := 37) (size := 7) (W.alloc (.cells #[.int .i64 0, .int .i64 0] 26)) #[] 0 (Nat.zero_le _) (Nat.zero_le _) rfl
  have e : (W.alloc (.cells #[.int .i64 0, .int .i64 0] 26)).heap.size = W.heap.size + 1 := by simp
  rw [e] at this
  exact this
theorem joins_k (W : World) : ∀ k, (Value.slice (some ⟨W.heap.size + 1, 0, none⟩) 0 0).ownBlock = some k → W.heap.size ≤ k := fun k e => by
  have : W.heap.size + 1 = k := Option.some.inj e
  omega
theorem joins_own {v : Value} {W X : World} (h : v.ownBlock = (Value.slice (some ⟨W.heap.size + 1, 0, none⟩) 0 0).ownBlock ∨ v.ownBlock = some X.heap.size) (hX : X.heap.size = W.heap.size + 2) : ∀ k, v.ownBlock = some k → W.heap.size + 1 ≤ k := fun k e => by
  rcases h with h | h
  · rw [e] at h
    have : k = W.heap.size + 1 := Option.some.inj h
    omega
  · rw [e] at h
    have : k = X.heap.size := Option.some.inj h
    omega
theorem joins_below {w W X w7 w8 : World} {v7 : Value} (h : Below w.heap.size w X) (h7 : X.grownBy w7 (Value.slice (some ⟨W.heap.size + 1, 0, none⟩) 0 0).ownBlock) (h8 : w7.grownBy w8 v7.ownBlock) (hv : ∀ k, v7.ownBlock = some k → W.heap.size + 1 ≤ k) (hs : w.heap.size ≤ W.heap.size + 1) (hX : X.heap.size = W.heap.size + 2) : Below w.heap.size w w8 := by
  have b7 : Below w.heap.size w w7 := h.grown h7 h.size fun k e => by
    have : W.heap.size + 1 = k := Option.some.inj e
    omega
  exact b7.grown h8 b7.size fun k e => by have := hv k e; omega
theorem joins_lists {l3 l4 l5 : List Cm} {v3 v4 v5 v7 v8 : Value} {W X w7 w8 : World} {n3 n4 : Nat} (hl : l5.length ≤ 400000000) (hk : l5.map Cm.key = (l3 ++ l4).map Cm.key) (h3 : RL (fun b => b < W.heap.size) X v3 l3) (h4 : RL (fun b => b < W.heap.size) X v4 l4) (h5 : RL (fun b => b < W.heap.size) X v5 l5)
    (h7 : X.grownBy w7 (Value.slice (some ⟨W.heap.size + 1, 0, none⟩) 0 0).ownBlock) (h8 : w7.grownBy w8 v7.ownBlock) (hv : ∀ k, v7.ownBlock = some k → W.heap.size + 1 ≤ k) (hv8 : v8.ownBlock = v7.ownBlock ∨ v8.ownBlock = some w7.heap.size) (ho : w8.ownsRow 0 37 7 v8 (n3 + n4) (l3.flatMap cc5 ++ l4.flatMap cc5)) (hn : l3.length = n3 ∧ l4.length = n4) (hX : X.heap.size = W.heap.size + 2) :
    Calls Tryz.prog 14 #[v5, v8] w8 fun e w' => e = .returned (.bool true) ∧ Below w8.heap.size w8 w' := by
  have q : ∀ k, v7.ownBlock = some k → W.heap.size ≤ k := fun k e => by have := hv k e; omega
  have g3 := (h3.past h7 (joins_k W)).past h8 q
  have g4 := (h4.past h7 (joins_k W)).past h8 q
  have g5 := (h5.past h7 (joins_k W)).past h8 q
  have hs7 := h7.size
  refine lists5_any _ _ l5 (l3 ++ l4) v5 v8 w8 g5 (RL.both g3 g4 (by rw [hn.1, hn.2]) ho fun k e => ?_) hk (by omega)
  rcases hv8 with e1 | e1
  · exact q k (e1 ▸ e)
  · rw [e] at e1
    have : k = w7.heap.size := Option.some.inj e1
    omega
set_option maxRecDepth 20000 in
set_option maxHeartbeats 4000000 in
theorem joins_ok (a b : ByteArray) (A B : List Tk) (w : World) (ha : a.size ≤ 2000000) (hb : b.size ≤ 2000000) (h : SJH a b w) (hm : (two_ a b).size ≤ 1048576) (hca : cutL (blK a) 1048576 = (A, 0, 0)) (hcb : cutL (blK b) 1048576 = (B, 0, 0)) (ks : List Ck) (hpa : pg5 a 1048576 = .ok ks) (ls : List Ck) (hpb : pg5 b 1048576 = .ok ls) :
    Calls Tryz.prog 5 #[.string a, .string b] w fun e w' => e = .returned (.bool true) ∧ Below w.heap.size w w' := by
  have HF := hm7 h.fi
  have HCA := hm7 (h.ca w (Below.refl _ _))
  have HCB := hm7 h.cb
  have HPA := hm7 h.pa
  have HPB := hm7 h.pb
  have HPT := hm7 h.pt
  have hs := two_size a b
  obtain ⟨A1, hA1⟩ : ∃ A1, a ++ (⟨#[10]⟩ : ByteArray) = A1 := ⟨_, rfl⟩
  have hs1 : A1.size = a.size + 1 := by rw [← hA1, ByteArray.size_append]; rfl
  obtain ⟨T, hT⟩ : ∃ T, A1 ++ b = T := ⟨_, rfl⟩
  have hTT : two_ a b = T := by rw [← hT, ← hA1]; rfl
  have g1 : ¬ 9223372036854775807 < a.size + 1 := by omega
  have g2 : ¬ 9223372036854775807 < A1.size + b.size := by omega
  have k1 : ¬ (1048576 : Int) < (T.size : Int) := by rw [hTT] at hm; omega
  rw [hca] at HCA
  rw [hcb] at HCB
  have hto := two_back (by omega) hca hcb hpa
  rw [hpb] at hto
  have hto2 : pg5 (two_ a b) 1048576 = .ok (ks ++ ls) := hto
  have HL1 := hm7 (pg5_len hca hpa)
  have HL2 := hm7 (pg5_len hcb hpb)
  have heq := eql_ft5 0 0
  rw [hpa] at HPA
  rw [hpb] at HPB
  rw [hto2] at HPT
  rw [hTT] at HPT
  clear h hs hs1 hTT hm hca hcb hpa hpb ha hb hto hto2
  go_enter Tryz.func5, Tryz.ntmps5
  go_upto_region 3 with (go_at_call 13; refine HCA.out.mono ?_; rintro e W1 ⟨v1, rfl, -, hb⟩; have HB1 := hm7 (ft_step 0 0 hb); have HG1 := hm7 (Bk.new W1 #[.int .i64 0, .int .i64 0] 26); clear hb)
  go_upto_region 4 with (go_at_call 13; refine (HCB.out _ HB1.out).mono ?_; rintro e W2 ⟨v2, rfl, -, hb⟩; have HB2 := hm7 (ft_step 0 0 (HB1.out.trans (hb.mono HB1.out.size))); have HG12 := hm7 ((HG1.out.below hb).below (below1 W2 (.cells #[.int .i64 0, .int .i64 0] 26))); have c10 := HG12.out.cell (i := 0) (v := .int .i64 0) rfl; clear hb)
  go_upto_region 7 with (go_at_call 10; refine (HPA.out _ HB2.out).mono ?_; intro e W3 hh; obtain ⟨hb, v3, l3, rfl, hk3, hr3⟩ := rep_ok hh; clear hh; have HK3 := hm7 hk3; clear hk3; have HB3 := hm7 (ft_step 0 0 (HB2.out.trans (hb.mono HB2.out.size))); have HG3 := hm7 (Bk.new W3 #[.int .i64 0, .int .i64 0] 26); have HR3 := hm7 ((hr3.mono (G := fun b => b < W3.heap.size) fun b h _ => h).below (below1 W3 (.cells #[.int .i64 0, .int .i64 0] 26))); clear hr3; clear hb)
  go_upto_region 8 with (go_at_call 10; refine (HPB.out _ HB3.out).mono ?_; intro e W4 hh; obtain ⟨hb, v4, l4, rfl, hk4, hr4⟩ := rep_ok hh; clear hh; have HK4 := hm7 hk4; clear hk4; have HB4 := hm7 (ft_step 0 0 (HB3.out.trans (hb.mono HB3.out.size))); have HG4 := hm7 (Bk.new W4 #[.int .i64 0, .int .i64 0] 26); have HR4 := hm7 ((hr4.mono (G := fun b => b < W4.heap.size) fun b h _ => h).below (below1 W4 (.cells #[.int .i64 0, .int .i64 0] 26))); clear hr4; have HS3 := hm7 (((HR3.out.below hb).mono (G := fun b => b < W4.heap.size) fun b h _ => h).below (below1 W4 (.cells #[.int .i64 0, .int .i64 0] 26))); clear HR3; have HR3 := HS3; clear HS3; have HG34 := hm7 ((HG3.out.below hb).below (below1 W4 (.cells #[.int .i64 0, .int .i64 0] 26))); clear hb)
  go_upto_region 9 with (go_at_call 10; refine (HPT.out _ HB4.out).mono ?_; intro e W5 hh; obtain ⟨hb, v5, l5, rfl, hk5, hr5⟩ := rep_ok hh; clear hh; have HK5 := hm7 hk5; clear hk5; have HB5 := hm7 (ft_step 0 0 (HB4.out.trans (hb.mono HB4.out.size))); have HG5 := hm7 (Bk.new W5 #[.int .i64 0, .int .i64 0] 26); have HR5 := hm7 ((hr5.mono (G := fun b => b < W5.heap.size) fun b h _ => h).below (below1 W5 (.cells #[.int .i64 0, .int .i64 0] 26))); clear hr5; have HS3 := hm7 (((HR3.out.below hb).mono (G := fun b => b < W5.heap.size) fun b h _ => h).below (below1 W5 (.cells #[.int .i64 0, .int .i64 0] 26))); clear HR3; have HR3 := HS3; clear HS3; have HS4 := hm7 (((HR4.out.below hb).mono (G := fun b => b < W5.heap.size) fun b h _ => h).below (below1 W5 (.cells #[.int .i64 0, .int .i64 0] 26))); clear HR4; have HR4 := HS4; clear HS4; have HG35 := hm7 ((HG34.out.below hb).below (below1 W5 (.cells #[.int .i64 0, .int .i64 0] 26))); have HG45 := hm7 ((HG4.out.below hb).below (below1 W5 (.cells #[.int .i64 0, .int .i64 0] 26))); have c30 := HG35.out.cell (i := 0) (v := .int .i64 0) rfl; have c40 := HG45.out.cell (i := 0) (v := .int .i64 0) rfl; clear hb)
  go_upto_region 13 with fail
  clear c30 c40 c10
  have HE3 : Hid (l3.length ≤ 200000000 ∧ l4.length ≤ 200000000 ∧ l5.length ≤ 400000000 ∧ l5.map Cm.key = (l3 ++ l4).map Cm.key) := by
    have h3 := congrArg List.length HK3.out
    have h4 := congrArg List.length HK4.out
    have h5 := congrArg List.length HK5.out
    rw [List.length_map] at h3 h4 h5
    rw [List.length_append] at h5
    have := HL1.out
    have := HL2.out
    exact ⟨by omega, by omega, by omega, by rw [HK5.out, List.map_append, HK3.out, HK4.out]⟩
  have HO0 := hm7 (lit0_5 W5)
  have HX := hm7 (below1 (W5.alloc (.cells #[.int .i64 0, .int .i64 0] 26)) (.cells #[] 37))
  have HR3x := hm7 (HR3.out.below HX.out)
  have HR4x := hm7 (HR4.out.below HX.out)
  have HR5x := hm7 (HR5.out.below HX.out)
  have HBX := hm7 (HB5.out.trans (HX.out.mono HB5.out.size))
  have HSX : Hid (((W5.alloc (.cells #[.int .i64 0, .int .i64 0] 26)).alloc (.cells #[] 37)).heap.size = W5.heap.size + 2) := by show _ = _; simp
  have HSB : Hid (w.heap.size ≤ W5.heap.size + 1) := by have := HB5.out.size; simp at this; exact this
  obtain ⟨n3, hn3⟩ : ∃ n, l3.length = n := ⟨_, rfl⟩
  obtain ⟨n4, hn4⟩ : ∃ n, l4.length = n := ⟨_, rfl⟩
  have HN : Hid (l3.length = n3 ∧ l4.length = n4) := ⟨hn3, hn4⟩
  have hb3 : n3 ≤ 200000000 := by have := HE3.out.1; omega
  have hb4 : n4 ≤ 200000000 := by have := HE3.out.2.1; omega
  clear hn3 hn4 HR3 HR4 HR5 HK3 HK4 HK5 HL1 HL2 HCA HCB HPA HPB HPT HG1 HG12 HG3 HG34 HG35 HG4 HG45 HG5 HB1 HB2 HB3 HB4
  go_wp2_with (first
    | (at_builtin; refine gappW5 (by rfl) _ _ rfl 0 (.slice (some ⟨W5.heap.size + 1, 0, none⟩) 0 0) 0 [] rfl HO0.out v3 n3 0 (l3.flatMap cc5) rfl (by have := HR3x.out.o; rw [HN.out.1] at this; exact this) HR3x.out.one5 (by omega) (Nat.zero_le _) n3 (by omega) ?_; intro va vc w7 ho hg hv; have HO7 := hm7 ho; have HG7 := hm7 hg; have HV7 := hm7 hv; clear ho hg hv; have HQ7 : Hid (∀ k, (Value.slice va n3 vc).ownBlock = some k → W5.heap.size + 1 ≤ k) := joins_own HV7.out HSX.out)
    | (at_builtin; refine gappW5 (by rfl) _ _ rfl 0 (.slice va n3 vc) n3 (l3.flatMap cc5) rfl (by have := HO7.out; rw [List.nil_append] at this; exact this) v4 n4 0 (l4.flatMap cc5) rfl (by have := (HR4x.out.past HG7.out (joins_k W5)).o; rw [HN.out.2] at this; exact this) HR4x.out.one5 (by omega) (Nat.zero_le _) (n3 + n4) rfl ?_; intro vb vd w8 ho hg hv; have HO8 := hm7 ho; have HG8 := hm7 hg; have HV8 := hm7 hv; clear ho hg hv; have HLS := hm7 (joins_lists HE3.out.2.2.1 HE3.out.2.2.2 HR3x.out HR4x.out HR5x.out HG7.out HG8.out HQ7.out HV8.out HO8.out HN.out HSX.out); have HB8 := hm7 (joins_below HBX.out HG7.out HG8.out HQ7.out HSB.out HSX.out))
    | (go_at_call 14; refine HLS.out.mono ?_; rintro e w9 ⟨rfl, hb⟩; have HB9 := hm7 (HB8.out.trans (hb.mono HB8.out.size)); clear hb)
    | (go_at_call 9; refine (HF.out _ HB9.out).mono ?_; rintro e w10 ⟨rfl, hb⟩; have HB10 := hm7 (HB9.out.trans (hb.mono HB9.out.size)); clear hb))
  go_ret
  exact ⟨rfl, HB10.out⟩
end Go.Proofs.YtnikmcmkbjjcdaaGreatDoor
