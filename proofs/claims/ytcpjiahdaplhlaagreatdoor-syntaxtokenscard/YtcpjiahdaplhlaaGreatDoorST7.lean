/-
  SyntaxTokens: the walk. (Written by ST7.py.)
-/
import Derived.Test.YtcpjiahdaplhlaaGreatDoorST7A
namespace Go.Proofs.YtcpjiahdaplhlaaGreatDoor
open Go.RowKit
attribute [local go_sem ↓] Go.wp_at_zero Go.wp_at_succ

theorem Js5.later {w X : World} {u : Value} {h : List Int} (hu : Js5 w u h) (hb : Below w.heap.size w X) : Js5 X u h := by
  obtain ⟨a, cap, rfl, hm⟩ := hu
  refine ⟨a, cap, rfl, ?_⟩
  rcases hm with e | ⟨b, o, e, h1, h2⟩
  · exact Or.inl e
  · exact Or.inr ⟨b, o, e, Nat.lt_of_lt_of_le h1 hb.size, fun i x hx => cell_step hb h1 (h2 i x hx)⟩
theorem fr_fault (W : World) (G : Nat) (c a : Value) : Fr (fun b => b = G) W ((W.setCell ⟨G, 0, none⟩ c).setCell ⟨G, 1, none⟩ a) := ((Fr.refl (fun b => b = G) _).set (Or.inl rfl)).set (Or.inl rfl)
theorem ot_form {w : World} {B yn : Nat} {y : Value} {l : List Tm} (hn : l.length = yn) (h : Ot5 w B y l) : ∃ a c, y = .slice a yn c := by
  obtain ⟨a, c, e, -⟩ := row7_form h
  exact ⟨a, c, by rw [e, hn]⟩
theorem row_typ {w : World} {g g' : Nat} {c c' : Array Value} {t t' : TypeId} (h : Bk w g c t) (h' : Bk w g' c' t') (ht : t ≠ t') : ¬ g = g' := by
  rintro rfl
  have h : w.heap[g]? = some (.cells c t (0, 0)) := h
  have h' : w.heap[g]? = some (.cells c' t' (0, 0)) := h'
  rw [h] at h'
  simp only [Option.some.injEq, Obj.cells.injEq] at h'
  exact ht h'.2.1
set_option maxRecDepth 20000 in
set_option maxHeartbeats 8000000 in
theorem tokens5_any (s : ByteArray) (h : List Int) (u : Value) (w : World) (hu : Js5 w u h) (hE : EnvOk w) (hO : OpsOk w) :
    Calls Tryz.prog 3 #[.string s, u] w fun e w' => e = .returned (.bool true) ∧ Below w.heap.size w w' := by
  have h1 : ∀ X : World, Below w.heap.size w X → EnvOk X ∧ OpsOk X := fun X hX => ⟨hE.later hX, hO.fr (P := fun _ => False) (Fr.of hX) fun h => h⟩
  have HF : Hid (∀ X : World, Below w.heap.size w X → Calls Tryz.prog 8 #[] X fun e w' => e = .returned (.bool true) ∧ Below X.heap.size X w') := fun X hX => first5_any X (h1 X hX).1 (h1 X hX).2
  have HC := hm7 (cut_all s 32768 (by decide) w hE)
  by_cases hc : (cutL (blK s) 32768).2.1 = 0
  · obtain ⟨l, hT⟩ := cut_zero5 hc
    rw [hT] at HC
    have hsz : s.size ≤ 32768 := by have := (cut_ok hT).1; omega
    obtain ⟨-, hln, hok⟩ := cut_facts (by omega) hT
    obtain ⟨n, hn⟩ : ∃ n, l.length = n := ⟨_, rfl⟩
    obtain ⟨K, hK⟩ : ∃ K, kh5 h = K := ⟨_, rfl⟩
    have hst := st5_size K hsz hT
    have HBA : Hid (∀ (v : Value) (X : World), Ks X v l → Calls Tryz.prog 10 #[v] X fun e w' => ∃ v', e = .returned v' ∧ OwnK w' X.heap.size v' (l.map bar5) ∧ Below X.heap.size X w') := fun v X hk => bare5_any l v X hk (by omega)
    obtain ⟨SS, hSS⟩ : ∃ z, ofL (st5 K l) = z := ⟨_, rfl⟩
    have hsl : SS.size = (st5 K l).length := by rw [← hSS]; exact ofL_sz _
    have HSP : Hid (∀ (v : Value) (X : World), Ks X v (l.map bar5) → Below w.heap.size w X → Calls Tryz.prog 9 #[v, u, .bool true] X fun e w' => ∃ va, e = .returned (.tuple #[.string SS, va]) ∧ w'.ownsRow X.heap.size 3 1 va (n + 1) (at5v K l (n + 1)) ∧ Below X.heap.size X w') := fun v X hk hX => by
      have := spelt5_any (l.map bar5) h v u X hk (hu.later hX) (h1 X hX).1 (fun t ht => by
        obtain ⟨t', h2, rfl⟩ := List.mem_map.1 ht
        exact hok t' h2) (by rw [List.length_map]; omega) (by rw [hK, st5_bar]; omega)
      rw [hK, st5_bar, at5v_bar, List.length_map, hn, hSS] at this
      exact this
    by_cases hlen : (32768 : Int) < (SS.size : Int)
    · clear hT hn hK hst hSS hsl hok hln hc h1 hu hE hO hsz
      go_enter Tryz.func3, Tryz.ntmps3
      go_upto_region 2 with (go_at_call 7; refine HC.out.mono ?_; rintro e W1 ⟨v1, rfl, hk, hb⟩; have HB1 := hm7 (ft_step 0 0 hb); have HK1 := hm7 (hk.later (below1 W1 (.cells #[.int .i64 0, .int .i64 0] 26))); have c0 := (Bk.new W1 #[.int .i64 0, .int .i64 0] 26).cell (i := 0) rfl; clear hb hk)
      go_upto_region 5 with (first
        | (go_at_call 10; refine (HBA.out _ _ HK1.out.ks).mono ?_; rintro e W2 ⟨v2, rfl, hk2, hb2⟩; have HK2 := hm7 hk2; have HB2 := hm7 (below_step HB1.out hb2); clear hk2 hb2 c0)
        | (go_at_call 9; refine (HSP.out _ _ HK2.out.ks HB2.out).mono ?_; rintro e W3 ⟨va, rfl, hat, hb3⟩; have HB3 := hm7 (below_step HB2.out hb3); clear hat hb3))
      go_wp2_with (go_at_call 8; refine (HF.out _ HB3.out).mono ?_; rintro e W4 ⟨rfl, hb⟩; have HB4 := hm7 (below_step HB3.out hb); clear hb)
      go_ret
      exact ⟨rfl, HB4.out⟩
    · obtain ⟨c, a, a', ks, p1, p2, p3⟩ := tok_pg K hT (by omega)
      obtain ⟨d, q, q', x, r1, r2, r3, r4⟩ := tok_qg K hT (by omega)
      rw [hSS] at p2 r2
      have HP1 : Hid (∀ X : World, Below w.heap.size w X → Calls Tryz.prog 11 #[.string s] X (PP5 X c a ks)) := fun X hX => p1 X (h1 X hX).1 (h1 X hX).2
      have HP2 : Hid (∀ X : World, Below w.heap.size w X → Calls Tryz.prog 11 #[.string SS] X (PP5 X c a' ks)) := fun X hX => p2 X (h1 X hX).1 (h1 X hX).2
      have HQ1 : Hid (∀ X : World, Below w.heap.size w X → Calls Tryz.prog 14 #[.string s] X (QQ5 X d q x)) := fun X hX => r1 X (h1 X hX).1 (h1 X hX).2
      have HQ2 : Hid (∀ X : World, Below w.heap.size w X → Calls Tryz.prog 14 #[.string SS] X (QQ5 X d q' x)) := fun X hX => r2 X (h1 X hX).1 (h1 X hX).2
      have HP3 := hm7 p3
      have HR3 := hm7 r3
      have HR4 := hm7 r4
      have HLN : Hid (l.length ≤ 2000000) := by show _ ≤ _; omega
      have HN := hm7 hn
      have HPI : Hid (∀ p : Int, wh5 p l ≤ n ∧ (at5v K l (n + 1))[wh5 p l]? = some (.int .i64 ((cn5 K l).π p))) := fun p => by
        have hw := wh5_le p l
        rw [hn] at hw
        exact ⟨hw, by rw [at5v_get K l (by omega), pi_at]⟩
      obtain ⟨π, hπ⟩ : ∃ f, (cn5 K l).π = f := ⟨_, rfl⟩
      obtain ⟨av, hav⟩ : ∃ z, at5v K l (n + 1) = z := ⟨_, rfl⟩
      rw [hπ] at HP3 HR3 HPI
      rw [hav] at HPI HSP
      have hn9 : n ≤ 40000 := by omega
      clear hT hn hK hst hSS hsl hok hln hc h1 hu hE hO hsz p1 p2 p3 r1 r2 r3 r4 hπ hav
      go_enter Tryz.func3, Tryz.ntmps3
      go_upto_region 2 with (go_at_call 7; refine HC.out.mono ?_; rintro e W1 ⟨v1, rfl, hk, hb⟩; have HB1 := hm7 (ft_step 0 0 hb); have HK1 := hm7 (hk.later (below1 W1 (.cells #[.int .i64 0, .int .i64 0] 26))); have c0 := (Bk.new W1 #[.int .i64 0, .int .i64 0] 26).cell (i := 0) rfl; clear hb hk)
      go_upto_region 5 with (first
        | (go_at_call 10; refine (HBA.out _ _ HK1.out.ks).mono ?_; rintro e W2 ⟨v2, rfl, hk2, hb2⟩; have HK2 := hm7 hk2; have HK1b := hm7 (HK1.out.later hb2); have HB2 := hm7 (below_step HB1.out hb2); clear hk2 hb2 c0)
        | (go_at_call 9; refine (HSP.out _ _ HK2.out.ks HB2.out).mono ?_; rintro e W3 ⟨va, rfl, hat, hb3⟩; have HB3 := hm7 (below_step HB2.out hb3); have HK3 := hm7 (HK1b.out.later hb3).ks; have HAT := hm7 hat; clear hat hb3))
      obtain ⟨ab, ac, hvf, hab⟩ := own_some5 HAT.out (by omega)
      subst hvf
      have HZA := hm7 hab
      clear hab HK1 HK2 HK1b HB1 HB2 HC HBA HSP
      go_upto_region 8 with (go_at_call 11; refine (HP1.out _ HB3.out).mono ?_; rintro e W4 ⟨hb, cv, cl, rfl, hrl, hck, hcl⟩; have HB4 := hm7 hb; have HRL4 := hm7 hrl; have HCK := hm7 hck; have HCL := hm7 hcl; clear hb hrl hck hcl)
      have HB4a := hm7 (below_step HB4.out (below1 W4 (.cells #[.int .i64 c, .int .i64 a] 26)))
      have HG4 := hm7 (Bk.new W4 #[.int .i64 c, .int .i64 a] 26)
      have HRL4a := hm7 (HRL4.out.below (below1 W4 (.cells #[.int .i64 c, .int .i64 a] 26)))
      have HGW : Hid (W3.heap.size ≤ W4.heap.size) := HB4.out.size
      revert HB4a HG4 HRL4a HGW
      clear HB4 HRL4
      generalize W4.alloc (.cells #[.int .i64 c, .int .i64 a] 26) = W4a
      generalize W4.heap.size = G at *
      intro HB4a HG4 HRL4a HGW
      go_upto_region 9 with (go_at_call 11; refine (HP2.out _ (below_step HB3.out HB4a.out)).mono ?_; rintro e W5 ⟨hb, dv, dl, rfl, hrl, hdk, hdl⟩; have HB5 := hm7 hb; have HRL5 := hm7 hrl; have HDK := hm7 hdk; clear hb hrl hdk hdl)
      have hb6 := below1 W5 (.cells #[.int .i64 c, .int .i64 a'] 26)
      have hb56 := below_step HB5.out hb6
      have HB6 := hm7 (below_step HB4a.out hb56)
      have HG6 := hm7 (HG4.out.below hb56)
      have HH6 := hm7 (Bk.new W5 #[.int .i64 c, .int .i64 a'] 26)
      have HRLc := hm7 (HRL4a.out.below hb56)
      have HRLd := hm7 (HRL5.out.below hb6)
      have HGH : Hid (G < W5.heap.size) := Nat.lt_of_lt_of_le HG4.out.lt HB5.out.size
      revert HB6 HG6 HH6 HRLc HRLd HGH
      clear hb6 hb56 HB5 HRL5 HG4 HRL4a HB4a
      generalize W5.alloc (.cells #[.int .i64 c, .int .i64 a'] 26) = W6
      generalize W5.heap.size = H at *
      intro HB6 HG6 HH6 HRLc HRLd HGH
      have HLI : Hid (∀ X : World, Below W6.heap.size W6 X → Calls Tryz.prog 12 #[cv, dv] X fun e w' => e = .returned (.bool true) ∧ Below X.heap.size X w') := fun X hX => lists5_any _ _ cl dl cv dv X (HRLc.out.below hX) (HRLd.out.below hX) (HCK.out.trans HDK.out.symm) (by have := HCL.out; omega)
      have HWA : Hid (∀ (p : Int) (X : World), Below W3.heap.size W3 X → Calls Tryz.prog 13 #[v1, .int .i64 p] X fun e w' => e = .returned (.int .i64 (wh5 p l : Int)) ∧ Below X.heap.size X w') := fun p X hX => where5_any l p v1 X (HK3.out.later hX) HLN.out
      have HCA : Hid (∀ (p : Int) (X : World), Below W3.heap.size W3 X → X.cell? ⟨ab, wh5 p l, none⟩ = some (.int .i64 (π p))) := fun p X hX => by
        have := row5_cell HAT.out (HPI.out p).2
        rw [Nat.zero_add] at this
        exact cell_step hX HZA.out this
      clear HRLc HRLd HCK HDK HCL HK3 HAT HP1 HP2
      go_cut [72] from 45 (fun s72 wx => s72 = .bool false ∧ Below W6.heap.size W6 wx)
      case first =>
        rcases HP3.out with ⟨hc0, ha0, ha1⟩ | ⟨hc0, ha1⟩
        · subst hc0 ha0 ha1
          clear HR3 HR4 HQ1 HQ2 HF
          refine wp_region_held_drew (S := fun w' => Below W6.heap.size W6 w') (by kernel_rfl) (Below.refl _ _).drew (fun hH => ?_)
          revert hH
          generalize W6.drew = V
          intro hH
          refine wpAnyH_take (i := 0) (oi := ⟨_, _, _, _, _, _⟩) (v := .pointer (some ⟨G, 0, none⟩)) rfl (by kernel_rfl) (by kernel_rfl) (by kernel_rfl) (fun _ _ _ h => h) (Or.inl ⟨by rfl, fun w' h => by have _h := h; go_simp⟩) hH ?_
          simp only [Act.put, List.setIfInBounds_toArray, List.set_cons_zero, List.set_cons_succ]
          refine wpAnyH_take (i := 1) (oi := ⟨_, _, _, _, _, _⟩) (v := .int .i64 0) rfl (by kernel_rfl) (by kernel_rfl) (by kernel_rfl) (fun _ _ _ h => h) (Or.inl ⟨by rfl, fun w' h => by have _h := h; have a0 := (HG6.out.below h).cell (i := 0) rfl; have a1 := (HG6.out.below h).cell (i := 1) rfl; go_simp⟩) hH ?_
          simp only [Act.put, List.setIfInBounds_toArray, List.set_cons_zero, List.set_cons_succ]
          refine wpAnyH_take (i := 2) (oi := ⟨_, _, _, _, _, _⟩) (v := .pointer (some ⟨H, 0, none⟩)) rfl (by kernel_rfl) (by kernel_rfl) (by kernel_rfl) (fun _ _ _ h => h) (Or.inl ⟨by rfl, fun w' h => by have _h := h; go_simp⟩) hH ?_
          simp only [Act.put, List.setIfInBounds_toArray, List.set_cons_zero, List.set_cons_succ]
          refine wpAnyH_take (i := 3) (oi := ⟨_, _, _, _, _, _⟩) (v := .int .i64 0) rfl (by kernel_rfl) (by kernel_rfl) (by kernel_rfl) (fun _ _ _ h => h) (Or.inl ⟨by rfl, fun w' h => by have _h := h; have a0 := (HH6.out.below h).cell (i := 0) rfl; have a1 := (HH6.out.below h).cell (i := 1) rfl; go_simp⟩) hH ?_
          simp only [Act.put, List.setIfInBounds_toArray, List.set_cons_zero, List.set_cons_succ]
          refine wpAnyH_take (i := 4) (oi := ⟨_, _, _, _, _, _⟩) (v := .bool false) rfl (by kernel_rfl) (by kernel_rfl) (by kernel_rfl) (fun _ _ _ h => h) (Or.inl ⟨by rfl, fun w' h => by have _h := h; go_simp⟩) hH ?_
          simp only [Act.put, List.setIfInBounds_toArray, List.set_cons_zero, List.set_cons_succ]
          refine wpAnyH_take (i := 5) (oi := ⟨_, _, _, _, _, _⟩) (v := .bool false) rfl (by kernel_rfl) (by kernel_rfl) (by kernel_rfl) (fun _ _ _ h => h) (Or.inl ⟨by rfl, fun w' h => by have _h := h; go_simp⟩) hH ?_
          simp only [Act.put, List.setIfInBounds_toArray, List.set_cons_zero, List.set_cons_succ]
          refine wpAnyH_take (i := 6) (oi := ⟨_, _, _, _, _, _⟩) (v := cv) rfl (by kernel_rfl) (by kernel_rfl) (by kernel_rfl) (fun _ _ _ h => h) (Or.inl ⟨by rfl, fun w' h => by have _h := h; go_simp⟩) hH ?_
          simp only [Act.put, List.setIfInBounds_toArray, List.set_cons_zero, List.set_cons_succ]
          refine wpAnyH_take (i := 7) (oi := ⟨_, _, _, _, _, _⟩) (v := dv) rfl (by kernel_rfl) (by kernel_rfl) (by kernel_rfl) (fun _ _ _ h => h) (Or.inl ⟨by rfl, fun w' h => by have _h := h; go_simp⟩) hH ?_
          simp only [Act.put, List.setIfInBounds_toArray, List.set_cons_zero, List.set_cons_succ]
          refine wpAnyH_ready (rs := [8]) (by kernel_rfl) (by simp) ?_
          refine (AllReadyH.cons (o := ⟨_, _, _, _, _, _⟩) rfl (fun K0 hK => ?_) AllReadyH.nil)
          go_simp
          refine (HLI.out _ hH).mono ?_
          rintro e V1 ⟨rfl, hb⟩
          refine hK.out _ _ (below_step hH hb) (fun hH => ?_)
          clear hK K0 hb
          try simp only [Act.put, List.setIfInBounds_toArray, List.set_cons_zero, List.set_cons_succ]
          refine wpAnyH_take (i := 9) (oi := ⟨_, _, _, _, _, _⟩) (v := .bool false) rfl (by kernel_rfl) (by kernel_rfl) (by kernel_rfl) (fun _ _ _ h => h) (Or.inl ⟨by rfl, fun w' h => by have _h := h; go_simp⟩) hH ?_
          simp only [Act.put, List.setIfInBounds_toArray, List.set_cons_zero, List.set_cons_succ]
          refine wpAnyH_take (i := 10) (oi := ⟨_, _, _, _, _, _⟩) (v := .bool false) rfl (by kernel_rfl) (by kernel_rfl) (by kernel_rfl) (fun _ _ _ h => h) (Or.inl ⟨by rfl, fun w' h => by have _h := h; go_simp⟩) hH ?_
          simp only [Act.put, List.setIfInBounds_toArray, List.set_cons_zero, List.set_cons_succ]
          refine wpAnyH_take (i := 11) (oi := ⟨_, _, _, _, _, _⟩) (v := .bool false) rfl (by kernel_rfl) (by kernel_rfl) (by kernel_rfl) (fun _ _ _ h => h) (Or.inl ⟨by rfl, fun w' h => by have _h := h; go_simp⟩) hH ?_
          simp only [Act.put, List.setIfInBounds_toArray, List.set_cons_zero, List.set_cons_succ]
          refine wpAnyH_take (i := 12) (oi := ⟨_, _, _, _, _, _⟩) (v := .pointer (some ⟨G, 0, none⟩)) rfl (by kernel_rfl) (by kernel_rfl) (by kernel_rfl) (fun _ _ _ h => h) (Or.inl ⟨by rfl, fun w' h => by have _h := h; go_simp⟩) hH ?_
          simp only [Act.put, List.setIfInBounds_toArray, List.set_cons_zero, List.set_cons_succ]
          refine wpAnyH_take (i := 13) (oi := ⟨_, _, _, _, _, _⟩) (v := .int .i64 0) rfl (by kernel_rfl) (by kernel_rfl) (by kernel_rfl) (fun _ _ _ h => h) (Or.inl ⟨by rfl, fun w' h => by have _h := h; have a0 := (HG6.out.below h).cell (i := 0) rfl; have a1 := (HG6.out.below h).cell (i := 1) rfl; go_simp⟩) hH ?_
          simp only [Act.put, List.setIfInBounds_toArray, List.set_cons_zero, List.set_cons_succ]
          refine wpAnyH_take (i := 14) (oi := ⟨_, _, _, _, _, _⟩) (v := .bool false) rfl (by kernel_rfl) (by kernel_rfl) (by kernel_rfl) (fun _ _ _ h => h) (Or.inl ⟨by rfl, fun w' h => by have _h := h; go_simp⟩) hH ?_
          simp only [Act.put, List.setIfInBounds_toArray, List.set_cons_zero, List.set_cons_succ]
          refine wpAnyH_take (i := 15) (oi := ⟨_, _, _, _, _, _⟩) (v := .bool false) rfl (by kernel_rfl) (by kernel_rfl) (by kernel_rfl) (fun _ _ _ h => h) (Or.inl ⟨by rfl, fun w' h => by have _h := h; go_simp⟩) hH ?_
          simp only [Act.put, List.setIfInBounds_toArray, List.set_cons_zero, List.set_cons_succ]
          refine wpAnyH_take (i := 16) (oi := ⟨_, _, _, _, _, _⟩) (v := undef) rfl (by kernel_rfl) (by kernel_rfl) (by kernel_rfl) (fun _ _ _ h => h) (Or.inr ⟨by rfl, rfl⟩) hH ?_
          simp only [Act.put, List.setIfInBounds_toArray, List.set_cons_zero, List.set_cons_succ]
          refine wpAnyH_take (i := 17) (oi := ⟨_, _, _, _, _, _⟩) (v := undef) rfl (by kernel_rfl) (by kernel_rfl) (by kernel_rfl) (fun _ _ _ h => h) (Or.inr ⟨by rfl, rfl⟩) hH ?_
          simp only [Act.put, List.setIfInBounds_toArray, List.set_cons_zero, List.set_cons_succ]
          refine wpAnyH_take (i := 18) (oi := ⟨_, _, _, _, _, _⟩) (v := undef) rfl (by kernel_rfl) (by kernel_rfl) (by kernel_rfl) (fun _ _ _ h => h) (Or.inr ⟨by rfl, rfl⟩) hH ?_
          simp only [Act.put, List.setIfInBounds_toArray, List.set_cons_zero, List.set_cons_succ]
          refine wpAnyH_take (i := 19) (oi := ⟨_, _, _, _, _, _⟩) (v := undef) rfl (by kernel_rfl) (by kernel_rfl) (by kernel_rfl) (fun _ _ _ h => h) (Or.inr ⟨by rfl, rfl⟩) hH ?_
          simp only [Act.put, List.setIfInBounds_toArray, List.set_cons_zero, List.set_cons_succ]
          refine wpAnyH_take (i := 20) (oi := ⟨_, _, _, _, _, _⟩) (v := undef) rfl (by kernel_rfl) (by kernel_rfl) (by kernel_rfl) (fun _ _ _ h => h) (Or.inr ⟨by rfl, rfl⟩) hH ?_
          simp only [Act.put, List.setIfInBounds_toArray, List.set_cons_zero, List.set_cons_succ]
          refine wpAnyH_take (i := 21) (oi := ⟨_, _, _, _, _, _⟩) (v := undef) rfl (by kernel_rfl) (by kernel_rfl) (by kernel_rfl) (fun _ _ _ h => h) (Or.inr ⟨by rfl, rfl⟩) hH ?_
          simp only [Act.put, List.setIfInBounds_toArray, List.set_cons_zero, List.set_cons_succ]
          refine wpAnyH_take (i := 22) (oi := ⟨_, _, _, _, _, _⟩) (v := undef) rfl (by kernel_rfl) (by kernel_rfl) (by kernel_rfl) (fun _ _ _ h => h) (Or.inr ⟨by rfl, rfl⟩) hH ?_
          simp only [Act.put, List.setIfInBounds_toArray, List.set_cons_zero, List.set_cons_succ]
          refine wpAnyH_take (i := 23) (oi := ⟨_, _, _, _, _, _⟩) (v := undef) rfl (by kernel_rfl) (by kernel_rfl) (by kernel_rfl) (fun _ _ _ h => h) (Or.inr ⟨by rfl, rfl⟩) hH ?_
          simp only [Act.put, List.setIfInBounds_toArray, List.set_cons_zero, List.set_cons_succ]
          refine wpAnyH_take (i := 24) (oi := ⟨_, _, _, _, _, _⟩) (v := undef) rfl (by kernel_rfl) (by kernel_rfl) (by kernel_rfl) (fun _ _ _ h => h) (Or.inr ⟨by rfl, rfl⟩) hH ?_
          simp only [Act.put, List.setIfInBounds_toArray, List.set_cons_zero, List.set_cons_succ]
          refine wpAnyH_take (i := 25) (oi := ⟨_, _, _, _, _, _⟩) (v := undef) rfl (by kernel_rfl) (by kernel_rfl) (by kernel_rfl) (fun _ _ _ h => h) (Or.inr ⟨by rfl, rfl⟩) hH ?_
          simp only [Act.put, List.setIfInBounds_toArray, List.set_cons_zero, List.set_cons_succ]
          refine wpAnyH_take (i := 26) (oi := ⟨_, _, _, _, _, _⟩) (v := .bool false) rfl (by kernel_rfl) (by kernel_rfl) (by kernel_rfl) (fun _ _ _ h => h) (Or.inl ⟨by rfl, fun w' h => by have _h := h; go_simp⟩) hH ?_
          simp only [Act.put, List.setIfInBounds_toArray, List.set_cons_zero, List.set_cons_succ]
          refine wpAnyH_take (i := 27) (oi := ⟨_, _, _, _, _, _⟩) (v := .bool false) rfl (by kernel_rfl) (by kernel_rfl) (by kernel_rfl) (fun _ _ _ h => h) (Or.inl ⟨by rfl, fun w' h => by have _h := h; go_simp⟩) hH ?_
          simp only [Act.put, List.setIfInBounds_toArray, List.set_cons_zero, List.set_cons_succ]
          refine wpAnyH_done (by kernel_rfl) ?_ _
          have HV := hm7 hH
          clear hH
          go_wp2
          go_meet
          case rel => exact ⟨rfl, HV.out⟩
        · have HAC : Hid (∀ X : World, Below W6.heap.size W6 X → X.cell? ⟨ab, wh5 a l, none⟩ = some (.int .i64 a')) := fun X hX => by rw [ha1]; exact HCA.out a X (below_step HB6.out hX)
          have HWH : Hid (∀ X : World, Below W6.heap.size W6 X → Calls Tryz.prog 13 #[v1, .int .i64 a] X fun e w' => e = .returned (.int .i64 (wh5 a l : Int)) ∧ Below X.heap.size X w') := fun X hX => HWA.out a X (below_step HB6.out hX)
          have hwn := (HPI.out a).1
          obtain ⟨wi, hwi⟩ : ∃ z, wh5 a l = z := ⟨_, rfl⟩
          rw [hwi] at HAC HWH hwn
          have i0 : (0 : Int) ≤ (wi : Int) := by omega
          have i1 : (wi : Int) < (n : Int) + 1 := by omega
          have i2 : ¬ (n : Int) + 1 ≤ (wi : Int) := by omega
          have hc1 : (c == 0) = false := by simp [hc0]
          have hc2 : (c != 0) = true := by simp [hc0]
          clear ha1 hwi HR3 HR4 HQ1 HQ2 HF HWA HCA HPI
          refine wp_region_held_drew (S := fun w' => Below W6.heap.size W6 w') (by kernel_rfl) (Below.refl _ _).drew (fun hH => ?_)
          revert hH
          generalize W6.drew = V
          intro hH
          refine wpAnyH_take (i := 0) (oi := ⟨_, _, _, _, _, _⟩) (v := .pointer (some ⟨G, 0, none⟩)) rfl (by kernel_rfl) (by kernel_rfl) (by kernel_rfl) (fun _ _ _ h => h) (Or.inl ⟨by rfl, fun w' h => by have _h := h; go_simp⟩) hH ?_
          simp only [Act.put, List.setIfInBounds_toArray, List.set_cons_zero, List.set_cons_succ]
          refine wpAnyH_take (i := 1) (oi := ⟨_, _, _, _, _, _⟩) (v := .int .i64 c) rfl (by kernel_rfl) (by kernel_rfl) (by kernel_rfl) (fun _ _ _ h => h) (Or.inl ⟨by rfl, fun w' h => by have _h := h; have a0 := (HG6.out.below h).cell (i := 0) rfl; have a1 := (HG6.out.below h).cell (i := 1) rfl; go_simp⟩) hH ?_
          simp only [Act.put, List.setIfInBounds_toArray, List.set_cons_zero, List.set_cons_succ]
          refine wpAnyH_take (i := 2) (oi := ⟨_, _, _, _, _, _⟩) (v := .pointer (some ⟨H, 0, none⟩)) rfl (by kernel_rfl) (by kernel_rfl) (by kernel_rfl) (fun _ _ _ h => h) (Or.inl ⟨by rfl, fun w' h => by have _h := h; go_simp⟩) hH ?_
          simp only [Act.put, List.setIfInBounds_toArray, List.set_cons_zero, List.set_cons_succ]
          refine wpAnyH_take (i := 3) (oi := ⟨_, _, _, _, _, _⟩) (v := .int .i64 c) rfl (by kernel_rfl) (by kernel_rfl) (by kernel_rfl) (fun _ _ _ h => h) (Or.inl ⟨by rfl, fun w' h => by have _h := h; have a0 := (HH6.out.below h).cell (i := 0) rfl; have a1 := (HH6.out.below h).cell (i := 1) rfl; go_simp⟩) hH ?_
          simp only [Act.put, List.setIfInBounds_toArray, List.set_cons_zero, List.set_cons_succ]
          refine wpAnyH_take (i := 4) (oi := ⟨_, _, _, _, _, _⟩) (v := .bool false) rfl (by kernel_rfl) (by kernel_rfl) (by kernel_rfl) (fun _ _ _ h => h) (Or.inl ⟨by rfl, fun w' h => by have _h := h; go_simp⟩) hH ?_
          simp only [Act.put, List.setIfInBounds_toArray, List.set_cons_zero, List.set_cons_succ]
          refine wpAnyH_take (i := 5) (oi := ⟨_, _, _, _, _, _⟩) (v := .bool false) rfl (by kernel_rfl) (by kernel_rfl) (by kernel_rfl) (fun _ _ _ h => h) (Or.inl ⟨by rfl, fun w' h => by have _h := h; go_simp⟩) hH ?_
          simp only [Act.put, List.setIfInBounds_toArray, List.set_cons_zero, List.set_cons_succ]
          refine wpAnyH_take (i := 6) (oi := ⟨_, _, _, _, _, _⟩) (v := cv) rfl (by kernel_rfl) (by kernel_rfl) (by kernel_rfl) (fun _ _ _ h => h) (Or.inl ⟨by rfl, fun w' h => by have _h := h; go_simp⟩) hH ?_
          simp only [Act.put, List.setIfInBounds_toArray, List.set_cons_zero, List.set_cons_succ]
          refine wpAnyH_take (i := 7) (oi := ⟨_, _, _, _, _, _⟩) (v := dv) rfl (by kernel_rfl) (by kernel_rfl) (by kernel_rfl) (fun _ _ _ h => h) (Or.inl ⟨by rfl, fun w' h => by have _h := h; go_simp⟩) hH ?_
          simp only [Act.put, List.setIfInBounds_toArray, List.set_cons_zero, List.set_cons_succ]
          refine wpAnyH_ready (rs := [8]) (by kernel_rfl) (by simp) ?_
          refine (AllReadyH.cons (o := ⟨_, _, _, _, _, _⟩) rfl (fun K0 hK => ?_) AllReadyH.nil)
          go_simp
          refine (HLI.out _ hH).mono ?_
          rintro e V1 ⟨rfl, hb⟩
          refine hK.out _ _ (below_step hH hb) (fun hH => ?_)
          clear hK K0 hb
          try simp only [Act.put, List.setIfInBounds_toArray, List.set_cons_zero, List.set_cons_succ]
          refine wpAnyH_take (i := 9) (oi := ⟨_, _, _, _, _, _⟩) (v := .bool false) rfl (by kernel_rfl) (by kernel_rfl) (by kernel_rfl) (fun _ _ _ h => h) (Or.inl ⟨by rfl, fun w' h => by have _h := h; go_simp⟩) hH ?_
          simp only [Act.put, List.setIfInBounds_toArray, List.set_cons_zero, List.set_cons_succ]
          refine wpAnyH_take (i := 10) (oi := ⟨_, _, _, _, _, _⟩) (v := .bool false) rfl (by kernel_rfl) (by kernel_rfl) (by kernel_rfl) (fun _ _ _ h => h) (Or.inl ⟨by rfl, fun w' h => by have _h := h; go_simp⟩) hH ?_
          simp only [Act.put, List.setIfInBounds_toArray, List.set_cons_zero, List.set_cons_succ]
          refine wpAnyH_take (i := 11) (oi := ⟨_, _, _, _, _, _⟩) (v := .bool false) rfl (by kernel_rfl) (by kernel_rfl) (by kernel_rfl) (fun _ _ _ h => h) (Or.inl ⟨by rfl, fun w' h => by have _h := h; go_simp⟩) hH ?_
          simp only [Act.put, List.setIfInBounds_toArray, List.set_cons_zero, List.set_cons_succ]
          refine wpAnyH_take (i := 12) (oi := ⟨_, _, _, _, _, _⟩) (v := .pointer (some ⟨G, 0, none⟩)) rfl (by kernel_rfl) (by kernel_rfl) (by kernel_rfl) (fun _ _ _ h => h) (Or.inl ⟨by rfl, fun w' h => by have _h := h; go_simp⟩) hH ?_
          simp only [Act.put, List.setIfInBounds_toArray, List.set_cons_zero, List.set_cons_succ]
          refine wpAnyH_take (i := 13) (oi := ⟨_, _, _, _, _, _⟩) (v := .int .i64 c) rfl (by kernel_rfl) (by kernel_rfl) (by kernel_rfl) (fun _ _ _ h => h) (Or.inl ⟨by rfl, fun w' h => by have _h := h; have a0 := (HG6.out.below h).cell (i := 0) rfl; have a1 := (HG6.out.below h).cell (i := 1) rfl; go_simp⟩) hH ?_
          simp only [Act.put, List.setIfInBounds_toArray, List.set_cons_zero, List.set_cons_succ]
          refine wpAnyH_take (i := 14) (oi := ⟨_, _, _, _, _, _⟩) (v := .bool true) rfl (by kernel_rfl) (by kernel_rfl) (by kernel_rfl) (fun _ _ _ h => h) (Or.inl ⟨by rfl, fun w' h => by have _h := h; go_simp⟩) hH ?_
          simp only [Act.put, List.setIfInBounds_toArray, List.set_cons_zero, List.set_cons_succ]
          refine wpAnyH_take (i := 15) (oi := ⟨_, _, _, _, _, _⟩) (v := .bool true) rfl (by kernel_rfl) (by kernel_rfl) (by kernel_rfl) (fun _ _ _ h => h) (Or.inl ⟨by rfl, fun w' h => by have _h := h; go_simp⟩) hH ?_
          simp only [Act.put, List.setIfInBounds_toArray, List.set_cons_zero, List.set_cons_succ]
          refine wpAnyH_take (i := 16) (oi := ⟨_, _, _, _, _, _⟩) (v := .pointer (some ⟨H, 1, none⟩)) rfl (by kernel_rfl) (by kernel_rfl) (by kernel_rfl) (fun _ _ _ h => h) (Or.inl ⟨by rfl, fun w' h => by have _h := h; go_simp⟩) hH ?_
          simp only [Act.put, List.setIfInBounds_toArray, List.set_cons_zero, List.set_cons_succ]
          refine wpAnyH_take (i := 17) (oi := ⟨_, _, _, _, _, _⟩) (v := .int .i64 a') rfl (by kernel_rfl) (by kernel_rfl) (by kernel_rfl) (fun _ _ _ h => h) (Or.inl ⟨by rfl, fun w' h => by have _h := h; have a0 := (HH6.out.below h).cell (i := 0) rfl; have a1 := (HH6.out.below h).cell (i := 1) rfl; go_simp⟩) hH ?_
          simp only [Act.put, List.setIfInBounds_toArray, List.set_cons_zero, List.set_cons_succ]
          refine wpAnyH_take (i := 18) (oi := ⟨_, _, _, _, _, _⟩) (v := .slice (some ⟨ab, 0, none⟩) (n + 1) ac) rfl (by kernel_rfl) (by kernel_rfl) (by kernel_rfl) (fun _ _ _ h => h) (Or.inl ⟨by rfl, fun w' h => by have _h := h; go_simp⟩) hH ?_
          simp only [Act.put, List.setIfInBounds_toArray, List.set_cons_zero, List.set_cons_succ]
          refine wpAnyH_take (i := 19) (oi := ⟨_, _, _, _, _, _⟩) (v := v1) rfl (by kernel_rfl) (by kernel_rfl) (by kernel_rfl) (fun _ _ _ h => h) (Or.inl ⟨by rfl, fun w' h => by have _h := h; go_simp⟩) hH ?_
          simp only [Act.put, List.setIfInBounds_toArray, List.set_cons_zero, List.set_cons_succ]
          refine wpAnyH_take (i := 20) (oi := ⟨_, _, _, _, _, _⟩) (v := .pointer (some ⟨G, 1, none⟩)) rfl (by kernel_rfl) (by kernel_rfl) (by kernel_rfl) (fun _ _ _ h => h) (Or.inl ⟨by rfl, fun w' h => by have _h := h; go_simp⟩) hH ?_
          simp only [Act.put, List.setIfInBounds_toArray, List.set_cons_zero, List.set_cons_succ]
          refine wpAnyH_take (i := 21) (oi := ⟨_, _, _, _, _, _⟩) (v := .int .i64 a) rfl (by kernel_rfl) (by kernel_rfl) (by kernel_rfl) (fun _ _ _ h => h) (Or.inl ⟨by rfl, fun w' h => by have _h := h; have a0 := (HG6.out.below h).cell (i := 0) rfl; have a1 := (HG6.out.below h).cell (i := 1) rfl; go_simp⟩) hH ?_
          simp only [Act.put, List.setIfInBounds_toArray, List.set_cons_zero, List.set_cons_succ]
          refine wpAnyH_ready (rs := [22]) (by kernel_rfl) (by simp) ?_
          refine (AllReadyH.cons (o := ⟨_, _, _, _, _, _⟩) rfl (fun K0 hK => ?_) AllReadyH.nil)
          go_simp
          refine (HWH.out _ hH).mono ?_
          rintro e V2 ⟨rfl, hb⟩
          refine hK.out _ _ (below_step hH hb) (fun hH => ?_)
          clear hK K0 hb
          try simp only [Act.put, List.setIfInBounds_toArray, List.set_cons_zero, List.set_cons_succ]
          refine wpAnyH_take (i := 23) (oi := ⟨_, _, _, _, _, _⟩) (v := .pointer (some ⟨ab, wi, none⟩)) rfl (by kernel_rfl) (by kernel_rfl) (by kernel_rfl) (fun _ _ _ h => h) (Or.inl ⟨by rfl, fun w' h => by have _h := h; go_simp⟩) hH ?_
          simp only [Act.put, List.setIfInBounds_toArray, List.set_cons_zero, List.set_cons_succ]
          refine wpAnyH_take (i := 24) (oi := ⟨_, _, _, _, _, _⟩) (v := .int .i64 a') rfl (by kernel_rfl) (by kernel_rfl) (by kernel_rfl) (fun _ _ _ h => h) (Or.inl ⟨by rfl, fun w' h => by have q := HAC.out w' h; have _h := h; go_simp⟩) hH ?_
          simp only [Act.put, List.setIfInBounds_toArray, List.set_cons_zero, List.set_cons_succ]
          refine wpAnyH_take (i := 25) (oi := ⟨_, _, _, _, _, _⟩) (v := .bool false) rfl (by kernel_rfl) (by kernel_rfl) (by kernel_rfl) (fun _ _ _ h => h) (Or.inl ⟨by rfl, fun w' h => by have _h := h; go_simp⟩) hH ?_
          simp only [Act.put, List.setIfInBounds_toArray, List.set_cons_zero, List.set_cons_succ]
          refine wpAnyH_take (i := 26) (oi := ⟨_, _, _, _, _, _⟩) (v := .bool false) rfl (by kernel_rfl) (by kernel_rfl) (by kernel_rfl) (fun _ _ _ h => h) (Or.inl ⟨by rfl, fun w' h => by have _h := h; go_simp⟩) hH ?_
          simp only [Act.put, List.setIfInBounds_toArray, List.set_cons_zero, List.set_cons_succ]
          refine wpAnyH_take (i := 27) (oi := ⟨_, _, _, _, _, _⟩) (v := .bool false) rfl (by kernel_rfl) (by kernel_rfl) (by kernel_rfl) (fun _ _ _ h => h) (Or.inl ⟨by rfl, fun w' h => by have _h := h; go_simp⟩) hH ?_
          simp only [Act.put, List.setIfInBounds_toArray, List.set_cons_zero, List.set_cons_succ]
          refine wpAnyH_done (by kernel_rfl) ?_ _
          have HV := hm7 hH
          clear hH
          go_wp2
          go_meet
          case rel => exact ⟨rfl, HV.out⟩
      case rest =>
      obtain ⟨rfl, hbx⟩ := hcut
      have HBX := hm7 (below_step HB6.out hbx)
      have HGX := hm7 (HG6.out.below hbx)
      have HHX := hm7 (HH6.out.below hbx)
      clear hbx HB6 HG6 HH6 HLI HP3
      obtain ⟨⟨xk, xn, xs⟩, xm, xl⟩ := x
      obtain ⟨yn, hyn⟩ : ∃ z, (At.mk ⟨xk, xn, xs⟩ xm xl).args.length = z := ⟨_, rfl⟩
      have HYN := hm7 hyn
      clear hyn
      have HGB : Hid (G ≠ H) := by show ¬ _; have := HGH.out; omega
      go_upto_region 12 with (go_at_call 14; refine (HQ1.out _ (below_step HB3.out HBX.out)).mono ?_; rintro e W7 ⟨hb, y, rfl, hy⟩; obtain ⟨ya, yc, hyf⟩ := ot_form HYN.out hy; subst hyf; have HB7 := hm7 hb; have HY7 := hm7 hy; clear hb hy; have hG7 := (HGX.out.below HB7.out).below (below1 W7 (.cells #[.int .i64 xk, .int .i64 xn, .string xs, .string xm, .slice ya yn yc] 42)); have g0 := hG7.cell (i := 0) rfl; have g1 := hG7.cell (i := 1) rfl; have f0 := hG7.froz 0; have f1 := hG7.froz 1; have hgl := hG7.lt; clear hG7; have HHX9 : Hid (H < _) := HHX.out.lt)
      clear g0 g1 f0 f1 hgl
      have hF8 := fr_fault (W7.alloc (.cells #[.int .i64 xk, .int .i64 xn, .string xs, .string xm, .slice ya yn yc] 42)) G (.int .i64 d) (.int .i64 q)
      have hb7 := below1 W7 (.cells #[.int .i64 xk, .int .i64 xn, .string xs, .string xm, .slice ya yn yc] 42)
      have hb77 := below_step HB7.out hb7
      have HG8 := hm7 (pair_put (a := .int .i64 d) (b := .int .i64 q) (HGX.out.below hb77))
      have HA8 := hm7 ((Bk.new W7 #[.int .i64 xk, .int .i64 xn, .string xs, .string xm, .slice ya yn yc] 42).fr hF8 (by show ¬ _; have := HGX.out.lt; have := HB7.out.size; omega))
      have HH8 := hm7 ((HHX.out.below hb77).fr hF8 (by show ¬ _; have := HGH.out; omega))
      have HY8 := hm7 (Ot5.fr (Ot5.below HY7.out hb7) hF8 fun b hb e => by have := HGX.out.lt; omega)
      have HB8 := hm7 (((below_step HBX.out hb77).setCell (p := ⟨G, 0, none⟩) HGW.out (.int .i64 d)).setCell (p := ⟨G, 1, none⟩) HGW.out (.int .i64 q))
      clear hF8 hb7 hb77 HY7 HB7 HGX HHX HBX
      revert HG8 HA8 HH8 HY8 HB8
      generalize ((W7.alloc (.cells #[.int .i64 xk, .int .i64 xn, .string xs, .string xm, .slice ya yn yc] 42)).setCell ⟨G, 0, none⟩ (.int .i64 d)).setCell ⟨G, 1, none⟩ (.int .i64 q) = W8
      generalize W7.heap.size = Ab at *
      intro HG8 HA8 HH8 HY8 HB8
      go_upto_region 13 with (go_at_call 14; refine (HQ2.out _ (below_step HB3.out HB8.out)).mono ?_; rintro e W9a ⟨hb, y, rfl, hy⟩; obtain ⟨za, zc, hyf⟩ := ot_form HYN.out hy; subst hyf; have HB7 := hm7 hb; have HY7 := hm7 hy; clear hb hy; have hG7 := (HH8.out.below HB7.out).below (below1 W9a (.cells #[.int .i64 xk, .int .i64 xn, .string xs, .string xm, .slice za yn zc] 42)); have g0 := hG7.cell (i := 0) rfl; have g1 := hG7.cell (i := 1) rfl; have f0 := hG7.froz 0; have f1 := hG7.froz 1; have hgl := hG7.lt; clear hG7)
      clear g0 g1 f0 f1 hgl
      have hF8 := fr_fault (W9a.alloc (.cells #[.int .i64 xk, .int .i64 xn, .string xs, .string xm, .slice za yn zc] 42)) H (.int .i64 d) (.int .i64 q')
      have hb7 := below1 W9a (.cells #[.int .i64 xk, .int .i64 xn, .string xs, .string xm, .slice za yn zc] 42)
      have hb77 := below_step HB7.out hb7
      have HHW : Hid (W3.heap.size ≤ H) := by show _ ≤ _; have := HGW.out; have := HGH.out; omega
      have HH9 := hm7 (pair_put (a := .int .i64 d) (b := .int .i64 q') (HH8.out.below hb77))
      have HD9 := hm7 ((Bk.new W9a #[.int .i64 xk, .int .i64 xn, .string xs, .string xm, .slice za yn zc] 42).fr hF8 (by show ¬ _; have := HH8.out.lt; have := HB7.out.size; omega))
      have HG9 := hm7 ((HG8.out.below hb77).fr hF8 HGB.out)
      have HA9 := hm7 ((HA8.out.below hb77).fr hF8 (row_typ HA8.out HH8.out (by decide)))
      have HY9 := hm7 (Ot5.fr (Ot5.below HY8.out hb77) hF8 fun b hb e => by have := HHX9.out; omega)
      have HZ9 := hm7 (Ot5.fr (Ot5.below HY7.out hb7) hF8 fun b hb e => by have := HH8.out.lt; omega)
      have HB9a := hm7 (((below_step HB8.out hb77).setCell (p := ⟨H, 0, none⟩) HHW.out (.int .i64 d)).setCell (p := ⟨H, 1, none⟩) HHW.out (.int .i64 q'))
      have HB9 := hm7 (below_step HB3.out HB9a.out)
      clear hF8 hb7 hb77 HY7 HB7 HY8 HG8 HH8 HA8 HB8
      revert HG9 HA9 HH9 HD9 HY9 HZ9 HB9a HB9
      generalize ((W9a.alloc (.cells #[.int .i64 xk, .int .i64 xn, .string xs, .string xm, .slice za yn zc] 42)).setCell ⟨H, 0, none⟩ (.int .i64 d)).setCell ⟨H, 1, none⟩ (.int .i64 q') = W9
      generalize W9a.heap.size = Db at *
      intro HH9 HD9 HG9 HA9 HY9 HZ9 HB9a HB9
      have HAO : Hid (∀ X : World, Below W9.heap.size W9 X → Calls Tryz.prog 15 #[.agg #[.int .i64 xk, .int .i64 xn, .string xs, .string xm, .slice ya yn yc], .agg #[.int .i64 xk, .int .i64 xn, .string xs, .string xm, .slice za yn zc]] X fun e w' => e = .returned (.bool true) ∧ Below X.heap.size X w') := fun X hX => by
        have hxl : xl.length ≤ 200000000 := HR4.out
        have := atoms5_any ⟨⟨xk, xn, xs⟩, xm, xl⟩ ⟨⟨xk, xn, xs⟩, xm, xl⟩ (.slice ya yn yc) (.slice za yn zc) X (ts_of_row (HY9.out.below hX) (by show xl.length < _; omega)) (ts_of_row (HZ9.out.below hX) (by show xl.length < _; omega))
        rw [decide_eq_true rfl] at this
        exact this
      have HFI : Hid (∀ X : World, Below W9.heap.size W9 X → Calls Tryz.prog 8 #[] X fun e w' => e = .returned (.bool true) ∧ Below X.heap.size X w') := fun X hX => HF.out X (below_step HB9.out hX)
      clear HQ1 HQ2 HF HY9 HZ9 HGB HGH
      rcases HR3.out with ⟨hc0, ha0, ha1⟩ | ⟨hc0, ha1⟩
      · subst hc0 ha0 ha1
        refine wp_region_held_drew (S := fun w' => Below W9.heap.size W9 w') (by kernel_rfl) (Below.refl _ _).drew (fun hH => ?_)
        revert hH
        generalize W9.drew = V
        intro hH
        refine wpAnyH_take (i := 0) (oi := ⟨_, _, _, _, _, _⟩) (v := .pointer (some ⟨G, 0, none⟩)) rfl (by kernel_rfl) (by kernel_rfl) (by kernel_rfl) (fun _ _ _ h => h) (Or.inl ⟨by rfl, fun w' h => by have _h := h; go_simp⟩) hH ?_
        simp only [Act.put, List.setIfInBounds_toArray, List.set_cons_zero, List.set_cons_succ]
        refine wpAnyH_take (i := 1) (oi := ⟨_, _, _, _, _, _⟩) (v := .int .i64 0) rfl (by kernel_rfl) (by kernel_rfl) (by kernel_rfl) (fun _ _ _ h => h) (Or.inl ⟨by rfl, fun w' h => by have _h := h; have a0 := (HG9.out.below h).cell (i := 0) rfl; have a1 := (HG9.out.below h).cell (i := 1) rfl; go_simp⟩) hH ?_
        simp only [Act.put, List.setIfInBounds_toArray, List.set_cons_zero, List.set_cons_succ]
        refine wpAnyH_take (i := 2) (oi := ⟨_, _, _, _, _, _⟩) (v := .pointer (some ⟨H, 0, none⟩)) rfl (by kernel_rfl) (by kernel_rfl) (by kernel_rfl) (fun _ _ _ h => h) (Or.inl ⟨by rfl, fun w' h => by have _h := h; go_simp⟩) hH ?_
        simp only [Act.put, List.setIfInBounds_toArray, List.set_cons_zero, List.set_cons_succ]
        refine wpAnyH_take (i := 3) (oi := ⟨_, _, _, _, _, _⟩) (v := .int .i64 0) rfl (by kernel_rfl) (by kernel_rfl) (by kernel_rfl) (fun _ _ _ h => h) (Or.inl ⟨by rfl, fun w' h => by have _h := h; have a0 := (HH9.out.below h).cell (i := 0) rfl; have a1 := (HH9.out.below h).cell (i := 1) rfl; go_simp⟩) hH ?_
        simp only [Act.put, List.setIfInBounds_toArray, List.set_cons_zero, List.set_cons_succ]
        refine wpAnyH_take (i := 4) (oi := ⟨_, _, _, _, _, _⟩) (v := .bool true) rfl (by kernel_rfl) (by kernel_rfl) (by kernel_rfl) (fun _ _ _ h => h) (Or.inl ⟨by rfl, fun w' h => by have _h := h; go_simp⟩) hH ?_
        simp only [Act.put, List.setIfInBounds_toArray, List.set_cons_zero, List.set_cons_succ]
        refine wpAnyH_take (i := 5) (oi := ⟨_, _, _, _, _, _⟩) (v := .bool true) rfl (by kernel_rfl) (by kernel_rfl) (by kernel_rfl) (fun _ _ _ h => h) (Or.inl ⟨by rfl, fun w' h => by have _h := h; go_simp⟩) hH ?_
        simp only [Act.put, List.setIfInBounds_toArray, List.set_cons_zero, List.set_cons_succ]
        refine wpAnyH_take (i := 6) (oi := ⟨_, _, _, _, _, _⟩) (v := .agg #[.int .i64 xk, .int .i64 xn, .string xs, .string xm, .slice ya yn yc]) rfl (by kernel_rfl) (by kernel_rfl) (by kernel_rfl) (fun _ _ _ h => h) (Or.inl ⟨by rfl, fun w' h => by have _h := h; have a0 := (HA9.out.below h).cell (i := 0) rfl; have a1 := (HA9.out.below h).cell (i := 1) rfl; have a2 := (HA9.out.below h).cell (i := 2) rfl; have a3 := (HA9.out.below h).cell (i := 3) rfl; have a4 := (HA9.out.below h).cell (i := 4) rfl; go_simp⟩) hH ?_
        simp only [Act.put, List.setIfInBounds_toArray, List.set_cons_zero, List.set_cons_succ]
        refine wpAnyH_take (i := 7) (oi := ⟨_, _, _, _, _, _⟩) (v := .agg #[.int .i64 xk, .int .i64 xn, .string xs, .string xm, .slice za yn zc]) rfl (by kernel_rfl) (by kernel_rfl) (by kernel_rfl) (fun _ _ _ h => h) (Or.inl ⟨by rfl, fun w' h => by have _h := h; have a0 := (HD9.out.below h).cell (i := 0) rfl; have a1 := (HD9.out.below h).cell (i := 1) rfl; have a2 := (HD9.out.below h).cell (i := 2) rfl; have a3 := (HD9.out.below h).cell (i := 3) rfl; have a4 := (HD9.out.below h).cell (i := 4) rfl; go_simp⟩) hH ?_
        simp only [Act.put, List.setIfInBounds_toArray, List.set_cons_zero, List.set_cons_succ]
        refine wpAnyH_ready (rs := [8]) (by kernel_rfl) (by simp) ?_
        refine (AllReadyH.cons (o := ⟨_, _, _, _, _, _⟩) rfl (fun K0 hK => ?_) AllReadyH.nil)
        go_simp
        refine (HAO.out _ hH).mono ?_
        rintro e V1 ⟨rfl, hb⟩
        refine hK.out _ _ (below_step hH hb) (fun hH => ?_)
        clear hK K0 hb
        try simp only [Act.put, List.setIfInBounds_toArray, List.set_cons_zero, List.set_cons_succ]
        refine wpAnyH_take (i := 9) (oi := ⟨_, _, _, _, _, _⟩) (v := .bool true) rfl (by kernel_rfl) (by kernel_rfl) (by kernel_rfl) (fun _ _ _ h => h) (Or.inl ⟨by rfl, fun w' h => by have _h := h; go_simp⟩) hH ?_
        simp only [Act.put, List.setIfInBounds_toArray, List.set_cons_zero, List.set_cons_succ]
        refine wpAnyH_take (i := 10) (oi := ⟨_, _, _, _, _, _⟩) (v := .bool true) rfl (by kernel_rfl) (by kernel_rfl) (by kernel_rfl) (fun _ _ _ h => h) (Or.inl ⟨by rfl, fun w' h => by have _h := h; go_simp⟩) hH ?_
        simp only [Act.put, List.setIfInBounds_toArray, List.set_cons_zero, List.set_cons_succ]
        refine wpAnyH_take (i := 11) (oi := ⟨_, _, _, _, _, _⟩) (v := .pointer (some ⟨G, 0, none⟩)) rfl (by kernel_rfl) (by kernel_rfl) (by kernel_rfl) (fun _ _ _ h => h) (Or.inl ⟨by rfl, fun w' h => by have _h := h; go_simp⟩) hH ?_
        simp only [Act.put, List.setIfInBounds_toArray, List.set_cons_zero, List.set_cons_succ]
        refine wpAnyH_take (i := 12) (oi := ⟨_, _, _, _, _, _⟩) (v := .int .i64 0) rfl (by kernel_rfl) (by kernel_rfl) (by kernel_rfl) (fun _ _ _ h => h) (Or.inl ⟨by rfl, fun w' h => by have _h := h; have a0 := (HG9.out.below h).cell (i := 0) rfl; have a1 := (HG9.out.below h).cell (i := 1) rfl; go_simp⟩) hH ?_
        simp only [Act.put, List.setIfInBounds_toArray, List.set_cons_zero, List.set_cons_succ]
        refine wpAnyH_take (i := 13) (oi := ⟨_, _, _, _, _, _⟩) (v := .bool true) rfl (by kernel_rfl) (by kernel_rfl) (by kernel_rfl) (fun _ _ _ h => h) (Or.inl ⟨by rfl, fun w' h => by have _h := h; go_simp⟩) hH ?_
        simp only [Act.put, List.setIfInBounds_toArray, List.set_cons_zero, List.set_cons_succ]
        refine wpAnyH_take (i := 14) (oi := ⟨_, _, _, _, _, _⟩) (v := .bool true) rfl (by kernel_rfl) (by kernel_rfl) (by kernel_rfl) (fun _ _ _ h => h) (Or.inl ⟨by rfl, fun w' h => by have _h := h; go_simp⟩) hH ?_
        simp only [Act.put, List.setIfInBounds_toArray, List.set_cons_zero, List.set_cons_succ]
        refine wpAnyH_take (i := 15) (oi := ⟨_, _, _, _, _, _⟩) (v := undef) rfl (by kernel_rfl) (by kernel_rfl) (by kernel_rfl) (fun _ _ _ h => h) (Or.inr ⟨by rfl, rfl⟩) hH ?_
        simp only [Act.put, List.setIfInBounds_toArray, List.set_cons_zero, List.set_cons_succ]
        refine wpAnyH_take (i := 16) (oi := ⟨_, _, _, _, _, _⟩) (v := undef) rfl (by kernel_rfl) (by kernel_rfl) (by kernel_rfl) (fun _ _ _ h => h) (Or.inr ⟨by rfl, rfl⟩) hH ?_
        simp only [Act.put, List.setIfInBounds_toArray, List.set_cons_zero, List.set_cons_succ]
        refine wpAnyH_take (i := 17) (oi := ⟨_, _, _, _, _, _⟩) (v := undef) rfl (by kernel_rfl) (by kernel_rfl) (by kernel_rfl) (fun _ _ _ h => h) (Or.inr ⟨by rfl, rfl⟩) hH ?_
        simp only [Act.put, List.setIfInBounds_toArray, List.set_cons_zero, List.set_cons_succ]
        refine wpAnyH_take (i := 18) (oi := ⟨_, _, _, _, _, _⟩) (v := undef) rfl (by kernel_rfl) (by kernel_rfl) (by kernel_rfl) (fun _ _ _ h => h) (Or.inr ⟨by rfl, rfl⟩) hH ?_
        simp only [Act.put, List.setIfInBounds_toArray, List.set_cons_zero, List.set_cons_succ]
        refine wpAnyH_take (i := 19) (oi := ⟨_, _, _, _, _, _⟩) (v := undef) rfl (by kernel_rfl) (by kernel_rfl) (by kernel_rfl) (fun _ _ _ h => h) (Or.inr ⟨by rfl, rfl⟩) hH ?_
        simp only [Act.put, List.setIfInBounds_toArray, List.set_cons_zero, List.set_cons_succ]
        refine wpAnyH_take (i := 20) (oi := ⟨_, _, _, _, _, _⟩) (v := undef) rfl (by kernel_rfl) (by kernel_rfl) (by kernel_rfl) (fun _ _ _ h => h) (Or.inr ⟨by rfl, rfl⟩) hH ?_
        simp only [Act.put, List.setIfInBounds_toArray, List.set_cons_zero, List.set_cons_succ]
        refine wpAnyH_take (i := 21) (oi := ⟨_, _, _, _, _, _⟩) (v := undef) rfl (by kernel_rfl) (by kernel_rfl) (by kernel_rfl) (fun _ _ _ h => h) (Or.inr ⟨by rfl, rfl⟩) hH ?_
        simp only [Act.put, List.setIfInBounds_toArray, List.set_cons_zero, List.set_cons_succ]
        refine wpAnyH_take (i := 22) (oi := ⟨_, _, _, _, _, _⟩) (v := undef) rfl (by kernel_rfl) (by kernel_rfl) (by kernel_rfl) (fun _ _ _ h => h) (Or.inr ⟨by rfl, rfl⟩) hH ?_
        simp only [Act.put, List.setIfInBounds_toArray, List.set_cons_zero, List.set_cons_succ]
        refine wpAnyH_take (i := 23) (oi := ⟨_, _, _, _, _, _⟩) (v := undef) rfl (by kernel_rfl) (by kernel_rfl) (by kernel_rfl) (fun _ _ _ h => h) (Or.inr ⟨by rfl, rfl⟩) hH ?_
        simp only [Act.put, List.setIfInBounds_toArray, List.set_cons_zero, List.set_cons_succ]
        refine wpAnyH_take (i := 24) (oi := ⟨_, _, _, _, _, _⟩) (v := undef) rfl (by kernel_rfl) (by kernel_rfl) (by kernel_rfl) (fun _ _ _ h => h) (Or.inr ⟨by rfl, rfl⟩) hH ?_
        simp only [Act.put, List.setIfInBounds_toArray, List.set_cons_zero, List.set_cons_succ]
        refine wpAnyH_take (i := 25) (oi := ⟨_, _, _, _, _, _⟩) (v := .bool true) rfl (by kernel_rfl) (by kernel_rfl) (by kernel_rfl) (fun _ _ _ h => h) (Or.inl ⟨by rfl, fun w' h => by have _h := h; go_simp⟩) hH ?_
        simp only [Act.put, List.setIfInBounds_toArray, List.set_cons_zero, List.set_cons_succ]
        refine wpAnyH_take (i := 26) (oi := ⟨_, _, _, _, _, _⟩) (v := .bool true) rfl (by kernel_rfl) (by kernel_rfl) (by kernel_rfl) (fun _ _ _ h => h) (Or.inl ⟨by rfl, fun w' h => by have _h := h; go_simp⟩) hH ?_
        simp only [Act.put, List.setIfInBounds_toArray, List.set_cons_zero, List.set_cons_succ]
        refine wpAnyH_take (i := 27) (oi := ⟨_, _, _, _, _, _⟩) (v := .bool true) rfl (by kernel_rfl) (by kernel_rfl) (by kernel_rfl) (fun _ _ _ h => h) (Or.inl ⟨by rfl, fun w' h => by have _h := h; go_simp⟩) hH ?_
        simp only [Act.put, List.setIfInBounds_toArray, List.set_cons_zero, List.set_cons_succ]
        refine wpAnyH_ready (rs := [28]) (by kernel_rfl) (by simp) ?_
        refine (AllReadyH.cons (o := ⟨_, _, _, _, _, _⟩) rfl (fun K0 hK => ?_) AllReadyH.nil)
        go_simp
        refine (HFI.out _ hH).mono ?_
        rintro e V3 ⟨rfl, hb⟩
        refine hK.out _ _ (below_step hH hb) (fun hH => ?_)
        clear hK K0 hb
        try simp only [Act.put, List.setIfInBounds_toArray, List.set_cons_zero, List.set_cons_succ]
        refine wpAnyH_take (i := 29) (oi := ⟨_, _, _, _, _, _⟩) (v := .bool true) rfl (by kernel_rfl) (by kernel_rfl) (by kernel_rfl) (fun _ _ _ h => h) (Or.inl ⟨by rfl, fun w' h => by have _h := h; go_simp⟩) hH ?_
        simp only [Act.put, List.setIfInBounds_toArray, List.set_cons_zero, List.set_cons_succ]
        refine wpAnyH_take (i := 30) (oi := ⟨_, _, _, _, _, _⟩) (v := .bool true) rfl (by kernel_rfl) (by kernel_rfl) (by kernel_rfl) (fun _ _ _ h => h) (Or.inl ⟨by rfl, fun w' h => by have _h := h; go_simp⟩) hH ?_
        simp only [Act.put, List.setIfInBounds_toArray, List.set_cons_zero, List.set_cons_succ]
        refine wpAnyH_done (by kernel_rfl) ?_ _
        have HV := hm7 hH
        clear hH
        go_wp2
        go_ret
        exact ⟨rfl, HB9.out.trans (HV.out.mono HB9.out.size)⟩
      · have HAD : Hid (∀ X : World, Below W9.heap.size W9 X → X.cell? ⟨ab, wh5 q l, none⟩ = some (.int .i64 q')) := fun X hX => by rw [ha1]; exact HCA.out q X (below_step HB9a.out hX)
        have HWQ : Hid (∀ X : World, Below W9.heap.size W9 X → Calls Tryz.prog 13 #[v1, .int .i64 q] X fun e w' => e = .returned (.int .i64 (wh5 q l : Int)) ∧ Below X.heap.size X w') := fun X hX => HWA.out q X (below_step HB9a.out hX)
        have hwn := (HPI.out q).1
        obtain ⟨wj, hwj⟩ : ∃ z, wh5 q l = z := ⟨_, rfl⟩
        rw [hwj] at HAD HWQ hwn
        have i0 : (0 : Int) ≤ (wj : Int) := by omega
        have i1 : (wj : Int) < (n : Int) + 1 := by omega
        have i2 : ¬ (n : Int) + 1 ≤ (wj : Int) := by omega
        have hc1 : (d == 0) = false := by simp [hc0]
        have hc2 : (d != 0) = true := by simp [hc0]
        clear ha1 hwj HWA HCA HPI
        refine wp_region_held_drew (S := fun w' => Below W9.heap.size W9 w') (by kernel_rfl) (Below.refl _ _).drew (fun hH => ?_)
        revert hH
        generalize W9.drew = V
        intro hH
        refine wpAnyH_take (i := 0) (oi := ⟨_, _, _, _, _, _⟩) (v := .pointer (some ⟨G, 0, none⟩)) rfl (by kernel_rfl) (by kernel_rfl) (by kernel_rfl) (fun _ _ _ h => h) (Or.inl ⟨by rfl, fun w' h => by have _h := h; go_simp⟩) hH ?_
        simp only [Act.put, List.setIfInBounds_toArray, List.set_cons_zero, List.set_cons_succ]
        refine wpAnyH_take (i := 1) (oi := ⟨_, _, _, _, _, _⟩) (v := .int .i64 d) rfl (by kernel_rfl) (by kernel_rfl) (by kernel_rfl) (fun _ _ _ h => h) (Or.inl ⟨by rfl, fun w' h => by have _h := h; have a0 := (HG9.out.below h).cell (i := 0) rfl; have a1 := (HG9.out.below h).cell (i := 1) rfl; go_simp⟩) hH ?_
        simp only [Act.put, List.setIfInBounds_toArray, List.set_cons_zero, List.set_cons_succ]
        refine wpAnyH_take (i := 2) (oi := ⟨_, _, _, _, _, _⟩) (v := .pointer (some ⟨H, 0, none⟩)) rfl (by kernel_rfl) (by kernel_rfl) (by kernel_rfl) (fun _ _ _ h => h) (Or.inl ⟨by rfl, fun w' h => by have _h := h; go_simp⟩) hH ?_
        simp only [Act.put, List.setIfInBounds_toArray, List.set_cons_zero, List.set_cons_succ]
        refine wpAnyH_take (i := 3) (oi := ⟨_, _, _, _, _, _⟩) (v := .int .i64 d) rfl (by kernel_rfl) (by kernel_rfl) (by kernel_rfl) (fun _ _ _ h => h) (Or.inl ⟨by rfl, fun w' h => by have _h := h; have a0 := (HH9.out.below h).cell (i := 0) rfl; have a1 := (HH9.out.below h).cell (i := 1) rfl; go_simp⟩) hH ?_
        simp only [Act.put, List.setIfInBounds_toArray, List.set_cons_zero, List.set_cons_succ]
        refine wpAnyH_take (i := 4) (oi := ⟨_, _, _, _, _, _⟩) (v := .bool true) rfl (by kernel_rfl) (by kernel_rfl) (by kernel_rfl) (fun _ _ _ h => h) (Or.inl ⟨by rfl, fun w' h => by have _h := h; go_simp⟩) hH ?_
        simp only [Act.put, List.setIfInBounds_toArray, List.set_cons_zero, List.set_cons_succ]
        refine wpAnyH_take (i := 5) (oi := ⟨_, _, _, _, _, _⟩) (v := .bool true) rfl (by kernel_rfl) (by kernel_rfl) (by kernel_rfl) (fun _ _ _ h => h) (Or.inl ⟨by rfl, fun w' h => by have _h := h; go_simp⟩) hH ?_
        simp only [Act.put, List.setIfInBounds_toArray, List.set_cons_zero, List.set_cons_succ]
        refine wpAnyH_take (i := 6) (oi := ⟨_, _, _, _, _, _⟩) (v := .agg #[.int .i64 xk, .int .i64 xn, .string xs, .string xm, .slice ya yn yc]) rfl (by kernel_rfl) (by kernel_rfl) (by kernel_rfl) (fun _ _ _ h => h) (Or.inl ⟨by rfl, fun w' h => by have _h := h; have a0 := (HA9.out.below h).cell (i := 0) rfl; have a1 := (HA9.out.below h).cell (i := 1) rfl; have a2 := (HA9.out.below h).cell (i := 2) rfl; have a3 := (HA9.out.below h).cell (i := 3) rfl; have a4 := (HA9.out.below h).cell (i := 4) rfl; go_simp⟩) hH ?_
        simp only [Act.put, List.setIfInBounds_toArray, List.set_cons_zero, List.set_cons_succ]
        refine wpAnyH_take (i := 7) (oi := ⟨_, _, _, _, _, _⟩) (v := .agg #[.int .i64 xk, .int .i64 xn, .string xs, .string xm, .slice za yn zc]) rfl (by kernel_rfl) (by kernel_rfl) (by kernel_rfl) (fun _ _ _ h => h) (Or.inl ⟨by rfl, fun w' h => by have _h := h; have a0 := (HD9.out.below h).cell (i := 0) rfl; have a1 := (HD9.out.below h).cell (i := 1) rfl; have a2 := (HD9.out.below h).cell (i := 2) rfl; have a3 := (HD9.out.below h).cell (i := 3) rfl; have a4 := (HD9.out.below h).cell (i := 4) rfl; go_simp⟩) hH ?_
        simp only [Act.put, List.setIfInBounds_toArray, List.set_cons_zero, List.set_cons_succ]
        refine wpAnyH_ready (rs := [8]) (by kernel_rfl) (by simp) ?_
        refine (AllReadyH.cons (o := ⟨_, _, _, _, _, _⟩) rfl (fun K0 hK => ?_) AllReadyH.nil)
        go_simp
        refine (HAO.out _ hH).mono ?_
        rintro e V1 ⟨rfl, hb⟩
        refine hK.out _ _ (below_step hH hb) (fun hH => ?_)
        clear hK K0 hb
        try simp only [Act.put, List.setIfInBounds_toArray, List.set_cons_zero, List.set_cons_succ]
        refine wpAnyH_take (i := 9) (oi := ⟨_, _, _, _, _, _⟩) (v := .bool true) rfl (by kernel_rfl) (by kernel_rfl) (by kernel_rfl) (fun _ _ _ h => h) (Or.inl ⟨by rfl, fun w' h => by have _h := h; go_simp⟩) hH ?_
        simp only [Act.put, List.setIfInBounds_toArray, List.set_cons_zero, List.set_cons_succ]
        refine wpAnyH_take (i := 10) (oi := ⟨_, _, _, _, _, _⟩) (v := .bool true) rfl (by kernel_rfl) (by kernel_rfl) (by kernel_rfl) (fun _ _ _ h => h) (Or.inl ⟨by rfl, fun w' h => by have _h := h; go_simp⟩) hH ?_
        simp only [Act.put, List.setIfInBounds_toArray, List.set_cons_zero, List.set_cons_succ]
        refine wpAnyH_take (i := 11) (oi := ⟨_, _, _, _, _, _⟩) (v := .pointer (some ⟨G, 0, none⟩)) rfl (by kernel_rfl) (by kernel_rfl) (by kernel_rfl) (fun _ _ _ h => h) (Or.inl ⟨by rfl, fun w' h => by have _h := h; go_simp⟩) hH ?_
        simp only [Act.put, List.setIfInBounds_toArray, List.set_cons_zero, List.set_cons_succ]
        refine wpAnyH_take (i := 12) (oi := ⟨_, _, _, _, _, _⟩) (v := .int .i64 d) rfl (by kernel_rfl) (by kernel_rfl) (by kernel_rfl) (fun _ _ _ h => h) (Or.inl ⟨by rfl, fun w' h => by have _h := h; have a0 := (HG9.out.below h).cell (i := 0) rfl; have a1 := (HG9.out.below h).cell (i := 1) rfl; go_simp⟩) hH ?_
        simp only [Act.put, List.setIfInBounds_toArray, List.set_cons_zero, List.set_cons_succ]
        refine wpAnyH_take (i := 13) (oi := ⟨_, _, _, _, _, _⟩) (v := .bool false) rfl (by kernel_rfl) (by kernel_rfl) (by kernel_rfl) (fun _ _ _ h => h) (Or.inl ⟨by rfl, fun w' h => by have _h := h; go_simp⟩) hH ?_
        simp only [Act.put, List.setIfInBounds_toArray, List.set_cons_zero, List.set_cons_succ]
        refine wpAnyH_take (i := 14) (oi := ⟨_, _, _, _, _, _⟩) (v := .bool false) rfl (by kernel_rfl) (by kernel_rfl) (by kernel_rfl) (fun _ _ _ h => h) (Or.inl ⟨by rfl, fun w' h => by have _h := h; go_simp⟩) hH ?_
        simp only [Act.put, List.setIfInBounds_toArray, List.set_cons_zero, List.set_cons_succ]
        refine wpAnyH_take (i := 15) (oi := ⟨_, _, _, _, _, _⟩) (v := .pointer (some ⟨H, 1, none⟩)) rfl (by kernel_rfl) (by kernel_rfl) (by kernel_rfl) (fun _ _ _ h => h) (Or.inl ⟨by rfl, fun w' h => by have _h := h; go_simp⟩) hH ?_
        simp only [Act.put, List.setIfInBounds_toArray, List.set_cons_zero, List.set_cons_succ]
        refine wpAnyH_take (i := 16) (oi := ⟨_, _, _, _, _, _⟩) (v := .int .i64 q') rfl (by kernel_rfl) (by kernel_rfl) (by kernel_rfl) (fun _ _ _ h => h) (Or.inl ⟨by rfl, fun w' h => by have _h := h; have a0 := (HH9.out.below h).cell (i := 0) rfl; have a1 := (HH9.out.below h).cell (i := 1) rfl; go_simp⟩) hH ?_
        simp only [Act.put, List.setIfInBounds_toArray, List.set_cons_zero, List.set_cons_succ]
        refine wpAnyH_take (i := 17) (oi := ⟨_, _, _, _, _, _⟩) (v := .slice (some ⟨ab, 0, none⟩) (n + 1) ac) rfl (by kernel_rfl) (by kernel_rfl) (by kernel_rfl) (fun _ _ _ h => h) (Or.inl ⟨by rfl, fun w' h => by have _h := h; go_simp⟩) hH ?_
        simp only [Act.put, List.setIfInBounds_toArray, List.set_cons_zero, List.set_cons_succ]
        refine wpAnyH_take (i := 18) (oi := ⟨_, _, _, _, _, _⟩) (v := v1) rfl (by kernel_rfl) (by kernel_rfl) (by kernel_rfl) (fun _ _ _ h => h) (Or.inl ⟨by rfl, fun w' h => by have _h := h; go_simp⟩) hH ?_
        simp only [Act.put, List.setIfInBounds_toArray, List.set_cons_zero, List.set_cons_succ]
        refine wpAnyH_take (i := 19) (oi := ⟨_, _, _, _, _, _⟩) (v := .pointer (some ⟨G, 1, none⟩)) rfl (by kernel_rfl) (by kernel_rfl) (by kernel_rfl) (fun _ _ _ h => h) (Or.inl ⟨by rfl, fun w' h => by have _h := h; go_simp⟩) hH ?_
        simp only [Act.put, List.setIfInBounds_toArray, List.set_cons_zero, List.set_cons_succ]
        refine wpAnyH_take (i := 20) (oi := ⟨_, _, _, _, _, _⟩) (v := .int .i64 q) rfl (by kernel_rfl) (by kernel_rfl) (by kernel_rfl) (fun _ _ _ h => h) (Or.inl ⟨by rfl, fun w' h => by have _h := h; have a0 := (HG9.out.below h).cell (i := 0) rfl; have a1 := (HG9.out.below h).cell (i := 1) rfl; go_simp⟩) hH ?_
        simp only [Act.put, List.setIfInBounds_toArray, List.set_cons_zero, List.set_cons_succ]
        refine wpAnyH_ready (rs := [21]) (by kernel_rfl) (by simp) ?_
        refine (AllReadyH.cons (o := ⟨_, _, _, _, _, _⟩) rfl (fun K0 hK => ?_) AllReadyH.nil)
        go_simp
        refine (HWQ.out _ hH).mono ?_
        rintro e V2 ⟨rfl, hb⟩
        refine hK.out _ _ (below_step hH hb) (fun hH => ?_)
        clear hK K0 hb
        try simp only [Act.put, List.setIfInBounds_toArray, List.set_cons_zero, List.set_cons_succ]
        refine wpAnyH_take (i := 22) (oi := ⟨_, _, _, _, _, _⟩) (v := .pointer (some ⟨ab, wj, none⟩)) rfl (by kernel_rfl) (by kernel_rfl) (by kernel_rfl) (fun _ _ _ h => h) (Or.inl ⟨by rfl, fun w' h => by have _h := h; go_simp⟩) hH ?_
        simp only [Act.put, List.setIfInBounds_toArray, List.set_cons_zero, List.set_cons_succ]
        refine wpAnyH_take (i := 23) (oi := ⟨_, _, _, _, _, _⟩) (v := .int .i64 q') rfl (by kernel_rfl) (by kernel_rfl) (by kernel_rfl) (fun _ _ _ h => h) (Or.inl ⟨by rfl, fun w' h => by have q0 := HAD.out w' h; have _h := h; go_simp⟩) hH ?_
        simp only [Act.put, List.setIfInBounds_toArray, List.set_cons_zero, List.set_cons_succ]
        refine wpAnyH_take (i := 24) (oi := ⟨_, _, _, _, _, _⟩) (v := .bool true) rfl (by kernel_rfl) (by kernel_rfl) (by kernel_rfl) (fun _ _ _ h => h) (Or.inl ⟨by rfl, fun w' h => by have _h := h; go_simp⟩) hH ?_
        simp only [Act.put, List.setIfInBounds_toArray, List.set_cons_zero, List.set_cons_succ]
        refine wpAnyH_take (i := 25) (oi := ⟨_, _, _, _, _, _⟩) (v := .bool true) rfl (by kernel_rfl) (by kernel_rfl) (by kernel_rfl) (fun _ _ _ h => h) (Or.inl ⟨by rfl, fun w' h => by have _h := h; go_simp⟩) hH ?_
        simp only [Act.put, List.setIfInBounds_toArray, List.set_cons_zero, List.set_cons_succ]
        refine wpAnyH_take (i := 26) (oi := ⟨_, _, _, _, _, _⟩) (v := .bool true) rfl (by kernel_rfl) (by kernel_rfl) (by kernel_rfl) (fun _ _ _ h => h) (Or.inl ⟨by rfl, fun w' h => by have _h := h; go_simp⟩) hH ?_
        simp only [Act.put, List.setIfInBounds_toArray, List.set_cons_zero, List.set_cons_succ]
        refine wpAnyH_take (i := 27) (oi := ⟨_, _, _, _, _, _⟩) (v := .bool true) rfl (by kernel_rfl) (by kernel_rfl) (by kernel_rfl) (fun _ _ _ h => h) (Or.inl ⟨by rfl, fun w' h => by have _h := h; go_simp⟩) hH ?_
        simp only [Act.put, List.setIfInBounds_toArray, List.set_cons_zero, List.set_cons_succ]
        refine wpAnyH_ready (rs := [28]) (by kernel_rfl) (by simp) ?_
        refine (AllReadyH.cons (o := ⟨_, _, _, _, _, _⟩) rfl (fun K0 hK => ?_) AllReadyH.nil)
        go_simp
        refine (HFI.out _ hH).mono ?_
        rintro e V3 ⟨rfl, hb⟩
        refine hK.out _ _ (below_step hH hb) (fun hH => ?_)
        clear hK K0 hb
        try simp only [Act.put, List.setIfInBounds_toArray, List.set_cons_zero, List.set_cons_succ]
        refine wpAnyH_take (i := 29) (oi := ⟨_, _, _, _, _, _⟩) (v := .bool true) rfl (by kernel_rfl) (by kernel_rfl) (by kernel_rfl) (fun _ _ _ h => h) (Or.inl ⟨by rfl, fun w' h => by have _h := h; go_simp⟩) hH ?_
        simp only [Act.put, List.setIfInBounds_toArray, List.set_cons_zero, List.set_cons_succ]
        refine wpAnyH_take (i := 30) (oi := ⟨_, _, _, _, _, _⟩) (v := .bool true) rfl (by kernel_rfl) (by kernel_rfl) (by kernel_rfl) (fun _ _ _ h => h) (Or.inl ⟨by rfl, fun w' h => by have _h := h; go_simp⟩) hH ?_
        simp only [Act.put, List.setIfInBounds_toArray, List.set_cons_zero, List.set_cons_succ]
        refine wpAnyH_done (by kernel_rfl) ?_ _
        have HV := hm7 hH
        clear hH
        go_wp2
        go_ret
        exact ⟨rfl, HB9.out.trans (HV.out.mono HB9.out.size)⟩
  · clear h1 hu hE hO
    revert HC hc
    obtain ⟨l, e0, p0⟩ := cutL (blK s) 32768
    intro HC hc
    have hc : ¬ e0 = 0 := hc
    have k1 : (e0 == 0) = false := by simp [hc]
    have k2 : (e0 != 0) = true := by simp [hc]
    go_enter Tryz.func3, Tryz.ntmps3
    go_upto_region 2 with (go_at_call 7; refine HC.out.mono ?_; rintro e W1 ⟨v1, rfl, -, hb⟩; have HB1 := hm7 (ft_step e0 p0 hb); have c0 := (Bk.new W1 #[.int .i64 e0, .int .i64 p0] 26).cell (i := 0) rfl; clear hb)
    go_wp2_with (go_at_call 8; refine (HF.out _ HB1.out).mono ?_; rintro e W3 ⟨rfl, hb⟩; have HB3 := hm7 (below_step HB1.out hb); clear hb)
    go_ret
    exact ⟨rfl, HB3.out⟩
end Go.Proofs.YtcpjiahdaplhlaaGreatDoor
