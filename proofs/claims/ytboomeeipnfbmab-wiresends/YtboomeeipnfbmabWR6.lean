/-
  wire: the document's wire: put, New.
-/
import Derived.Test.YtboomeeipnfbmabWR5
import Derived.Deep.RegionHeld3
namespace Go.Proofs.Ytboomeeipnfbmab
open Go.RowKit
attribute [local go_sem ↓] Go.wp_at_zero Go.wp_at_succ

theorem Try.infoMsgR : (Try.prog.info? 73).map (fun i => (i.zero, i.size, i.bytes)) = some (some (.agg #[.slice none 0 0, .int .i64 0]), 2, 32) := by kernel_rfl
/-- What a call leaves of the document's wire. -/
def RqW (B : Nat) (T : Nat → Prop) (v : Value) (s : WrW) (Y Y' : World) : Prop := Fr T Y Y' ∧ ∃ T' : Nat → Prop, RzW B T' v s Y' ∧ ∀ b, T' b → T b ∨ Y.heap.size ≤ b
theorem RzX.put {B : Nat} {T : Nat → Prop} {g : Nat} {s : WrW} {Q : List MrW} {P : List Nat} {av v' u : Value} {b : List Int} {Y Y' : World} (h : RzX B T g s Q P av Y) (hg : s.gv < 4096) (hl : b.length ≤ 1048576) (hf : Fr (fun x => x = g ∨ av.ownBlock = some x) Y Y') (hb : Bk Y' g #[v', .int .i64 ((s.gv + 1 : Nat) : Int)] 67)
    (ha : Y'.ownsRow B 73 2 v' (s.gv + 1) (twoW (Q.map MrW.c) ++ [u, .int .i64 ((s.gv + 1 : Nat) : Int)])) (hv : v'.ownBlock = av.ownBlock ∨ ∃ k, v'.ownBlock = some k ∧ Y.heap.size ≤ k) (hu : LbW (fun x => Y.heap.size ≤ x ∧ v'.ownBlock ≠ some x) Y' u b) :
    ∃ T' : Nat → Prop, RzX B T' g (putW s b) (Q ++ [⟨b, s.gv + 1, u⟩]) (P ++ [s.gv + 1]) v' Y' ∧ ∀ x, T' x → T x ∨ Y.heap.size ≤ x := by
  have hle : B ≤ Y.heap.size := Nat.le_trans (h.t g h.tg).1 (Nat.le_of_lt h.b.lt)
  refine ⟨fun x => (T x ∨ Y.heap.size ≤ x) ∧ x < Y'.heap.size, ⟨putW_ok h.ok hg hu.y hl, ?_, hb, ?_, ?_, ?_, ?_, ?_⟩, fun x hx => hx.1⟩
  · have := h.rs.put b
    rw [List.map_append]
    exact this
  · rw [List.length_append, h.len, List.map_append, twoW_app]
    exact ha
  · intro q hq
    rcases List.mem_append.1 hq with hq | hq
    · have h1 := h.u q hq
      refine (h1.fr hf fun x _ hF hP => ?_).mono ?_
      · rcases hP with e | e
        · exact hF.2.1 e
        · exact hF.2.2 e
      · intro x hx hF
        refine ⟨⟨Or.inl hF.1, hx⟩, hF.2.1, fun e => ?_⟩
        rcases hv with hv | ⟨k, hv, hk⟩
        · exact hF.2.2 (hv ▸ e)
        · rw [hv] at e
          cases e
          have := (h.t x hF.1).2
          omega
    · rw [List.mem_singleton] at hq
      subst hq
      refine hu.mono fun x hx hF => ⟨⟨Or.inr hF.1, hx⟩, fun e => ?_, hF.2⟩
      have := h.b.lt
      omega
  · intro x hx
    refine ⟨?_, (World.ownsRow.lt ha x hx).2⟩
    rcases hv with hv | ⟨k, hv, hk⟩
    · exact Or.inl (h.ta x (hv ▸ hx))
    · rw [hv] at hx; cases hx; exact Or.inr hk
  · exact ⟨Or.inl h.tg, hb.lt⟩
  · intro x hx
    exact ⟨hx.1.elim (fun ht => (h.t x ht).1) (fun hy => by omega), hx.2⟩
set_option maxRecDepth 20000 in
set_option maxHeartbeats 4000000 in
theorem rputW_any {B : Nat} {T G : Nat → Prop} {v bv : Value} {s : WrW} {b : List Int} {Y : World} (h : RzW B T v s Y) (hv : LbW G Y bv b) (hG : ∀ g, v = .pointer (some ⟨g, 0, none⟩) → ¬ G g) (hl : b.length ≤ 1048576) (hg : s.gv < 4096) :
    Calls Try.prog 44 #[v, bv] Y fun e Y' => e = .returned (.int .i64 ((s.gv + 1 : Nat) : Int)) ∧ RqW B T v (putW s b) Y Y' := by
  obtain ⟨g, Q, P, av, rfl, h⟩ := h
  have HG : Hid (¬ G g) := hG g rfl
  clear hG
  have H := hm7 h
  have HV := hm7 hv
  have HL := hm7 hl
  obtain ⟨N, hN⟩ : ∃ N, s.gv = N := ⟨_, rfl⟩
  have hbk := h.b
  rw [hN] at hbk hg
  have HN := hm7 hN
  obtain ⟨aa, cap, hav, -⟩ := row7_form h.a
  rw [h.len, hN] at hav
  have HAV := hm7 hav
  have HY1 : Hid (Fr (fun x => x = g) Y (Y.setCell ⟨g, 1, none⟩ (.int .i64 ((N : Int) + 1)))) := (Fr.refl _ Y).set (Or.inl rfl)
  have hB1 := hbk.set 1 (.int .i64 ((N : Int) + 1))
  have hba : Y.ownsRow B 73 2 av N (twoW (Q.map MrW.c)) := by have := h.a; rw [h.len, hN] at this; exact this
  have hoa : (Y.setCell ⟨g, 1, none⟩ (.int .i64 ((N : Int) + 1))).ownsRow B 73 2 av N (twoW (Q.map MrW.c)) := row7_fr hba HY1.out fun x hx e => h.ne (by rw [hx, e])
  have hlv : LbW G (Y.setCell ⟨g, 1, none⟩ (.int .i64 ((N : Int) + 1))) bv b := hv.fr HY1.out fun x _ hG e => HG.out (e ▸ hG)
  have c0 : Y.cell? ⟨g, 0, none⟩ = some av := hbk.cell (i := 0) rfl
  have c1 : Y.cell? ⟨g, 1, none⟩ = some (.int .i64 (N : Int)) := hbk.cell (i := 1) rfl
  have f1 := hbk.froz 1
  obtain ⟨va, vn, vc, rfl⟩ : ∃ a n c, bv = .slice a n c := by obtain ⟨a, c, e, -⟩ := hv; exact ⟨_, _, _, e⟩
  obtain ⟨Y1, hY1⟩ : ∃ Y1, Y.setCell ⟨g, 1, none⟩ (.int .i64 ((N : Int) + 1)) = Y1 := ⟨_, rfl⟩
  rw [hY1] at HY1 hB1 hoa hlv
  have d0 : Y1.cell? ⟨g, 0, none⟩ = some av := hB1.cell (i := 0) rfl
  have d1 : Y1.cell? ⟨g, 1, none⟩ = some (.int .i64 ((N : Int) + 1)) := hB1.cell (i := 1) rfl
  have HB1 := hm7 hB1
  have HOA := hm7 hoa
  have HSZ := hm7 HY1.out.size
  have hle : B ≤ Y1.heap.size := Nat.le_trans (Nat.le_trans (h.t g h.tg).1 (Nat.le_of_lt h.b.lt)) HY1.out.size
  have HC := hm7 (bcopyW_any G (.slice va vn vc) b Y1.drew (hlv.below ⟨rfl, rfl, rfl, Nat.le_refl _, fun _ _ => rfl⟩) (by omega))
  clear h hbk hN hav hba hB1 hoa hlv hv hl
  go_enter Try.func44, Try.ntmps44
  go_upto_region 2 with fail
  try rw [hY1]
  clear hY1
  have d0d : Y1.drew.cell? ⟨g, 0, none⟩ = some av := (HB1.out.below ⟨rfl, rfl, rfl, Nat.le_refl _, fun _ _ => rfl⟩).cell (i := 0) rfl
  refine wp_region_held_drew (S := fun w' => w'.cell? ⟨g, 1, none⟩ = some (.int .i64 ((N : Int) + 1))) (by kernel_rfl) ((HB1.out.below ⟨rfl, rfl, rfl, Nat.le_refl _, fun _ _ => rfl⟩).cell (i := 1) rfl) (fun hH => ?_)
  refine wpAnyH_take (i := 0) (oi := ⟨_, _, _, _, _, _⟩) (v := .pointer (some ⟨g, 0, none⟩)) rfl (by kernel_rfl) (by kernel_rfl) (by kernel_rfl) (fun _ _ _ h => h) (Or.inl ⟨by rfl, fun w' h => by clear h; go_simp⟩) hH ?_
  simp only [Act.put, List.setIfInBounds_toArray, List.set_cons_zero, List.set_cons_succ]
  refine wpAnyH_take (i := 1) (oi := ⟨_, _, _, _, _, _⟩) (v := .pointer (some ⟨g, 0, none⟩)) rfl (by kernel_rfl) (by kernel_rfl) (by kernel_rfl) (fun _ _ _ h => h) (Or.inl ⟨by rfl, fun w' h => by clear h; go_simp⟩) hH ?_
  simp only [Act.put, List.setIfInBounds_toArray, List.set_cons_zero, List.set_cons_succ]
  refine wpAnyH_take (i := 2) (oi := ⟨_, _, _, _, _, _⟩) (v := .pointer (some ⟨g, 0, none⟩)) rfl (by kernel_rfl) (by kernel_rfl) (by kernel_rfl) (fun _ _ _ h => h) (Or.inl ⟨by rfl, fun w' h => by clear h; go_simp⟩) hH ?_
  simp only [Act.put, List.setIfInBounds_toArray, List.set_cons_zero, List.set_cons_succ]
  refine wpAnyH_take (i := 3) (oi := ⟨_, _, _, _, _, _⟩) (v := .pointer (some ⟨g, 0, none⟩)) rfl (by kernel_rfl) (by kernel_rfl) (by kernel_rfl) (fun _ _ _ h => h) (Or.inl ⟨by rfl, fun w' h => by clear h; go_simp⟩) hH ?_
  simp only [Act.put, List.setIfInBounds_toArray, List.set_cons_zero, List.set_cons_succ]
  refine wpAnyH_take (i := 5) (oi := ⟨_, _, _, _, _, _⟩) (v := .slice va vn vc) rfl (by kernel_rfl) (by kernel_rfl) (by kernel_rfl) (fun _ _ _ h => h) (Or.inl ⟨by rfl, fun w' h => by clear h; go_simp⟩) hH ?_
  simp only [Act.put, List.setIfInBounds_toArray, List.set_cons_zero, List.set_cons_succ]
  refine wpAnyH_take (i := 7) (oi := ⟨_, _, _, _, _, _⟩) (v := .pointer (some ⟨g, 0, none⟩)) rfl (by kernel_rfl) (by kernel_rfl) (by kernel_rfl) (fun _ _ _ h => h) (Or.inl ⟨by rfl, fun w' h => by clear h; go_simp⟩) hH ?_
  simp only [Act.put, List.setIfInBounds_toArray, List.set_cons_zero, List.set_cons_succ]
  refine wpAnyH_take (i := 8) (oi := ⟨_, _, _, _, _, _⟩) (v := .pointer (some ⟨g, 0, none⟩)) rfl (by kernel_rfl) (by kernel_rfl) (by kernel_rfl) (fun _ _ _ h => h) (Or.inl ⟨by rfl, fun w' h => by clear h; go_simp⟩) hH ?_
  simp only [Act.put, List.setIfInBounds_toArray, List.set_cons_zero, List.set_cons_succ]
  refine wpAnyH_take (i := 9) (oi := ⟨_, _, _, _, _, _⟩) (v := .pointer (some ⟨g, 1, none⟩)) rfl (by kernel_rfl) (by kernel_rfl) (by kernel_rfl) (fun _ _ _ h => h) (Or.inl ⟨by rfl, fun w' h => by clear h; go_simp⟩) hH ?_
  simp only [Act.put, List.setIfInBounds_toArray, List.set_cons_zero, List.set_cons_succ]
  refine wpAnyH_take (i := 10) (oi := ⟨_, _, _, _, _, _⟩) (v := .int .i64 ((N : Int) + 1)) rfl (by kernel_rfl) (by kernel_rfl) (by kernel_rfl) (fun _ _ _ h => h) (Or.inl ⟨by rfl, fun w' h => by have h2 := h; clear h; go_simp⟩) hH ?_
  simp only [Act.put, List.setIfInBounds_toArray, List.set_cons_zero, List.set_cons_succ]
  refine wpAnyH_ready (rs := [4, 6]) (by kernel_rfl) (by simp) ?_
  refine (AllReadyH.cons (o := ⟨_, _, _, _, _, _⟩) rfl (fun K hK => ?_) (AllReadyH.cons (o := ⟨_, _, _, _, _, _⟩) rfl (fun K hK => ?_) AllReadyH.nil))
  · have q0 := d0d
    go_simp
    refine hK.out _ _ hH (fun hH => ?_)
    clear hK
    try simp only [Act.put, List.setIfInBounds_toArray, List.set_cons_zero, List.set_cons_succ]
    refine wpAnyH_ready (rs := [6]) (by kernel_rfl) (by simp) ?_
    refine (AllReadyH.cons (o := ⟨_, _, _, _, _, _⟩) rfl (fun K hK => ?_) AllReadyH.nil)
    go_simp
    refine HC.out.mono ?_
    rintro e W5 ⟨uv, rfl, hu5, hb5⟩
    obtain ⟨ua, uc, rfl, -⟩ := row7_form hu5
    have hb5' : Below Y1.heap.size Y1 W5 := ⟨hb5.os, hb5.tape, hb5.output, hb5.size, hb5.block⟩
    have hbk5 := HB1.out.below hb5'
    have d0' : W5.cell? ⟨g, 0, none⟩ = some av := hbk5.cell (i := 0) rfl
    have d0'' : ∀ o, (W5.alloc o).cell? ⟨g, 0, none⟩ = some av := fun o => (hbk5.below (below1 W5 o)).cell (i := 0) rfl
    have hb5s := hb5'.size
    have HU5 := hm7 hu5
    have HB5 := hm7 hb5'
    have HBK5 := hm7 hbk5
    clear hu5 hb5 hbk5 hb5'
    refine hK.out _ _ (HBK5.out.cell (i := 1) rfl) (fun hH => ?_)
    clear hK
    try simp only [Act.put, List.setIfInBounds_toArray, List.set_cons_zero, List.set_cons_succ]
    refine wpAnyH_take (i := 11) (oi := ⟨_, _, _, _, _, _⟩) (v := .agg #[.slice ua b.length uc, .int .i64 ((N : Int) + 1)]) rfl (by kernel_rfl) (by kernel_rfl) (by kernel_rfl) (fun _ _ _ h => h) (Or.inl ⟨by rfl, fun w' h => by clear h; go_simp⟩) hH ?_
    simp only [Act.put, List.setIfInBounds_toArray, List.set_cons_zero, List.set_cons_succ]
    refine wpAnyH_ready (rs := [12]) (by kernel_rfl) (by simp) ?_
    refine (AllReadyH.cons (o := ⟨_, _, _, _, _, _⟩) rfl (fun K hK => ?_) AllReadyH.nil)
    go_simp
    refine hK.out _ _ ((HBK5.out.below (below1 W5 (.cells #[.slice ua b.length uc, .int .i64 ((N : Int) + 1)] 73))).cell (i := 1) rfl) (fun hH => ?_)
    clear hK
    try simp only [Act.put, List.setIfInBounds_toArray, List.set_cons_zero, List.set_cons_succ]
    refine wpAnyH_ready (rs := [13]) (by kernel_rfl) (by simp) ?_
    refine (AllReadyH.cons (o := ⟨_, _, _, _, _, _⟩) rfl (fun K hK => ?_) AllReadyH.nil)
    refine stepW Try.underlying65 Try.infoMsgR rfl (by omega) rfl _ _ rfl B av N (twoW (Q.map MrW.c)) rfl (row7_below (row7_below HOA.out HB5.out) (below1 _ _)) (.slice (some ⟨W5.heap.size, 0, none⟩) 1 1) 1 [.slice ua b.length uc, .int .i64 ((N : Int) + 1)] rfl (two_src (Bk.new W5 #[.slice ua b.length uc, .int .i64 ((N : Int) + 1)] 73)) (by simp [Value.oneCell']) (by omega) (by omega) (by simp; omega) ?_
    intro v6 W6 ho6 hg6 hv6
    obtain ⟨a6, c6, rfl, -⟩ := row7_form ho6
    have hbk6 := (HBK5.out.below (below1 W5 (.cells #[.slice ua b.length uc, .int .i64 ((N : Int) + 1)] 73))).fr (Fr.own hg6) (fun e => by have := H.out.ne; rw [HAV.out] at this; rw [HAV.out] at e; exact this e)
    have e0 : W6.cell? ⟨g, 0, none⟩ = some av := hbk6.cell (i := 0) rfl
    have e1 := hbk6.froz 0
    have HO6 := hm7 ho6
    have HG6 := hm7 hg6
    have HV6 := hm7 hv6
    have HBK6 := hm7 hbk6
    clear ho6 hg6 hv6 hbk6
    refine hK.out _ _ (HBK6.out.cell (i := 1) rfl) (fun hH => ?_)
    clear hK
    try simp only [Act.put, List.setIfInBounds_toArray, List.set_cons_zero, List.set_cons_succ]
    refine wpAnyH_take (i := 14) (oi := ⟨_, _, _, _, _, _⟩) (v := .pointer (some ⟨g, 0, none⟩)) rfl (by kernel_rfl) (by kernel_rfl) (by kernel_rfl) (fun _ _ _ h => h) (Or.inl ⟨by rfl, fun w' h => by clear h; go_simp⟩) hH ?_
    simp only [Act.put, List.setIfInBounds_toArray, List.set_cons_zero, List.set_cons_succ]
    refine wpAnyH_take (i := 15) (oi := ⟨_, _, _, _, _, _⟩) (v := .pointer (some ⟨g, 0, none⟩)) rfl (by kernel_rfl) (by kernel_rfl) (by kernel_rfl) (fun _ _ _ h => h) (Or.inl ⟨by rfl, fun w' h => by clear h; go_simp⟩) hH ?_
    simp only [Act.put, List.setIfInBounds_toArray, List.set_cons_zero, List.set_cons_succ]
    refine wpAnyH_ready (rs := [16]) (by kernel_rfl) (by simp) ?_
    refine (AllReadyH.cons (o := ⟨_, _, _, _, _, _⟩) rfl (fun K hK => ?_) AllReadyH.nil)
    go_simp
    refine hK.out _ _ ((HBK6.out.set 0 (.slice a6 (N + 1) c6)).cell (i := 1) rfl) (fun hH => ?_)
    clear hK
    try simp only [Act.put, List.setIfInBounds_toArray, List.set_cons_zero, List.set_cons_succ]
    refine wpAnyH_done (by kernel_rfl) ?_ _
    go_wp2
    go_ret
    have hgz := H.out.b.lt
    have hlt5 := HB5.out.size
    have hs1 := HSZ.out
    have hav2 : av.ownBlock ≠ some g := H.out.ne
    have hb7 := HBK6.out.set 0 (.slice a6 (N + 1) c6)
    have hne6 : (Value.slice a6 (N + 1) c6).ownBlock ≠ some g := fun e => by
      rcases HV6.out with h6 | h6
      · exact hav2 (h6 ▸ e)
      · rw [h6] at e; cases e; simp at hgz; omega
    have ho7 : (W6.setCell ⟨g, 0, none⟩ (.slice a6 (N + 1) c6)).ownsRow B 73 2 (.slice a6 (N + 1) c6) (N + 1) (twoW (Q.map MrW.c) ++ [.slice ua b.length uc, .int .i64 ((N : Int) + 1)]) := row7_fr HO6.out ((Fr.refl (fun x => x = g) W6).set (Or.inl rfl)) fun x hx e => hne6 (e ▸ hx)
    have hfr : Fr (fun x => x = g ∨ av.ownBlock = some x) Y (W6.setCell ⟨g, 0, none⟩ (.slice a6 (N + 1) c6)) := by
      refine Fr.set ?_ (Or.inl (Or.inl rfl))
      refine Fr.trans (HY1.out.mono fun x _ e => Or.inl e) ?_ fun x _ hx => hx
      refine Fr.trans (Fr.of (HB5.out.trans ((below1 _ _).mono hlt5))) ((Fr.own HG6.out).mono fun x _ e => Or.inr e) fun x _ hx => hx
    have hu7 : LbW (fun x => Y.heap.size ≤ x ∧ (Value.slice a6 (N + 1) c6).ownBlock ≠ some x) (W6.setCell ⟨g, 0, none⟩ (.slice a6 (N + 1) c6)) (.slice ua b.length uc) b := by
      have q1 := (HU5.out.lb HV.out.y).below (below1 W5 (.cells #[.slice ua b.length uc, .int .i64 ((N : Int) + 1)] 73))
      have q2 : LbW (fun x => Y.heap.size ≤ x ∧ x < (W5.alloc (.cells #[.slice ua b.length uc, .int .i64 ((N : Int) + 1)] 73)).heap.size) (W5.alloc (.cells #[.slice ua b.length uc, .int .i64 ((N : Int) + 1)] 73)) (.slice ua b.length uc) b := q1.mono fun x hx hF => ⟨Nat.le_trans hs1 hF.1, hx⟩
      have hol : ∀ x, av.ownBlock = some x → x < Y.heap.size := fun x hx => (World.ownsRow.lt H.out.a x hx).2
      refine ((q2.fr (Fr.own HG6.out) fun x _ hF e => ?_).fr ((Fr.refl (fun x => x = g) W6).set (Or.inl rfl)) fun x _ hF e => ?_).mono fun x _ hF => ⟨hF.1, fun e => ?_⟩
      · have := hol x e; omega
      · have := hF.1; omega
      · rcases HV6.out with h6 | h6
        · rw [h6] at e; have := hol x e; omega
        · rw [h6] at e; cases e; have := hF.2; simp at this
    have eN : ((N + 1 : Nat) : Int) = (N : Int) + 1 := by omega
    obtain ⟨T', hT', hTs⟩ := H.out.put (by rw [HN.out]; exact hg) HL.out hfr (by rw [HN.out, eN]; exact hb7) (by rw [HN.out, eN]; exact ho7) (by
      rcases HV6.out with h6 | h6
      · exact Or.inl h6
      · exact Or.inr ⟨_, h6, by simp; omega⟩) hu7
    refine ⟨by rw [HN.out, eN]; rfl, hfr.mono fun x _ hx => ?_, T', ⟨g, _, _, _, rfl, hT'⟩, hTs⟩
    rcases hx with rfl | hx
    · exact H.out.tg
    · exact H.out.ta x hx
  · go_simp
    refine HC.out.mono ?_
    rintro e W5 ⟨uv, rfl, hu5, hb5⟩
    obtain ⟨ua, uc, rfl, -⟩ := row7_form hu5
    have hb5' : Below Y1.heap.size Y1 W5 := ⟨hb5.os, hb5.tape, hb5.output, hb5.size, hb5.block⟩
    have hbk5 := HB1.out.below hb5'
    have d0' : W5.cell? ⟨g, 0, none⟩ = some av := hbk5.cell (i := 0) rfl
    have d0'' : ∀ o, (W5.alloc o).cell? ⟨g, 0, none⟩ = some av := fun o => (hbk5.below (below1 W5 o)).cell (i := 0) rfl
    have hb5s := hb5'.size
    have HU5 := hm7 hu5
    have HB5 := hm7 hb5'
    have HBK5 := hm7 hbk5
    clear hu5 hb5 hbk5 hb5'
    refine hK.out _ _ (HBK5.out.cell (i := 1) rfl) (fun hH => ?_)
    clear hK
    try simp only [Act.put, List.setIfInBounds_toArray, List.set_cons_zero, List.set_cons_succ]
    refine wpAnyH_take (i := 11) (oi := ⟨_, _, _, _, _, _⟩) (v := .agg #[.slice ua b.length uc, .int .i64 ((N : Int) + 1)]) rfl (by kernel_rfl) (by kernel_rfl) (by kernel_rfl) (fun _ _ _ h => h) (Or.inl ⟨by rfl, fun w' h => by clear h; go_simp⟩) hH ?_
    simp only [Act.put, List.setIfInBounds_toArray, List.set_cons_zero, List.set_cons_succ]
    refine wpAnyH_ready (rs := [4, 12]) (by kernel_rfl) (by simp) ?_
    refine (AllReadyH.cons (o := ⟨_, _, _, _, _, _⟩) rfl (fun K hK => ?_) (AllReadyH.cons (o := ⟨_, _, _, _, _, _⟩) rfl (fun K hK => ?_) AllReadyH.nil))
    · have q0 := d0'
      go_simp
      refine hK.out _ _ hH (fun hH => ?_)
      clear hK
      try simp only [Act.put, List.setIfInBounds_toArray, List.set_cons_zero, List.set_cons_succ]
      refine wpAnyH_ready (rs := [12]) (by kernel_rfl) (by simp) ?_
      refine (AllReadyH.cons (o := ⟨_, _, _, _, _, _⟩) rfl (fun K hK => ?_) AllReadyH.nil)
      go_simp
      refine hK.out _ _ ((HBK5.out.below (below1 W5 (.cells #[.slice ua b.length uc, .int .i64 ((N : Int) + 1)] 73))).cell (i := 1) rfl) (fun hH => ?_)
      clear hK
      try simp only [Act.put, List.setIfInBounds_toArray, List.set_cons_zero, List.set_cons_succ]
      refine wpAnyH_ready (rs := [13]) (by kernel_rfl) (by simp) ?_
      refine (AllReadyH.cons (o := ⟨_, _, _, _, _, _⟩) rfl (fun K hK => ?_) AllReadyH.nil)
      refine stepW Try.underlying65 Try.infoMsgR rfl (by omega) rfl _ _ rfl B av N (twoW (Q.map MrW.c)) rfl (row7_below (row7_below HOA.out HB5.out) (below1 _ _)) (.slice (some ⟨W5.heap.size, 0, none⟩) 1 1) 1 [.slice ua b.length uc, .int .i64 ((N : Int) + 1)] rfl (two_src (Bk.new W5 #[.slice ua b.length uc, .int .i64 ((N : Int) + 1)] 73)) (by simp [Value.oneCell']) (by omega) (by omega) (by simp; omega) ?_
      intro v6 W6 ho6 hg6 hv6
      obtain ⟨a6, c6, rfl, -⟩ := row7_form ho6
      have hbk6 := (HBK5.out.below (below1 W5 (.cells #[.slice ua b.length uc, .int .i64 ((N : Int) + 1)] 73))).fr (Fr.own hg6) (fun e => by have := H.out.ne; rw [HAV.out] at this; rw [HAV.out] at e; exact this e)
      have e0 : W6.cell? ⟨g, 0, none⟩ = some av := hbk6.cell (i := 0) rfl
      have e1 := hbk6.froz 0
      have HO6 := hm7 ho6
      have HG6 := hm7 hg6
      have HV6 := hm7 hv6
      have HBK6 := hm7 hbk6
      clear ho6 hg6 hv6 hbk6
      refine hK.out _ _ (HBK6.out.cell (i := 1) rfl) (fun hH => ?_)
      clear hK
      try simp only [Act.put, List.setIfInBounds_toArray, List.set_cons_zero, List.set_cons_succ]
      refine wpAnyH_take (i := 14) (oi := ⟨_, _, _, _, _, _⟩) (v := .pointer (some ⟨g, 0, none⟩)) rfl (by kernel_rfl) (by kernel_rfl) (by kernel_rfl) (fun _ _ _ h => h) (Or.inl ⟨by rfl, fun w' h => by clear h; go_simp⟩) hH ?_
      simp only [Act.put, List.setIfInBounds_toArray, List.set_cons_zero, List.set_cons_succ]
      refine wpAnyH_take (i := 15) (oi := ⟨_, _, _, _, _, _⟩) (v := .pointer (some ⟨g, 0, none⟩)) rfl (by kernel_rfl) (by kernel_rfl) (by kernel_rfl) (fun _ _ _ h => h) (Or.inl ⟨by rfl, fun w' h => by clear h; go_simp⟩) hH ?_
      simp only [Act.put, List.setIfInBounds_toArray, List.set_cons_zero, List.set_cons_succ]
      refine wpAnyH_ready (rs := [16]) (by kernel_rfl) (by simp) ?_
      refine (AllReadyH.cons (o := ⟨_, _, _, _, _, _⟩) rfl (fun K hK => ?_) AllReadyH.nil)
      go_simp
      refine hK.out _ _ ((HBK6.out.set 0 (.slice a6 (N + 1) c6)).cell (i := 1) rfl) (fun hH => ?_)
      clear hK
      try simp only [Act.put, List.setIfInBounds_toArray, List.set_cons_zero, List.set_cons_succ]
      refine wpAnyH_done (by kernel_rfl) ?_ _
      go_wp2
      go_ret
      have hgz := H.out.b.lt
      have hlt5 := HB5.out.size
      have hs1 := HSZ.out
      have hav2 : av.ownBlock ≠ some g := H.out.ne
      have hb7 := HBK6.out.set 0 (.slice a6 (N + 1) c6)
      have hne6 : (Value.slice a6 (N + 1) c6).ownBlock ≠ some g := fun e => by
        rcases HV6.out with h6 | h6
        · exact hav2 (h6 ▸ e)
        · rw [h6] at e; cases e; simp at hgz; omega
      have ho7 : (W6.setCell ⟨g, 0, none⟩ (.slice a6 (N + 1) c6)).ownsRow B 73 2 (.slice a6 (N + 1) c6) (N + 1) (twoW (Q.map MrW.c) ++ [.slice ua b.length uc, .int .i64 ((N : Int) + 1)]) := row7_fr HO6.out ((Fr.refl (fun x => x = g) W6).set (Or.inl rfl)) fun x hx e => hne6 (e ▸ hx)
      have hfr : Fr (fun x => x = g ∨ av.ownBlock = some x) Y (W6.setCell ⟨g, 0, none⟩ (.slice a6 (N + 1) c6)) := by
        refine Fr.set ?_ (Or.inl (Or.inl rfl))
        refine Fr.trans (HY1.out.mono fun x _ e => Or.inl e) ?_ fun x _ hx => hx
        refine Fr.trans (Fr.of (HB5.out.trans ((below1 _ _).mono hlt5))) ((Fr.own HG6.out).mono fun x _ e => Or.inr e) fun x _ hx => hx
      have hu7 : LbW (fun x => Y.heap.size ≤ x ∧ (Value.slice a6 (N + 1) c6).ownBlock ≠ some x) (W6.setCell ⟨g, 0, none⟩ (.slice a6 (N + 1) c6)) (.slice ua b.length uc) b := by
        have q1 := (HU5.out.lb HV.out.y).below (below1 W5 (.cells #[.slice ua b.length uc, .int .i64 ((N : Int) + 1)] 73))
        have q2 : LbW (fun x => Y.heap.size ≤ x ∧ x < (W5.alloc (.cells #[.slice ua b.length uc, .int .i64 ((N : Int) + 1)] 73)).heap.size) (W5.alloc (.cells #[.slice ua b.length uc, .int .i64 ((N : Int) + 1)] 73)) (.slice ua b.length uc) b := q1.mono fun x hx hF => ⟨Nat.le_trans hs1 hF.1, hx⟩
        have hol : ∀ x, av.ownBlock = some x → x < Y.heap.size := fun x hx => (World.ownsRow.lt H.out.a x hx).2
        refine ((q2.fr (Fr.own HG6.out) fun x _ hF e => ?_).fr ((Fr.refl (fun x => x = g) W6).set (Or.inl rfl)) fun x _ hF e => ?_).mono fun x _ hF => ⟨hF.1, fun e => ?_⟩
        · have := hol x e; omega
        · have := hF.1; omega
        · rcases HV6.out with h6 | h6
          · rw [h6] at e; have := hol x e; omega
          · rw [h6] at e; cases e; have := hF.2; simp at this
      have eN : ((N + 1 : Nat) : Int) = (N : Int) + 1 := by omega
      obtain ⟨T', hT', hTs⟩ := H.out.put (by rw [HN.out]; exact hg) HL.out hfr (by rw [HN.out, eN]; exact hb7) (by rw [HN.out, eN]; exact ho7) (by
        rcases HV6.out with h6 | h6
        · exact Or.inl h6
        · exact Or.inr ⟨_, h6, by simp; omega⟩) hu7
      refine ⟨by rw [HN.out, eN]; rfl, hfr.mono fun x _ hx => ?_, T', ⟨g, _, _, _, rfl, hT'⟩, hTs⟩
      rcases hx with rfl | hx
      · exact H.out.tg
      · exact H.out.ta x hx
    · go_simp
      refine hK.out _ _ ((HBK5.out.below (below1 W5 (.cells #[.slice ua b.length uc, .int .i64 ((N : Int) + 1)] 73))).cell (i := 1) rfl) (fun hH => ?_)
      clear hK
      try simp only [Act.put, List.setIfInBounds_toArray, List.set_cons_zero, List.set_cons_succ]
      refine wpAnyH_ready (rs := [4]) (by kernel_rfl) (by simp) ?_
      refine (AllReadyH.cons (o := ⟨_, _, _, _, _, _⟩) rfl (fun K hK => ?_) AllReadyH.nil)
      have q0 := (d0'' (.cells #[.slice ua b.length uc, .int .i64 ((N : Int) + 1)] 73))
      go_simp
      refine hK.out _ _ hH (fun hH => ?_)
      clear hK
      try simp only [Act.put, List.setIfInBounds_toArray, List.set_cons_zero, List.set_cons_succ]
      refine wpAnyH_ready (rs := [13]) (by kernel_rfl) (by simp) ?_
      refine (AllReadyH.cons (o := ⟨_, _, _, _, _, _⟩) rfl (fun K hK => ?_) AllReadyH.nil)
      refine stepW Try.underlying65 Try.infoMsgR rfl (by omega) rfl _ _ rfl B av N (twoW (Q.map MrW.c)) rfl (row7_below (row7_below HOA.out HB5.out) (below1 _ _)) (.slice (some ⟨W5.heap.size, 0, none⟩) 1 1) 1 [.slice ua b.length uc, .int .i64 ((N : Int) + 1)] rfl (two_src (Bk.new W5 #[.slice ua b.length uc, .int .i64 ((N : Int) + 1)] 73)) (by simp [Value.oneCell']) (by omega) (by omega) (by simp; omega) ?_
      intro v6 W6 ho6 hg6 hv6
      obtain ⟨a6, c6, rfl, -⟩ := row7_form ho6
      have hbk6 := (HBK5.out.below (below1 W5 (.cells #[.slice ua b.length uc, .int .i64 ((N : Int) + 1)] 73))).fr (Fr.own hg6) (fun e => by have := H.out.ne; rw [HAV.out] at this; rw [HAV.out] at e; exact this e)
      have e0 : W6.cell? ⟨g, 0, none⟩ = some av := hbk6.cell (i := 0) rfl
      have e1 := hbk6.froz 0
      have HO6 := hm7 ho6
      have HG6 := hm7 hg6
      have HV6 := hm7 hv6
      have HBK6 := hm7 hbk6
      clear ho6 hg6 hv6 hbk6
      refine hK.out _ _ (HBK6.out.cell (i := 1) rfl) (fun hH => ?_)
      clear hK
      try simp only [Act.put, List.setIfInBounds_toArray, List.set_cons_zero, List.set_cons_succ]
      refine wpAnyH_take (i := 14) (oi := ⟨_, _, _, _, _, _⟩) (v := .pointer (some ⟨g, 0, none⟩)) rfl (by kernel_rfl) (by kernel_rfl) (by kernel_rfl) (fun _ _ _ h => h) (Or.inl ⟨by rfl, fun w' h => by clear h; go_simp⟩) hH ?_
      simp only [Act.put, List.setIfInBounds_toArray, List.set_cons_zero, List.set_cons_succ]
      refine wpAnyH_take (i := 15) (oi := ⟨_, _, _, _, _, _⟩) (v := .pointer (some ⟨g, 0, none⟩)) rfl (by kernel_rfl) (by kernel_rfl) (by kernel_rfl) (fun _ _ _ h => h) (Or.inl ⟨by rfl, fun w' h => by clear h; go_simp⟩) hH ?_
      simp only [Act.put, List.setIfInBounds_toArray, List.set_cons_zero, List.set_cons_succ]
      refine wpAnyH_ready (rs := [16]) (by kernel_rfl) (by simp) ?_
      refine (AllReadyH.cons (o := ⟨_, _, _, _, _, _⟩) rfl (fun K hK => ?_) AllReadyH.nil)
      go_simp
      refine hK.out _ _ ((HBK6.out.set 0 (.slice a6 (N + 1) c6)).cell (i := 1) rfl) (fun hH => ?_)
      clear hK
      try simp only [Act.put, List.setIfInBounds_toArray, List.set_cons_zero, List.set_cons_succ]
      refine wpAnyH_done (by kernel_rfl) ?_ _
      go_wp2
      go_ret
      have hgz := H.out.b.lt
      have hlt5 := HB5.out.size
      have hs1 := HSZ.out
      have hav2 : av.ownBlock ≠ some g := H.out.ne
      have hb7 := HBK6.out.set 0 (.slice a6 (N + 1) c6)
      have hne6 : (Value.slice a6 (N + 1) c6).ownBlock ≠ some g := fun e => by
        rcases HV6.out with h6 | h6
        · exact hav2 (h6 ▸ e)
        · rw [h6] at e; cases e; simp at hgz; omega
      have ho7 : (W6.setCell ⟨g, 0, none⟩ (.slice a6 (N + 1) c6)).ownsRow B 73 2 (.slice a6 (N + 1) c6) (N + 1) (twoW (Q.map MrW.c) ++ [.slice ua b.length uc, .int .i64 ((N : Int) + 1)]) := row7_fr HO6.out ((Fr.refl (fun x => x = g) W6).set (Or.inl rfl)) fun x hx e => hne6 (e ▸ hx)
      have hfr : Fr (fun x => x = g ∨ av.ownBlock = some x) Y (W6.setCell ⟨g, 0, none⟩ (.slice a6 (N + 1) c6)) := by
        refine Fr.set ?_ (Or.inl (Or.inl rfl))
        refine Fr.trans (HY1.out.mono fun x _ e => Or.inl e) ?_ fun x _ hx => hx
        refine Fr.trans (Fr.of (HB5.out.trans ((below1 _ _).mono hlt5))) ((Fr.own HG6.out).mono fun x _ e => Or.inr e) fun x _ hx => hx
      have hu7 : LbW (fun x => Y.heap.size ≤ x ∧ (Value.slice a6 (N + 1) c6).ownBlock ≠ some x) (W6.setCell ⟨g, 0, none⟩ (.slice a6 (N + 1) c6)) (.slice ua b.length uc) b := by
        have q1 := (HU5.out.lb HV.out.y).below (below1 W5 (.cells #[.slice ua b.length uc, .int .i64 ((N : Int) + 1)] 73))
        have q2 : LbW (fun x => Y.heap.size ≤ x ∧ x < (W5.alloc (.cells #[.slice ua b.length uc, .int .i64 ((N : Int) + 1)] 73)).heap.size) (W5.alloc (.cells #[.slice ua b.length uc, .int .i64 ((N : Int) + 1)] 73)) (.slice ua b.length uc) b := q1.mono fun x hx hF => ⟨Nat.le_trans hs1 hF.1, hx⟩
        have hol : ∀ x, av.ownBlock = some x → x < Y.heap.size := fun x hx => (World.ownsRow.lt H.out.a x hx).2
        refine ((q2.fr (Fr.own HG6.out) fun x _ hF e => ?_).fr ((Fr.refl (fun x => x = g) W6).set (Or.inl rfl)) fun x _ hF e => ?_).mono fun x _ hF => ⟨hF.1, fun e => ?_⟩
        · have := hol x e; omega
        · have := hF.1; omega
        · rcases HV6.out with h6 | h6
          · rw [h6] at e; have := hol x e; omega
          · rw [h6] at e; cases e; have := hF.2; simp at this
      have eN : ((N + 1 : Nat) : Int) = (N : Int) + 1 := by omega
      obtain ⟨T', hT', hTs⟩ := H.out.put (by rw [HN.out]; exact hg) HL.out hfr (by rw [HN.out, eN]; exact hb7) (by rw [HN.out, eN]; exact ho7) (by
        rcases HV6.out with h6 | h6
        · exact Or.inl h6
        · exact Or.inr ⟨_, h6, by simp; omega⟩) hu7
      refine ⟨by rw [HN.out, eN]; rfl, hfr.mono fun x _ hx => ?_, T', ⟨g, _, _, _, rfl, hT'⟩, hTs⟩
      rcases hx with rfl | hx
      · exact H.out.tg
      · exact H.out.ta x hx
end Go.Proofs.Ytboomeeipnfbmab
