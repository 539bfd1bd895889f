/-
  wire: the program's wire (landed): New, put. (Written by WQ3.py.)
-/
import Derived.Test.YtboomeeipnfbmaaWQ2
namespace Go.Proofs.Ytboomeeipnfbmaa
open Go.RowKit
attribute [local go_sem ↓] Go.wp_at_zero Go.wp_at_succ

theorem row_bkW {w : World} {base n m : Nat} {e : TypeId} {v : Value} {xs : List Value} (h : w.ownsRow base e n v m xs) {x : Nat} (hx : v.ownBlock = some x) : ∃ cur, Bk w x cur e := by
  rcases h.2 with ⟨rfl, -⟩ | ⟨g, cap, cur, rfl, -, hg, -⟩
  · cases hx
  · simp only [Value.ownBlock, Option.some.injEq] at hx
    subst hx
    exact ⟨cur, hg⟩
theorem WyX.put {B : Nat} {T : Nat → Prop} {g : Nat} {s : WrW} {Z : List (MsW × Value)} {rv v' u : Value} {b : List Int} {Y Y' : World} (h : WyX B T g s Z rv Y) (hg : s.gv < 4096) (hl : b.length ≤ 1048576) (hf : Fr (fun x => x = g ∨ rv.ownBlock = some x) Y Y') (hb : Bk Y' g #[v', .int .i64 ((s.gv + 1 : Nat) : Int)] 64)
    (ha : Y'.ownsRow B 57 2 v' (Z.length + 1) (twoW (Z.map zcW) ++ [.int .i64 ((s.gv + 1 : Nat) : Int), u])) (hv : v'.ownBlock = rv.ownBlock ∨ ∃ k, v'.ownBlock = some k ∧ Y.heap.size ≤ k) (hu : LbW (fun x => Y.heap.size ≤ x ∧ v'.ownBlock ≠ some x) Y' u b) (hk : b ≠ [] → ∀ x, u.ownBlock = some x → ∃ cur, Bk Y' x cur 5) :
    ∃ T' : Nat → Prop, WyX B T' g (putW s b) (Z ++ [(⟨s.gv + 1, b⟩, u)]) v' Y' ∧ ∀ x, T' x → T x ∨ Y.heap.size ≤ x := by
  have hle : B ≤ Y.heap.size := Nat.le_trans (h.t g h.tg).1 (Nat.le_of_lt h.b.lt)
  have hold : ∀ q ∈ Z, q.1.b ≠ [] → ∀ x, q.2.ownBlock = some x → x < Y.heap.size ∧ Y'.heap[x]? = Y.heap[x]? := fun q hq hn x hx => by
    obtain ⟨x', e, hT, hlt⟩ := (h.u q hq).own hn
    rw [hx] at e
    cases e
    exact ⟨hlt, hf.block x hlt fun e => e.elim hT.2.1 hT.2.2⟩
  have hnew : ∀ x, b ≠ [] → u.ownBlock = some x → Y.heap.size ≤ x := fun x hn hx => by
    obtain ⟨x', e, hT, -⟩ := hu.own hn
    rw [hx] at e
    cases e
    exact hT.1
  refine ⟨fun x => (T x ∨ Y.heap.size ≤ x) ∧ x < Y'.heap.size, ⟨putW_ok h.ok hg hu.y hl, by rw [List.map_append, h.z]; rfl, hb, by rw [List.length_append, List.map_append, twoW_app]; exact ha, fun q hq => ?_, fun q hq hn x hx => ?_, fun i j y q x hi hj hy hn h1 h2 => ?_, fun x hx => ?_, ⟨Or.inl h.tg, hb.lt⟩, fun x hx => ⟨hx.1.elim (fun ht => (h.t x ht).1) (fun hy => by omega), hx.2⟩⟩, fun x hx => hx.1⟩
  · rcases List.mem_append.1 hq with hq | hq
    · refine ((h.u q hq).fr hf fun x _ hF hP => hP.elim hF.2.1 hF.2.2).mono fun x hx hF => ⟨⟨Or.inl hF.1, hx⟩, hF.2.1, fun e => ?_⟩
      rcases hv with hv | ⟨k, hv, hk⟩
      · exact hF.2.2 (hv ▸ e)
      · rw [hv] at e
        cases e
        have := (h.t x hF.1).2
        omega
    · rw [List.mem_singleton] at hq
      subst hq
      exact hu.mono fun x hx hF => ⟨⟨Or.inr hF.1, hx⟩, fun e => by have := h.b.lt; omega, hF.2⟩
  · rcases List.mem_append.1 hq with hq | hq
    · obtain ⟨cur, hc⟩ := h.w q hq hn x hx
      exact ⟨cur, (hold q hq hn x hx).2.trans hc⟩
    · rw [List.mem_singleton] at hq
      subst hq
      exact hk hn x hx
  · rw [List.getElem?_append] at hi hj
    split at hi <;> split at hj
    · exact h.d i j y q x hi hj hy hn h1 h2
    · have e := List.mem_of_getElem? hj
      rw [List.mem_singleton] at e
      subst e
      have := (hold y (List.mem_of_getElem? hi) hy x h1).1
      have := hnew x hn h2
      omega
    · have e := List.mem_of_getElem? hi
      rw [List.mem_singleton] at e
      subst e
      have := (hold q (List.mem_of_getElem? hj) hn x h2).1
      have := hnew x hy h1
      omega
    · have l1 := (List.getElem?_eq_some_iff.1 hi).1
      have l2 := (List.getElem?_eq_some_iff.1 hj).1
      simp only [List.length_singleton] at l1 l2
      omega
  · refine ⟨?_, (World.ownsRow.lt ha x hx).2⟩
    rcases hv with hv | ⟨k, hv, hk⟩
    · exact Or.inl (h.ta x (hv ▸ hx))
    · rw [hv] at hx; cases hx; exact Or.inr hk
def WkW (B : Nat) (T : Nat → Prop) (v : Value) (s : WrW) (Y Y' : World) : Prop := Fr T Y Y' ∧ ∃ T' : Nat → Prop, WyW B T' v s Y' ∧ ∀ b, T' b → T b ∨ Y.heap.size ≤ b
theorem WkW.keep {B : Nat} {T : Nat → Prop} {v : Value} {s : WrW} {Y Y' : World} (h : WyW B T v s Y) (hb : Below Y.heap.size Y Y') : WkW B T v s Y Y' := ⟨Fr.of hb, T, h.fr (P := fun _ => False) (Fr.of hb) fun _ _ _ h => h, fun _ hx => Or.inl hx⟩
set_option maxRecDepth 20000 in
theorem ynewW_any (B : Nat) (Y : World) (hB : B ≤ Y.heap.size) : Calls Try.prog 9 #[] Y fun e Y' => ∃ T v, e = .returned v ∧ WyW B T v ⟨[], 0⟩ Y' ∧ (∀ x, T x → Y.heap.size ≤ x) ∧ Below Y.heap.size Y Y' := by
  go_enter Try.func9, Try.ntmps9
  go_wp2
  go_ret
  refine ⟨fun x => x = Y.heap.size, _, rfl, ⟨_, [], .slice none 0 0, rfl, ⟨⟨by simp, by simp, by simp, by simp, by simp, by simp⟩, rfl, Bk.new _ _ _, World.ownsRow_nil _ _ _ _, by simp, by simp, by simp, (fun b hb => by cases hb), rfl, fun b hb => by subst hb; exact ⟨hB, by simp⟩⟩⟩, fun x hx => by omega, below1 _ _⟩
set_option maxRecDepth 20000 in
set_option maxHeartbeats 4000000 in
theorem yputW_full {B : Nat} {T : Nat → Prop} {bv v : Value} {s : WrW} {Y : World} (h : WyW B T v s Y) (hbv : ∃ a n c, bv = .slice a n c) (hg : 4096 ≤ s.gv) :
    Calls Try.prog 26 #[v, bv] Y fun e Y' => e = .returned (.tuple #[.int .i64 0, .int .i64 234]) ∧ Y' = Y := by
  obtain ⟨g, Z, rv, rfl, h⟩ := h
  obtain ⟨ba, bn, bc, rfl⟩ := hbv
  have c1 : Y.cell? ⟨g, 1, none⟩ = some (.int .i64 (s.gv : Int)) := h.b.cell (i := 1) rfl
  have i1 : (s.gv : Int) ≥ 4096 := by omega
  clear h
  go_enter Try.func26, Try.ntmps26
  go_wp2
  go_ret2
  exact ⟨rfl, rfl⟩
set_option maxRecDepth 20000 in
set_option maxHeartbeats 4000000 in
theorem yputW_any {B : Nat} {T G : Nat → Prop} {v bv : Value} {s : WrW} {b : List Int} {Y : World} (h : WyW B T v s Y) (hv : LbW G Y bv b) (hG : ∀ g, v = .pointer (some ⟨g, 0, none⟩) → ¬ G g) (hl : b.length ≤ 1048576) (hg : s.gv < 4096) :
    Calls Try.prog 26 #[v, bv] Y fun e Y' => e = .returned (.tuple #[.int .i64 ((s.gv + 1 : Nat) : Int), .int .i64 0]) ∧ WkW B T v (putW s b) Y Y' := by
  obtain ⟨g, Z, av, rfl, h⟩ := h
  have HG : Hid (¬ G g) := hG g rfl
  clear hG
  have H := hm7 h
  have HV := hm7 hv
  have HL := hm7 hl
  obtain ⟨N, hN⟩ : ∃ N, s.gv = N := ⟨_, rfl⟩
  have hbk := h.b
  rw [hN] at hbk hg
  have HN := hm7 hN
  obtain ⟨aa, cap, hav, -⟩ := row7_form h.a
  obtain ⟨M, hM⟩ : ∃ M, Z.length = M := ⟨_, rfl⟩
  rw [hM] at hav
  have HM := hm7 hM
  have hMb : M ≤ 4096 := by have h1 := h.len; have h2 := h.ok.r; omega
  have HAV := hm7 hav
  have HY1 : Hid (Fr (fun x => x = g) Y (Y.setCell ⟨g, 1, none⟩ (.int .i64 ((N : Int) + 1)))) := (Fr.refl _ Y).set (Or.inl rfl)
  have hB1 := hbk.set 1 (.int .i64 ((N : Int) + 1))
  have hba : Y.ownsRow B 57 2 av M (twoW (Z.map zcW)) := by have := h.a; rw [hM] at this; exact this
  have hoa : (Y.setCell ⟨g, 1, none⟩ (.int .i64 ((N : Int) + 1))).ownsRow B 57 2 av M (twoW (Z.map zcW)) := row7_fr hba HY1.out fun x hx e => h.ne (by rw [hx, e])
  have hlv : LbW G (Y.setCell ⟨g, 1, none⟩ (.int .i64 ((N : Int) + 1))) bv b := hv.fr HY1.out fun x _ hG e => HG.out (e ▸ hG)
  have c0 : Y.cell? ⟨g, 0, none⟩ = some av := hbk.cell (i := 0) rfl
  have c1 : Y.cell? ⟨g, 1, none⟩ = some (.int .i64 (N : Int)) := hbk.cell (i := 1) rfl
  have f1 := hbk.froz 1
  obtain ⟨va, vn, vc, rfl⟩ : ∃ a n c, bv = .slice a n c := by obtain ⟨a, c, e, -⟩ := hv; exact ⟨_, _, _, e⟩
  obtain ⟨Y1, hY1⟩ : ∃ Y1, Y.setCell ⟨g, 1, none⟩ (.int .i64 ((N : Int) + 1)) = Y1 := ⟨_, rfl⟩
  rw [hY1] at HY1 hB1 hoa hlv
  have d0 : Y1.cell? ⟨g, 0, none⟩ = some av := hB1.cell (i := 0) rfl
  have d1 : Y1.cell? ⟨g, 1, none⟩ = some (.int .i64 ((N : Int) + 1)) := hB1.cell (i := 1) rfl
  have HB1 := hm7 hB1
  have HOA := hm7 hoa
  have HSZ := hm7 HY1.out.size
  have hle : B ≤ Y1.heap.size := Nat.le_trans (Nat.le_trans (h.t g h.tg).1 (Nat.le_of_lt h.b.lt)) HY1.out.size
  have HC := hm7 (copiedW_any (w := Y1.drew) (hlv.below ⟨rfl, rfl, rfl, Nat.le_refl _, fun _ _ => rfl⟩) (by omega))
  have i1 : ¬ (N : Int) ≥ 4096 := by omega
  clear h hbk hN hav hba hB1 hoa hlv hv hl hM
  go_enter Try.func26, Try.ntmps26
  go_upto_region 4 with fail
  try rw [hY1]
  clear hY1
  have d0d : Y1.drew.cell? ⟨g, 0, none⟩ = some av := (HB1.out.below ⟨rfl, rfl, rfl, Nat.le_refl _, fun _ _ => rfl⟩).cell (i := 0) rfl
  refine wp_region_held_drew (S := fun w' => w'.cell? ⟨g, 1, none⟩ = some (.int .i64 ((N : Int) + 1))) (by kernel_rfl) ((HB1.out.below ⟨rfl, rfl, rfl, Nat.le_refl _, fun _ _ => rfl⟩).cell (i := 1) rfl) (fun hH => ?_)
  refine wpAnyH_take (i := 0) (oi := ⟨_, _, _, _, _, _⟩) (v := .pointer (some ⟨g, 0, none⟩)) rfl (by kernel_rfl) (by kernel_rfl) (by kernel_rfl) (fun _ _ _ h => h) (Or.inl ⟨by rfl, fun w' h => by clear h; go_simp⟩) hH ?_
  simp only [Act.put, List.setIfInBounds_toArray, List.set_cons_zero, List.set_cons_succ]
  refine wpAnyH_take (i := 1) (oi := ⟨_, _, _, _, _, _⟩) (v := .pointer (some ⟨g, 0, none⟩)) rfl (by kernel_rfl) (by kernel_rfl) (by kernel_rfl) (fun _ _ _ h => h) (Or.inl ⟨by rfl, fun w' h => by clear h; go_simp⟩) hH ?_
  simp only [Act.put, List.setIfInBounds_toArray, List.set_cons_zero, List.set_cons_succ]
  refine wpAnyH_take (i := 2) (oi := ⟨_, _, _, _, _, _⟩) (v := .pointer (some ⟨g, 0, none⟩)) rfl (by kernel_rfl) (by kernel_rfl) (by kernel_rfl) (fun _ _ _ h => h) (Or.inl ⟨by rfl, fun w' h => by clear h; go_simp⟩) hH ?_
  simp only [Act.put, List.setIfInBounds_toArray, List.set_cons_zero, List.set_cons_succ]
  refine wpAnyH_take (i := 3) (oi := ⟨_, _, _, _, _, _⟩) (v := .pointer (some ⟨g, 0, none⟩)) rfl (by kernel_rfl) (by kernel_rfl) (by kernel_rfl) (fun _ _ _ h => h) (Or.inl ⟨by rfl, fun w' h => by clear h; go_simp⟩) hH ?_
  simp only [Act.put, List.setIfInBounds_toArray, List.set_cons_zero, List.set_cons_succ]
  refine wpAnyH_take (i := 5) (oi := ⟨_, _, _, _, _, _⟩) (v := .pointer (some ⟨g, 0, none⟩)) rfl (by kernel_rfl) (by kernel_rfl) (by kernel_rfl) (fun _ _ _ h => h) (Or.inl ⟨by rfl, fun w' h => by clear h; go_simp⟩) hH ?_
  simp only [Act.put, List.setIfInBounds_toArray, List.set_cons_zero, List.set_cons_succ]
  refine wpAnyH_take (i := 6) (oi := ⟨_, _, _, _, _, _⟩) (v := .pointer (some ⟨g, 0, none⟩)) rfl (by kernel_rfl) (by kernel_rfl) (by kernel_rfl) (fun _ _ _ h => h) (Or.inl ⟨by rfl, fun w' h => by clear h; go_simp⟩) hH ?_
  simp only [Act.put, List.setIfInBounds_toArray, List.set_cons_zero, List.set_cons_succ]
  refine wpAnyH_take (i := 7) (oi := ⟨_, _, _, _, _, _⟩) (v := .pointer (some ⟨g, 1, none⟩)) rfl (by kernel_rfl) (by kernel_rfl) (by kernel_rfl) (fun _ _ _ h => h) (Or.inl ⟨by rfl, fun w' h => by clear h; go_simp⟩) hH ?_
  simp only [Act.put, List.setIfInBounds_toArray, List.set_cons_zero, List.set_cons_succ]
  refine wpAnyH_take (i := 9) (oi := ⟨_, _, _, _, _, _⟩) (v := .slice va vn vc) rfl (by kernel_rfl) (by kernel_rfl) (by kernel_rfl) (fun _ _ _ h => h) (Or.inl ⟨by rfl, fun w' h => by clear h; go_simp⟩) hH ?_
  simp only [Act.put, List.setIfInBounds_toArray, List.set_cons_zero, List.set_cons_succ]
  refine wpAnyH_take (i := 8) (oi := ⟨_, _, _, _, _, _⟩) (v := .int .i64 ((N : Int) + 1)) rfl (by kernel_rfl) (by kernel_rfl) (by kernel_rfl) (fun _ _ _ h => h) (Or.inl ⟨by rfl, fun w' h => by have h2 := h; clear h; go_simp⟩) hH ?_
  simp only [Act.put, List.setIfInBounds_toArray, List.set_cons_zero, List.set_cons_succ]
  refine wpAnyH_ready (rs := [4, 10]) (by kernel_rfl) (by simp) ?_
  refine (AllReadyH.cons (o := ⟨_, _, _, _, _, _⟩) rfl (fun K hK => ?_) (AllReadyH.cons (o := ⟨_, _, _, _, _, _⟩) rfl (fun K hK => ?_) AllReadyH.nil))
  · have q0 := d0d
    go_simp
    refine hK.out _ _ hH (fun hH => ?_)
    clear hK
    try simp only [Act.put, List.setIfInBounds_toArray, List.set_cons_zero, List.set_cons_succ]
    refine wpAnyH_ready (rs := [10]) (by kernel_rfl) (by simp) ?_
    refine (AllReadyH.cons (o := ⟨_, _, _, _, _, _⟩) rfl (fun K hK => ?_) AllReadyH.nil)
    go_simp
    refine HC.out.mono ?_
    rintro e W5 ⟨uv, rfl, hu5, hb5⟩
    obtain ⟨ua, uc, rfl, -⟩ := row7_form hu5
    have hb5' : Below Y1.heap.size Y1 W5 := ⟨hb5.os, hb5.tape, hb5.output, hb5.size, hb5.block⟩
    have hbk5 := HB1.out.below hb5'
    have d0' : W5.cell? ⟨g, 0, none⟩ = some av := hbk5.cell (i := 0) rfl
    have d0'' : ∀ o, (W5.alloc o).cell? ⟨g, 0, none⟩ = some av := fun o => (hbk5.below (below1 W5 o)).cell (i := 0) rfl
    have hb5s := hb5'.size
    have HU5 := hm7 hu5
    have HB5 := hm7 hb5'
    have HBK5 := hm7 hbk5
    clear hu5 hb5 hbk5 hb5'
    refine hK.out _ _ (HBK5.out.cell (i := 1) rfl) (fun hH => ?_)
    clear hK
    try simp only [Act.put, List.setIfInBounds_toArray, List.set_cons_zero, List.set_cons_succ]
    refine wpAnyH_take (i := 11) (oi := ⟨_, _, _, _, _, _⟩) (v := .agg #[.int .i64 ((N : Int) + 1), .slice ua b.length uc]) rfl (by kernel_rfl) (by kernel_rfl) (by kernel_rfl) (fun _ _ _ h => h) (Or.inl ⟨by rfl, fun w' h => by clear h; go_simp⟩) hH ?_
    simp only [Act.put, List.setIfInBounds_toArray, List.set_cons_zero, List.set_cons_succ]
    refine wpAnyH_ready (rs := [12]) (by kernel_rfl) (by simp) ?_
    refine (AllReadyH.cons (o := ⟨_, _, _, _, _, _⟩) rfl (fun K hK => ?_) AllReadyH.nil)
    go_simp
    refine hK.out _ _ ((HBK5.out.below (below1 W5 (.cells #[.int .i64 ((N : Int) + 1), .slice ua b.length uc] 57))).cell (i := 1) rfl) (fun hH => ?_)
    clear hK
    try simp only [Act.put, List.setIfInBounds_toArray, List.set_cons_zero, List.set_cons_succ]
    refine wpAnyH_ready (rs := [13]) (by kernel_rfl) (by simp) ?_
    refine (AllReadyH.cons (o := ⟨_, _, _, _, _, _⟩) rfl (fun K hK => ?_) AllReadyH.nil)
    refine stepW Try.underlying43 Try.infoMsgW rfl (by omega) rfl _ _ rfl B av M (twoW (Z.map zcW)) rfl (row7_below (row7_below HOA.out HB5.out) (below1 _ _)) (.slice (some ⟨W5.heap.size, 0, none⟩) 1 1) 1 [.int .i64 ((N : Int) + 1), .slice ua b.length uc] rfl (two_src (Bk.new W5 #[.int .i64 ((N : Int) + 1), .slice ua b.length uc] 57)) (by simp [Value.oneCell']) (by omega) (by omega) (by simp; omega) ?_
    intro v6 W6 ho6 hg6 hv6
    obtain ⟨a6, c6, rfl, -⟩ := row7_form ho6
    have hbk6 := (HBK5.out.below (below1 W5 (.cells #[.int .i64 ((N : Int) + 1), .slice ua b.length uc] 57))).fr (Fr.own hg6) (fun e => by have := H.out.ne; rw [HAV.out] at this; rw [HAV.out] at e; exact this e)
    have e0 : W6.cell? ⟨g, 0, none⟩ = some av := hbk6.cell (i := 0) rfl
    have e1 := hbk6.froz 0
    have HO6 := hm7 ho6
    have HG6 := hm7 hg6
    have HV6 := hm7 hv6
    have HBK6 := hm7 hbk6
    clear ho6 hg6 hv6 hbk6
    refine hK.out _ _ (HBK6.out.cell (i := 1) rfl) (fun hH => ?_)
    clear hK
    try simp only [Act.put, List.setIfInBounds_toArray, List.set_cons_zero, List.set_cons_succ]
    refine wpAnyH_take (i := 14) (oi := ⟨_, _, _, _, _, _⟩) (v := .pointer (some ⟨g, 0, none⟩)) rfl (by kernel_rfl) (by kernel_rfl) (by kernel_rfl) (fun _ _ _ h => h) (Or.inl ⟨by rfl, fun w' h => by clear h; go_simp⟩) hH ?_
    simp only [Act.put, List.setIfInBounds_toArray, List.set_cons_zero, List.set_cons_succ]
    refine wpAnyH_take (i := 15) (oi := ⟨_, _, _, _, _, _⟩) (v := .pointer (some ⟨g, 0, none⟩)) rfl (by kernel_rfl) (by kernel_rfl) (by kernel_rfl) (fun _ _ _ h => h) (Or.inl ⟨by rfl, fun w' h => by clear h; go_simp⟩) hH ?_
    simp only [Act.put, List.setIfInBounds_toArray, List.set_cons_zero, List.set_cons_succ]
    refine wpAnyH_ready (rs := [16]) (by kernel_rfl) (by simp) ?_
    refine (AllReadyH.cons (o := ⟨_, _, _, _, _, _⟩) rfl (fun K hK => ?_) AllReadyH.nil)
    go_simp
    refine hK.out _ _ ((HBK6.out.set 0 (.slice a6 (M + 1) c6)).cell (i := 1) rfl) (fun hH => ?_)
    clear hK
    try simp only [Act.put, List.setIfInBounds_toArray, List.set_cons_zero, List.set_cons_succ]
    refine wpAnyH_done (by kernel_rfl) ?_ _
    have s1 : (W6.setCell ⟨g, 0, none⟩ (.slice a6 (M + 1) c6)).cell? ⟨g, 1, none⟩ = some (.int .i64 ((N : Int) + 1)) := hH
    go_wp2
    go_ret2
    have hgz := H.out.b.lt
    have hlt5 := HB5.out.size
    have hs1 := HSZ.out
    have hav2 : av.ownBlock ≠ some g := H.out.ne
    have hb7 := HBK6.out.set 0 (.slice a6 (M + 1) c6)
    have hne6 : (Value.slice a6 (M + 1) c6).ownBlock ≠ some g := fun e => by
      rcases HV6.out with h6 | h6
      · exact hav2 (h6 ▸ e)
      · rw [h6] at e; cases e; simp at hgz; omega
    have ho7 : (W6.setCell ⟨g, 0, none⟩ (.slice a6 (M + 1) c6)).ownsRow B 57 2 (.slice a6 (M + 1) c6) (M + 1) (twoW (Z.map zcW) ++ [.int .i64 ((N : Int) + 1), .slice ua b.length uc]) := row7_fr HO6.out ((Fr.refl (fun x => x = g) W6).set (Or.inl rfl)) fun x hx e => hne6 (e ▸ hx)
    have hfr : Fr (fun x => x = g ∨ av.ownBlock = some x) Y (W6.setCell ⟨g, 0, none⟩ (.slice a6 (M + 1) c6)) := by
      refine Fr.set ?_ (Or.inl (Or.inl rfl))
      refine Fr.trans (HY1.out.mono fun x _ e => Or.inl e) ?_ fun x _ hx => hx
      refine Fr.trans (Fr.of (HB5.out.trans ((below1 _ _).mono hlt5))) ((Fr.own HG6.out).mono fun x _ e => Or.inr e) fun x _ hx => hx
    have hu7 : LbW (fun x => Y.heap.size ≤ x ∧ (Value.slice a6 (M + 1) c6).ownBlock ≠ some x) (W6.setCell ⟨g, 0, none⟩ (.slice a6 (M + 1) c6)) (.slice ua b.length uc) b := by
      have q1 := (HU5.out.lb HV.out.y).below (below1 W5 (.cells #[.int .i64 ((N : Int) + 1), .slice ua b.length uc] 57))
      have q2 : LbW (fun x => Y.heap.size ≤ x ∧ x < (W5.alloc (.cells #[.int .i64 ((N : Int) + 1), .slice ua b.length uc] 57)).heap.size) (W5.alloc (.cells #[.int .i64 ((N : Int) + 1), .slice ua b.length uc] 57)) (.slice ua b.length uc) b := q1.mono fun x hx hF => ⟨Nat.le_trans hs1 hF.1, hx⟩
      have hol : ∀ x, av.ownBlock = some x → x < Y.heap.size := fun x hx => (World.ownsRow.lt H.out.a x hx).2
      refine ((q2.fr (Fr.own HG6.out) fun x _ hF e => ?_).fr ((Fr.refl (fun x => x = g) W6).set (Or.inl rfl)) fun x _ hF e => ?_).mono fun x _ hF => ⟨hF.1, fun e => ?_⟩
      · have := hol x e; omega
      · have := hF.1; omega
      · rcases HV6.out with h6 | h6
        · rw [h6] at e; have := hol x e; omega
        · rw [h6] at e; cases e; have := hF.2; simp at this
    have eN : ((N + 1 : Nat) : Int) = (N : Int) + 1 := by omega
    have hk7 : b ≠ [] → ∀ x, (Value.slice ua b.length uc).ownBlock = some x → ∃ cur, Bk (W6.setCell ⟨g, 0, none⟩ (.slice a6 (M + 1) c6)) x cur 5 := fun hn x hx => by
      obtain ⟨cur, hc⟩ := row_bkW HU5.out hx
      have hx5 := (World.ownsRow.lt HU5.out x hx)
      have hz1 : Y1.drew.heap.size = Y1.heap.size := rfl
      have hol2 : ∀ y, av.ownBlock = some y → y < Y.heap.size := fun y hy => (World.ownsRow.lt H.out.a y hy).2
      exact ⟨cur, (((hc.below (below1 W5 (.cells #[.int .i64 ((N : Int) + 1), .slice ua b.length uc] 57))).fr (Fr.own HG6.out) fun e => by have := hol2 x e; omega)).off (by omega)⟩
    obtain ⟨T', hT', hTs⟩ := H.out.put (by rw [HN.out]; exact hg) HL.out hfr (by rw [HN.out, eN]; exact hb7) (by rw [HN.out, eN, HM.out]; exact ho7) (by
      rcases HV6.out with h6 | h6
      · exact Or.inl h6
      · exact Or.inr ⟨_, h6, by simp; omega⟩) hu7 hk7
    refine ⟨ret2W (by have := HN.out; omega) rfl, hfr.mono fun x _ hx => ?_, T', ⟨g, _, _, rfl, hT'⟩, hTs⟩
    rcases hx with rfl | hx
    · exact H.out.tg
    · exact H.out.ta x hx
  · go_simp
    refine HC.out.mono ?_
    rintro e W5 ⟨uv, rfl, hu5, hb5⟩
    obtain ⟨ua, uc, rfl, -⟩ := row7_form hu5
    have hb5' : Below Y1.heap.size Y1 W5 := ⟨hb5.os, hb5.tape, hb5.output, hb5.size, hb5.block⟩
    have hbk5 := HB1.out.below hb5'
    have d0' : W5.cell? ⟨g, 0, none⟩ = some av := hbk5.cell (i := 0) rfl
    have d0'' : ∀ o, (W5.alloc o).cell? ⟨g, 0, none⟩ = some av := fun o => (hbk5.below (below1 W5 o)).cell (i := 0) rfl
    have hb5s := hb5'.size
    have HU5 := hm7 hu5
    have HB5 := hm7 hb5'
    have HBK5 := hm7 hbk5
    clear hu5 hb5 hbk5 hb5'
    refine hK.out _ _ (HBK5.out.cell (i := 1) rfl) (fun hH => ?_)
    clear hK
    try simp only [Act.put, List.setIfInBounds_toArray, List.set_cons_zero, List.set_cons_succ]
    refine wpAnyH_take (i := 11) (oi := ⟨_, _, _, _, _, _⟩) (v := .agg #[.int .i64 ((N : Int) + 1), .slice ua b.length uc]) rfl (by kernel_rfl) (by kernel_rfl) (by kernel_rfl) (fun _ _ _ h => h) (Or.inl ⟨by rfl, fun w' h => by clear h; go_simp⟩) hH ?_
    simp only [Act.put, List.setIfInBounds_toArray, List.set_cons_zero, List.set_cons_succ]
    refine wpAnyH_ready (rs := [4, 12]) (by kernel_rfl) (by simp) ?_
    refine (AllReadyH.cons (o := ⟨_, _, _, _, _, _⟩) rfl (fun K hK => ?_) (AllReadyH.cons (o := ⟨_, _, _, _, _, _⟩) rfl (fun K hK => ?_) AllReadyH.nil))
    · have q0 := d0'
      go_simp
      refine hK.out _ _ hH (fun hH => ?_)
      clear hK
      try simp only [Act.put, List.setIfInBounds_toArray, List.set_cons_zero, List.set_cons_succ]
      refine wpAnyH_ready (rs := [12]) (by kernel_rfl) (by simp) ?_
      refine (AllReadyH.cons (o := ⟨_, _, _, _, _, _⟩) rfl (fun K hK => ?_) AllReadyH.nil)
      go_simp
      refine hK.out _ _ ((HBK5.out.below (below1 W5 (.cells #[.int .i64 ((N : Int) + 1), .slice ua b.length uc] 57))).cell (i := 1) rfl) (fun hH => ?_)
      clear hK
      try simp only [Act.put, List.setIfInBounds_toArray, List.set_cons_zero, List.set_cons_succ]
      refine wpAnyH_ready (rs := [13]) (by kernel_rfl) (by simp) ?_
      refine (AllReadyH.cons (o := ⟨_, _, _, _, _, _⟩) rfl (fun K hK => ?_) AllReadyH.nil)
      refine stepW Try.underlying43 Try.infoMsgW rfl (by omega) rfl _ _ rfl B av M (twoW (Z.map zcW)) rfl (row7_below (row7_below HOA.out HB5.out) (below1 _ _)) (.slice (some ⟨W5.heap.size, 0, none⟩) 1 1) 1 [.int .i64 ((N : Int) + 1), .slice ua b.length uc] rfl (two_src (Bk.new W5 #[.int .i64 ((N : Int) + 1), .slice ua b.length uc] 57)) (by simp [Value.oneCell']) (by omega) (by omega) (by simp; omega) ?_
      intro v6 W6 ho6 hg6 hv6
      obtain ⟨a6, c6, rfl, -⟩ := row7_form ho6
      have hbk6 := (HBK5.out.below (below1 W5 (.cells #[.int .i64 ((N : Int) + 1), .slice ua b.length uc] 57))).fr (Fr.own hg6) (fun e => by have := H.out.ne; rw [HAV.out] at this; rw [HAV.out] at e; exact this e)
      have e0 : W6.cell? ⟨g, 0, none⟩ = some av := hbk6.cell (i := 0) rfl
      have e1 := hbk6.froz 0
      have HO6 := hm7 ho6
      have HG6 := hm7 hg6
      have HV6 := hm7 hv6
      have HBK6 := hm7 hbk6
      clear ho6 hg6 hv6 hbk6
      refine hK.out _ _ (HBK6.out.cell (i := 1) rfl) (fun hH => ?_)
      clear hK
      try simp only [Act.put, List.setIfInBounds_toArray, List.set_cons_zero, List.set_cons_succ]
      refine wpAnyH_take (i := 14) (oi := ⟨_, _, _, _, _, _⟩) (v := .pointer (some ⟨g, 0, none⟩)) rfl (by kernel_rfl) (by kernel_rfl) (by kernel_rfl) (fun _ _ _ h => h) (Or.inl ⟨by rfl, fun w' h => by clear h; go_simp⟩) hH ?_
      simp only [Act.put, List.setIfInBounds_toArray, List.set_cons_zero, List.set_cons_succ]
      refine wpAnyH_take (i := 15) (oi := ⟨_, _, _, _, _, _⟩) (v := .pointer (some ⟨g, 0, none⟩)) rfl (by kernel_rfl) (by kernel_rfl) (by kernel_rfl) (fun _ _ _ h => h) (Or.inl ⟨by rfl, fun w' h => by clear h; go_simp⟩) hH ?_
      simp only [Act.put, List.setIfInBounds_toArray, List.set_cons_zero, List.set_cons_succ]
      refine wpAnyH_ready (rs := [16]) (by kernel_rfl) (by simp) ?_
      refine (AllReadyH.cons (o := ⟨_, _, _, _, _, _⟩) rfl (fun K hK => ?_) AllReadyH.nil)
      go_simp
      refine hK.out _ _ ((HBK6.out.set 0 (.slice a6 (M + 1) c6)).cell (i := 1) rfl) (fun hH => ?_)
      clear hK
      try simp only [Act.put, List.setIfInBounds_toArray, List.set_cons_zero, List.set_cons_succ]
      refine wpAnyH_done (by kernel_rfl) ?_ _
      have s1 : (W6.setCell ⟨g, 0, none⟩ (.slice a6 (M + 1) c6)).cell? ⟨g, 1, none⟩ = some (.int .i64 ((N : Int) + 1)) := hH
      go_wp2
      go_ret2
      have hgz := H.out.b.lt
      have hlt5 := HB5.out.size
      have hs1 := HSZ.out
      have hav2 : av.ownBlock ≠ some g := H.out.ne
      have hb7 := HBK6.out.set 0 (.slice a6 (M + 1) c6)
      have hne6 : (Value.slice a6 (M + 1) c6).ownBlock ≠ some g := fun e => by
        rcases HV6.out with h6 | h6
        · exact hav2 (h6 ▸ e)
        · rw [h6] at e; cases e; simp at hgz; omega
      have ho7 : (W6.setCell ⟨g, 0, none⟩ (.slice a6 (M + 1) c6)).ownsRow B 57 2 (.slice a6 (M + 1) c6) (M + 1) (twoW (Z.map zcW) ++ [.int .i64 ((N : Int) + 1), .slice ua b.length uc]) := row7_fr HO6.out ((Fr.refl (fun x => x = g) W6).set (Or.inl rfl)) fun x hx e => hne6 (e ▸ hx)
      have hfr : Fr (fun x => x = g ∨ av.ownBlock = some x) Y (W6.setCell ⟨g, 0, none⟩ (.slice a6 (M + 1) c6)) := by
        refine Fr.set ?_ (Or.inl (Or.inl rfl))
        refine Fr.trans (HY1.out.mono fun x _ e => Or.inl e) ?_ fun x _ hx => hx
        refine Fr.trans (Fr.of (HB5.out.trans ((below1 _ _).mono hlt5))) ((Fr.own HG6.out).mono fun x _ e => Or.inr e) fun x _ hx => hx
      have hu7 : LbW (fun x => Y.heap.size ≤ x ∧ (Value.slice a6 (M + 1) c6).ownBlock ≠ some x) (W6.setCell ⟨g, 0, none⟩ (.slice a6 (M + 1) c6)) (.slice ua b.length uc) b := by
        have q1 := (HU5.out.lb HV.out.y).below (below1 W5 (.cells #[.int .i64 ((N : Int) + 1), .slice ua b.length uc] 57))
        have q2 : LbW (fun x => Y.heap.size ≤ x ∧ x < (W5.alloc (.cells #[.int .i64 ((N : Int) + 1), .slice ua b.length uc] 57)).heap.size) (W5.alloc (.cells #[.int .i64 ((N : Int) + 1), .slice ua b.length uc] 57)) (.slice ua b.length uc) b := q1.mono fun x hx hF => ⟨Nat.le_trans hs1 hF.1, hx⟩
        have hol : ∀ x, av.ownBlock = some x → x < Y.heap.size := fun x hx => (World.ownsRow.lt H.out.a x hx).2
        refine ((q2.fr (Fr.own HG6.out) fun x _ hF e => ?_).fr ((Fr.refl (fun x => x = g) W6).set (Or.inl rfl)) fun x _ hF e => ?_).mono fun x _ hF => ⟨hF.1, fun e => ?_⟩
        · have := hol x e; omega
        · have := hF.1; omega
        · rcases HV6.out with h6 | h6
          · rw [h6] at e; have := hol x e; omega
          · rw [h6] at e; cases e; have := hF.2; simp at this
      have eN : ((N + 1 : Nat) : Int) = (N : Int) + 1 := by omega
      have hk7 : b ≠ [] → ∀ x, (Value.slice ua b.length uc).ownBlock = some x → ∃ cur, Bk (W6.setCell ⟨g, 0, none⟩ (.slice a6 (M + 1) c6)) x cur 5 := fun hn x hx => by
        obtain ⟨cur, hc⟩ := row_bkW HU5.out hx
        have hx5 := (World.ownsRow.lt HU5.out x hx)
        have hz1 : Y1.drew.heap.size = Y1.heap.size := rfl
        have hol2 : ∀ y, av.ownBlock = some y → y < Y.heap.size := fun y hy => (World.ownsRow.lt H.out.a y hy).2
        exact ⟨cur, (((hc.below (below1 W5 (.cells #[.int .i64 ((N : Int) + 1), .slice ua b.length uc] 57))).fr (Fr.own HG6.out) fun e => by have := hol2 x e; omega)).off (by omega)⟩
      obtain ⟨T', hT', hTs⟩ := H.out.put (by rw [HN.out]; exact hg) HL.out hfr (by rw [HN.out, eN]; exact hb7) (by rw [HN.out, eN, HM.out]; exact ho7) (by
        rcases HV6.out with h6 | h6
        · exact Or.inl h6
        · exact Or.inr ⟨_, h6, by simp; omega⟩) hu7 hk7
      refine ⟨ret2W (by have := HN.out; omega) rfl, hfr.mono fun x _ hx => ?_, T', ⟨g, _, _, rfl, hT'⟩, hTs⟩
      rcases hx with rfl | hx
      · exact H.out.tg
      · exact H.out.ta x hx
    · go_simp
      refine hK.out _ _ ((HBK5.out.below (below1 W5 (.cells #[.int .i64 ((N : Int) + 1), .slice ua b.length uc] 57))).cell (i := 1) rfl) (fun hH => ?_)
      clear hK
      try simp only [Act.put, List.setIfInBounds_toArray, List.set_cons_zero, List.set_cons_succ]
      refine wpAnyH_ready (rs := [4]) (by kernel_rfl) (by simp) ?_
      refine (AllReadyH.cons (o := ⟨_, _, _, _, _, _⟩) rfl (fun K hK => ?_) AllReadyH.nil)
      have q0 := (d0'' (.cells #[.int .i64 ((N : Int) + 1), .slice ua b.length uc] 57))
      go_simp
      refine hK.out _ _ hH (fun hH => ?_)
      clear hK
      try simp only [Act.put, List.setIfInBounds_toArray, List.set_cons_zero, List.set_cons_succ]
      refine wpAnyH_ready (rs := [13]) (by kernel_rfl) (by simp) ?_
      refine (AllReadyH.cons (o := ⟨_, _, _, _, _, _⟩) rfl (fun K hK => ?_) AllReadyH.nil)
      refine stepW Try.underlying43 Try.infoMsgW rfl (by omega) rfl _ _ rfl B av M (twoW (Z.map zcW)) rfl (row7_below (row7_below HOA.out HB5.out) (below1 _ _)) (.slice (some ⟨W5.heap.size, 0, none⟩) 1 1) 1 [.int .i64 ((N : Int) + 1), .slice ua b.length uc] rfl (two_src (Bk.new W5 #[.int .i64 ((N : Int) + 1), .slice ua b.length uc] 57)) (by simp [Value.oneCell']) (by omega) (by omega) (by simp; omega) ?_
      intro v6 W6 ho6 hg6 hv6
      obtain ⟨a6, c6, rfl, -⟩ := row7_form ho6
      have hbk6 := (HBK5.out.below (below1 W5 (.cells #[.int .i64 ((N : Int) + 1), .slice ua b.length uc] 57))).fr (Fr.own hg6) (fun e => by have := H.out.ne; rw [HAV.out] at this; rw [HAV.out] at e; exact this e)
      have e0 : W6.cell? ⟨g, 0, none⟩ = some av := hbk6.cell (i := 0) rfl
      have e1 := hbk6.froz 0
      have HO6 := hm7 ho6
      have HG6 := hm7 hg6
      have HV6 := hm7 hv6
      have HBK6 := hm7 hbk6
      clear ho6 hg6 hv6 hbk6
      refine hK.out _ _ (HBK6.out.cell (i := 1) rfl) (fun hH => ?_)
      clear hK
      try simp only [Act.put, List.setIfInBounds_toArray, List.set_cons_zero, List.set_cons_succ]
      refine wpAnyH_take (i := 14) (oi := ⟨_, _, _, _, _, _⟩) (v := .pointer (some ⟨g, 0, none⟩)) rfl (by kernel_rfl) (by kernel_rfl) (by kernel_rfl) (fun _ _ _ h => h) (Or.inl ⟨by rfl, fun w' h => by clear h; go_simp⟩) hH ?_
      simp only [Act.put, List.setIfInBounds_toArray, List.set_cons_zero, List.set_cons_succ]
      refine wpAnyH_take (i := 15) (oi := ⟨_, _, _, _, _, _⟩) (v := .pointer (some ⟨g, 0, none⟩)) rfl (by kernel_rfl) (by kernel_rfl) (by kernel_rfl) (fun _ _ _ h => h) (Or.inl ⟨by rfl, fun w' h => by clear h; go_simp⟩) hH ?_
      simp only [Act.put, List.setIfInBounds_toArray, List.set_cons_zero, List.set_cons_succ]
      refine wpAnyH_ready (rs := [16]) (by kernel_rfl) (by simp) ?_
      refine (AllReadyH.cons (o := ⟨_, _, _, _, _, _⟩) rfl (fun K hK => ?_) AllReadyH.nil)
      go_simp
      refine hK.out _ _ ((HBK6.out.set 0 (.slice a6 (M + 1) c6)).cell (i := 1) rfl) (fun hH => ?_)
      clear hK
      try simp only [Act.put, List.setIfInBounds_toArray, List.set_cons_zero, List.set_cons_succ]
      refine wpAnyH_done (by kernel_rfl) ?_ _
      have s1 : (W6.setCell ⟨g, 0, none⟩ (.slice a6 (M + 1) c6)).cell? ⟨g, 1, none⟩ = some (.int .i64 ((N : Int) + 1)) := hH
      go_wp2
      go_ret2
      have hgz := H.out.b.lt
      have hlt5 := HB5.out.size
      have hs1 := HSZ.out
      have hav2 : av.ownBlock ≠ some g := H.out.ne
      have hb7 := HBK6.out.set 0 (.slice a6 (M + 1) c6)
      have hne6 : (Value.slice a6 (M + 1) c6).ownBlock ≠ some g := fun e => by
        rcases HV6.out with h6 | h6
        · exact hav2 (h6 ▸ e)
        · rw [h6] at e; cases e; simp at hgz; omega
      have ho7 : (W6.setCell ⟨g, 0, none⟩ (.slice a6 (M + 1) c6)).ownsRow B 57 2 (.slice a6 (M + 1) c6) (M + 1) (twoW (Z.map zcW) ++ [.int .i64 ((N : Int) + 1), .slice ua b.length uc]) := row7_fr HO6.out ((Fr.refl (fun x => x = g) W6).set (Or.inl rfl)) fun x hx e => hne6 (e ▸ hx)
      have hfr : Fr (fun x => x = g ∨ av.ownBlock = some x) Y (W6.setCell ⟨g, 0, none⟩ (.slice a6 (M + 1) c6)) := by
        refine Fr.set ?_ (Or.inl (Or.inl rfl))
        refine Fr.trans (HY1.out.mono fun x _ e => Or.inl e) ?_ fun x _ hx => hx
        refine Fr.trans (Fr.of (HB5.out.trans ((below1 _ _).mono hlt5))) ((Fr.own HG6.out).mono fun x _ e => Or.inr e) fun x _ hx => hx
      have hu7 : LbW (fun x => Y.heap.size ≤ x ∧ (Value.slice a6 (M + 1) c6).ownBlock ≠ some x) (W6.setCell ⟨g, 0, none⟩ (.slice a6 (M + 1) c6)) (.slice ua b.length uc) b := by
        have q1 := (HU5.out.lb HV.out.y).below (below1 W5 (.cells #[.int .i64 ((N : Int) + 1), .slice ua b.length uc] 57))
        have q2 : LbW (fun x => Y.heap.size ≤ x ∧ x < (W5.alloc (.cells #[.int .i64 ((N : Int) + 1), .slice ua b.length uc] 57)).heap.size) (W5.alloc (.cells #[.int .i64 ((N : Int) + 1), .slice ua b.length uc] 57)) (.slice ua b.length uc) b := q1.mono fun x hx hF => ⟨Nat.le_trans hs1 hF.1, hx⟩
        have hol : ∀ x, av.ownBlock = some x → x < Y.heap.size := fun x hx => (World.ownsRow.lt H.out.a x hx).2
        refine ((q2.fr (Fr.own HG6.out) fun x _ hF e => ?_).fr ((Fr.refl (fun x => x = g) W6).set (Or.inl rfl)) fun x _ hF e => ?_).mono fun x _ hF => ⟨hF.1, fun e => ?_⟩
        · have := hol x e; omega
        · have := hF.1; omega
        · rcases HV6.out with h6 | h6
          · rw [h6] at e; have := hol x e; omega
          · rw [h6] at e; cases e; have := hF.2; simp at this
      have eN : ((N + 1 : Nat) : Int) = (N : Int) + 1 := by omega
      have hk7 : b ≠ [] → ∀ x, (Value.slice ua b.length uc).ownBlock = some x → ∃ cur, Bk (W6.setCell ⟨g, 0, none⟩ (.slice a6 (M + 1) c6)) x cur 5 := fun hn x hx => by
        obtain ⟨cur, hc⟩ := row_bkW HU5.out hx
        have hx5 := (World.ownsRow.lt HU5.out x hx)
        have hz1 : Y1.drew.heap.size = Y1.heap.size := rfl
        have hol2 : ∀ y, av.ownBlock = some y → y < Y.heap.size := fun y hy => (World.ownsRow.lt H.out.a y hy).2
        exact ⟨cur, (((hc.below (below1 W5 (.cells #[.int .i64 ((N : Int) + 1), .slice ua b.length uc] 57))).fr (Fr.own HG6.out) fun e => by have := hol2 x e; omega)).off (by omega)⟩
      obtain ⟨T', hT', hTs⟩ := H.out.put (by rw [HN.out]; exact hg) HL.out hfr (by rw [HN.out, eN]; exact hb7) (by rw [HN.out, eN, HM.out]; exact ho7) (by
        rcases HV6.out with h6 | h6
        · exact Or.inl h6
        · exact Or.inr ⟨_, h6, by simp; omega⟩) hu7 hk7
      refine ⟨ret2W (by have := HN.out; omega) rfl, hfr.mono fun x _ hx => ?_, T', ⟨g, _, _, rfl, hT'⟩, hTs⟩
      rcases hx with rfl | hx
      · exact H.out.tg
      · exact H.out.ta x hx
end Go.Proofs.Ytboomeeipnfbmaa
