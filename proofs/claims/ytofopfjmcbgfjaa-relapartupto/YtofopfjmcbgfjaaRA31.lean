import Derived.Test.YtofopfjmcbgfjaaRA28
/-
  law 7: head.
-/
namespace Go.Proofs.Ytofopfjmcbgfjaa
open Go.RowKit
attribute [local go_sem ↓] Go.wp_at_zero Go.wp_at_succ

/-- A relation of the call's own. -/
def HD7 (w : World) (g m : Nat) (s : St7) (wr : World) : Prop := ∃ F S : Nat → Prop, RM wr g F S m s ∧ (∀ b, F b ∨ S b → w.heap.size ≤ b) ∧ Below w.heap.size w wr
theorem HD7.below {w wr w' : World} {g m : Nat} {s : St7} (h : HD7 w g m s wr) (hb : Below wr.heap.size wr w') : HD7 w g m s w' := by
  obtain ⟨F, S, h1, h2, h3⟩ := h
  exact ⟨F, S, h1.below hb, h2, h3.trans (hb.mono h3.size)⟩
theorem low7 {w wr w' : World} {F : Nat → Prop} (h3 : Below w.heap.size w wr) (h : Fr F wr w') (hd : ∀ b, F b → w.heap.size ≤ b) : Below w.heap.size w w' := h3.trans ((h.mono (Q := fun b => w.heap.size ≤ b) fun b _ hF => hd b hF).low h3.size)
theorem HD7.add {w wr : World} {g m : Nat} {s : St7} {G : Nat → Prop} {v : Value} {r : List Int} (h : HD7 w g m s wr) (hv : Li G wr v r) (he : r.length = s.wd) (hl : r.length ≤ 10000000000) (hc : s.rows.length < 10000000000) :
    Calls Try.prog 16 #[.pointer (some ⟨g, 0, none⟩), v] wr fun e w' => e = .returned (.tuple #[.bool (decide (r ∉ s.rows)), .int .i64 0]) ∧ HD7 w g m (ad7 s r) w' := by
  obtain ⟨F, S, h1, h2, h3⟩ := h
  refine (add8_any g F S G m s v r wr h1 hv he hl hc).mono ?_
  rintro e w' ⟨rfl, ⟨F', S', k1, k2, k3⟩, k4⟩
  have := h3.size
  exact ⟨rfl, F', S', k1, fun b hb => hb.elim (fun h => (k2 b h).elim (fun h => h2 b (Or.inl h)) fun h => by omega) fun h => (k3 b h).elim (fun h => h2 b (Or.inr h)) fun h => by omega, low7 h3 k4 fun b hF => h2 b (Or.inl hF)⟩
theorem HD7.no {w wr : World} {g m : Nat} {s : St7} {G : Nat → Prop} {v : Value} {r : List Int} (h : HD7 w g m s wr) (hv : Li G wr v r) (he : r.length ≠ s.wd) :
    Calls Try.prog 16 #[.pointer (some ⟨g, 0, none⟩), v] wr fun e w' => e = .returned (.tuple #[.bool false, .int .i64 71]) ∧ HD7 w g m s w' := by
  have h0 := h
  obtain ⟨F, S, h1, h2, h3⟩ := h
  exact (add7_wid g F S G m s v r wr h1 hv he).mono fun e w' ⟨h1, h2⟩ => ⟨h1, h0.below h2⟩
theorem HD7.turn {w wr : World} {g m : Nat} {s : St7} (h : HD7 w g m s wr) :
    Calls Try.prog 18 #[.pointer (some ⟨g, 0, none⟩)] wr fun e w' => e = .returned (.int .i64 ((s.rows.length : Int) - (s.xf : Int))) ∧ HD7 w g m (Turn7 s) w' := by
  obtain ⟨F, S, h1, h2, h3⟩ := h
  refine (turn7_any g F S m s wr h1).mono ?_
  rintro e w' ⟨rfl, k1, k4⟩
  exact ⟨rfl, F, S, k1, h2, low7 h3 k4 fun b hF => h2 b (Or.inl hF)⟩
theorem HD7.part {w wr : World} {g m : Nat} {s : St7} {G : Nat → Prop} {v : Value} {r : List Int} (h : HD7 w g m s wr) (hv : Li G wr v r) (hl : r.length ≤ 10000000000) :
    Calls Try.prog 28 #[.pointer (some ⟨g, 0, none⟩), v] wr fun e w' => e = .returned (.int .i64 (part7 s r)) ∧ HD7 w g m s w' := by
  have h0 := h
  obtain ⟨F, S, h1, h2, h3⟩ := h
  exact (part7_any g F S G m s v r wr h1 hv hl).mono fun e w' ⟨h1, h2⟩ => ⟨h1, h0.below h2⟩
theorem HD7.rows {w wr : World} {g m : Nat} {s : St7} (h : HD7 w g m s wr) (parts : Int) (hm : m ≤ 100000000000000) :
    Calls Try.prog 12 #[.pointer (some ⟨g, 0, none⟩), .int .i64 parts] wr fun e w' => ∃ u, e = .returned u ∧ ∃ Q, OL w' wr.heap.size u Q ∧ Q.map Prod.fst = srt7 (sel7 s parts [] []) ∧ HD7 w g (m + 1) s w' := by
  obtain ⟨F, S, h1, h2, h3⟩ := h
  refine (rows8_any g F S m s parts wr h1 hm).mono ?_
  rintro e w' ⟨u, F', P, B, rfl, k1, k2, k3, k4, k5, k6, k7, k8⟩
  have := h3.size
  exact ⟨u, rfl, P, OL.mono ⟨k6, k8⟩ k5, k7, F', S, k1, fun b hb => hb.elim (fun h => (k4 b h).1.elim (fun h => h2 b (Or.inl h)) fun h => by omega) fun h => h2 b (Or.inr h), low7 h3 k2 fun b hF => h2 b (Or.inl hF)⟩
theorem li_lit {w : World} {b n : Nat} {l : List Int} {c : Array Value} (h : Bk w b c 3) (hn : l.length = n) (hc : c.toList = ibs7 l) (hw : w64 l) (hl : n ≤ 1000) : Li Any w (.slice (some ⟨b, 0, none⟩) n n) l := by
  refine ⟨_, n, by rw [hn], by omega, by omega, hw, Or.inr ⟨b, 0, rfl, h.lt, trivial, fun i x hx => ?_⟩⟩
  rw [Nat.zero_add]
  refine h.cell ?_
  rw [← Array.getElem?_toList, hc]
  simp [ibs7, hx]
def s71 : St7 := ⟨2, [[3, 1], [1, 2]], 0, 0⟩
def s72 : St7 := ⟨2, [[3, 1], [1, 2]], 0, 2⟩
theorem s71_is : ad7 (ad7 (New7 2) [3, 1]) [1, 2] = s71 := rfl
theorem s72_ok : s72.Ok := ⟨by decide, by decide, by intro r hr; simp [s72] at hr; rcases hr with rfl | rfl <;> (intro x hx; simp at hx; rcases hx with rfl | rfl <;> rfl), by decide, by decide, by decide, by decide, by decide⟩
theorem s72_rows : srt7 (sel7 s72 7 [] []) = [[1, 2], [3, 1]] := by
  rw [sel_seven s72_ok]
  refine srtR_uniq (srt7_srt _) ?_ ((srt7_perm _).trans (List.Perm.swap _ _ _))
  simp [srtR, cmpR, sg7]
theorem s72_part : part7 s72 [3, 1] = 2 := by kernel_rfl
end Go.Proofs.Ytofopfjmcbgfjaa
/-
  law 7: head's walk.
-/
namespace Go.Proofs.Ytofopfjmcbgfjaa
open Go.RowKit
attribute [local go_sem ↓] Go.wp_at_zero Go.wp_at_succ

set_option maxRecDepth 100000 in
theorem eqP7 (w : World) (x : Addr) : (binOp .eql 25 (.pointer (some x)) (.pointer none)).run Try.prog w = .ok (.bool false) w := rfl
theorem new8_any (n : Nat) (hn : n ≤ 9223372036854775807) (w : World) :
    Calls Try.prog 21 #[.int .i64 (n : Int)] w fun e w' => ∃ g, e = .returned (.tuple #[.pointer (some ⟨g, 0, none⟩), .int .i64 0]) ∧ HD7 w g 0 (New7 n) w' := by
  refine (new7_any n hn w).mono ?_
  rintro e w' ⟨g, rfl, -, h, hb⟩
  exact ⟨g, rfl, _, _, h, fun b hb => hb.elim (fun h => h.1) False.elim, hb⟩
set_option maxRecDepth 20000 in
set_option maxHeartbeats 2000000 in
theorem head7_any (w : World) : Calls Try.prog 11 #[] w fun e w' => e = .returned (.bool true) ∧ Below w.heap.size w w' := by
  have HNEW := hm7 (new8_any 2 (by omega) w)
  have qP := eqP7
  have qF : ∀ (w : World) (b1 b2 b3 b4 b5 : Nat), (binOp .eql 32 (fnd7 b1 b2 b3 b4 b5) .nilFunc).run Try.prog w = .ok (.bool false) w := by
    intro w b1 b2 b3 b4 b5
    rfl
  have qG : ∀ (w : World) (x y : Operand) (b1 b2 b3 b4 b5 : Nat), (eqGuard .eql 32 x y (fnd7 b1 b2 b3 b4 b5) .nilFunc).run Try.prog w = .ok () w := by
    intro w x y b1 b2 b3 b4 b5
    rfl
  have HL1 : Hid (∀ X : World, Li Any (X.alloc (.cells #[.int .i64 3, .int .i64 1] 3)) (.slice (some ⟨X.heap.size, 0, none⟩) 2 2) [3, 1]) := fun X => li_lit (Bk.new _ _ _) rfl rfl (by intro x hx; simp at hx; rcases hx with rfl | rfl <;> rfl) (by omega)
  have HL2 : Hid (∀ X : World, Li Any (X.alloc (.cells #[.int .i64 1, .int .i64 2] 3)) (.slice (some ⟨X.heap.size, 0, none⟩) 2 2) [1, 2]) := fun X => li_lit (Bk.new _ _ _) rfl rfl (by intro x hx; simp at hx; rcases hx with rfl | rfl <;> rfl) (by omega)
  have HL3 : Hid (∀ X : World, Li Any (X.alloc (.cells #[.int .i64 1] 3)) (.slice (some ⟨X.heap.size, 0, none⟩) 1 1) [1]) := fun X => li_lit (Bk.new _ _ _) rfl rfl (by intro x hx; simp at hx; subst hx; rfl) (by omega)
  go_enter Try.func11, Try.ntmps11
  go_upto_region 2 with (go_at_call 21; refine HNEW.out.mono ?_; rintro e W0 ⟨g, rfl, hh⟩; have HH0 := hm7 hh; clear hh)
  go_upto_region 4 with (go_at_call 13; refine (find0_any g 7 W0).mono ?_; rintro e W1 ⟨b1, b2, b3, b4, b5, rfl, -, -, hb⟩; have HH1 := hm7 (HH0.out.below hb); clear hb)
  clear qP qF qG HNEW HH0
  go_upto_region 5 with (go_at_call 16; refine ((HH1.out.below (below1 _ _)).add (HL1.out W1) rfl (by simp) (by simp [New7])).mono ?_; rintro e W2 ⟨rfl, hh⟩; have HH2 := hm7 hh; clear hh)
  go_upto_region 6 with (go_at_call 16; refine ((HH2.out.below (below1 _ _)).add (HL2.out W2) rfl (by simp) (by decide)).mono ?_; rintro e W3 ⟨rfl, hh⟩; rw [s71_is] at hh; rw [show decide ([1, 2] ∉ (ad7 (New7 2) [3, 1]).rows) = true from rfl]; have HH3 := hm7 hh; clear hh)
  go_upto_region 7 with (go_at_call 16; refine ((HH3.out.below (below1 _ _)).no (HL3.out W3) (by decide)).mono ?_; rintro e W4 ⟨rfl, hh⟩; have HH4 := hm7 hh; clear hh)
  go_upto_region 9 with (first | (go_at_call 18; refine HH4.out.turn.mono ?_; rintro e W5 ⟨rfl, hh⟩; rw [show ((s71.rows.length : Int) - (s71.xf : Int)) = 2 from rfl]; have HH5 : Hid (HD7 w g 0 s72 W5) := hh; clear hh) | (go_at_call 28; refine ((HH5.out.below (below1 _ _)).part (HL1.out W5) (by simp)).mono ?_; rintro e W6 ⟨rfl, hh⟩; rw [s72_part]; have HH6 := hm7 hh; clear hh))
  clear HL1 HL2 HL3 HH1 HH2 HH3 HH4 HH5
  go_upto_region 10 with (go_at_call 12; refine (HH6.out.rows 7 (by omega)).mono ?_; rintro e W7 ⟨u, rfl, Q, hol, hq, hh⟩; rw [s72_rows] at hq; obtain ⟨ua, uc, hu, -⟩ := row7_form hol.o; have hQ2 : Q.length = 2 := (by have := congrArg List.length hq; simpa using this); rw [hQ2] at hu; subst hu; have HH7 := hm7 hh; have HOL := hm7 hol; have HQ := hm7 hq; have HQ2 := hm7 hQ2; clear hh hol hq hQ2)
  obtain ⟨v1, v2, hQ⟩ : ∃ v1 v2, Q = [([1, 2], v1), ([3, 1], v2)] := by
    have hq := HQ.out
    match Q, hq with
    | [(x, v1), (y, v2)], hq =>
      simp at hq
      obtain ⟨rfl, rfl⟩ := hq
      exact ⟨v1, v2, rfl⟩
  have hol := HOL.out
  subst hQ
  obtain ⟨bu, rfl, -, -, p0, -⟩ := row7_at hol.o (i := 0) (u := v1) rfl
  obtain ⟨bu', e', -, -, p1, -⟩ := row7_at hol.o (i := 1) (u := v2) rfl
  cases e'
  obtain ⟨a1, c1, hv1, -, -, -, l1⟩ := hol.l ([1, 2], v1) (by simp)
  obtain ⟨a2, c2, hv2, -, -, -, l2⟩ := hol.l ([3, 1], v2) (by simp)
  simp only at hv1 hv2 l1 l2
  rcases l1 with ⟨l1, -⟩ | ⟨x1, o1, rfl, -, -, l1⟩
  · simp at l1
  rcases l2 with ⟨l2, -⟩ | ⟨x2, o2, rfl, -, -, l2⟩
  · simp at l2
  have q1 := l1 0 1 rfl
  have q2 := l2 0 3 rfl
  rw [Nat.add_zero] at q1 q2
  simp only [List.length_cons, List.length_nil] at hv1 hv2
  subst hv1 hv2
  clear l1 l2 hol HOL HQ HQ2 HH6
  go_wp2
  go_ret
  obtain ⟨F, S, -, -, hb⟩ := HH7.out
  exact ⟨rfl, hb⟩
end Go.Proofs.Ytofopfjmcbgfjaa
/-
  law 7: what RelOrder's walk asks (plain).
-/
namespace Go.Proofs.Ytofopfjmcbgfjaa
open Go.RowKit

theorem ad7_ok {s : St7} {r : List Int} (h : s.Ok) (he : r.length = s.wd) (hw : w64 r) (hl : s.wd ≤ 10000000000) (hc : s.rows.length < 10000000000) : (ad7 s r).Ok := by
  unfold ad7
  split
  · exact h
  · rename_i hn
    refine ⟨?_, fun x hx => ?_, fun x hx => ?_, h.a, Nat.le_trans h.b (by simp [Add7]), by simp [Add7]; omega, fun _ => hl, h.e⟩
    · show (s.rows ++ [r]).Nodup
      rw [List.nodup_append]
      refine ⟨h.nd, by simp, fun a ha b hb => ?_⟩
      simp at hb
      subst hb
      intro e
      subst e
      exact hn ha
    · rcases List.mem_append.1 hx with hx | hx
      · exact h.wid x hx
      · simp at hx; subst hx; exact he
    · rcases List.mem_append.1 hx with hx | hx
      · exact h.w x hx
      · simp at hx; subst hx; exact hw
theorem adL_ok : ∀ (l : List (List Int)) {s : St7}, s.Ok → (∀ r ∈ l, r.length = s.wd ∧ w64 r) → s.wd ≤ 10000000000 → s.rows.length + l.length < 10000000000 → (adL s l).Ok
  | [], s, h, _, _, _ => h
  | r :: l, s, h, hr, hw, hl => by
    have h1 := hr r (by simp)
    have h2 := ad7_wd s r
    have h3 := ad7_len s r
    rw [List.length_cons] at hl
    exact adL_ok l (ad7_ok h h1.1 h1.2 hw (by omega)) (fun x hx => by rw [h2.1]; exact hr x (by simp [hx])) (by rw [h2.1]; exact hw) (by omega)
theorem turn_ok7 {s : St7} (h : s.Ok) : (Turn7 s).Ok := ⟨h.nd, h.wid, h.w, h.b, Nat.le_refl _, h.c, h.d, h.e⟩
theorem tn7_ok {j : Nat} {s : St7} (h : s.Ok) : (tn7 j s).Ok := by unfold tn7; split; exact turn_ok7 h; exact h
theorem new_ok7 {k : Nat} (hk : k ≤ 5) : (New7 k).Ok := ⟨by simp [New7], by simp [New7], by simp [New7], by simp [New7], by simp [New7], by simp [New7], by simp [New7], by simp [New7]; omega⟩
def wf7 (Bs : List (List (List Int × Value) × Value)) : Prop := ∀ q ∈ Bs, ∀ p ∈ q.1, w64 p.1
theorem Bt7.wf {w : World} {v : Value} {Bs : List (List (List Int × Value) × Value)} (h : Bt7 w v Bs) : wf7 Bs := by
  obtain ⟨a, cap, -, -, h2⟩ := h
  intro q hq p hp
  obtain ⟨a', cap', -, -, h3⟩ := h2 q hq
  exact (h3 p hp).w
theorem bt7_ok {k : Nat} {Bs : List (List (List Int × Value) × Value)} {j : Nat} {q : List (List Int × Value) × Value} (hw : wf7 Bs) (hq : Bs[j]? = some q) : ∀ r ∈ bt7 k q, r.length = k ∧ w64 r := by
  intro r hr
  simp only [bt7, List.mem_map] at hr
  obtain ⟨p, hp, rfl⟩ := hr
  exact ⟨wd7_len _ _, wd7_w (hw q (List.mem_of_getElem? hq) p hp)⟩
theorem grw_ok {k : Nat} {Bs : List (List (List Int × Value) × Value)} (hk : k ≤ 5) (hw : wf7 Bs) (hB : tot7 Bs ≤ 1048576) : ∀ j, j ≤ Bs.length → (grw k Bs j).Ok
  | 0, _ => new_ok7 hk
  | j + 1, hj => by
    have h1 := grw_ok hk hw hB j (by omega)
    have h2 := grw_len k Bs j (by omega)
    obtain ⟨q, hq⟩ : ∃ q, Bs[j]? = some q := ⟨_, List.getElem?_eq_getElem (by omega)⟩
    have h3 := tot7_get hq
    have h4 : (bt7 k q).length = q.1.length := by simp [bt7]
    rw [grw, hq]
    refine adL_ok _ (tn7_ok h1) (fun r hr => ?_) (by rw [(tn7_rows _ _).2, grw_wd]; omega) (by rw [(tn7_rows _ _).1]; simp only [Option.getD_some]; omega)
    rw [(tn7_rows _ _).2, grw_wd]
    exact bt7_ok hw hq r hr
theorem Eqv.tn {r s : St7} (h : Eqv r s) (j : Nat) : Eqv (tn7 j r) (tn7 j s) := by unfold tn7; split; exact h.turn; exact h
theorem Eqv.next {k : Nat} {Bs : List (List (List Int × Value) × Value)} {j : Nat} {q : List (List Int × Value) × Value} {s : St7} {l : List (List Int)} (hk : k ≤ 5) (hw : wf7 Bs) (hB : tot7 Bs ≤ 1048576) (hq : Bs[j]? = some q) (h : Eqv (grw k Bs j) s) (hs : (tn7 j s).Ok) (hs' : (adL (tn7 j s) l).Ok) (hl : ∀ x, x ∈ bt7 k q ↔ x ∈ l) : Eqv (grw k Bs (j + 1)) (adL (tn7 j s) l) := by
  have hj := (List.getElem?_eq_some_iff.1 hq).1
  have h1 := grw_ok hk hw hB (j + 1) hj
  have h2 := grw_ok hk hw hB j (by omega)
  rw [grw, hq] at h1 ⊢
  exact (h.tn j).add (tn7_ok h2) hs hl h1 hs'
theorem Eqv.new (s : St7) : Eqv s s := ⟨rfl, List.Perm.refl _, List.Perm.refl _, List.Perm.refl _⟩
/-- Where the second row that is added stands. -/
theorem tmod_lt (x : Int) (n : Nat) (hn : 0 < n) : (x.tmod n).natAbs < n := by
  rw [Int.natAbs_tmod]
  exact Nat.mod_lt _ (by simpa using hn)
/-- A part's bit, by how many rounds are left. -/
def bit7 : Nat → Int
  | 0 => 8
  | 1 => 4
  | 2 => 2
  | _ => 1
theorem Eqv.bit {r s : St7} (h : Eqv r s) (hr : r.Ok) (hs : s.Ok) : ∀ i, 0 < i → srt7 (sel7 r (bit7 i) [] []) = srt7 (sel7 s (bit7 i) [] [])
  | 0, h0 => absurd h0 (by omega)
  | 1, _ => srt7_eq (h.sel hr hs).2.2
  | 2, _ => srt7_eq (h.sel hr hs).2.1
  | _ + 3, _ => srt7_eq (h.sel hr hs).1
end Go.Proofs.Ytofopfjmcbgfjaa
