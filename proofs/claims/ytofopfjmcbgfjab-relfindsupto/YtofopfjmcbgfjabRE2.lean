import Derived.Test.YtofopfjmcbgfjabRD7
import Derived.Test.YtofopfjmcbgfjabRA31
/-
  law 7: what both relations answer is the same (plain); roomy.
-/
namespace Go.Proofs.Ytofopfjmcbgfjab
open Go.RowKit
attribute [local go_sem ↓] Go.wp_at_zero Go.wp_at_succ

theorem rows_three {s : St7} (ho : s.Ok) : s.rows = s.rows.take s.nf ++ ((s.rows.take s.xf).drop s.nf ++ s.rows.drop s.xf) := by
  have h1 := ho.a
  have e : (s.rows.take s.xf).take s.nf = s.rows.take s.nf := by rw [List.take_take, Nat.min_eq_left h1]
  rw [← List.append_assoc, ← e, List.take_append_drop, List.take_append_drop]
theorem filter_const {α : Type} (f : α → Bool) {L : List α} {b : Bool} (h : ∀ x ∈ L, f x = b) : L.filter f = if b then L else [] := by
  cases b with
  | true => rw [List.filter_eq_self.2 h]; rfl
  | false => rw [List.filter_eq_nil_iff.2 fun x hx => by rw [h x hx]; simp]; rfl
theorem filt_three {s : St7} (ho : s.Ok) (parts : Int) : s.rows.filter (fun r => hp7 parts (part7 s r)) = (if hp7 parts 1 then s.rows.take s.nf else []) ++ ((if hp7 parts 2 then (s.rows.take s.xf).drop s.nf else []) ++ if hp7 parts 4 then s.rows.drop s.xf else []) := by
  have ha := ho.a
  have hb := ho.b
  have f1 : (s.rows.take s.nf).filter (fun r => hp7 parts (part7 s r)) = if hp7 parts 1 then s.rows.take s.nf else [] := filter_const _ fun x hx => by
    obtain ⟨i, hi⟩ := List.getElem?_of_mem hx
    rw [List.getElem?_take] at hi
    split at hi
    · rename_i h1
      rw [part7_at ho hi, if_pos h1]
    · cases hi
  have f2 : ((s.rows.take s.xf).drop s.nf).filter (fun r => hp7 parts (part7 s r)) = if hp7 parts 2 then (s.rows.take s.xf).drop s.nf else [] := filter_const _ fun x hx => by
    obtain ⟨i, hi⟩ := List.getElem?_of_mem hx
    rw [List.getElem?_drop, List.getElem?_take] at hi
    split at hi
    · rename_i h1
      rw [part7_at ho hi, if_neg (by omega), if_pos h1]
    · cases hi
  have f3 : (s.rows.drop s.xf).filter (fun r => hp7 parts (part7 s r)) = if hp7 parts 4 then s.rows.drop s.xf else [] := filter_const _ fun x hx => by
    obtain ⟨i, hi⟩ := List.getElem?_of_mem hx
    rw [List.getElem?_drop] at hi
    rw [part7_at ho hi, if_neg (by omega), if_neg (by omega)]
  have e : s.rows.filter (fun r => hp7 parts (part7 s r)) = (s.rows.take s.nf ++ ((s.rows.take s.xf).drop s.nf ++ s.rows.drop s.xf)).filter (fun r => hp7 parts (part7 s r)) := by rw [← rows_three ho]
  rw [e, List.filter_append, List.filter_append, f1, f2, f3]
theorem sel_filter {s : St7} (ho : s.Ok) (parts : Int) : sel7 s parts [] [] = s.rows.filter fun r => hp7 parts (part7 s r) := by
  have r1 : rws7 s.rows (wn7 0 (s.nf : Int) (nat7 (List.range s.rows.length))) = s.rows.take s.nf := by
    have := rws_range s.rows 0 s.nf (by omega) (Nat.le_trans ho.a ho.b)
    simpa using this
  have r2 := rws_range s.rows s.nf s.xf ho.a ho.b
  have r3 : rws7 s.rows (wn7 (s.xf : Int) (s.rows.length : Int) (nat7 (List.range s.rows.length))) = s.rows.drop s.xf := by
    have := rws_range s.rows s.xf s.rows.length ho.b (Nat.le_refl _)
    simpa using this
  rw [filt_three ho, sel7, pls7_all, sts7]
  cases hp7 parts 1 <;> cases hp7 parts 2 <;> cases hp7 parts 4 <;> simp [r1, r2, r3]
theorem rsel_eq {s : St7} (ho : s.Ok) (parts : Int) : srt7 (sel7 s parts [] []) = rsel7 s parts := by rw [sel_filter ho, srt7_filter]; rfl
theorem rsel_len {s : St7} (ho : s.Ok) (parts : Int) : len7 s parts = ((rsel7 s parts).length : Int) := by
  have ha := ho.a
  have hb := ho.b
  rw [← rsel_eq ho, (srt7_perm _).length_eq, sel_filter ho, filt_three ho, len7, sts7]
  cases hp7 parts 1 <;> cases hp7 parts 2 <;> cases hp7 parts 4 <;> simp [sum7] <;> omega
theorem rfnd_eq {s : St7} (ho : s.Ok) (parts : Int) (cols keys : List Int) : fnd8 s parts cols keys = rfnd7 s parts cols keys := by rw [fnd8, rsel_eq ho]; rfl
theorem marks7 (W : World) : ∀ (j : Nat) u, (ibs7 [71, 72, 73])[j]? = some u → (W.alloc (.cells #[.int .i64 71, .int .i64 72, .int .i64 73] 3)).cell? ((⟨W.heap.size, 0, none⟩ : Addr).add j) = some u := fun j u hj =>
  World.news_of_block (cs := #[.int .i64 71, .int .i64 72, .int .i64 73]) (t := 3) (fr := (0, 0)) (Bk.new _ _ _) j u hj
set_option maxRecDepth 20000 in
theorem roomy7_any (F : Nat → Prop) (v : Value) (l : List Int) (w : World) (h : Li F w v l) (hl : l.length ≤ 100000000000) :
    Calls Try.prog 17 #[v] w fun e w' => ∃ v', e = .returned v' ∧ OwI w' w.heap.size v' (l ++ [71, 72, 73]) ∧ Below w.heap.size w w' := by
  have HS := hm7 (li_src h)
  obtain ⟨a, cap, rfl, -⟩ := h
  obtain ⟨n, hn⟩ : ∃ n, l.length = n := ⟨_, rfl⟩
  rw [hn] at HS hl ⊢
  have HN := hm7 hn
  clear hn
  go_enter Try.func17, Try.ntmps17
  go_upto_region 3 with (at_builtin; refine gappM Try.underlying32 Try.infoInt7 rfl (by omega) rfl _ _ rfl w.heap.size (.slice none 0 0) 0 [] rfl (World.ownsRow_nil _ _ _ _) (.slice a n cap) n (ibs7 l) rfl HS.out (ibs7_one l) (by omega) (Nat.le_refl _) ?_; intro v' w5 ho5 hg5 hv5; rw [Nat.zero_add, List.nil_append] at ho5; have HO5 := hm7 ho5; have HB5 : Hid (Below w.heap.size w w5) := (Fr.grown (P := fun _ => False) hg5 fun b hb => by cases hb).below fun _ _ h => h; obtain ⟨a5, q5, hv5', -⟩ := row7_form ho5; subst hv5'; clear ho5 hg5 hv5)
  have hs5 := HB5.out.size
  go_wp2_with (at_builtin; refine gappM Try.underlying32 Try.infoInt7 rfl (by omega) rfl _ _ rfl w.heap.size (.slice a5 n q5) n (ibs7 l) rfl (row7_below HO5.out (below1 _ _)) (.slice (some ⟨w5.heap.size, 0, none⟩) 3 3) 3 (ibs7 [71, 72, 73]) rfl (Or.inr ⟨⟨w5.heap.size, 0, none⟩, 3, rfl, rfl, marks7 w5⟩) (ibs7_one _) (by omega) (by simp; omega) ?_; intro v6 w6 ho6 hg6 hv6; have HO6 := hm7 ho6; have HG6 := hm7 hg6; clear ho6 hg6 hv6)
  go_ret
  refine ⟨v6, rfl, ?_, HB5.out.trans (Fr.low (((Fr.of (below1 _ _))).trans (Fr.grown HG6.out fun b hb => hb) (P := fun b => w.heap.size ≤ b) fun b _ hb => (HO5.out.lt b hb).1) hs5)⟩
  unfold OwI
  have e : ibs7 (l ++ [71, 72, 73]) = ibs7 l ++ ibs7 [71, 72, 73] := by simp [ibs7]
  rw [List.length_append, HN.out, e]
  exact HO6.out
end Go.Proofs.Ytofopfjmcbgfjab
/-
  law 7: both relations side by side; begin.
-/
namespace Go.Proofs.Ytofopfjmcbgfjab
open Go.RowKit
attribute [local go_sem ↓] Go.wp_at_zero Go.wp_at_succ

/-- The program's relation and the document's, each in blocks of its own. -/
structure BO (w : World) (T R : Nat → Prop) (g h m : Nat) (s : St7) (Y : World) : Prop where
  p : PT w T g m s Y
  r : RR w R h s Y
  d : ∀ b, T b → ¬ R b
theorem RR.t {w : World} {T : Nat → Prop} {g : Nat} {s : St7} {Y : World} (h : RR w T g s Y) : ∀ b, T b → w.heap.size ≤ b ∧ b < Y.heap.size := by obtain ⟨av, iv, P, h⟩ := h; exact h.t
theorem BO.below {w : World} {T R : Nat → Prop} {g h m : Nat} {s : St7} {Y Y' : World} (H : BO w T R g h m s Y) (hb : Below Y.heap.size Y Y') : BO w T R g h m s Y' := ⟨H.p.below hb, H.r.below hb, H.d⟩
theorem BO.fr {w : World} {T R P : Nat → Prop} {g h m : Nat} {s : St7} {Y Y' : World} (H : BO w T R g h m s Y) (hf : Fr P Y Y') (hP : ∀ b, P b → b < Y.heap.size → w.heap.size ≤ b ∧ ¬ T b ∧ ¬ R b) : BO w T R g h m s Y' :=
  ⟨H.p.fr hf fun b hb hl => ⟨(hP b hb hl).1, (hP b hb hl).2.1⟩, H.r.fr hf fun b hb hl => ⟨(hP b hb hl).1, (hP b hb hl).2.2⟩, H.d⟩
/-- What a call leaves of both. -/
def BX (w : World) (T R : Nat → Prop) (g h m : Nat) (s : St7) (Y Y' : World) : Prop := Fr (fun b => T b ∨ R b) Y Y' ∧ ∃ T' R' : Nat → Prop, BO w T' R' g h m s Y' ∧ ∀ b, T' b ∨ R' b → (T b ∨ R b) ∨ Y.heap.size ≤ b
set_option maxRecDepth 100000 in
theorem neP7 (w : World) (x : Addr) : (binOp .neq 25 (.pointer (some x)) (.pointer none)).run Try.prog w = .ok (.bool true) w := rfl
theorem ret_both7 {fn : Func} {i j : Nat} (hf : fn.results = #[.cell i 28, .tmp j]) (tmps : Array Value) (w : World) (g : Nat) (a b v : Value)
    (h4 : tmps[i]?.getD undef = .pointer (some ⟨g, 0, none⟩)) (h5 : tmps[j]?.getD undef = v) (h0 : w.cell? ⟨g, 0, none⟩ = some a) (h1 : w.cell? ⟨g, 1, none⟩ = some b) : (results fn tmps).run Try.prog w = .ok (.tuple #[.agg #[a, b], v]) w := by
  simp [results, hf, h4, h5, go_sem, h0, h1]
def BgQ (w : World) (n : Nat) (Y : World) (e : Ending) (Y' : World) : Prop := ∃ g h T R, e = .returned (.tuple #[.agg #[.pointer (some ⟨g, 0, none⟩), .pointer (some ⟨h, 0, none⟩)], .bool true]) ∧ BO w T R g h 0 (New7 n) Y' ∧ (∀ b, T b ∨ R b → Y.heap.size ≤ b) ∧ Below Y.heap.size Y Y'
set_option maxRecDepth 20000 in
set_option maxHeartbeats 2000000 in
theorem begin7_any (w Y : World) (hb : Below w.heap.size w Y) (n : Nat) (hn : n ≤ 9223372036854775807) :
    Calls Try.prog 6 #[.int .i64 (n : Int)] Y (BgQ w n Y) := by
  have HB := hm7 hb
  have qP := eqP7
  have qN := neP7
  have qF : ∀ (w : World) (b1 b2 b3 b4 b5 : Nat), (binOp .eql 42 (fnd7 b1 b2 b3 b4 b5) .nilFunc).run Try.prog w = .ok (.bool false) w := by
    intro w b1 b2 b3 b4 b5
    rfl
  have qG : ∀ (w : World) (x y : Operand) (b1 b2 b3 b4 b5 : Nat), (eqGuard .eql 42 x y (fnd7 b1 b2 b3 b4 b5) .nilFunc).run Try.prog w = .ok () w := by
    intro w x y b1 b2 b3 b4 b5
    rfl
  obtain ⟨Y0, hY0⟩ : ∃ Y0, Y.alloc (.cells #[.pointer none, .pointer none] 28) = Y0 := ⟨_, rfl⟩
  have hz0 : Y0.heap.size = Y.heap.size + 1 := by rw [← hY0]; simp
  have hb0 : Below Y.heap.size Y Y0 := by rw [← hY0]; exact below1 _ _
  have hk0 : Bk Y0 Y.heap.size #[.pointer none, .pointer none] 28 := by rw [← hY0]; exact Bk.new _ _ _
  have HB0 := hm7 hb0
  have HK0 := hm7 hk0
  have hs := hb.size
  clear hb hb0 hk0
  go_enter Try.func6, Try.ntmps6
  go_upto_region 2 with (go_at_call 10; refine (new7_any n hn Y0).mono ?_; rintro e W0 ⟨g, rfl, hg, hr, hb⟩; have HB1 := hm7 hb; have HP1 : Hid (PT w (fun b => Y0.heap.size ≤ b ∧ b < W0.heap.size) g 0 (New7 n) W0) := ⟨_, _, hr, fun b hb => hb.elim id False.elim, fun b hb => ⟨by omega, hb.2⟩, (HB.out.trans (HB0.out.mono hs)).trans (hb.mono (by omega))⟩; clear hr hb)
  go_upto_region 3 with (go_at_call 11; refine (rnew7_any w W0 HP1.out.b n hn).mono ?_; rintro e W1 ⟨h, rfl, hb2, R, hR, hRs⟩; have HB2 := hm7 hb2; have HR2 := hm7 (And.intro hR hRs); clear hb2 hR hRs)
  go_upto_region 5 with (go_at_call 12; refine (find0_any g 7 W1).mono ?_; rintro e W2 ⟨b1, b2, b3, b4, b5, rfl, -, -, hb3⟩; have HB3 := hm7 hb3; clear hb3)
  have hk3 := ((HK0.out.below (HB1.out)).below HB2.out).below HB3.out
  have c0 := hk3.cell (i := 0) rfl
  have c1 := hk3.cell (i := 1) rfl
  have d0 := hk3.froz 0
  have d1 := hk3.froz 1
  have HK3 := hm7 hk3
  clear hk3
  go_wp2
  have hZ0 := (HK3.out.set 0 (.pointer (some ⟨g, 0, none⟩))).set 1 (.pointer (some ⟨h, 0, none⟩))
  have hst : Fr (fun b => b = Y.heap.size) W2 ((W2.setCell ⟨Y.heap.size, 0, none⟩ (.pointer (some ⟨g, 0, none⟩))).setCell ⟨Y.heap.size, 1, none⟩ (.pointer (some ⟨h, 0, none⟩))) := Fr.set (Fr.set (Fr.refl (fun b => b = Y.heap.size) W2) (Or.inl rfl)) (Or.inl rfl)
  refine bodyPost_ret (ret_both7 Try.results6 _ _ Y.heap.size (.pointer (some ⟨g, 0, none⟩)) (.pointer (some ⟨h, 0, none⟩)) (.bool true) rfl rfl (hZ0.cell (i := 0) rfl) (hZ0.cell (i := 1) rfl)) rfl ?_
  have z1 := HB1.out.size
  have z2 := HB2.out.size
  have z3 := HB3.out.size
  refine ⟨g, h, _, R, rfl, BO.fr (P := fun b => b = Y.heap.size) ⟨(HP1.out.below HB2.out).below HB3.out, HR2.out.1.below HB3.out, fun b hb hc => by have := HR2.out.2 b hc; omega⟩ hst (fun b e _ => ?_), fun b hb => ?_, ?_⟩
  · subst e
    exact ⟨hs, fun hc => by omega, fun hc => by have := HR2.out.2 _ hc; omega⟩
  · rcases hb with hb | hb
    · omega
    · have := HR2.out.2 b hb; omega
  · exact HB0.out.trans (((HB1.out.mono (by omega)).trans ((HB2.out.mono (by omega)).trans (HB3.out.mono (by omega)))).trans (Fr.low (hst.mono (Q := fun b => Y.heap.size ≤ b) fun b _ e => by omega) (by omega)))
set_option maxRecDepth 100000 in
theorem neN7 (w : World) : (binOp .neq 25 (.pointer none) (.pointer none)).run Try.prog w = .ok (.bool false) w := rfl
set_option maxRecDepth 100000 in
theorem eqN7 (w : World) : (binOp .eql 25 (.pointer none) (.pointer none)).run Try.prog w = .ok (.bool true) w := rfl
def BnQ (Y : World) (e : Ending) (Y' : World) : Prop := e = .returned (.tuple #[.agg #[.pointer none, .pointer none], .bool true]) ∧ Below Y.heap.size Y Y'
set_option maxRecDepth 20000 in
set_option maxHeartbeats 2000000 in
theorem begin7_no (Y : World) (n : Int) (hn : n < 0) : Calls Try.prog 6 #[.int .i64 n] Y (BnQ Y) := by
  have qP := eqN7
  have qN := neN7
  obtain ⟨Y0, hY0⟩ : ∃ Y0, Y.alloc (.cells #[.pointer none, .pointer none] 28) = Y0 := ⟨_, rfl⟩
  have hb0 : Below Y.heap.size Y Y0 := by rw [← hY0]; exact below1 _ _
  have hk0 : Bk Y0 Y.heap.size #[.pointer none, .pointer none] 28 := by rw [← hY0]; exact Bk.new _ _ _
  have HB0 := hm7 hb0
  clear hb0
  go_enter Try.func6, Try.ntmps6
  have HK0 := hm7 hk0
  have c0 := hk0.cell (i := 0) rfl
  have c1 := hk0.cell (i := 1) rfl
  have d0 := hk0.froz 0
  have d1 := hk0.froz 1
  clear hk0
  go_wp2_with (first | (go_at_call 10; refine (new7_no n hn Y0).mono ?_; rintro e W0 ⟨rfl, hW⟩; rw [hW]; clear hW W0) | (go_at_call 11; refine (rnew7_no Y0 n hn).mono ?_; rintro e W0 ⟨rfl, hW⟩; rw [hW]; clear hW W0))
  have hZ0 := (HK0.out.set 0 (.pointer none)).set 1 (.pointer none)
  have hz0 : Y0.heap.size = Y.heap.size + 1 := by rw [← hY0]; simp
  refine bodyPost_ret (ret_both7 Try.results6 _ _ Y.heap.size (.pointer none) (.pointer none) (.bool true) rfl rfl (hZ0.cell (i := 0) rfl) (hZ0.cell (i := 1) rfl)) rfl ?_
  exact ⟨rfl, HB0.out.trans (Fr.low (Fr.set (Fr.set (Fr.refl (fun b => Y.heap.size ≤ b) Y0) (Or.inl (Nat.le_refl _))) (Or.inl (Nat.le_refl _))) (by omega))⟩
end Go.Proofs.Ytofopfjmcbgfjab
