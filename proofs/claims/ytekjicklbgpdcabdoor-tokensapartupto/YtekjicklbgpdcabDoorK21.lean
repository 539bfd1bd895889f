/-
  gap, bare; the places of tokens, plain.
-/
import Derived.Test.YtekjicklbgpdcabDoorK18
namespace Go.Proofs.YtekjicklbgpdcabDoor
open Go.RowKit

/-- Blanks and remarks: whether one is inside of a remark at the end; none, if something else stands there. -/
def gpS : Bool → List Int → Option Bool
  | b, [] => some b
  | true, c :: r => gpS (!decide (c = 10)) r
  | false, c :: r => if c = 37 then gpS true r else if c = 32 ∨ c = 9 ∨ c = 10 ∨ c = 13 then gpS false r else none
def gpB (l : List Int) (e : Bool) : Bool := match gpS false l with
  | none => false
  | some b => !b || e
theorem gpS_true (c : Int) (r : List Int) : gpS true (c :: r) = gpS (!decide (c = 10)) r := rfl
theorem gpS_false (c : Int) (r : List Int) : gpS false (c :: r) = if c = 37 then gpS true r else if c = 32 ∨ c = 9 ∨ c = 10 ∨ c = 13 then gpS false r else none := rfl
theorem gpS_app : ∀ (b : Bool) (u v : List Int), gpS b (u ++ v) = (gpS b u).bind fun b' => gpS b' v
  | _, [], _ => rfl
  | true, c :: u, v => by rw [List.cons_append, gpS_true, gpS_true, gpS_app]
  | false, c :: u, v => by
    rw [List.cons_append, gpS_false, gpS_false]
    by_cases q1 : c = 37
    · rw [if_pos q1, if_pos q1, gpS_app]
    · rw [if_neg q1, if_neg q1]
      by_cases q2 : c = 32 ∨ c = 9 ∨ c = 10 ∨ c = 13
      · rw [if_pos q2, if_pos q2, gpS_app]
      · rw [if_neg q2, if_neg q2]; rfl
theorem gpS_rem : ∀ (r : List Int), gpS true (r.take (le_ r)) = some true
  | [] => rfl
  | c :: r => by
    rw [le_cons]
    by_cases q : c = 10
    · rw [if_pos q]; rfl
    · rw [if_neg q, List.take_succ_cons, gpS_true, decide_eq_false q]
      exact gpS_rem r
theorem le_next : ∀ (r : List Int), r.drop (le_ r) = [] ∨ ∃ y, r.drop (le_ r) = 10 :: y
  | [] => Or.inl rfl
  | c :: r => by
    rw [le_cons]
    by_cases q : c = 10
    · rw [if_pos q]; exact Or.inr ⟨r, by rw [q]; rfl⟩
    · rw [if_neg q, List.drop_succ_cons]; exact le_next r
theorem bare_any (t : Tk) (w : World) : Calls Tryd.prog 23 #[t.v] w fun e w' => e = .returned (Tk.v ⟨t.k, t.x, t.n, 0, 0⟩) ∧ Below w.heap.size w w' := by
  obtain ⟨k, x, n, a, e⟩ := t
  go_enter Tryd.func23, Tryd.ntmps23
  go_wp2
  exact bodyPost_ret (v := Tk.v ⟨k, x, n, 0, 0⟩) (by simp [results, Tryd.results23, go_sem]) rfl ⟨rfl, below2 _ _ _⟩
/-- Where tokens lie in a text, from a place on. -/
def Pl (l : List Int) : Nat → List Tk → Prop
  | off, [] => off ≤ l.length ∧ gpB (l.drop off) true = true
  | off, t :: T => ∃ a len : Nat, t.a = (a : Int) ∧ t.e = ((a + len : Nat) : Int) ∧ off ≤ a ∧ 1 ≤ len ∧ a + len ≤ l.length ∧ gpB ((l.drop off).take (a - off)) false = true ∧
      (∀ f, len < f → ct f ((l.drop a).take len) 0 [] = ([⟨t.k, t.x, t.n, 0, (len : Int)⟩], 0, 0)) ∧ Pl l (a + len) T
theorem ct_places (l : List Int) : ∀ (f off off0 : Nat) (acc : List Tk) (b : Bool), (l.drop off).length < f → off0 ≤ off → off ≤ l.length →
    gpS false ((l.drop off0).take (off - off0)) = some b → (b = true → l.drop off = [] ∨ ∃ y, l.drop off = 10 :: y) →
    (ct f (l.drop off) off acc).2.1 = 0 → ∃ T, (ct f (l.drop off) off acc).1 = acc ++ T ∧ Pl l off0 T
  | 0, _, _, _, _, h, _, _, _, _, _ => by omega
  | f + 1, off, off0, acc, b, hf, h0, hl, hg, hb, he => by
    have seg : ∀ n, off + n ≤ l.length → (l.drop off0).take (off + n - off0) = (l.drop off0).take (off - off0) ++ (l.drop off).take n := fun n hn => by
      have e1 : l.drop off = (l.drop off0).drop (off - off0) := by rw [List.drop_drop]; congr 1; omega
      rw [e1, show off + n - off0 = (off - off0) + n by omega, List.take_add]
    cases hd : l.drop off with
    | nil =>
      rw [hd] at he
      refine ⟨[], by simp [ct_end], by omega, ?_⟩
      have hle : l.length ≤ off := by
        have := congrArg List.length hd
        rw [List.length_drop] at this; simp at this; omega
      have e2 : (l.drop off0).take (off - off0) = l.drop off0 := List.take_of_length_le (by rw [List.length_drop]; omega)
      rw [e2] at hg
      unfold gpB; rw [hg]; simp
    | cons c r =>
      rw [hd] at hf hb he
      simp only [List.length_cons] at hf
      have hlt : off < l.length := by
        have := congrArg List.length hd
        rw [List.length_drop] at this; simp at this; omega
      have hr : r = l.drop (off + 1) := by
        have := congrArg List.tail hd
        rw [List.tail_drop] at this; simpa using this.symm
      have hrl : r.length = l.length - (off + 1) := by rw [hr, List.length_drop]
      rw [ct_cons] at he ⊢
      by_cases q1 : c = 32 ∨ c = 9 ∨ c = 10 ∨ c = 13
      · rw [if_pos q1] at he ⊢
        rw [hr] at he ⊢
        refine ct_places l f (off + 1) off0 acc false (by rw [← hr]; omega) (by omega) (by omega) ?_ (fun h => by cases h) he
        rw [seg 1 (by omega), gpS_app, hg, hd, List.take_succ_cons, List.take_zero]
        show gpS b [c] = some false
        cases b with
        | true =>
          rcases hb rfl with h | ⟨y, h⟩
          · cases h
          · cases h; rfl
        | false => rw [gpS_false, if_neg (by omega), if_pos q1]; rfl
      · rw [if_neg q1] at he ⊢
        have hbf : b = false := by
          cases b with
          | false => rfl
          | true =>
            rcases hb rfl with h | ⟨y, h⟩
            · cases h
            · cases h; omega
        subst hbf
        by_cases q2 : c = 37
        · rw [if_pos q2] at he ⊢
          have hle := le_le (c :: r)
          have hle1 : le_ (c :: r) = le_ r + 1 := by rw [le_cons, if_neg (by omega)]
          simp only [List.length_cons] at hle
          have ed : (c :: r).drop (le_ (c :: r)) = l.drop (off + le_ (c :: r)) := by rw [← hd, List.drop_drop]
          rw [ed] at he ⊢
          refine ct_places l f (off + le_ (c :: r)) off0 acc true (by rw [List.length_drop]; omega) (by omega) (by omega) ?_ (fun _ => ?_) he
          · rw [seg _ (by omega), gpS_app, hg, hd]
            show gpS false ((c :: r).take (le_ (c :: r))) = some true
            rw [hle1, List.take_succ_cons, gpS_false, if_pos q2]
            exact gpS_rem r
          · rw [← ed]; exact le_next (c :: r)
        · rw [if_neg q2] at he ⊢
          cases et : tok (c :: r) with
          | bad e o =>
            rw [et] at he
            exact absurd he ((tok_len c r).2 e o et)
          | ok k x n len =>
            rw [et] at he
            have htl := (tok_len c r).1 k x n len et
            have ed : (c :: r).drop len = l.drop (off + len) := by rw [← hd, List.drop_drop]
            have he2 : (ct f (l.drop (off + len)) (off + len) (acc ++ [⟨k, ofL x, n, off, (off + len : Nat)⟩])).2.1 = 0 := by rw [← ed]; exact he
            obtain ⟨T, hT, hP⟩ := ct_places l f (off + len) (off + len) (acc ++ [⟨k, ofL x, n, off, (off + len : Nat)⟩]) false (by rw [List.length_drop]; omega) (Nat.le_refl _) (by omega) (by rw [Nat.sub_self]; rfl) (fun h => by cases h) he2
            refine ⟨⟨k, ofL x, n, off, (off + len : Nat)⟩ :: T, ?_, off, len, rfl, rfl, h0, htl.1, by omega, ?_, fun f' hf' => ?_, hP⟩
            · show (ct f ((c :: r).drop len) (off + len) (acc ++ [⟨k, ofL x, n, off, (off + len : Nat)⟩])).1 = _
              rw [ed, hT]; simp
            · unfold gpB; rw [hg]; rfl
            · obtain ⟨z, rfl⟩ : ∃ z, len = z + 1 := ⟨len - 1, by omega⟩
              obtain ⟨f', rfl⟩ : ∃ g, f' = g + 1 := ⟨f' - 1, by omega⟩
              obtain ⟨f', rfl⟩ : ∃ g, f' = g + 1 := ⟨f' - 1, by omega⟩
              rw [hd, List.take_succ_cons, ct_cons, if_neg q1, if_neg q2, tok_take et z (Nat.le_refl _)]
              have hz : (c :: r.take z).drop (z + 1) = [] := List.drop_eq_nil_of_le (by simp only [List.length_cons, List.length_take]; omega)
              show ct (f' + 1) ((c :: r.take z).drop (z + 1)) (0 + (z + 1)) ([] ++ [⟨k, ofL x, n, (0 : Nat), ((0 + (z + 1) : Nat) : Int)⟩]) = _
              rw [hz, ct_end]
              simp
end Go.Proofs.YtekjicklbgpdcabDoor
