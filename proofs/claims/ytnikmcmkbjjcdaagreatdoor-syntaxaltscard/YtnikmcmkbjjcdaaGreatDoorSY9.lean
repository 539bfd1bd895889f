/-
  syntax: choices: what they mean, and how they lie in memory.
-/
import Derived.Test.YtnikmcmkbjjcdaaGreatDoorSY8
namespace Go.Proofs.YtnikmcmkbjjcdaaGreatDoor
open Go.RowKit

/-- What a body is made of. -/
inductive Lf5 where
  | a (x : At)
  | t (x : Te)
/-- One of each. -/
def cross5 {α : Type} : List (List (List α)) → List (List α)
  | [] => [[]]
  | m :: r => m.flatMap fun a => (cross5 r).map fun b => a ++ b
theorem cross5_nil {α : Type} : cross5 ([] : List (List (List α))) = [[]] := rfl
theorem cross5_cons {α : Type} (m : List (List α)) (r : List (List (List α))) : cross5 (m :: r) = m.flatMap fun a => (cross5 r).map fun b => a ++ b := rfl
theorem cross5_len {α : Type} (m : List (List α)) (r : List (List (List α))) : (cross5 (m :: r)).length = m.length * (cross5 r).length := by
  rw [cross5_cons]
  generalize cross5 r = X
  induction m with
  | nil => simp
  | cons a m ih => rw [List.flatMap_cons, List.length_append, ih, List.length_map, List.length_cons, Nat.add_mul, Nat.one_mul, Nat.add_comm]
theorem cross5_ne {α : Type} : ∀ {l : List (List (List α))}, (∀ m ∈ l, m ≠ []) → cross5 l ≠ []
  | [], _ => by rw [cross5_nil]; simp
  | m :: r, h => by
    have h1 := h m (List.mem_cons_self ..)
    have h2 := cross5_ne (l := r) fun x hx => h x (List.mem_cons_of_mem _ hx)
    have e1 : 0 < m.length := List.length_pos_iff.2 h1
    have e2 : 0 < (cross5 r).length := List.length_pos_iff.2 h2
    intro e
    have := cross5_len m r
    rw [e] at this
    have h3 := Nat.mul_pos e1 e2
    rw [← this] at h3
    exact absurd h3 (by simp)
theorem cross5_map {α β : Type} (f : α → β) : ∀ l : List (List (List α)), (cross5 l).map (List.map f) = cross5 (l.map (List.map (List.map f)))
  | [] => rfl
  | m :: r => by
    have ih := cross5_map f r
    rw [List.map_cons, cross5_cons, cross5_cons, ← ih, List.map_flatMap, List.flatMap_map]
    congr 1
    funext a
    simp [List.map_map, Function.comp_def, List.map_append]
/-- The state stands no earlier, in as many brackets. -/
def On5 (s s' : Ps) : Prop := s'.op = s.op ∧ s.nx ≤ s'.nx
theorem On5.refl (s : Ps) : On5 s s := ⟨rfl, Nat.le_refl _⟩
theorem On5.trans {a b c : Ps} (h : On5 a b) (k : On5 b c) : On5 a c := ⟨k.1.trans h.1, Nat.le_trans h.2 k.2⟩
/-- Whatever it answers stands no earlier. -/
def Goes {α : Type} (f : Ps → R5 α) : Prop := ∀ s a s', f s = .ok (a, s') → On5 s s'
theorem and5_inv {α β : Type} {r : R5 α} {f : α → Ps → R5 β} {b : β} {s' : Ps} (h : r.and f = .ok (b, s')) : ∃ a s1, r = .ok (a, s1) ∧ f a s1 = .ok (b, s') := by
  cases r with
  | error e => cases h
  | ok p => obtain ⟨a, s1⟩ := p; exact ⟨a, s1, rfl, h⟩
theorem Goes.and {α β : Type} {f : Ps → R5 α} {k : α → Ps → R5 β} (h : Goes f) (hk : ∀ a, Goes (k a)) : Goes fun s => (f s).and k := fun s b s' e => by
  obtain ⟨a, s1, h1, h2⟩ := and5_inv e
  exact (h s a s1 h1).trans (hk a s1 b s' h2)
theorem goes_ok {α : Type} (a : α) : Goes fun s => (.ok (a, s) : R5 α) := fun s b s' e => by
  have : s = s' := congrArg Prod.snd (Except.ok.inj e)
  rw [← this]
  exact On5.refl s
theorem goes_tk (T : List Tk) (L : Nat) (ks : List Int) : Goes (tk5 T L ks) := fun s a s' e => by
  obtain ⟨-, -, rfl⟩ := tk5_some e
  exact ⟨rfl, Nat.le_succ _⟩
theorem goes_mean (t : Tk) : Goes fun s => (.ok (mean5 t s) : R5 Tm) := fun s a s' e => by
  have h1 : mean5 t s = (a, s') := Except.ok.inj e
  have h2 := mean5_nx t s
  have h3 : (mean5 t s).2.op = s.op := by unfold mean5 va5; (repeat' split) <;> rfl
  rw [h1] at h2 h3
  exact ⟨h3, Nat.le_of_eq h2.symm⟩
theorem goes_tm (T : List Tk) (L : Nat) : Goes (tm5 T L) := (goes_tk T L _).and goes_mean
theorem goes_who (T : List Tk) (L : Nat) : Goes (who5 T L) := (goes_tk T L _).and goes_mean
theorem goes_ls {α : Type} {one : Ps → R5 α} (T : List Tk) (L : Nat) (b : Int) (h : Goes one) : ∀ (f : Nat) (acc : List α), Goes (ls5 one T L b f acc)
  | 0, acc => fun s a s' e => by
    unfold ls5 at e
    have : s = s' := congrArg Prod.snd (Except.ok.inj e)
    rw [← this]
    exact On5.refl s
  | f + 1, acc => fun s a s' e => by
    unfold ls5 at e
    by_cases hk : kd5 T s 0 = b
    · rw [if_pos hk] at e
      obtain ⟨t, s1, h1, h2⟩ := and5_inv e
      obtain ⟨x, s2, h3, h4⟩ := and5_inv h2
      exact ((goes_tk T L _ _ _ _ h1).trans (h _ _ _ h3)).trans (goes_ls T L b h f _ _ _ _ h4)
    · rw [if_neg hk] at e
      have : s = s' := congrArg Prod.snd (Except.ok.inj e)
      rw [← this]
      exact On5.refl s
theorem goes_list {α : Type} {one : Ps → R5 α} (T : List Tk) (L : Nat) (b : Int) (h : Goes one) : Goes (list5 one T L b) := h.and fun _ => goes_ls T L b h _ _
theorem goes_if {α : Type} {p : Ps → Prop} [∀ s, Decidable (p s)] {f g : Ps → R5 α} (hf : Goes f) (hg : Goes g) : Goes fun s => if p s then f s else g s := fun s a s' e => by
  by_cases hp : p s
  · simp only [if_pos hp] at e; exact hf s a s' e
  · simp only [if_neg hp] at e; exact hg s a s' e
theorem goes_args (T : List Tk) (L : Nat) : Goes (args5 T L) := goes_if ((goes_tk T L _).and fun _ => (goes_list T L 8 (goes_tm T L)).and fun l => (goes_tk T L _).and fun _ => goes_ok l) (goes_ok [])
theorem goes_by (T : List Tk) (L : Nat) : Goes (by5 T L) := goes_if (goes_ok _) ((goes_who T L).and fun t => (goes_tk T L _).and fun _ => goes_ok t)
theorem goes_at (T : List Tk) (L : Nat) : Goes (at5 T L) := (goes_by T L).and fun _ => (goes_tk T L _).and fun _ => (goes_args T L).and fun _ => goes_ok _
theorem goes_te (T : List Tk) (L : Nat) : Goes (te5 T L) := (goes_tm T L).and fun _ => (goes_tk T L _).and fun _ => (goes_tm T L).and fun _ => goes_ok _
def conjOf5 (one : Ps → R5 (List (List Lf5))) (T : List Tk) (L : Nat) (s : Ps) : R5 (List (List Lf5)) := (list5 one T L 8 s).and fun ms s => .ok (cross5 ms, s)
def altOf5 (one : Ps → R5 (List (List Lf5))) (T : List Tk) (L : Nat) (s : Ps) : R5 (List (List Lf5)) := (list5 (conjOf5 one T L) T L 9 s).and fun ms s => .ok (ms.flatten, s)
def brOf5 (one : Ps → R5 (List (List Lf5))) (T : List Tk) (L : Nat) (s : Ps) : R5 (List (List Lf5)) :=
  if s.op = 16 then .error (52, pl5 T L s) else (tk5 T L [6] s).and fun _ s => (altOf5 one T L ⟨s.nx, s.op + 1, s.vs, s.nm⟩).and fun m s => (tk5 T L [7] s).and fun _ s => .ok (m, ⟨s.nx, s.op - 1, s.vs, s.nm⟩)
/-- A part of a body; the number bounds the brackets. -/
def lit5 (T : List Tk) (L : Nat) : Nat → Ps → R5 (List (List Lf5))
  | 0, _ => .error (0, 0)
  | f + 1, s => if kd5 T s 0 = 6 then brOf5 (lit5 T L f) T L s else if ba5 T s = true then (at5 T L s).and fun a s => .ok ([[.a a]], s) else (te5 T L s).and fun t s => .ok ([[.t t]], s)
theorem goes_conj {one : Ps → R5 (List (List Lf5))} (T : List Tk) (L : Nat) (h : Goes one) : Goes (conjOf5 one T L) := (goes_list T L 8 h).and fun _ => goes_ok _
theorem goes_alt {one : Ps → R5 (List (List Lf5))} (T : List Tk) (L : Nat) (h : Goes one) : Goes (altOf5 one T L) := (goes_list T L 9 (goes_conj T L h)).and fun _ => goes_ok _
theorem goes_br {one : Ps → R5 (List (List Lf5))} (T : List Tk) (L : Nat) (h : Goes one) : Goes (brOf5 one T L) := fun s a s' e => by
  unfold brOf5 at e
  by_cases ho : s.op = 16
  · rw [if_pos ho] at e; cases e
  · rw [if_neg ho] at e
    obtain ⟨t, s1, h1, h2⟩ := and5_inv e
    obtain ⟨m, s2, h3, h4⟩ := and5_inv h2
    obtain ⟨u, s3, h5, h6⟩ := and5_inv h4
    have g1 := goes_tk T L _ _ _ _ h1
    have g2 := goes_alt T L h _ _ _ h3
    have g3 := goes_tk T L _ _ _ _ h5
    have h7 : s' = ⟨s3.nx, s3.op - 1, s3.vs, s3.nm⟩ := (congrArg Prod.snd (Except.ok.inj h6)).symm
    have e1 := g1.1
    have e2 : s2.op = s1.op + 1 := g2.1
    have e3 := g3.1
    have n1 := g1.2
    have n2 : s1.nx ≤ s2.nx := g2.2
    have n3 := g3.2
    rw [h7]
    exact ⟨by show s3.op - 1 = s.op; omega, by show s.nx ≤ s3.nx; omega⟩
theorem goes_lit (T : List Tk) (L : Nat) : ∀ f, Goes (lit5 T L f)
  | 0 => fun s a s' e => by cases e
  | f + 1 => goes_if (goes_br T L (goes_lit T L f)) (goes_if ((goes_at T L).and fun _ => goes_ok _) ((goes_te T L).and fun _ => goes_ok _))
/-- What it is made of, with where the arguments lie. -/
inductive Lv5 where
  | a (x : At) (y : Value)
  | t (x : Te)
def Lv5.er : Lv5 → Lf5
  | .a x _ => .a x
  | .t x => .t x
/-- Alternatives without places. -/
def er5 (m : List (List Lv5)) : List (List Lf5) := m.map (List.map Lv5.er)
def atCs (a : At) (y : Value) : List Value := [.int .i64 0, .int .i64 a.by_.k, .int .i64 a.by_.n, .string a.by_.s, .string a.name, y, .int .i64 0, .int .i64 0, .int .i64 0, .string ⟨#[]⟩, .int .i64 0, .int .i64 0, .string ⟨#[]⟩, .slice none 0 0, .int .i64 0]
def teCs (t : Te) : List Value := [.int .i64 1, .int .i64 0, .int .i64 0, .string ⟨#[]⟩, .string ⟨#[]⟩, .slice none 0 0, .int .i64 t.op, .int .i64 t.l.k, .int .i64 t.l.n, .string t.l.s, .int .i64 t.r.k, .int .i64 t.r.n, .string t.r.s, .slice none 0 0, .int .i64 0]
def brCs (v : Value) (n : Nat) : List Value := [.int .i64 2, .int .i64 0, .int .i64 0, .string ⟨#[]⟩, .string ⟨#[]⟩, .slice none 0 0, .int .i64 0, .int .i64 0, .int .i64 0, .string ⟨#[]⟩, .int .i64 0, .int .i64 0, .string ⟨#[]⟩, v, .int .i64 (n : Int)]
/-- A row that lies in blocks of F. -/
def Rw5 (F : Nat → Prop) (w : World) (e : TypeId) (n : Nat) (v : Value) (m : Nat) (xs : List Value) : Prop := w.ownsRow 0 e n v m xs ∧ ∀ g, v.ownBlock = some g → F g
theorem Rw5.fr {F Q : Nat → Prop} {w w' : World} {e : TypeId} {n m : Nat} {v : Value} {xs : List Value} (h : Rw5 F w e n v m xs) (hf : Fr Q w w') (hQ : ∀ b, F b → ¬ Q b) : Rw5 F w' e n v m xs := ⟨row7_fr h.1 hf fun g hg => hQ g (h.2 g hg), h.2⟩
theorem Rw5.mono {F G : Nat → Prop} {w : World} {e : TypeId} {n m : Nat} {v : Value} {xs : List Value} (h : Rw5 F w e n v m xs) (hg : ∀ b, b < w.heap.size → F b → G b) : Rw5 G w e n v m xs := ⟨h.1, fun g hv => hg g (World.ownsRow.lt h.1 g hv).2 (h.2 g hv)⟩
/-- A conjunction in memory. -/
def CjM (F : Nat → Prop) (P : List Value → List (List Lv5) → Prop) (w : World) (v : Value) (n : Nat) (m : List (List Lv5)) : Prop :=
  ∃ xs : List (List Value × List (List Lv5)), (∀ x ∈ xs, P x.1 x.2) ∧ Rw5 F w 172 15 v xs.length (xs.flatMap Prod.fst) ∧ m = cross5 (xs.map Prod.snd) ∧ n = min m.length 65 ∧ m ≠ []
/-- A choice in memory. -/
def AlM (F : Nat → Prop) (P : List Value → List (List Lv5) → Prop) (w : World) (v : Value) (n : Nat) (m : List (List Lv5)) : Prop :=
  ∃ xs : List ((Value × Nat) × List (List Lv5)), (∀ x ∈ xs, CjM F P w x.1.1 x.1.2 x.2) ∧ Rw5 F w 153 2 v xs.length (xs.flatMap fun x => [x.1.1, .int .i64 (x.1.2 : Int)]) ∧ m = (xs.map Prod.snd).flatten ∧ n = min m.length 65 ∧ m ≠ []
/-- A part in memory; the number bounds the brackets. -/
def LiM (F : Nat → Prop) (w : World) : Nat → List Value → List (List Lv5) → Prop
  | 0, _, _ => False
  | f + 1, cs, m => (∃ a y, cs = atCs a y ∧ Rw5 F w 30 3 y a.args.length (tc5 a.args) ∧ m = [[.a a y]]) ∨ (∃ t, cs = teCs t ∧ m = [[.t t]]) ∨ ∃ v n, cs = brCs v n ∧ AlM F (LiM F w f) w v n m
theorem CjM.fr {F Q : Nat → Prop} {P P' : List Value → List (List Lv5) → Prop} {w w' : World} {v : Value} {n : Nat} {m : List (List Lv5)} (h : CjM F P w v n m) (hf : Fr Q w w') (hQ : ∀ b, F b → ¬ Q b) (hP : ∀ cs m, P cs m → P' cs m) : CjM F P' w' v n m := by
  obtain ⟨xs, h1, h2, h3⟩ := h
  exact ⟨xs, fun x hx => hP _ _ (h1 x hx), h2.fr hf hQ, h3⟩
theorem AlM.fr {F Q : Nat → Prop} {P P' : List Value → List (List Lv5) → Prop} {w w' : World} {v : Value} {n : Nat} {m : List (List Lv5)} (h : AlM F P w v n m) (hf : Fr Q w w') (hQ : ∀ b, F b → ¬ Q b) (hP : ∀ cs m, P cs m → P' cs m) : AlM F P' w' v n m := by
  obtain ⟨xs, h1, h2, h3⟩ := h
  exact ⟨xs, fun x hx => (h1 x hx).fr hf hQ hP, h2.fr hf hQ, h3⟩
theorem LiM.fr {F Q : Nat → Prop} {w w' : World} (hf : Fr Q w w') (hQ : ∀ b, F b → ¬ Q b) : ∀ (f : Nat) (cs : List Value) (m : List (List Lv5)), LiM F w f cs m → LiM F w' f cs m
  | 0, _, _, h => h
  | f + 1, cs, m, h => by
    rcases h with ⟨a, y, h1, h2, h3⟩ | h | ⟨v, n, h1, h2⟩
    · exact Or.inl ⟨a, y, h1, h2.fr hf hQ, h3⟩
    · exact Or.inr (Or.inl h)
    · exact Or.inr (Or.inr ⟨v, n, h1, h2.fr hf hQ fun cs m h => LiM.fr hf hQ f cs m h⟩)
theorem CjM.mono {F G : Nat → Prop} {P P' : List Value → List (List Lv5) → Prop} {w : World} {v : Value} {n : Nat} {m : List (List Lv5)} (h : CjM F P w v n m) (hG : ∀ b, b < w.heap.size → F b → G b) (hP : ∀ cs m, P cs m → P' cs m) : CjM G P' w v n m := by
  obtain ⟨xs, h1, h2, h3⟩ := h
  exact ⟨xs, fun x hx => hP _ _ (h1 x hx), h2.mono hG, h3⟩
theorem AlM.mono {F G : Nat → Prop} {P P' : List Value → List (List Lv5) → Prop} {w : World} {v : Value} {n : Nat} {m : List (List Lv5)} (h : AlM F P w v n m) (hG : ∀ b, b < w.heap.size → F b → G b) (hP : ∀ cs m, P cs m → P' cs m) : AlM G P' w v n m := by
  obtain ⟨xs, h1, h2, h3⟩ := h
  exact ⟨xs, fun x hx => (h1 x hx).mono hG hP, h2.mono hG, h3⟩
theorem LiM.mono {F G : Nat → Prop} {w : World} (hG : ∀ b, b < w.heap.size → F b → G b) : ∀ (f : Nat) (cs : List Value) (m : List (List Lv5)), LiM F w f cs m → LiM G w f cs m
  | 0, _, _, h => h
  | f + 1, cs, m, h => by
    rcases h with ⟨a, y, h1, h2, h3⟩ | h | ⟨v, n, h1, h2⟩
    · exact Or.inl ⟨a, y, h1, h2.mono hG, h3⟩
    · exact Or.inr (Or.inl h)
    · exact Or.inr (Or.inr ⟨v, n, h1, h2.mono hG fun cs m h => LiM.mono hG f cs m h⟩)
theorem LiM.ne {F : Nat → Prop} {w : World} : ∀ {f : Nat} {cs : List Value} {m : List (List Lv5)}, LiM F w f cs m → m ≠ []
  | f + 1, cs, m, h => by
    rcases h with ⟨a, y, h1, h2, h3⟩ | ⟨t, h1, h3⟩ | ⟨v, n, h1, xs, h2, h3, h4, h5, h6⟩
    · rw [h3]; simp
    · rw [h3]; simp
    · exact h6
/-- How many ways a part has, as it is told. -/
def lc5 (m : List (List Lv5)) : Nat := min m.length 65
/-- Its cells. -/
theorem LiM.cells {F : Nat → Prop} {w : World} : ∀ {f : Nat} {cs : List Value} {m : List (List Lv5)}, LiM F w f cs m → cs.length = 15 ∧ (∀ u ∈ cs, u.oneCell' = true) ∧ ((cs[0]? = some (.int .i64 2) ∧ cs[14]? = some (.int .i64 (lc5 m : Int))) ∨ (∃ k : Int, cs[0]? = some (.int .i64 k) ∧ k ≠ 2 ∧ lc5 m = 1 ∧ cs[14]? = some (.int .i64 0)))
  | f + 1, cs, m, h => by
    rcases h with ⟨a, y, rfl, h2, rfl⟩ | ⟨t, rfl, rfl⟩ | ⟨v, n, rfl, xs, h2, h3, h4, h5, h6⟩
    · obtain ⟨ya, yc, rfl, -⟩ := row7_form h2.1
      exact ⟨rfl, by simp [atCs, Value.oneCell'], Or.inr ⟨0, rfl, by decide, rfl, rfl⟩⟩
    · exact ⟨rfl, by simp [teCs, Value.oneCell'], Or.inr ⟨1, rfl, by decide, rfl, rfl⟩⟩
    · obtain ⟨ya, yc, rfl, -⟩ := row7_form h3.1
      refine ⟨rfl, by simp [brCs, Value.oneCell'], Or.inl ⟨rfl, ?_⟩⟩
      rw [h5]; rfl
/-- The kinds of its cells. -/
theorem LiM.shape {F : Nat → Prop} {w : World} : ∀ {f : Nat} {cs : List Value} {m : List (List Lv5)}, LiM F w f cs m → ∃ (k bk bn : Int) (bs nm : ByteArray) (ya : Option Addr) (yn yc : Nat) (op lk ln : Int) (ls : ByteArray) (rk rn : Int) (rs : ByteArray) (va : Option Addr) (vn vc : Nat) (N : Int), cs = [.int .i64 k, .int .i64 bk, .int .i64 bn, .string bs, .string nm, .slice ya yn yc, .int .i64 op, .int .i64 lk, .int .i64 ln, .string ls, .int .i64 rk, .int .i64 rn, .string rs, .slice va vn vc, .int .i64 N]
  | f + 1, cs, m, h => by
    rcases h with ⟨a, y, rfl, h2, rfl⟩ | ⟨t, rfl, rfl⟩ | ⟨v, n, rfl, xs, h2, h3, h4, h5, h6⟩
    · obtain ⟨ya, yc, rfl, -⟩ := row7_form h2.1
      exact ⟨_, _, _, _, _, _, _, _, _, _, _, _, _, _, _, _, _, _, _, rfl⟩
    · exact ⟨_, _, _, _, _, _, _, _, _, _, _, _, _, _, _, _, _, _, _, rfl⟩
    · obtain ⟨ya, yc, rfl, -⟩ := row7_form h3.1
      exact ⟨_, _, _, _, _, _, _, _, _, _, _, _, _, _, _, _, _, _, _, rfl⟩
end Go.Proofs.YtnikmcmkbjjcdaaGreatDoor
