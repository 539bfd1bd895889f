import Derived.Test.YtechceagghcipaaGreatDoorD2
namespace Go.Proofs.YtechceagghcipaaGreatDoor
open Go.RowKit

def nd (l : List Bd) : Prop := l.Pairwise fun a b => ¬ a.x = b.x
theorem hasX_look (l : List Bd) (x : Int) : hasX l x = (look l x).isSome := by
 induction l with
 | nil => rfl
 | cons d l ih =>
  simp only [hasX, List.any_cons] at ih ⊢
  rw [look]
  by_cases h : d.x = x
  ·simp [h]
  ·rw [if_neg h, <- ih]; simp [h]
theorem look_append (l r : List Bd) (x : Int) : look (l ++ r) x = (look l x).or (look r x) := by
 induction l with
 | nil => simp [look]
 | cons e l ih =>
  rw [List.cons_append, look, look]
  by_cases he : e.x = x
  ·rw [if_pos he, if_pos he]; rfl
  ·rw [if_neg he, if_neg he, ih]
theorem look_one (d : Bd) (x : Int) : look [d] x = if d.x = x then some d.to else none := rfl
theorem fbS_look (l : List Bd) (d : Bd) (x : Int) : look (fbS l d) x = (look l x).or (look [d] x) := by
 unfold fbS
 split
 ·rename_i hh
  rw [hasX_look] at hh
  rw [look_one]
  by_cases he : d.x = x
  ·rw [<- he]
   obtain ⟨t, ht⟩ := Option.isSome_iff_exists.1 hh
   rw [ht]; rfl
  ·rw [if_neg he]; simp
 ·rw [look_append]
theorem foldl_look (s : List Bd) (x : Int) : ∀ l, look (s.foldl fbS l) x = (look l x).or (look s x) := by
 induction s with
 | nil => intro l; simp [look]
 | cons d s ih =>
  intro l
  rw [List.foldl_cons, ih, fbS_look, Option.or_assoc, <- look_append]
  rfl
theorem fb_look (s : List Bd) (x : Int) : look (fb s) x = look s x := by
 rw [fb, foldl_look]; simp [look]
theorem mem_look {l : List Bd} {x : Int} {q : Tm} (h : look l x = some q) : ⟨x, q⟩ ∈ l := by
 induction l with
 | nil => cases h
 | cons e l ih =>
  rw [look] at h
  by_cases he : e.x = x
  ·rw [if_pos he] at h
   obtain ⟨ex, et⟩ := e
   simp only [Option.some.injEq] at h he
   subst h he
   exact List.mem_cons_self
  ·rw [if_neg he] at h; exact List.mem_cons_of_mem _ (ih h)
theorem mGo_keep : ∀ (r : List (Tm × Tm)) (o out : List Bd) (x : Int) (q : Tm), look o x = some q -> mGo o r = some out -> look out x = some q := by
 intro r
 induction r with
 | nil => intro o out x q h e; simp [mGo] at e; subst e; exact h
 | cons y r ih =>
  intro o out x q h e
  simp only [mGo] at e
  split at e
  ·split at e
   ·split at e
    ·exact ih _ _ _ _ h e
    ·cases e
   ·exact ih _ _ _ _ (by rw [look_append, h]; rfl) e
  ·exact ih _ _ _ _ h e
theorem mGo_makes : ∀ (r : List (Tm × Tm)) (o out : List Bd), mGo o r = some out -> ∀ y ∈ r, y.1.var = true -> look out y.1.n = some y.2 := by
 intro r
 induction r with
 | nil => intro o out e y hy; cases hy
 | cons z r ih =>
  intro o out e y hy hv
  simp only [mGo] at e
  rcases List.mem_cons.1 hy with rfl | hy
  ·rw [if_pos hv] at e
   split at e
   ·rename_i q hq
    split at e
    ·rename_i h2; rw [<- h2]; exact mGo_keep _ _ _ _ _ hq e
    ·cases e
   ·rename_i hn
    exact mGo_keep _ _ _ _ _ (by rw [look_append, hn, look_one]; simp) e
  ·split at e
   ·split at e
    ·split at e
     ·exact ih _ _ e y hy hv
     ·cases e
    ·exact ih _ _ e y hy hv
   ·exact ih _ _ e y hy hv
theorem map_become (out : List Bd) : ∀ (p a : List Tm), p.length = a.length -> fixOk p a = true -> (∀ y ∈ p.zip a, y.1.var = true -> look out y.1.n = some y.2) -> p.map (become out) = a := by
 intro p
 induction p with
 | nil => intro a hl _ _; cases a with
  | nil => rfl
  | cons _ _ => cases hl
 | cons t p ih =>
  intro a hl hf hy
  cases a with
  | nil => cases hl
  | cons u a =>
   simp only [fixOk, List.zip_cons_cons, List.all_cons, Bool.and_eq_true] at hf
   rw [List.map_cons, ih a (by simpa using hl) hf.2 (fun y h => hy y (by rw [List.zip_cons_cons]; exact List.mem_cons_of_mem _ h))]
   congr 1
   unfold become
   cases hv : t.var with
   | true =>
    have := hy (t, u) (by rw [List.zip_cons_cons]; exact List.mem_cons_self) hv
    simp only at this
    rw [if_pos rfl, this]; rfl
   | false =>
    have := hf.1
    simp only [hv, Bool.false_or, decide_eq_true_eq] at this
    simpa using this
end Go.Proofs.YtechceagghcipaaGreatDoor
