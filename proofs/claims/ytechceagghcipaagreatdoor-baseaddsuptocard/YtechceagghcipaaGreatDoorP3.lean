import Derived.Test.YtechceagghcipaaGreatDoorP2
namespace Go.Proofs.YtechceagghcipaaGreatDoor
open Go.RowKit

def rS (all : List Bd) (y : Tm × Tm) : List Bd := if (y.1.var && (look all y.1.n).isNone) = true then all ++ [⟨y.1.n, y.2⟩] else all
def rGo (all : List Bd) (r : List (Tm × Tm)) : List Bd := r.foldl rS all
theorem rS_not {all : List Bd} {y : Tm × Tm} (h : y.1.var = false) : rS all y = all := by unfold rS; rw [h]; rfl
theorem rS_old {all : List Bd} {y : Tm × Tm} {q : Tm} (h : look all y.1.n = some q) : rS all y = all := by unfold rS; rw [h]; simp
theorem rS_new {all : List Bd} {y : Tm × Tm} (hv : y.1.var = true) (h : look all y.1.n = none) : rS all y = all ++ [⟨y.1.n, y.2⟩] := by unfold rS; rw [hv, h]; rfl
theorem rS_keep {all : List Bd} {y : Tm × Tm} {x : Int} {q : Tm} (h : look all x = some q) : look (rS all y) x = some q := by
 unfold rS
 split
 ·rw [look_append, h]; rfl
 ·exact h
theorem rGo_keep : ∀ (r : List (Tm × Tm)) (all : List Bd) (x : Int) (q : Tm), look all x = some q -> look (rGo all r) x = some q := by
 intro r
 induction r with
 | nil => intro all x q h; exact h
 | cons y r ih => intro all x q h; exact ih _ _ _ (rS_keep h)
theorem rGo_has : ∀ (r : List (Tm × Tm)) (all : List Bd) (y : Tm × Tm), y ∈ r -> y.1.var = true -> ∃ q, look (rGo all r) y.1.n = some q := by
 intro r
 induction r with
 | nil => intro all y h; cases h
 | cons z r ih =>
  intro all y h hv
  rcases List.mem_cons.1 h with rfl | h
  ·cases e : look all y.1.n with
   | some q => exact ⟨q, rGo_keep (y :: r) all _ q e⟩
   | none =>
    refine ⟨y.2, rGo_keep r (rS all y) _ _ ?_⟩
    rw [rS_new hv e, look_append, e, look_one, if_pos rfl]; rfl
  ·exact ih _ _ h hv
theorem look_snoc {o all : List Bd} (h : ∀ x, look o x = look all x) (d : Bd) : ∀ x, look (o ++ [d]) x = look (all ++ [d]) x := fun x => by
 rw [look_append, look_append, h]
theorem mGo_rGo : ∀ (r : List (Tm × Tm)) (o all : List Bd), (∀ x, look o x = look all x) →
  (∀ out, mGo o r = some out -> ∀ x, look out x = look (rGo all r) x) /\ (mGo o r = none -> ∃ y ∈ r, y.1.var = true /\ look (rGo all r) y.1.n ≠ some y.2) := by
 intro r
 induction r with
 | nil => intro o all h; exact ⟨fun out e => by simp [mGo] at e; subst e; exact h, fun e => by simp [mGo] at e⟩
 | cons y r ih =>
  intro o all h
  have hr : rGo all (y :: r) = rGo (rS all y) r := rfl
  rw [mGo, hr]
  cases hv : y.1.var with
  | false =>
   rw [rS_not hv]
   obtain ⟨h1, h2⟩ := ih o all h
   simp only [Bool.false_eq_true, if_false]
   exact ⟨h1, fun e => by obtain ⟨z, hz, hh⟩ := h2 e; exact ⟨z, List.mem_cons_of_mem _ hz, hh⟩⟩
  | true =>
   simp only [if_true]
   cases e : look o y.1.n with
   | some q =>
    have ha : look all y.1.n = some q := by rw [<- h]; exact e
    rw [rS_old ha]
    simp only
    by_cases hq : q = y.2
    ·rw [if_pos hq]
     obtain ⟨h1, h2⟩ := ih o all h
     exact ⟨h1, fun e => by obtain ⟨z, hz, hh⟩ := h2 e; exact ⟨z, List.mem_cons_of_mem _ hz, hh⟩⟩
    ·rw [if_neg hq]
     refine ⟨fun out e => (by cases e), fun _ => ⟨y, List.mem_cons_self, hv, ?_⟩⟩
     rw [rGo_keep r all _ q ha]
     exact fun hh => hq (Option.some.inj hh)
   | none =>
    have ha : look all y.1.n = none := by rw [<- h]; exact e
    rw [rS_new hv ha]
    simp only
    obtain ⟨h1, h2⟩ := ih (o ++ [⟨y.1.n, y.2⟩]) (all ++ [⟨y.1.n, y.2⟩]) (look_snoc h _)
    exact ⟨h1, fun e => by obtain ⟨z, hz, hh⟩ := h2 e; exact ⟨z, List.mem_cons_of_mem _ hz, hh⟩⟩
def rOk (p a : At) : Bool := shB p a && !(p.by_.var && decide (a.by_.k = 0))
def rAll (p a : At) (s : List Bd) : List Bd := rGo s (p.pl.zip a.pl)
theorem fix_of_map (all : List Bd) : ∀ (p a : List Tm), p.map (become all) = a -> fixOk p a = true := by
 intro p a h
 subst h
 exact fix_made all p
theorem zip_of_map (all : List Bd) : ∀ (p a : List Tm), p.map (become all) = a -> ∀ y ∈ p.zip a, y.2 = become all y.1 := by
 intro p
 induction p with
 | nil => intro a h y hy; cases hy
 | cons t p ih =>
  intro a h y hy
  subst h
  rw [List.map_cons, List.zip_cons_cons] at hy
  rcases List.mem_cons.1 hy with rfl | hy
  ·rfl
  ·exact ih _ rfl y hy
theorem made_iff (p a : At) (all : List Bd) (hn : p.name = a.name) : p.made all = a ↔ p.pl.map (become all) = a.pl := by
 obtain ⟨b, n, l⟩ := a
 obtain ⟨b', n', l'⟩ := p
 simp only at hn
 simp only [At.made, At.pl, List.map_cons, List.cons.injEq, At.mk.injEq]
 exact ⟨fun h => ⟨h.1, h.2.2⟩, fun h => ⟨h.1, hn, h.2⟩⟩
theorem match_same (p a : At) (s : List Bd) :
  (mRes p a s = none /\ (rOk p a = false ∨ ¬ p.made (rAll p a s) = a)) ∨ (∃ out, mRes p a s = some out /\ rOk p a = true /\ p.made (rAll p a s) = a /\ ∀ x, look out x = look (rAll p a s) x) := by
 cases hr : rOk p a with
 | false =>
  refine Or.inl ⟨?_, Or.inl rfl⟩
  unfold mRes
  rw [if_neg]
  intro h
  unfold rOk at hr
  simp only [mOk, Bool.and_eq_true] at h
  rw [h.1.1, h.2] at hr; cases hr
 | true =>
  have hsh : shB p a = true /\ (!(p.by_.var && decide (a.by_.k = 0))) = true := by simpa [rOk] using hr
  have hn : p.name = a.name := by
   have := hsh.1; simp only [shB, Bool.and_eq_true, beq_iff_eq] at this; exact toList_inj this.1
  have hl : p.pl.length = a.pl.length := by
   have := hsh.1; simp only [shB, Bool.and_eq_true, beq_iff_eq] at this; simp [At.pl, this.2]
  cases hf : fixOk p.pl a.pl with
  | false =>
   refine Or.inl ⟨?_, Or.inr fun h => ?_⟩
   ·unfold mRes; rw [if_neg]; intro h; simp only [mOk, Bool.and_eq_true] at h; rw [hf] at h; cases h.1.2
   ·rw [fix_of_map _ _ _ ((made_iff p a _ hn).1 h)] at hf; cases hf
  | true =>
   have hm : mOk p a = true := by unfold mOk; rw [hsh.1, hf, hsh.2]; rfl
   obtain ⟨h1, h2⟩ := mGo_rGo (p.pl.zip a.pl) (fb s) s (fun x => fb_look s x)
   have he : mRes p a s = mGo (fb s) (p.pl.zip a.pl) := by unfold mRes; rw [if_pos hm]
   rw [he]
   cases hg : mGo (fb s) (p.pl.zip a.pl) with
   | none =>
    refine Or.inl ⟨rfl, Or.inr fun h => ?_⟩
    obtain ⟨y, hy, hv, hne⟩ := h2 hg
    obtain ⟨q, hq⟩ := rGo_has _ s y hy hv
    have := zip_of_map _ _ _ ((made_iff p a _ hn).1 h) y hy
    refine hne ?_
    rw [hq, this]
    unfold become rAll
    rw [if_pos hv, hq]; rfl
   | some out =>
    refine Or.inr ⟨out, rfl, rfl, (made_iff p a _ hn).2 ?_, h1 out hg⟩
    refine map_become _ _ _ hl hf (fun y hy hv => ?_)
    rw [rAll, <- h1 out hg]
    exact mGo_makes _ _ _ hg y hy hv
def up (l : List Bd) : Prop := l.Pairwise fun a b => a.x < b.x
end Go.Proofs.YtechceagghcipaaGreatDoor
