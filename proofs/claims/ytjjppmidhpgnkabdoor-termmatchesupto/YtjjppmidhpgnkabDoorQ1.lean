/-
  hearsaylaw02.TermMakes, for every two atoms and every binding that are not too long.
-/
import Derived.Test.YtjjppmidhpgnkabDoorBK
import Derived.Test.YtjjppmidhpgnkabDoorS2
import Derived.Test.YtjjppmidhpgnkabDoorV2
import Derived.Test.YtjjppmidhpgnkabDoorP2
import Derived.Test.YtjjppmidhpgnkabDoorA1
import Derived.Test.YtjjppmidhpgnkabDoorO2
import Derived.Test.YtjjppmidhpgnkabDoorB9
import Derived.Deep.CutBlock
namespace Go.Proofs.YtjjppmidhpgnkabDoor
open Go.RowKit
attribute [local go_sem ↓] Go.wp_at_zero Go.wp_at_succ

/-- What Match answered: m and b. -/
def MI (W : World) (base : Nat) (p a : At) (s : List Bd) (m : Value) (b : Bool) : Prop :=
  (b = false ∧ m = .slice none 0 0 ∧ mRes p a s = none) ∨ (b = true ∧ ∃ out out', mRes p a s = some out ∧ out'.Perm out ∧ srt out' ∧ Own W base m out')
theorem MI.later {W W' : World} {base : Nat} {p a : At} {s : List Bd} {m : Value} {b : Bool} (h : MI W base p a s m b) (hb : Below W.heap.size W W') : MI W' base p a s m b := by
  rcases h with h | ⟨h0, out, out', h1, h2, h3, h4⟩
  · exact Or.inl h
  · exact Or.inr ⟨h0, out, out', h1, h2, h3, h4.later hb⟩
theorem mi_of {w w' : World} {p a : At} {s : List Bd} {e : Ending} (h : MPost w (mRes p a s) e w') : ∃ m b, e = .returned (.tuple #[m, .bool b]) ∧ MI w' w.heap.size p a s m b ∧ Below w.heap.size w w' := by
  obtain ⟨hb, h⟩ := h
  cases hr : mRes p a s with
  | none => rw [hr] at h; exact ⟨_, _, h, Or.inl ⟨rfl, rfl, hr⟩, hb⟩
  | some out =>
    rw [hr] at h
    obtain ⟨v', out', he, ho, hp, hs⟩ := h
    exact ⟨_, _, he, Or.inr ⟨rfl, out, out', hr, hp, hs, ho⟩, hb⟩
theorem match_mi (p a : At) (s : List Bd) (x y v : Value) (w : World) (hx : Ts w x p.args) (hy : Ts w y a.args) (hv : Bs w v s) (hlen : s.length + p.args.length + 1 ≤ 1000000000000) :
    Calls Tryd.prog 10 #[p.v x, a.v y, v] w fun e w' => ∃ m b, e = .returned (.tuple #[m, .bool b]) ∧ MI w' w.heap.size p a s m b ∧ Below w.heap.size w w' :=
  (match_all p a s x y v w hx hy hv hlen).mono fun _ _ h => mi_of h
theorem made_of {p a : At} {s out out' : List Bd} (h : mRes p a s = some out) (hp : out'.Perm out) : p.made out' = a := by
  obtain ⟨h1, h2, -⟩ := mRes_makes p a s out out' h hp
  obtain ⟨b, n, l⟩ := a
  obtain ⟨b', n', l'⟩ := p
  simp only [At.pl, List.map_cons, List.cons.injEq] at h1
  simp only at h2
  simp only [At.made, h1.1, h1.2, h2]
theorem says_of {p a : At} {s out out' : List Bd} (h : mRes p a s = some out) (hp : out'.Perm out) (d : Bd) (hd : d ∈ s) : sayT out' d.x = sayT s d.x := by
  unfold sayT; rw [mRes_says p a s out out' h hp d hd]
theorem mi_len {p a : At} {s out out' : List Bd} (h : mRes p a s = some out) (hp : out'.Perm out) (hlen : s.length + p.args.length + 1 ≤ 1000000000000) : out'.length < 1000000000000000000 := by
  have := mRes_len p a s out h
  rw [hp.length_eq]; omega
theorem mi_found {W : World} {base : Nat} {p a : At} {s0 out : List Bd} {m : Value} {b : Bool} (h : MI W base p a s0 m b) (ho : mRes p a s0 = some out) (hn : nd out) :
    b = true ∧ ∃ out', Own W base m out' ∧ out'.length = out.length ∧ ∀ x, sayT out' x = sayT out x := by
  rcases h with ⟨-, -, h⟩ | ⟨hb, o1, out', h1, h2, -, h4⟩
  · rw [ho] at h; cases h
  · rw [ho] at h1
    cases h1
    exact ⟨hb, out', h4, h2.length_eq, fun x => by unfold sayT; rw [look_perm hn h2]⟩
theorem mi_none {W : World} {base : Nat} {p a : At} {s0 : List Bd} {m : Value} {b : Bool} (h : MI W base p a s0 m b) (ho : mRes p a s0 = none) : b = false := by
  rcases h with ⟨h, -⟩ | ⟨-, o1, out', h1, -⟩
  · exact h
  · rw [ho] at h1; cases h1
theorem found_one (s : List Bd) (p : At) (h : ¬ (p.by_.var = true ∧ (p.made s).by_.k = 0)) : ∃ out, mRes p (p.made s) [] = some out ∧ nd out ∧ out.length = (vs p.pl).length ∧ ∀ x ∈ vs p.pl, sayT out x = sayT s x := by
  obtain ⟨out, h1, h2, h3, h4⟩ := made_found s [] p h (under_nil s)
  refine ⟨out, h1, h2, ?_, h4⟩
  have := congrArg List.length h3
  simpa [fb, vs] using this
theorem found_two (s : List Bd) (p : At) (h : ¬ (p.by_.var = true ∧ (p.made s).by_.k = 0)) : ∃ out, mRes p (p.made s) s = some out ∧ nd out ∧ ∀ x ∈ vs p.pl, sayT out x = sayT s x := by
  obtain ⟨out, h1, h2, -, h4⟩ := made_found s s p h (under_fb s)
  exact ⟨out, h1, h2, h4⟩
theorem bs_nil (w : World) : Bs w (.slice none 0 0) [] := ⟨none, 0, rfl, by simp, Or.inl rfl⟩

end Go.Proofs.YtjjppmidhpgnkabDoor
