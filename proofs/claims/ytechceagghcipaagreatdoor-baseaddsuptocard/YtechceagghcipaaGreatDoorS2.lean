import Derived.Test.YtechceagghcipaaGreatDoorS1
import Derived.Test.YtechceagghcipaaGreatDoorB8
namespace Go.Proofs.YtechceagghcipaaGreatDoor
open Go.RowKit

theorem sortFunc_list (g cap base : Nat) (l : List Bd) (w : World) (h : Own w base (.slice (some ⟨g, 0, none⟩) l.length cap) l) (hsz : l.length < 4611686018427387904) :
  Calls Tryz.prog 119 #[.slice (some ⟨g, 0, none⟩) l.length cap, .func (.func 120) #[] #[]] w fun e w' => e = .returned (.tuple #[]) /\ ∃ l', Own w' base (.slice (some ⟨g, 0, none⟩) l.length cap) l' /\ l'.Perm l /\ srt l' /\ RowKit.Below base w w' :=
 sortFunc_all g cap base l.toArray w h hsz
theorem sort_all (N : Nat) (hN : N <= 4000000000000) : SortOK N := by
 intro w base v l ho hl
 by_cases h1 : l.length <= 1
 ·exact sort_one w base v l ho h1
 ·obtain ⟨g, cap, rfl, -, -⟩ := own_form ho (by omega)
  have HS : Hid (Calls Tryz.prog 119 #[.slice (some ⟨g, 0, none⟩) l.length cap, .func (.func 120) #[] #[]] w fun e w' => e = .returned (.tuple #[]) /\ ∃ l', Own w' base (.slice (some ⟨g, 0, none⟩) l.length cap) l' /\ l'.Perm l /\ srt l' /\ RowKit.Below base w w') := sortFunc_list g cap base l w ho (by omega)
  clear ho h1
  go_enter Tryz.func88, Tryz.ntmps88
  go_wp2_with (go_at_call 119; refine HS.out.mono ?_; rintro e w1 ⟨rfl, l', h1, h2, h3, h4⟩)
  go_end0
  exact ⟨rfl, l', h1, h2, h3, h4⟩
theorem mGo_len : ∀ (r : List (Tm × Tm)) (o out : List Bd), mGo o r = some out -> out.length <= o.length + r.length := by
 intro r
 induction r with
 | nil => intro o out h; simp [mGo] at h; subst h; simp
 | cons x r ih =>
  intro o out h
  simp only [mGo] at h
  split at h
  ·split at h
   ·split at h
    ·have := ih _ _ h; simp only [List.length_cons]; omega
    ·cases h
   ·have := ih _ _ h; simp only [List.length_cons, List.length_append, List.length_nil] at this ⊢; omega
  ·have := ih _ _ h; simp only [List.length_cons]; omega
theorem mRes_len (p a : At) (s out : List Bd) (h : mRes p a s = some out) : out.length <= s.length + p.args.length + 1 := by
 unfold mRes at h
 split at h
 ·have h1 := mGo_len _ _ _ h
  have h2 := fb_len s
  have h3 : (p.pl.zip a.pl).length <= p.args.length + 1 := by simp only [List.length_zip, At.pl, List.length_cons]; omega
  omega
 ·cases h
theorem match_all (p a : At) (s : List Bd) (x y v : Value) (w : World) (hx : Ts w x p.args) (hy : Ts w y a.args) (hv : Bs w v s) (hlen : s.length + p.args.length + 1 <= 1000000000000) :
  Calls Tryz.prog 54 #[p.v x, a.v y, v] w (MPost w (mRes p a s)) :=
 match_any 1000000000000 (Nat.le_refl _) p a s x y v w hx hy hv hlen fun out ho => sort_all _ (by have := mRes_len p a s out ho; omega)
end Go.Proofs.YtechceagghcipaaGreatDoor
