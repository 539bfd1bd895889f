import Derived.Test.YtechceagghcipaaGreatDoorRA41
import Derived.RangeFuncCalls
import Derived.Shelf.Abstract
import Derived.Shelf.RegionOpen
import Derived.WalkKit
import Derived.OwnWalkIn
import Derived.TacticsInMore
import Derived.LoopNIn
import Derived.LoopIn
import Derived.Test.YtechceagghcipaaGreatDoorRA21
namespace Go.Proofs.YtechceagghcipaaGreatDoor
open Go.RowKit Go.Shelf

def bad7 (wd : Nat) (cols keys : List Int) : Prop := cols.length ≠ keys.length ∨ (∃ c ∈ cols, col7 wd c = false) ∨ ∃ l, unq7 (cols.zip keys) l /\ ∃ j p q, l[j]? = some p /\ l[j + 1]? = some q /\ p.1 = q.1
def FI (w : World) (g : Nat) (parts : Int) (wd : Nat) (cols keys : List Int) (e : Ending) (w' : World) : Prop :=
 Below w.heap.size w w' /\ ∃ b1 b2 b3 b4 b5, e = .returned (fnd7 b1 b2 b3 b4 b5) /\ (w.heap.size <= b1 /\ w.heap.size <= b2 /\ w.heap.size <= b3 /\ w.heap.size <= b4 /\ w.heap.size <= b5) ∧
  ((Bk w' b1 #[.bool false] 4 /\ bad7 wd cols keys) ∨ ∃ sv nv l, FB w' g parts sv nv b1 b2 b3 b4 b5 /\ cols.length = keys.length /\ (∀ c ∈ cols, col7 wd c = true) /\ unq7 (cols.zip keys) l /\ (∀ j p q, l[j]? = some p -> l[j + 1]? = some q -> p.1 ≠ q.1) /\ OwI w' w.heap.size sv (l.map Prod.fst) /\ OwI w' w.heap.size nv (l.map Prod.snd))
theorem SE.form {w w' : World} {wd : Nat} {cols keys : List Int} {e : Ending} (h : SE w wd cols keys e w') : ∃ a1 n1 c1 a2 n2 c2 ok, e = .returned (.tuple #[.slice a1 n1 c1, .slice a2 n2 c2, .bool ok]) /\ Below w.heap.size w w' /\ (ok = false -> bad7 wd cols keys) /\ (ok = true -> cols.length = keys.length /\ (∀ c ∈ cols, col7 wd c = true) /\ ∃ l, unq7 (cols.zip keys) l /\ (∀ j p q, l[j]? = some p -> l[j + 1]? = some q -> p.1 ≠ q.1) /\ OwI w' w.heap.size (.slice a1 n1 c1) (l.map Prod.fst) /\ OwI w' w.heap.size (.slice a2 n2 c2) (l.map Prod.snd)) := by
 obtain ⟨hb, ⟨rfl, h⟩ | ⟨sv, nv, rfl, h1, h2, l, h3, h4, h5, h6⟩⟩ := h
 ·exact ⟨none, 0, 0, none, 0, 0, false, rfl, hb, fun _ => h, (fun e => by cases e)⟩
 ·obtain ⟨a1, c1, rfl, -⟩ := row7_form h5
  obtain ⟨a2, c2, rfl, -⟩ := row7_form h6
  exact ⟨a1, _, c1, a2, _, c2, true, rfl, hb, (fun e => by cases e), fun _ => ⟨h1, h2, l, h3, h4, h5, h6⟩⟩
attribute [local go_sem ↓] Go.wp_at_zero Go.wp_at_succ
set_option maxRecDepth 20000 in
set_option maxHeartbeats 1000000 in
theorem find8_any (g : Nat) (F S G N : Nat -> Prop) (m : Nat) (s : St7) (parts : Int) (cols keys : List Int) (cv kv : Value) (w : World) (h : RM w g F S m s) (hc : Li G w cv cols) (hk : Li N w kv keys) (hl : cols.length <= 1000000000) :
  Calls Tryz.prog 61 #[.pointer (some ⟨g, 0, none⟩), .int .i64 parts, cv, kv] w (FI w g parts s.wd cols keys) := by
 obtain ⟨W2, hW2⟩ : ∃ W2, (w.alloc (.cells #[.pointer (some ⟨g, 0, none⟩)] 73)).alloc (.cells #[.int .i64 parts] 3) = W2 := ⟨_, rfl⟩
 have hz : W2.heap.size = w.heap.size + 2 := by rw [<- hW2]; simp
 have hbw : Below w.heap.size w W2 := by rw [<- hW2]; exact below2 _ _ _
 have k1 : Bk W2 w.heap.size #[.pointer (some ⟨g, 0, none⟩)] 73 := by rw [<- hW2]; exact (Bk.new _ _ _).below (below1 _ _)
 have k2 : Bk W2 (w.heap.size + 1) #[.int .i64 parts] 3 := by
  have := Bk.new (w.alloc (.cells #[.pointer (some ⟨g, 0, none⟩)] 73)) #[.int .i64 parts] 3
  rw [World.size_alloc, hW2] at this
  exact this
 have c1 := k1.cell (i := 0) rfl
 have HS := hm7 (settle7_any g F S G N m s cols keys cv kv W2 (h.below hbw) (hc.below hbw) (hk.below hbw) hl)
 obtain ⟨ca, cn, cc, rfl⟩ : ∃ a n c, cv = .slice a n c := by obtain ⟨a, c, e, -⟩ := hc; exact ⟨_, _, _, e⟩
 obtain ⟨ka, kn, kc, rfl⟩ : ∃ a n c, kv = .slice a n c := by obtain ⟨a, c, e, -⟩ := hk; exact ⟨_, _, _, e⟩
 have HKK := hm7 (And.intro k1 (And.intro k2 hbw))
 clear h hc hk k1 k2 hbw
 go_enter Tryz.func61, Tryz.ntmps61
 go_upto_region 1 with fail
 clear hW2
 go_wp2_with (go_at_call 90; refine HS.out.mono ?_; rintro e w1 hse; obtain ⟨a1, n1, c1, a2, n2, c2, ok, rfl, hb, hbad, hgood⟩ := hse.form; have HB := hm7 hb; have HBAD := hm7 hbad; have HGOOD := hm7 hgood; clear hb hbad hgood hse)
 have hs1 := HB.out.size
 obtain ⟨x2, hx2⟩ : ∃ x, w1.alloc (.cells #[.slice a1 n1 c1] 71) = x := ⟨_, rfl⟩
 obtain ⟨x3, hx3⟩ : ∃ x, x2.alloc (.cells #[.slice a2 n2 c2] 71) = x := ⟨_, rfl⟩
 obtain ⟨x4, hx4⟩ : ∃ x, x3.alloc (.cells #[.bool ok] 4) = x := ⟨_, rfl⟩
 have b2 : Below w1.heap.size w1 x2 := by rw [<- hx2]; exact below1 _ _
 have b3 : Below x2.heap.size x2 x3 := by rw [<- hx3]; exact below1 _ _
 have b4 : Below x3.heap.size x3 x4 := by rw [<- hx4]; exact below1 _ _
 have z2 : x2.heap.size = w1.heap.size + 1 := by rw [<- hx2]; simp
 have z3 : x3.heap.size = x2.heap.size + 1 := by rw [<- hx3]; simp
 have e2 : Bk x2 w1.heap.size #[.slice a1 n1 c1] 71 := by rw [<- hx2]; exact Bk.new _ _ _
 have e3 : Bk x3 x2.heap.size #[.slice a2 n2 c2] 71 := by rw [<- hx3]; exact Bk.new _ _ _
 have e4 : Bk x4 x3.heap.size #[.bool ok] 4 := by rw [<- hx4]; exact Bk.new _ _ _
 have b14 : Below w1.heap.size w1 x4 := b2.trans ((b3.mono (by omega)).trans (b4.mono (by omega)))
 have hbw := HKK.out.2.2
 have HFB : ok = true -> FB x4 g parts (.slice a1 n1 c1) (.slice a2 n2 c2) (w1.heap.size + 1 + 1) w.heap.size (w.heap.size + 1) w1.heap.size (w1.heap.size + 1) := fun hok => by
  refine ⟨?_, (HKK.out.1.below HB.out).below b14, (HKK.out.2.1.below HB.out).below b14, (e2.below b3).below b4, ?_⟩
  ·rw [<- z2, <- z3, <- hok]; exact e4
  ·rw [<- z2]; exact e3.below b4
 rw [hx2, hx3, hx4]
 go_ret
 refine ⟨hbw.trans ((HB.out.mono (by omega)).trans (b14.mono (by omega))), w1.heap.size + 1 + 1, w.heap.size, w.heap.size + 1, w1.heap.size, w1.heap.size + 1, rfl, by omega, ?_⟩
 cases ok with
 | false => exact Or.inl ⟨by rw [<- z2, <- z3]; exact e4, HBAD.out rfl⟩
 | true =>
  obtain ⟨h1, h2, l, h3, h4, h5, h6⟩ := HGOOD.out rfl
  exact Or.inr ⟨_, _, l, HFB rfl, h1, h2, h3, h4, (OwI.mono (row7_below h5 b14) (by omega)), (OwI.mono (row7_below h6 b14) (by omega))⟩
end Go.Proofs.YtechceagghcipaaGreatDoor
