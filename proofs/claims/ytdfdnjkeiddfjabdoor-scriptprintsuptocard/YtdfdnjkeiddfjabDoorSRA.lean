import Derived.Test.YtdfdnjkeiddfjabDoorK5
import Derived.Test.YtdfdnjkeiddfjabDoorK9
import Derived.BigQuiet
import Derived.Lib.AtoiAllCases
import Derived.Test.YtdfdnjkeiddfjabDoorSC6
import Derived.Test.YtdfdnjkeiddfjabDoorK13
import Derived.Laws.AppendOwnNone
import Derived.Laws.AppendOwn
import Derived.Test.YtdfdnjkeiddfjabDoorSMX
import Derived.Test.YtdfdnjkeiddfjabDoorSML
import Derived.Test.YtdfdnjkeiddfjabDoorSMQ
import Derived.Test.YtdfdnjkeiddfjabDoorSC7
import Derived.Test.YtdfdnjkeiddfjabDoorSC9
import Derived.Test.YtdfdnjkeiddfjabDoorRA1
/-
  script (stage 25): the program's interface: Lines, Blank (over the mock: proved in SC4, SC7).
-/
namespace Go.Proofs.YtdfdnjkeiddfjabDoor
open Go.RowKit

theorem bdrewS (w : World) (n : Nat) : Below w.heap.size w (w.drewN n) := ⟨rfl, rfl, rfl, Nat.le_refl _, fun _ _ => rfl⟩
theorem bdrew1S (w : World) : Below w.heap.size w w.drew := ⟨rfl, rfl, rfl, Nat.le_refl _, fun _ _ => rfl⟩
end Go.Proofs.YtdfdnjkeiddfjabDoor
/-
  script (stage 25): the document's shown and put, whatever the part; the table's cells.
-/
namespace Go.Proofs.YtdfdnjkeiddfjabDoor
open Go.RowKit
attribute [local go_sem ↓] Go.wp_at_zero Go.wp_at_succ

theorem rc_at {i : Nat} (h : i < 24) : (rwS.flatMap RwS.c).toArray[i * 3]? = some (.string (rwS.getD i zrS).x) ∧ (rwS.flatMap RwS.c).toArray[i * 3 + 1]? = some (.int .i64 ((i : Int) + 1)) ∧ (rwS.flatMap RwS.c).toArray[i * 3 + 2]? = some (.string (rwS.getD i zrS).p) := by
  have key : ∀ (l : List RwS) (i : Nat), i < l.length → (l.flatMap RwS.c)[i * 3]? = some (.string (l.getD i zrS).x) ∧ (l.flatMap RwS.c)[i * 3 + 1]? = some (.int .i64 (l.getD i zrS).k) ∧ (l.flatMap RwS.c)[i * 3 + 2]? = some (.string (l.getD i zrS).p) := by
    intro l
    induction l with
    | nil => intro i hi; simp at hi
    | cons r l ih =>
      intro i hi
      cases i with
      | zero => exact ⟨rfl, rfl, rfl⟩
      | succ i =>
        have := ih i (by simpa using hi)
        rw [show (i + 1) * 3 = i * 3 + 1 + 1 + 1 by omega]
        exact this
  have h2 := key rwS i h
  rw [rw_k h] at h2
  simpa using h2
theorem shownP_any {d : SdO} {b : ByteArray} (a : Option Addr) (c : Nat) (ho : OkS d b) {p : Int} (hp : ltS p) (w : World) (hE : EnvOk w) (hb : LbW (fun _ => True) w (.slice a b.size c) (blK b)) : Calls Tryd.prog 19 #[d.v a b.size c, .int .u8 p] w fun e w' => e = .returned (.string (shS d b p)) ∧ Below w.heap.size w w' := by
  rcases hp with rfl | rfl | rfl | rfl | rfl | rfl | rfl
  · exact shownS_119 d a b.size c w ho.who
  · exact shownS_111 d a b.size c w ho.too
  · exact shownS_116 d a b.size c w ho.tx
  · exact shownS_98 d a c b w hb ho.b
  · exact shownS_110 d a b.size c w ho.n.1 ho.n.2 hE
  · exact shownS_109 d a b.size c w ho.m.1 ho.m.2 hE
  · exact shownS_107 d a b.size c w ho.q.1 ho.q.2 hE
end Go.Proofs.YtdfdnjkeiddfjabDoor
