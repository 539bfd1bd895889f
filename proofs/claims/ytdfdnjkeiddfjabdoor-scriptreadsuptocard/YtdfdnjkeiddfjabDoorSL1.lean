import Derived.Test.YtdfdnjkeiddfjabDoorSC6
import Derived.Test.YtdfdnjkeiddfjabDoorSMX
import Derived.Test.YtdfdnjkeiddfjabDoorSML
import Derived.Test.YtdfdnjkeiddfjabDoorSMQ
import Derived.Test.YtdfdnjkeiddfjabDoorSX3
import Derived.Test.YtdfdnjkeiddfjabDoorSC9
import Derived.Test.YtdfdnjkeiddfjabDoorRA1
/-
  script (stage 25): the program's interface: Lines, Blank (over the mock: proved in SC4, SC7).
-/
namespace Go.Proofs.YtdfdnjkeiddfjabDoor
open Go.RowKit

theorem aSBlankE_any (s : ByteArray) (hs : s.size ≤ 9000000) (w : World) (hE : EnS w) : Calls Tryd.prog 12 #[.string s] w fun e w' => e = .returned (.bool (blS s)) ∧ Below w.heap.size w w' := aSBlank_any s hs w hE.env
theorem bdrewS (w : World) (n : Nat) : Below w.heap.size w (w.drewN n) := ⟨rfl, rfl, rfl, Nat.le_refl _, fun _ _ => rfl⟩
theorem bdrew1S (w : World) : Below w.heap.size w w.drew := ⟨rfl, rfl, rfl, Nat.le_refl _, fun _ _ => rfl⟩
end Go.Proofs.YtdfdnjkeiddfjabDoor
/-
  script (stage 25): the document's shown and put, whatever the part; the table's cells.
-/
namespace Go.Proofs.YtdfdnjkeiddfjabDoor
open Go.RowKit
attribute [local go_sem ↓] Go.wp_at_zero Go.wp_at_succ

theorem rc_at {i : Nat} (h : i < 24) : (rwS.flatMap RwS.c).toArray[i * 3]? = some (.string (rwS.getD i zrS).x) ∧ (rwS.flatMap RwS.c).toArray[i * 3 + 1]? = some (.int .i64 ((i : Int) + 1)) ∧ (rwS.flatMap RwS.c).toArray[i * 3 + 2]? = some (.string (rwS.getD i zrS).p) := by
  have key : ∀ (l : List RwS) (i : Nat), i < l.length → (l.flatMap RwS.c)[i * 3]? = some (.string (l.getD i zrS).x) ∧ (l.flatMap RwS.c)[i * 3 + 1]? = some (.int .i64 (l.getD i zrS).k) ∧ (l.flatMap RwS.c)[i * 3 + 2]? = some (.string (l.getD i zrS).p) := by
    intro l
    induction l with
    | nil => intro i hi; simp at hi
    | cons r l ih =>
      intro i hi
      cases i with
      | zero => exact ⟨rfl, rfl, rfl⟩
      | succ i =>
        have := ih i (by simpa using hi)
        rw [show (i + 1) * 3 = i * 3 + 1 + 1 + 1 by omega]
        exact this
  have h2 := key rwS i h
  rw [rw_k h] at h2
  simpa using h2
theorem putP_any (d : SdO) (b : ByteArray) (a : Option Addr) (c : Nat) (t : Tk) (ht : t.x.size ≤ 9000000) {p : Int} (hp : ltS p) (base : Nat) (w : World) (hbw : base ≤ w.heap.size) (hb : OwY w base (.slice a b.size c) (blK b)) : Calls Tryd.prog 24 #[d.v a b.size c, .int .u8 p, t.v] w fun e w' => ∃ a' c', e = .returned ((putS p d t).v a' (putB p b t).size c') ∧ OwY w' base (.slice a' (putB p b t).size c') (blK (putB p b t)) ∧ Below w.heap.size w w' := by
  have same : ∀ e w', (e = Ending.returned ((putS p d t).v a b.size c) ∧ Below w.heap.size w w') → putB p b t = b → ∃ a' c', e = .returned ((putS p d t).v a' (putB p b t).size c') ∧ OwY w' base (.slice a' (putB p b t).size c') (blK (putB p b t)) ∧ Below w.heap.size w w' := fun e w' h hB => by
    rw [hB]
    exact ⟨a, c, h.1, hb.later h.2, h.2⟩
  rcases hp with rfl | rfl | rfl | rfl | rfl | rfl | rfl
  · exact (putS_119 d a b.size c t w).mono fun e w' h => same e w' h rfl
  · exact (putS_111 d a b.size c t w).mono fun e w' h => same e w' h rfl
  · exact (putS_116 d a b.size c t w).mono fun e w' h => same e w' h rfl
  · exact (putS_98 d a b.size c t ht w).mono fun e w' ⟨a', c', h1, h2, h3⟩ => ⟨a', c', h1, h2.mono hbw, h3⟩
  · exact (putS_110 d a b.size c t w).mono fun e w' h => same e w' h rfl
  · exact (putS_109 d a b.size c t w).mono fun e w' h => same e w' h rfl
  · exact (putS_107 d a b.size c t w).mono fun e w' h => same e w' h rfl
end Go.Proofs.YtdfdnjkeiddfjabDoor
/-
  hearsaylaw25: first.
-/
namespace Go.Proofs.YtdfdnjkeiddfjabDoor
open Go.RowKit
attribute [local go_sem ↓] Go.wp_at_zero Go.wp_at_succ

def fiB : ByteArray := ⟨#[113, 117, 101, 114, 121, 32, 98, 111, 98, 32, 34, 109, 97, 121, 40, 88, 41, 63, 34, 32, 57, 32, 37, 32, 110, 111, 119]⟩
def fiD : SdO := ⟨7, ⟨#[98, 111, 98]⟩, ⟨#[]⟩, ⟨#[109, 97, 121, 40, 88, 41, 63]⟩, 9, 0, 0⟩
def fiP : ByteArray := ⟨#[113, 117, 101, 114, 121, 32, 98, 111, 98, 32, 34, 109, 97, 121, 40, 88, 41, 63, 34, 32, 57]⟩
def swB : ByteArray := ⟨#[115, 119, 97, 112, 32, 49]⟩
theorem fi_rd : rdS fiB = ⟨fiD, ⟨#[]⟩, 0, 0⟩ := by kernel_rfl
theorem fi_pr : prS fiD ⟨#[]⟩ = some fiP := by kernel_rfl
theorem sw_rd : rdS swB = ⟨zdS, ⟨#[]⟩, 253, 6⟩ := by kernel_rfl
theorem fi_ok : OkS fiD ⟨#[]⟩ := ⟨by decide, by decide, by decide, by decide, by unfold N64S; decide, by unfold N64S; decide, by unfold N64S; decide, by unfold N64S; decide⟩
theorem run_eql_ftS (e p e' p' : Int) (w : World) : (binOp .eql 32 (.agg #[.int .i64 e, .int .i64 p]) (.agg #[.int .i64 e', .int .i64 p'])).run Tryd.prog w = .ok (.bool (decide (e = e' ∧ p = p'))) w := run_eql_ft e p e' p' w
set_option maxRecDepth 20000 in
set_option maxHeartbeats 2000000 in
theorem first_any (w : World) (hE : EnS w) : Calls Tryd.prog 8 #[] w fun e w' => e = .returned (.bool true) ∧ Below w.heap.size w w' := by
  have HE := hm7 hE
  have HR1 : Hid (Calls Tryd.prog 9 #[.string fiB] w (RdQ w ⟨fiD, ⟨#[]⟩, 0, 0⟩)) := by rw [← fi_rd]; exact aSRead_any fiB (by decide) w hE
  have HR2 : Hid (∀ X, EnS X → Calls Tryd.prog 9 #[.string swB] X (RdQ X ⟨zdS, ⟨#[]⟩, 253, 6⟩)) := fun X h => by rw [← sw_rd]; exact aSRead_any swB (by decide) X h
  have HP : Hid (∀ (X : World) a c, EnS X → LbW (fun _ => True) X (.slice a 0 c) [] → Calls Tryd.prog 6 #[fiD.v a 0 c] X fun e w' => e = .returned (.tuple #[.string fiP, .bool true]) ∧ Below X.heap.size X w') := fun X a c h hl => by
    have := aSPrint_any fiD ⟨#[]⟩ a c fi_ok X h hl
    rw [fi_pr] at this
    exact this
  clear hE
  go_enter Tryd.func8, Tryd.ntmps8
  go_upto_region 2 with (go_at_call 9; refine HR1.out.mono ?_; rintro e w1 ⟨a, c, rfl, ho, hb1⟩; simp only [RsS.v])
  obtain ⟨hB, hF, -, hb⟩ := boxR hb1 ho
  simp only [SdO.cs, show (⟨#[]⟩ : ByteArray).size = 0 from rfl] at hB hF hb
  revert hB hF hb
  generalize (w1.alloc _).alloc _ = W1
  intro hB hF hb
  have HB1 := hm7 hB
  have HF1 := hm7 hF
  have HW1 := hm7 hb
  have HE1 := hm7 (HE.out.later hb)
  have HP1 := hm7 (HP.out W1 a c HE1.out hB.lb)
  obtain ⟨c0, c1, c2, c3, c4, c5, c6, c7⟩ := hB.cells
  clear hB hF hb ho hb1 HP
  go_upto_region 3 with (go_at_call 6; refine HP1.out.mono ?_; rintro e w2 ⟨rfl, hb2⟩)
  have HE2 := hm7 (HE1.out.later hb2)
  have HF2 := hm7 (HF1.out.later hb2)
  have HW2 := hm7 (below_stepK HW1.out hb2)
  clear hb2 c0 c1 c2 c3 c4 c5 c6 c7
  go_upto_region 4 with (go_at_call 9; refine (HR2.out _ HE2.out).mono ?_; rintro e w3 ⟨a3, c3, rfl, ho, hb3⟩; simp only [RsS.v])
  have hF3 := HF2.out.later hb3
  have hs3 := hb3.size
  obtain ⟨hB, hF, -, hb⟩ := boxR hb3 ho
  have hF4 := HF2.out.later hb
  revert hB hF hb hF4
  simp only [SdO.cs, show (⟨#[]⟩ : ByteArray).size = 0 from rfl]
  generalize (w3.alloc _).alloc _ = W4
  intro hB hF hb hF4
  obtain ⟨x0, x1⟩ := ft_cells hF
  obtain ⟨y0, y1⟩ := ft_cells hF4
  have e1 := fun W => run_eql_ftS 0 0 0 0 W
  have e2 := fun W => run_eql_ftS 253 6 253 6 W
  have h5 : fiP.toList = [113, 117, 101, 114, 121, 32, 98, 111, 98, 32, 34, 109, 97, 121, 40, 88, 41, 63, 34, 32, 57] := by kernel_rfl
  have HW4 := hm7 (below_stepK HW2.out hb)
  clear hB hF hb hF4 hF3 ho hb3
  go_wp2
  go_ret
  exact ⟨rfl, HW4.out⟩
end Go.Proofs.YtdfdnjkeiddfjabDoor
