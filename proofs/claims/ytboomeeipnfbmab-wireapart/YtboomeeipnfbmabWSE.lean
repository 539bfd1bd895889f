/-
  wire: what turns back (plain).
-/
import Derived.Test.YtboomeeipnfbmabWRS
namespace Go.Proofs.Ytboomeeipnfbmab
open Go.RowKit

theorem put_pl {s : WrW} {b : List Int} (ho : (putW s b).Ok) : plW (putW s b) ((s.gv : Int) + 1) = some s.row.length := by
  have h : (putW s b).row[s.row.length]? = some ⟨s.gv + 1, b⟩ := by unfold putW; simp
  have := plW_at ho h
  simpa using this
theorem put_by {s : WrW} {b : List Int} (ho : (putW s b).Ok) : byW (putW s b) ((s.gv : Int) + 1) = b := by
  rw [byW_at (put_pl ho) (m := ⟨s.gv + 1, b⟩) (by unfold putW; simp)]
theorem put_cpy {s : WrW} {b : List Int} (ho : (putW s b).Ok) (hg : s.gv + 1 < 4096) : cpyE (putW s b) ((s.gv : Int) + 1) = 0 ∧ cpyN (putW s b) ((s.gv : Int) + 1) = (s.gv : Int) + 1 + 1 ∧ cpyS (putW s b) ((s.gv : Int) + 1) = putW (putW s b) b := by
  have e : cpyE (putW s b) ((s.gv : Int) + 1) = 0 := by unfold cpyE; rw [put_pl ho]; simp only; rw [if_neg (by unfold putW; simp only; omega)]
  exact ⟨e, by unfold cpyN; rw [if_pos e]; unfold putW; simp, by unfold cpyS; rw [if_pos e, put_by ho]⟩
end Go.Proofs.Ytboomeeipnfbmab
