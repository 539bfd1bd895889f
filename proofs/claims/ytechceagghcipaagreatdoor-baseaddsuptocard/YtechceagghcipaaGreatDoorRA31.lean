import Derived.Test.YtechceagghcipaaGreatDoorRA29
namespace Go.Proofs.YtechceagghcipaaGreatDoor
open Go.RowKit

theorem ad7_ok {s : St7} {r : List Int} (h : s.Ok) (he : r.length = s.wd) (hw : w64 r) (hl : s.wd <= 10000000000) (hc : s.rows.length < 10000000000) : (ad7 s r).Ok := by
 unfold ad7
 split
 ·exact h
 ·rename_i hn
  refine ⟨?_, fun x hx => ?_, fun x hx => ?_, h.a, Nat.le_trans h.b (by simp [Add7]), by simp [Add7]; omega, fun _ => hl, h.e⟩
  ·show (s.rows ++ [r]).Nodup
   rw [List.nodup_append]
   refine ⟨h.nd, by simp, fun a ha b hb => ?_⟩
   simp at hb
   subst hb
   intro e
   subst e
   exact hn ha
  ·rcases List.mem_append.1 hx with hx | hx
   ·exact h.wid x hx
   ·simp at hx; subst hx; exact he
  ·rcases List.mem_append.1 hx with hx | hx
   ·exact h.w x hx
   ·simp at hx; subst hx; exact hw
theorem turn_ok7 {s : St7} (h : s.Ok) : (Turn7 s).Ok := ⟨h.nd, h.wid, h.w, h.b, Nat.le_refl _, h.c, h.d, h.e⟩
end Go.Proofs.YtechceagghcipaaGreatDoor
