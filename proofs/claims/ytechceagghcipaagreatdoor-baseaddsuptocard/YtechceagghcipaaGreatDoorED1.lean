import Derived.Test.YtechceagghcipaaGreatDoorEC9
namespace Go.Proofs.YtechceagghcipaaGreatDoor
open Go.RowKit
attribute [local go_sem ↓] Go.wp_at_zero Go.wp_at_succ

theorem lit8 (w : World) : OwnT (w.alloc (.cells #[] 24)) w.heap.size (.slice (some ⟨w.heap.size, 0, none⟩) 0 0) [] :=
 ⟨rfl, Or.inr ⟨w.heap.size, 0, #[], rfl, Nat.le_refl _, heap_alloc_new _ _, Nat.le_refl _, by simp [maxLen], by simp, by simp [tcs]⟩⟩
set_option maxRecDepth 20000 in
set_option maxHeartbeats 1000000 in
theorem clone8_any (v : Value) (l : List Tm) (w : World) (h : TsP w v l) (hl : l.length <= 100000000000) :
  Calls Tryz.prog 27 #[v] w fun e w' => ∃ v', e = .returned v' /\ OwnT w' w.heap.size v' l /\ Below w.heap.size w w' := by
 have H := hm7 h
 have qT : ∀ (w : World) (a : Option Addr) (n c n' c' : Nat), (binOp .eql 25 (.slice a n c) (.slice none n' c')).run Tryz.prog w = .ok (.bool a.isNone) w := fun w a n c n' c' => Go.Lib.run_eql_slice_nil w 25 24 a n c n' c' Tryz.underlying25
 rcases h with ⟨rfl, rfl⟩ | ⟨ad, cap, rfl, -⟩
 ·go_enter Tryz.func27, Tryz.ntmps27
  go_wp2
  go_ret
  exact ⟨.slice none 0 0, rfl, World.ownsRow_nil _ _ _ _, Below.refl _ _⟩
 ·obtain ⟨n, hn⟩ : ∃ n, n = l.length := ⟨_, rfl⟩
  have HN := hm7 hn
  rw [<- hn] at H ⊢
  clear hn
  go_enter Tryz.func27, Tryz.ntmps27
  go_wp2_with (at_builtin; refine app_terms rfl _ _ rfl w.heap.size (.slice (some ⟨w.heap.size, 0, none⟩) 0 0) [] rfl (lit8 w) _ l rfl (H.out.later (below1 _ _)) (by simp; omega) (by simp) ?_; intro v' w' ho hb hg; have HO := hm7 ho; have HB := hm7 hb; clear ho hb hg)
  go_ret
  exact ⟨v', rfl, by have := HO.out; rw [List.nil_append] at this; exact this, (below1 _ _).trans HB.out⟩
end Go.Proofs.YtechceagghcipaaGreatDoor
