/-
  hearsaylaw02.TermTests, for every test and binding.
-/
import Derived.Test.YtjjppmidhpgnkabDoorT2
import Derived.Test.YtjjppmidhpgnkabDoorT4
import Derived.Test.YtjjppmidhpgnkabDoorT6
import Derived.Test.YtjjppmidhpgnkabDoorB9
namespace Go.Proofs.YtjjppmidhpgnkabDoor
open Go.RowKit
attribute [local go_sem ↓] Go.wp_at_zero Go.wp_at_succ

set_option maxHeartbeats 2000000 in
theorem tests_any (t : Te) (s : List Bd) (v : Value) (w : World) (h : BsO w v s) (hL : LateOk w) (hsl : t.l.s.size ≤ maxLen) (hsr : t.r.s.size ≤ maxLen) :
    Calls Tryd.prog 5 #[t.v, v] w fun e w' => e = .returned (.bool true) ∧ Below w.heap.size w w' := by
  obtain ⟨op, ⟨k, n, z⟩, ⟨k', n', z'⟩⟩ := t
  obtain ⟨r0, h0⟩ : ∃ r : Int, (if Te.ok ⟨op, ⟨k, n, z⟩, ⟨k', n', z'⟩⟩ then 0 else 32) = r := ⟨_, rfl⟩
  obtain ⟨⟨op1, ⟨k1, n1, z1⟩, ⟨k2, n2, z2⟩⟩, h1⟩ : ∃ a, applyTe s ⟨op, ⟨k, n, z⟩, ⟨k', n', z'⟩⟩ = a := ⟨_, rfl⟩
  obtain ⟨hh, h2⟩ : ∃ a, Te.holds ⟨op, ⟨k, n, z⟩, ⟨k', n', z'⟩⟩ = a := ⟨_, rfl⟩
  obtain ⟨kk, h3⟩ : ∃ a, Te.known ⟨op, ⟨k, n, z⟩, ⟨k', n', z'⟩⟩ = a := ⟨_, rfl⟩
  have H0 : Hid ((if Te.ok ⟨op, ⟨k, n, z⟩, ⟨k', n', z'⟩⟩ then 0 else 32) = r0) := h0
  have H1 : Hid (applyTe s ⟨op, ⟨k, n, z⟩, ⟨k', n', z'⟩⟩ = ⟨op1, ⟨k1, n1, z1⟩, ⟨k2, n2, z2⟩⟩) := h1
  have H2 : Hid (Te.holds ⟨op, ⟨k, n, z⟩, ⟨k', n', z'⟩⟩ = hh) := h2
  have H3 : Hid (Te.known ⟨op, ⟨k, n, z⟩, ⟨k', n', z'⟩⟩ = kk) := h3
  have HS : Hid (BsO w v s) := h
  have HL : Hid (LateOk w) := hL
  have HZ : Hid (z.size ≤ maxLen) := hsl
  have HZ' : Hid (z'.size ≤ maxLen) := hsr
  have hsn : s.length < 1000000000000000000 := by obtain ⟨_, _, _, h, _⟩ := h.bs; exact h
  have hso : ∀ W, Below w.heap.size w W → BsO W v s := fun W hb => by
    rcases h with h | ⟨ad, cap, h1, h2, h3⟩
    · exact Or.inl h
    · refine Or.inr ⟨ad, cap, h1, h2, ?_⟩
      rcases h3 with h3 | ⟨b, o, h3, h4⟩
      · exact Or.inl h3
      · exact Or.inr ⟨b, o, h3, h4.later hb⟩
  have HSO : Hid (∀ W, Below w.heap.size w W → BsO W v s) := hso
  clear h0 h1 h2 h3 h hL hsl hsr hso
  go_enter Tryd.func5, Tryd.ntmps5
  go_wp2_with (go_at_call 8; refine (lend_any s v _ (HSO.out _ (below1 _ _)) (HL.out.later (below1 _ _))).mono ?_; rintro e w1 ⟨g, cap, rfl, ho, hb1⟩; have C1 := (Box1.start _ _ _).later hb1; obtain ⟨a0, a1, a2, a3, a4, a5, a6⟩ := C1.cells7; have BB : Hid (Box1 _ _ _ _) := C1; have HO : Hid (Own w1 _ (.slice (some ⟨g, 0, none⟩) (s.length + 1) cap) (s ++ [late])) := ho; have za : w.heap.size < w1.heap.size := (Array.getElem?_eq_some_iff.1 C1.1).1; clear C1 ho)
  go_region_held3 (fun w' => w'.cell? ⟨w.heap.size, 0, none⟩ = some (.int .i64 op) ∧ w'.cell? ⟨w.heap.size, 1, none⟩ = some (.int .i64 k) ∧ w'.cell? ⟨w.heap.size, 2, none⟩ = some (.int .i64 n) ∧ w'.cell? ⟨w.heap.size, 3, none⟩ = some (.string z) ∧ w'.cell? ⟨w.heap.size, 4, none⟩ = some (.int .i64 k') ∧ w'.cell? ⟨w.heap.size, 5, none⟩ = some (.int .i64 n') ∧ w'.cell? ⟨w.heap.size, 6, none⟩ = some (.string z') ∧ w.heap.size < w'.heap.size ∧ Below w1.heap.size w1 w')
    ((go_split_ands; refine ⟨?_, ?_, ?_, ?_, ?_, ?_, ?_, ?_, ?_⟩ <;> first | exact cell_step hb3 (by assumption) (by assumption) | exact lt_step hb3 (by assumption) | exact below_step (by assumption) hb3 | go_keep | exact (Below.refl _ _).drew))
    ((first
      | (go_at_call 18; refine (check_any ⟨op, ⟨k, n, z⟩, ⟨k', n', z'⟩⟩ _).mono ?_; rw [H0.out]; rintro e w3 ⟨rfl, hb3⟩)
      | (go_at_call 19; refine (rcheck_any ⟨op, ⟨k, n, z⟩, ⟨k', n', z'⟩⟩ _).mono ?_; rw [H0.out]; rintro e w3 ⟨rfl, hb3⟩)
      | (go_at_call 20; refine (applyTest_any s _ ⟨op, ⟨k, n, z⟩, ⟨k', n', z'⟩⟩ _ (by go_split_ands; exact own_pre (HO.out.later (by assumption)) hsn)).mono ?_; rw [H1.out]; rintro e w3 ⟨rfl, hb3⟩)
      | (go_at_call 21; refine (rapplyTest_any s _ ⟨op, ⟨k, n, z⟩, ⟨k', n', z'⟩⟩ _ (by go_split_ands; exact (HSO.out _ (below_step (Hid.out BB).2 (by assumption))).bs)).mono ?_; rw [H1.out]; rintro e w3 ⟨rfl, hb3⟩)))
  go_split_ands
  have hW : Below w1.heap.size w1 w3 := by assumption
  have C3 := (Hid.out BB).later hW
  have HO3 : Hid (Own w3 _ (.slice (some ⟨g, 0, none⟩) (s.length + 1) cap) (s ++ [late])) := HO.out.later hW
  clear BB a0 a1 a2 a3 a4 a5 a6
  obtain ⟨a0, a1, a2, a3, a4, a5, a6⟩ := C3.cells7
  have BB : Hid (Box1 _ _ _ _) := C3
  clear C3
  go_wp2_with (first
    | (go_at_call 22; refine (decide_any ⟨op, ⟨k, n, z⟩, ⟨k', n', z'⟩⟩ _).mono ?_; rw [H2.out, H3.out]; rintro e w4 ⟨rfl, hb4⟩; have C4 := (Hid.out BB).later hb4; clear BB a0 a1 a2 a3 a4 a5 a6; obtain ⟨a0, a1, a2, a3, a4, a5, a6⟩ := C4.cells7; have BB : Hid (Box1 _ _ _ _) := C4; clear C4)
    | (go_at_call 23; refine (rdecide_any ⟨op, ⟨k, n, z⟩, ⟨k', n', z'⟩⟩ _ HZ.out HZ'.out).mono ?_; rw [H2.out, H3.out]; rintro e w5 ⟨rfl, hb5⟩; have C4 := (Hid.out BB).later hb5; clear BB a0 a1 a2 a3 a4 a5 a6; have BB : Hid (Box1 _ _ _ _) := C4; clear C4)
    | (go_at_call 13; refine (still_any s v g cap _ _ (HSO.out _ (Hid.out BB).2).bs ((HO3.out.later hb4).later hb5) (HL.out.later (Hid.out BB).2)).mono ?_; rintro e w6 ⟨rfl, hb6⟩)
    | (go_at_call 15; refine (first_any _).mono ?_; rintro e w7 ⟨rfl, hb7⟩))
  go_ret
  exact ⟨ret_b rfl, below_step (below_step (Hid.out BB).2 hb6) hb7⟩
end Go.Proofs.YtjjppmidhpgnkabDoor
