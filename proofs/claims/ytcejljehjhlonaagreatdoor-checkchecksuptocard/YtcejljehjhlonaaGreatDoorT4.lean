import Derived.Test.YtcejljehjhlonaaGreatDoorD1
import Derived.Test.YtcejljehjhlonaaGreatDoorCL5
namespace Go.Proofs.YtcejljehjhlonaaGreatDoor
open Go.RowKit

set_option maxHeartbeats 2000000 in
theorem rcheck_any (t : Te) (w : World) :
  Calls Tryz.prog 63 #[t.v] w fun e w' => e = .returned (.int .i64 (if t.ok then 0 else 32)) /\ Below w.heap.size w w' := by
 obtain ⟨op, ⟨k, n, s⟩, ⟨k', n', s'⟩⟩ := t
 obtain ⟨c1, h1⟩ : ∃ c, Tm.con ⟨k, n, s⟩ = c := ⟨_, rfl⟩
 obtain ⟨c2, h2⟩ : ∃ c, Tm.con ⟨k', n', s'⟩ = c := ⟨_, rfl⟩
 obtain ⟨v1, h3⟩ : ∃ c, Tm.var ⟨k, n, s⟩ = c := ⟨_, rfl⟩
 obtain ⟨v2, h4⟩ : ∃ c, Tm.var ⟨k', n', s'⟩ = c := ⟨_, rfl⟩
 obtain ⟨r, hr⟩ : ∃ r : Int, (if Te.ok ⟨op, ⟨k, n, s⟩, ⟨k', n', s'⟩⟩ then 0 else 32) = r := ⟨_, rfl⟩
 rw [hr]
 have HR : Hid ((if decide (1 <= op /\ op <= 4) && ((c1 || v1) && (c2 || v2)) then (0 : Int) else 32) = r) := by rw [<- hr, <- h1, <- h2, <- h3, <- h4]; rfl
 have H1 : Hid (Tm.con ⟨k, n, s⟩ = c1) := h1
 have H2 : Hid (Tm.con ⟨k', n', s'⟩ = c2) := h2
 have H3 : Hid (Tm.var ⟨k, n, s⟩ = v1) := h3
 have H4 : Hid (Tm.var ⟨k', n', s'⟩ = v2) := h4
 clear h1 h2 h3 h4 hr
 have ho : op < 1 ∨ 4 < op ∨ (1 <= op /\ op <= 4) := by omega
 rcases ho with ho | ho | ⟨ho1, ho2⟩ <;> cases c1 <;> cases c2 <;> cases v1 <;> cases v2
 all_goals
  go_enter Tryz.func63, Tryz.ntmps63
  go_wp2_with (first
   | (go_at_call 70; refine (rcon_any ⟨_, _, _⟩ _).mono ?_; first
     | (rw [H1.out]; rintro e w1 ⟨rfl, hb1⟩; have C1 := (Box1.start _ _ _).later hb1; obtain ⟨a0, a1, a2, a3, a4, a5, a6⟩ := C1.cells7; have BB : Hid (Box1 _ _ _ _) := C1; clear C1)
     | (rw [H2.out]; rintro e w1 ⟨rfl, hb1⟩; have C1 := (Hid.out BB).later hb1; clear a0 a1 a2 a3 a4 a5 a6 BB; obtain ⟨a0, a1, a2, a3, a4, a5, a6⟩ := C1.cells7; have BB : Hid (Box1 _ _ _ _) := C1; clear C1))
   | (go_at_call 71; refine (rvar_any ⟨_, _, _⟩ _).mono ?_; (first | rw [H3.out] | rw [H4.out]); rintro e w1 ⟨rfl, hb1⟩; have C1 := (Hid.out BB).later hb1; clear a0 a1 a2 a3 a4 a5 a6 BB; obtain ⟨a0, a1, a2, a3, a4, a5, a6⟩ := C1.cells7; have BB : Hid (Box1 _ _ _ _) := C1; clear C1))
  go_ret
  exact ⟨ret_i (by rw [<- HR.out]; first | (rw [decide_eq_false (by omega)]; rfl) | (rw [decide_eq_true (by omega)]; rfl)), (Hid.out BB).2⟩
set_option maxHeartbeats 1000000 in
theorem rdecide_any (t : Te) (w : World) (hsl : t.l.s.size <= maxLen) (hsr : t.r.s.size <= maxLen) :
  Calls Tryz.prog 43 #[t.v] w fun e w' => e = .returned (.tuple #[.bool t.holds, .bool t.known]) /\ Below w.heap.size w w' := by
 obtain ⟨op, ⟨k, n, s⟩, ⟨k', n', s'⟩⟩ := t
 obtain ⟨hh, eh⟩ : ∃ hh, Te.holds ⟨op, ⟨k, n, s⟩, ⟨k', n', s'⟩⟩ = hh := ⟨_, rfl⟩
 obtain ⟨kk, ek⟩ : ∃ kk, Te.known ⟨op, ⟨k, n, s⟩, ⟨k', n', s'⟩⟩ = kk := ⟨_, rfl⟩
 rw [eh, ek]
 have HSL : Hid (s.size <= maxLen) := hsl
 have HSR : Hid (s'.size <= maxLen) := hsr
 clear hsl hsr
 obtain ⟨c4, h4⟩ : ∃ c, Tm.cmp ⟨k, n, s⟩ ⟨k', n', s'⟩ = c := ⟨_, rfl⟩
 obtain ⟨c5, h5⟩ : ∃ c, decide (Tm.mk k n s = ⟨k', n', s'⟩) = c := ⟨_, rfl⟩
 have H4 : Hid (Tm.cmp ⟨k, n, s⟩ ⟨k', n', s'⟩ = c4) := h4
 have EH : Hid (hh = (kk && (if op = 1 then c5 else if op = 2 then !c5 else if op = 3 then decide (c4 < 0) else decide (c4 <= 0)))) := by
  show hh = _; rw [<- eh, <- ek, <- h5, <- h4]; rfl
 have e5 : c5 = (c4 == 0) := by rw [<- h5, <- h4, Bool.eq_iff_iff]; simp [Tm.cmp_zero]
 cases c0 : Te.ok ⟨op, ⟨k, n, s⟩, ⟨k', n', s'⟩⟩
 ·have C0 : Hid ((if Te.ok ⟨op, ⟨k, n, s⟩, ⟨k', n', s'⟩⟩ then (0 : Int) else 32) = 32) := by show (if _ then (0 : Int) else 32) = 32; rw [c0]; rfl
  have hk : kk = false := by
   rw [<- ek]
   unfold Te.ok at c0
   unfold Te.known
   simp only [Bool.and_eq_false_iff] at *
   rcases c0 with h | h | h
   ·exact Or.inl h
   ·exact Or.inr (Or.inl (by cases hc : Tm.con ⟨k, n, s⟩ <;> simp_all [con_cov]))
   ·exact Or.inr (Or.inr (by cases hc : Tm.con ⟨k', n', s'⟩ <;> simp_all [con_cov]))
  have hf : hh = false := by rw [EH.out, hk]; rfl
  subst hk hf
  clear eh ek h4 h5 EH c0
  go_enter Tryz.func43, Tryz.ntmps43
  go_wp2_with (go_at_call 63; refine (rcheck_any ⟨op, ⟨k, n, s⟩, ⟨k', n', s'⟩⟩ _).mono ?_; rw [C0.out]; rintro e w1 ⟨rfl, hb1⟩)
  go_ret2
  exact ⟨rfl, below_step (below1 _ _) hb1⟩
 ·have C0 : Hid ((if Te.ok ⟨op, ⟨k, n, s⟩, ⟨k', n', s'⟩⟩ then (0 : Int) else 32) = 0) := by show (if _ then (0 : Int) else 32) = 0; rw [c0]; rfl
  have ho : 1 <= op /\ op <= 4 := by unfold Te.ok at c0; simp only [Bool.and_eq_true, decide_eq_true_eq] at c0; exact c0.1
  obtain ⟨c1, h1⟩ : ∃ c, Tm.con ⟨k, n, s⟩ = c := ⟨_, rfl⟩
  obtain ⟨c2, h2⟩ : ∃ c, Tm.con ⟨k', n', s'⟩ = c := ⟨_, rfl⟩
  have H1 : Hid (Tm.con ⟨k, n, s⟩ = c1) := h1
  have H2 : Hid (Tm.con ⟨k', n', s'⟩ = c2) := h2
  have hk : kk = (c1 && c2) := by
   rw [<- ek, <- h1, <- h2]; unfold Te.known; rw [decide_eq_true ho]; rfl
  subst hk
  clear eh ek h4 h5 c0 h1 h2
  cases c1
  ·have hf : hh = false := by rw [EH.out]; rfl
   subst hf
   clear EH
   go_enter Tryz.func43, Tryz.ntmps43
   go_wp2_with (first
    | (go_at_call 63; refine (rcheck_any ⟨op, ⟨k, n, s⟩, ⟨k', n', s'⟩⟩ _).mono ?_; rw [C0.out]; rintro e w1 ⟨rfl, hb1⟩; have C1 := (Box1.start _ _ _).later hb1; obtain ⟨a0, a1, a2, a3, a4, a5, a6⟩ := C1.cells7; have B1 : Hid (Box1 _ _ _ _) := C1; clear C1)
    | (go_at_call 70; refine (rcon_any ⟨k, n, s⟩ _).mono ?_; rw [H1.out]; rintro e w2 ⟨rfl, hb2⟩))
   go_ret2
   exact ⟨rfl, ((Hid.out B1).later hb2).2⟩
  ·cases c2
   ·have hf : hh = false := by rw [EH.out]; rfl
    subst hf
    clear EH
    go_enter Tryz.func43, Tryz.ntmps43
    go_wp2_with (first
     | (go_at_call 63; refine (rcheck_any ⟨op, ⟨k, n, s⟩, ⟨k', n', s'⟩⟩ _).mono ?_; rw [C0.out]; rintro e w1 ⟨rfl, hb1⟩; have C1 := (Box1.start _ _ _).later hb1; obtain ⟨a0, a1, a2, a3, a4, a5, a6⟩ := C1.cells7; have B1 : Hid (Box1 _ _ _ _) := C1; clear C1)
     | (go_at_call 70; refine (rcon_any ⟨_, _, _⟩ _).mono ?_; first | (rw [H1.out]; rintro e w2 ⟨rfl, hb2⟩; clear a0 a1 a2 a3 a4 a5 a6; have C2 := (Hid.out B1).later hb2; obtain ⟨a0, a1, a2, a3, a4, a5, a6⟩ := C2.cells7; have B2 : Hid (Box1 _ _ _ _) := C2; clear C2) | (rw [H2.out]; rintro e w3 ⟨rfl, hb3⟩)))
    go_ret2
    exact ⟨rfl, ((Hid.out B2).later hb3).2⟩
   ·have EH2 : Hid (hh = (if op = 1 then c5 else if op = 2 then !c5 else if op = 3 then decide (c4 < 0) else decide (c4 <= 0))) := by show hh = _; rw [EH.out]; rfl
    clear EH
    obtain ⟨ho1, ho2⟩ := ho
    by_cases o1 : op = 1
    ·subst o1
     have hf : hh = (c4 == 0) := by rw [EH2.out, e5]; rfl
     subst hf
     clear EH2
     go_enter Tryz.func43, Tryz.ntmps43
     go_wp2_with (first
      | (go_at_call 63; refine (rcheck_any ⟨1, ⟨k, n, s⟩, ⟨k', n', s'⟩⟩ _).mono ?_; rw [C0.out]; rintro e w1 ⟨rfl, hb1⟩; have C1 := (Box1.start _ _ _).later hb1; obtain ⟨a0, a1, a2, a3, a4, a5, a6⟩ := C1.cells7; have B1 : Hid (Box1 _ _ _ _) := C1; clear C1)
      | (go_at_call 70; refine (rcon_any ⟨_, _, _⟩ _).mono ?_; first | (rw [H1.out]; rintro e w2 ⟨rfl, hb2⟩; clear a0 a1 a2 a3 a4 a5 a6; have C2 := (Hid.out B1).later hb2; obtain ⟨a0, a1, a2, a3, a4, a5, a6⟩ := C2.cells7; have B2 : Hid (Box1 _ _ _ _) := C2; clear C2) | (rw [H2.out]; rintro e w3 ⟨rfl, hb3⟩; clear a0 a1 a2 a3 a4 a5 a6; have C3 := (Hid.out B2).later hb3; obtain ⟨a0, a1, a2, a3, a4, a5, a6⟩ := C3.cells7; have B3 : Hid (Box1 _ _ _ _) := C3; clear C3))
      | (go_at_call 73; refine (rcompare_any ⟨k, n, s⟩ ⟨k', n', s'⟩ _ HSL.out HSR.out).mono ?_; rw [H4.out]; rintro e w4 ⟨rfl, hb4⟩; clear a0 a1 a2 a3 a4 a5 a6; have C4 := (Hid.out B3).later hb4; obtain ⟨a0, a1, a2, a3, a4, a5, a6⟩ := C4.cells7; have B4 : Hid (Box1 _ _ _ _) := C4; clear C4))
     go_ret2
     exact ⟨rfl, (Hid.out B4).2⟩
    ·by_cases o2 : op = 2
     ·subst o2
      clear o1
      have hf : hh = (c4 != 0) := by rw [EH2.out, e5]; rfl
      subst hf
      clear EH2
      go_enter Tryz.func43, Tryz.ntmps43
      go_wp2_with (first
       | (go_at_call 63; refine (rcheck_any ⟨2, ⟨k, n, s⟩, ⟨k', n', s'⟩⟩ _).mono ?_; rw [C0.out]; rintro e w1 ⟨rfl, hb1⟩; have C1 := (Box1.start _ _ _).later hb1; obtain ⟨a0, a1, a2, a3, a4, a5, a6⟩ := C1.cells7; have B1 : Hid (Box1 _ _ _ _) := C1; clear C1)
       | (go_at_call 70; refine (rcon_any ⟨_, _, _⟩ _).mono ?_; first | (rw [H1.out]; rintro e w2 ⟨rfl, hb2⟩; clear a0 a1 a2 a3 a4 a5 a6; have C2 := (Hid.out B1).later hb2; obtain ⟨a0, a1, a2, a3, a4, a5, a6⟩ := C2.cells7; have B2 : Hid (Box1 _ _ _ _) := C2; clear C2) | (rw [H2.out]; rintro e w3 ⟨rfl, hb3⟩; clear a0 a1 a2 a3 a4 a5 a6; have C3 := (Hid.out B2).later hb3; obtain ⟨a0, a1, a2, a3, a4, a5, a6⟩ := C3.cells7; have B3 : Hid (Box1 _ _ _ _) := C3; clear C3))
       | (go_at_call 73; refine (rcompare_any ⟨k, n, s⟩ ⟨k', n', s'⟩ _ HSL.out HSR.out).mono ?_; rw [H4.out]; rintro e w4 ⟨rfl, hb4⟩; clear a0 a1 a2 a3 a4 a5 a6; have C4 := (Hid.out B3).later hb4; obtain ⟨a0, a1, a2, a3, a4, a5, a6⟩ := C4.cells7; have B4 : Hid (Box1 _ _ _ _) := C4; clear C4))
      go_ret2
      exact ⟨rfl, (Hid.out B4).2⟩
     ·by_cases o3 : op = 3
      ·subst o3
       clear o1 o2
       have hf : hh = decide (c4 < 0) := by rw [EH2.out]; rfl
       subst hf
       clear EH2
       go_enter Tryz.func43, Tryz.ntmps43
       go_wp2_with (first
        | (go_at_call 63; refine (rcheck_any ⟨3, ⟨k, n, s⟩, ⟨k', n', s'⟩⟩ _).mono ?_; rw [C0.out]; rintro e w1 ⟨rfl, hb1⟩; have C1 := (Box1.start _ _ _).later hb1; obtain ⟨a0, a1, a2, a3, a4, a5, a6⟩ := C1.cells7; have B1 : Hid (Box1 _ _ _ _) := C1; clear C1)
        | (go_at_call 70; refine (rcon_any ⟨_, _, _⟩ _).mono ?_; first | (rw [H1.out]; rintro e w2 ⟨rfl, hb2⟩; clear a0 a1 a2 a3 a4 a5 a6; have C2 := (Hid.out B1).later hb2; obtain ⟨a0, a1, a2, a3, a4, a5, a6⟩ := C2.cells7; have B2 : Hid (Box1 _ _ _ _) := C2; clear C2) | (rw [H2.out]; rintro e w3 ⟨rfl, hb3⟩; clear a0 a1 a2 a3 a4 a5 a6; have C3 := (Hid.out B2).later hb3; obtain ⟨a0, a1, a2, a3, a4, a5, a6⟩ := C3.cells7; have B3 : Hid (Box1 _ _ _ _) := C3; clear C3))
        | (go_at_call 73; refine (rcompare_any ⟨k, n, s⟩ ⟨k', n', s'⟩ _ HSL.out HSR.out).mono ?_; rw [H4.out]; rintro e w4 ⟨rfl, hb4⟩; clear a0 a1 a2 a3 a4 a5 a6; have C4 := (Hid.out B3).later hb4; obtain ⟨a0, a1, a2, a3, a4, a5, a6⟩ := C4.cells7; have B4 : Hid (Box1 _ _ _ _) := C4; clear C4))
       go_ret2
       exact ⟨rfl, (Hid.out B4).2⟩
      ·obtain rfl : op = 4 := by omega
       clear o1 o2 o3
       have hf : hh = decide (c4 <= 0) := by rw [EH2.out]; rfl
       subst hf
       clear EH2
       go_enter Tryz.func43, Tryz.ntmps43
       go_wp2_with (first
        | (go_at_call 63; refine (rcheck_any ⟨4, ⟨k, n, s⟩, ⟨k', n', s'⟩⟩ _).mono ?_; rw [C0.out]; rintro e w1 ⟨rfl, hb1⟩; have C1 := (Box1.start _ _ _).later hb1; obtain ⟨a0, a1, a2, a3, a4, a5, a6⟩ := C1.cells7; have B1 : Hid (Box1 _ _ _ _) := C1; clear C1)
        | (go_at_call 70; refine (rcon_any ⟨_, _, _⟩ _).mono ?_; first | (rw [H1.out]; rintro e w2 ⟨rfl, hb2⟩; clear a0 a1 a2 a3 a4 a5 a6; have C2 := (Hid.out B1).later hb2; obtain ⟨a0, a1, a2, a3, a4, a5, a6⟩ := C2.cells7; have B2 : Hid (Box1 _ _ _ _) := C2; clear C2) | (rw [H2.out]; rintro e w3 ⟨rfl, hb3⟩; clear a0 a1 a2 a3 a4 a5 a6; have C3 := (Hid.out B2).later hb3; obtain ⟨a0, a1, a2, a3, a4, a5, a6⟩ := C3.cells7; have B3 : Hid (Box1 _ _ _ _) := C3; clear C3))
        | (go_at_call 73; refine (rcompare_any ⟨k, n, s⟩ ⟨k', n', s'⟩ _ HSL.out HSR.out).mono ?_; rw [H4.out]; rintro e w4 ⟨rfl, hb4⟩; clear a0 a1 a2 a3 a4 a5 a6; have C4 := (Hid.out B3).later hb4; obtain ⟨a0, a1, a2, a3, a4, a5, a6⟩ := C4.cells7; have B4 : Hid (Box1 _ _ _ _) := C4; clear C4))
       go_ret2
       exact ⟨rfl, (Hid.out B4).2⟩
end Go.Proofs.YtcejljehjhlonaaGreatDoor
