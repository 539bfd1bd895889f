/-
  ref's Bound.
-/
import Derived.Test.YtdfgijdededolabGreatDoorCN17
namespace Go.Proofs.YtdfgijdededolabGreatDoor
open Go.RowKit
attribute [local go_sem ↓] Go.wp_at_zero Go.wp_at_succ

theorem rb_finG {p c A i O M : Nat} (hO : O = min (p * (c + 1) ^ i) M) (hi : i ≤ A + 1) (h : i = A + 1 ∨ M ≤ O ∨ c + 1 = 1 ∨ O = 0) (hM : 0 < M) : (if M ≤ O then M else O + 1) = min (p * (c + 1) ^ (A + 1) + 1) M := by
  have hXY := pow_up p (c + 1) (by omega) hi
  have h4 : O = 0 → p * (c + 1) ^ (A + 1) = p * (c + 1) ^ i := fun e => by
    have h5 : p * (c + 1) ^ i = 0 := by omega
    rcases Nat.mul_eq_zero.1 h5 with h6 | h6
    · rw [h6, Nat.zero_mul, Nat.zero_mul]
    · have := Nat.pow_pos (n := i) (show 0 < c + 1 by omega)
      omega
  have h7 : c + 1 = 1 → p * (c + 1) ^ (A + 1) = p * (c + 1) ^ i := fun e => by rw [e, Nat.one_pow, Nat.one_pow]
  have h8 : i = A + 1 → p * (c + 1) ^ (A + 1) = p * (c + 1) ^ i := fun e => by rw [e]
  generalize p * (c + 1) ^ (A + 1) = X at *
  generalize p * (c + 1) ^ i = Y at *
  rcases h with h | h | h | h
  · have := h8 h
    split <;> omega
  · rw [if_pos h]; omega
  · have := h7 h
    split <;> omega
  · have := h4 h
    split <;> omega
theorem rb_stepG {p c i O M : Nat} (hO : O = min (p * (c + 1) ^ i) M) (h1 : O < M) : min (O * (c + 1)) M = min (p * (c + 1) ^ (i + 1)) M := by
  have : O = p * (c + 1) ^ i := by omega
  rw [this, Nat.pow_succ, Nat.mul_assoc]
theorem rb_fin {p c A i O R : Nat} (hR : bnd p c A = R) (hO : O = min (p * (c + 1) ^ i) 4611686018427387904) (hi : i ≤ A + 1) (h : i = A + 1 ∨ 4611686018427387904 ≤ O ∨ c + 1 = 1 ∨ O = 0) : (if 4611686018427387904 ≤ O then 4611686018427387904 else O + 1) = R := by
  rw [← hR]; exact rb_finG hO hi h (by decide)
set_option maxRecDepth 20000 in
set_option maxHeartbeats 8000000 in
theorem rbound_any (l : List Cm) (v : Value) (w : World) (h : CsP w v l) (hp : ∀ c ∈ l, OKP w c) (hz : ∀ t ∈ l.flatMap Cm.terms, t.s.size ≤ maxLen) (hl : (l.flatMap Cm.terms).length ≤ 3000000000000) (hlp : (l.flatMap Cm.pds).length ≤ 3000000000000) (hll : l.length ≤ 1000000000000) (har : ∀ p ∈ l.flatMap Cm.pds, ∃ n : Nat, p.ar = (n : Int) ∧ n ≤ 3000000000000) :
    Calls Tryz.prog 14 #[v] w (BPost w (l.flatMap Cm.pds) (cns (l.flatMap Cm.terms))) := by
  have HPR : Hid (∀ Y : World, Below w.heap.size w Y → Calls Tryz.prog 13 #[v] Y (PPost Y (l.flatMap Cm.pds))) := fun Y hY => rpreds_any l v Y (h.later hY) hlp hll
  have HCO : Hid (∀ Y : World, Below w.heap.size w Y → Calls Tryz.prog 11 #[v] Y (RTS Y (cns (l.flatMap Cm.terms)))) := fun Y hY => rconsts_any l v Y (h.later hY) (fun c hc => (hp c hc).later hY) hz hl hll
  have HCL : Hid ((cns (l.flatMap Cm.terms)).length ≤ 3000000000000) := Nat.le_trans (cns_len _) hl
  have HPL : Hid ((l.flatMap Cm.pds).length ≤ 3000000000000) := hlp
  have HAR : Hid (∀ p ∈ l.flatMap Cm.pds, ∃ n : Nat, p.ar = (n : Int) ∧ n ≤ 3000000000000) := har
  obtain ⟨L, hL⟩ : ∃ L, l.flatMap Cm.pds = L := ⟨_, rfl⟩
  obtain ⟨C, hC⟩ : ∃ C, cns (l.flatMap Cm.terms) = C := ⟨_, rfl⟩
  obtain ⟨va, vc, rfl⟩ := h.form
  rw [hL] at HPR HPL HAR
  rw [hC] at HCO HCL
  rw [hL, hC]
  clear h hp hz hl hlp hll har hL hC
  go_enter Tryz.func14, Tryz.ntmps14
  go_wp2_with (first
    | (go_at_call 13; refine (HPR.out _ (Below.refl _ _)).mono ?_; rintro e w1 ⟨v1, P, rfl, ho1, hr1, hl1, hb1⟩; have HO1 : Hid (PsP w1 v1 P) := ho1.tsP; obtain ⟨pa, pc, rfl⟩ := ho1.tsP.form; have HR1 : Hid (RiseOf cmpP P L) := hr1; have HL1 : Hid (P.length ≤ 3000000000000) := Nat.le_trans hl1 HPL.out; have HB1 : Hid (Below w.heap.size w w1) := hb1; clear ho1 hr1 hl1 hb1)
    | (go_at_call 11; refine (HCO.out _ HB1.out).mono ?_; rintro e w2 ⟨v2, K, rfl, ho2, hl2, hr2, hb2⟩; obtain ⟨ka, kc, rfl⟩ := ho2.tsP.form7; have HR2 : Hid (RiseOf Tm.cmp K C) := hr2; have hkl : K.length ≤ 3000000000000 := Nat.le_trans hl2 HCL.out; have HB2 : Hid (Below w.heap.size w w2) := below_step HB1.out hb2; have HO2 : Hid (PsP w2 (.slice pa P.length pc) P) := HO1.out.later hb2; clear ho2 hr2 hl2 hb2))
  have hpl : P.length ≤ 3000000000000 := HL1.out
  have HAP : Hid (∀ p ∈ P, ∃ n : Nat, p.ar = (n : Int) ∧ n ≤ 3000000000000) := fun p hp => HAR.out p ((HR1.out.mem p).1 hp)
  go_loopg [5, 6] P.length (fun g a i wr => ∃ (j A : Nat), j + g = P.length ∧ i = .int .i64 (j : Int) ∧ a = .int .i64 (A : Int) ∧ A = mxa (P.take j) ∧ A ≤ 3000000000000 ∧ Below w2.heap.size w2 wr)
  case atStart => exact ⟨0, 0, by omega, rfl, rfl, rfl, by omega, Below.refl _ _⟩
  case round =>
    obtain ⟨j, A, hg, rfl, rfl, hA, hAb, hb⟩ := hrel
    have HA : Hid (A = mxa (P.take j)) := hA
    have HB : Hid (Below w2.heap.size w2 wr) := hb
    clear hA hb
    have ij : (0 : Int) ≤ (j : Int) := by omega
    by_cases hjl : j < P.length
    · have k1 : (j : Int) < (P.length : Int) := by omega
      obtain ⟨p, hp⟩ : ∃ z, P[j]? = some z := ⟨_, List.getElem?_eq_getElem hjl⟩
      obtain ⟨n, hn, hnb⟩ := HAP.out p (List.mem_of_getElem? hp)
      have HN : Hid (max A n = mxa (P.take (j + 1))) := by show _ = _; rw [mxa_take hp hn, ← HA.out]
      obtain ⟨b, o, rfl, hrw⟩ := (HO2.out.later HB.out).get hp
      obtain ⟨c0, c1⟩ := hrw.2 _ _ hp
      have hz := hrw.1
      clear hp hrw
      obtain ⟨ps, pn⟩ := p
      simp only at hn c0 c1
      subst hn
      by_cases hAn : A < n
      · have k2 : (A : Int) < (n : Int) := by omega
        have HN2 : Hid (n = mxa (P.take (j + 1))) := by have := HN.out; show n = _; omega
        go_wp2
        go_roundg (gk - 1)
        case measure => omega
        case rel => exact ⟨j + 1, n, by omega, by go_num, rfl, HN2.out, hnb, HB.out⟩
      · have k2 : ¬ (A : Int) < (n : Int) := by omega
        have HN2 : Hid (A = mxa (P.take (j + 1))) := by have := HN.out; show A = _; omega
        go_wp2
        go_roundg (gk - 1)
        case measure => omega
        case rel => exact ⟨j + 1, A, by omega, by go_num, rfl, HN2.out, hAb, HB.out⟩
    · have k1 : ¬ (j : Int) < (P.length : Int) := by omega
      obtain rfl : j = P.length := by omega
      have HA9 : Hid (A = mxa P) := by have := HA.out; rw [List.take_length] at this; exact this
      obtain ⟨R, hR⟩ : ∃ R, bnd P.length K.length A = R := ⟨_, rfl⟩
      have HRR : Hid (bnd P.length K.length (mxa P) = R) := by rw [← HA9.out]; exact hR
      have HFI : Hid (∀ i O : Nat, O = min (P.length * (K.length + 1) ^ i) 4611686018427387904 → i ≤ A + 1 → (i = A + 1 ∨ 4611686018427387904 ≤ O ∨ K.length + 1 = 1 ∨ O = 0) → (if 4611686018427387904 ≤ O then 4611686018427387904 else O + 1) = R) := fun i O h1 h2 h3 => rb_fin hR h1 h2 h3
      have HST : Hid (∀ i O : Nat, O = min (P.length * (K.length + 1) ^ i) 4611686018427387904 → O < 4611686018427387904 → min (O * (K.length + 1)) 4611686018427387904 = min (P.length * (K.length + 1) ^ (i + 1)) 4611686018427387904) := fun i O h1 h2 => rb_stepG h1 h2
      have HS0 : Hid (P.length = min (P.length * (K.length + 1) ^ 0) 4611686018427387904) := by show _ = _; rw [Nat.pow_zero, Nat.mul_one]; omega
      have HBB : Hid (Below w.heap.size w wr) := below_step HB2.out HB.out
      clear HB HA HA9 hR k1 ij
      go_wp2
      go_loopg [7, 8] (A + 1) (fun g out i wr => ∃ (j O : Nat), j + g = A + 1 ∧ i = .int .i64 (j : Int) ∧ out = .int .i64 (O : Int) ∧ O = min (P.length * (K.length + 1) ^ j) 4611686018427387904 ∧ O ≤ 4611686018427387904 ∧ Below w.heap.size w wr)
      case atStart => exact ⟨0, P.length, by omega, rfl, rfl, HS0.out, by omega, HBB.out⟩
      case round =>
        obtain ⟨j, O, hg, rfl, rfl, hO, hOb, hb⟩ := hrel
        have HO : Hid (O = min (P.length * (K.length + 1) ^ j) 4611686018427387904) := hO
        have HB : Hid (Below w.heap.size w wr) := hb
        clear hO hb
        by_cases hjA : j ≤ A
        · have k1 : (j : Int) ≤ (A : Int) := by omega
          by_cases hOM : O < 4611686018427387904
          · have k2 : (O : Int) < 4611686018427387904 := by omega
            by_cases hf : 0 < K.length
            · have k3 : (1 : Int) < (K.length : Int) + 1 := by omega
              by_cases hO0 : 0 < O
              · have k4 : (0 : Int) < (O : Int) := by omega
                have HTI : Hid (∀ Y : World, Calls Tryz.prog 42 #[.int .i64 (O : Int), .int .i64 ((K.length : Int) + 1)] Y fun e w' => e = .returned (.int .i64 (min (O * (K.length + 1)) 4611686018427387904 : Nat)) ∧ w' = Y) := fun Y => times_any O (K.length + 1) Y hOb
                have hnx := HST.out j O HO.out hOM
                obtain ⟨O2, hO2⟩ : ∃ O2, min (O * (K.length + 1)) 4611686018427387904 = O2 := ⟨_, rfl⟩
                have hO2b : O2 ≤ 4611686018427387904 := by rw [← hO2]; exact Nat.min_le_right _ _
                rw [hO2] at hnx HTI
                have HNX : Hid (O2 = min (P.length * (K.length + 1) ^ (j + 1)) 4611686018427387904) := hnx
                clear hO2 hnx
                go_wp2_with (go_at_call 42; refine (HTI.out _).mono ?_; rintro e w3 ⟨rfl, rfl⟩; clear HTI)
                go_roundg (gk - 1)
                case measure => omega
                case rel => exact ⟨j + 1, O2, by omega, by go_num, rfl, HNX.out, hO2b, HB.out⟩
              · have k4 : ¬ (0 : Int) < (O : Int) := by omega
                have HE := HFI.out j O HO.out (by omega) (Or.inr (Or.inr (Or.inr (by omega))))
                by_cases hfin : 4611686018427387904 ≤ O
                · have k9 : (4611686018427387904 : Int) ≤ (O : Int) := by omega
                  have HE2 : Hid (4611686018427387904 = R) := by rw [if_pos hfin] at HE; exact HE
                  clear HE hfin
                  go_wp2
                  go_ret
                  exact bpost_mk (by rw [HRR.out, ← HE2.out]) HR1.out HR2.out HB.out
                · have k9 : ¬ (4611686018427387904 : Int) ≤ (O : Int) := by omega
                  have HE2 : Hid (O + 1 = R) := by rw [if_neg hfin] at HE; exact HE
                  clear HE
                  go_wp2
                  go_ret
                  exact bpost_mk (by rw [HRR.out, ← HE2.out]) HR1.out HR2.out HB.out
            · have k3 : ¬ (1 : Int) < (K.length : Int) + 1 := by omega
              have HE := HFI.out j O HO.out (by omega) (Or.inr (Or.inr (Or.inl (by omega))))
              by_cases hfin : 4611686018427387904 ≤ O
              · have k9 : (4611686018427387904 : Int) ≤ (O : Int) := by omega
                have HE2 : Hid (4611686018427387904 = R) := by rw [if_pos hfin] at HE; exact HE
                clear HE hfin
                go_wp2
                go_ret
                exact bpost_mk (by rw [HRR.out, ← HE2.out]) HR1.out HR2.out HB.out
              · have k9 : ¬ (4611686018427387904 : Int) ≤ (O : Int) := by omega
                have HE2 : Hid (O + 1 = R) := by rw [if_neg hfin] at HE; exact HE
                clear HE
                go_wp2
                go_ret
                exact bpost_mk (by rw [HRR.out, ← HE2.out]) HR1.out HR2.out HB.out
          · have k2 : ¬ (O : Int) < 4611686018427387904 := by omega
            have HE := HFI.out j O HO.out (by omega) (Or.inr (Or.inl (by omega)))
            by_cases hfin : 4611686018427387904 ≤ O
            · have k9 : (4611686018427387904 : Int) ≤ (O : Int) := by omega
              have HE2 : Hid (4611686018427387904 = R) := by rw [if_pos hfin] at HE; exact HE
              clear HE hfin
              go_wp2
              go_ret
              exact bpost_mk (by rw [HRR.out, ← HE2.out]) HR1.out HR2.out HB.out
            · have k9 : ¬ (4611686018427387904 : Int) ≤ (O : Int) := by omega
              have HE2 : Hid (O + 1 = R) := by rw [if_neg hfin] at HE; exact HE
              clear HE
              go_wp2
              go_ret
              exact bpost_mk (by rw [HRR.out, ← HE2.out]) HR1.out HR2.out HB.out
        · have k1 : ¬ (j : Int) ≤ (A : Int) := by omega
          have HE := HFI.out j O HO.out (by omega) (Or.inl (by omega))
          by_cases hfin : 4611686018427387904 ≤ O
          · have k9 : (4611686018427387904 : Int) ≤ (O : Int) := by omega
            have HE2 : Hid (4611686018427387904 = R) := by rw [if_pos hfin] at HE; exact HE
            clear HE hfin
            go_wp2
            go_ret
            exact bpost_mk (by rw [HRR.out, ← HE2.out]) HR1.out HR2.out HB.out
          · have k9 : ¬ (4611686018427387904 : Int) ≤ (O : Int) := by omega
            have HE2 : Hid (O + 1 = R) := by rw [if_neg hfin] at HE; exact HE
            clear HE
            go_wp2
            go_ret
            exact bpost_mk (by rw [HRR.out, ← HE2.out]) HR1.out HR2.out HB.out
end Go.Proofs.YtdfgijdededolabGreatDoor
