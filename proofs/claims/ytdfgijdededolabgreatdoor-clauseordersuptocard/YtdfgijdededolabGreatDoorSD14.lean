/-
  ref's Set.
-/
import Derived.Test.YtdfgijdededolabGreatDoorOQ1
import Derived.Test.YtdfgijdededolabGreatDoorRQ1
namespace Go.Proofs.YtdfgijdededolabGreatDoor
open Go.RowKit

theorem CsP.one {X : World} {b : Nat} {d : Cm} (h : CBlk X b d.cs 41) (hok : d.ok X) : CsP X (.slice (some ⟨b, 0, none⟩) 1 1) [d] := by
  refine ⟨Or.inr ⟨⟨b, 0, none⟩, 1, rfl, Or.inr ⟨b, 0, rfl, h.lt, fun i c hc k u hu => ?_⟩⟩, fun c hc => by rw [List.mem_singleton] at hc; subst hc; exact hok⟩
  cases i with
  | zero =>
    cases hc
    rw [cell_of_row _ _ _ _ _ _ h]
    simpa [Cm.csl] using hu
  | succ i => simp at hc
theorem own5_any (c : Cm) (w : World) (hP : OKP w c) (hs : (Ck.terms c.key).length ≤ 4000000) :
    Calls Tryz.prog 58 #[c.v] w fun e w' => ∃ d : Cm, e = .returned d.v ∧ d.key = c.key ∧ d.ok w' ∧ Below w.heap.size w w' :=
  (own3_any c w hP hs).mono fun e w' ⟨d, he, hk, hm, hb⟩ => ⟨d, he, hk, by
    obtain ⟨s1, s2, s3, s4⟩ := cm_sizes (c := d) (by rw [hk]; exact hs)
    exact hm.ok (by omega) (by omega) (fun y hy => by have := s4 y hy; omega) (by omega), hb⟩
set_option maxRecDepth 20000 in
set_option maxHeartbeats 8000000 in
theorem rset_one (c : Cm) (v : Value) (w : World) (h : CsP w v [c]) (hp : OKP w c) (ht : (Ck.terms c.key).length ≤ 4000000) :
    Calls Tryz.prog 22 #[v] w fun e w' => ∃ v' o, e = .returned v' ∧ CsP w' v' o ∧ o.map Cm.key = [c.key] ∧ Below w.heap.size w w' := by
  have HOW : Hid (Calls Tryz.prog 58 #[c.v] w fun e w' => ∃ d : Cm, e = .returned d.v ∧ d.key = c.key ∧ d.ok w' ∧ Below w.heap.size w w') := own5_any c w hp ht
  have hsh := hp.ok.shape
  obtain ⟨va, vc, rfl⟩ := h.form
  obtain ⟨sb, so, rfl, hrw⟩ := h.get (j := 0) (c := c) rfl
  have hsv := hrw.seven (j := 0) (c := c) rfl
  simp only [Nat.zero_mul, Nat.add_zero] at hsv
  obtain ⟨KC, hKC⟩ : ∃ K, c.key = K := ⟨_, rfl⟩
  rw [hKC] at HOW ⊢
  clear h hp ht hrw hKC
  obtain ⟨⟨⟨⟨k, m, s⟩, nm, ls⟩, hx⟩, body, bv, tests, tv⟩ := c
  simp only at hsv hsh
  obtain ⟨⟨a1, a2, a3, e1⟩, ⟨b1, b3, e2⟩, ⟨t1, t3, e3⟩, -, -⟩ := hsh
  subst e1 e2 e3
  obtain ⟨c0, c1, c2, c3, c4, c5, c6⟩ := hsv
  go_enter Tryz.func22, Tryz.ntmps22
  go_wp2_with (go_at_call 58; refine HOW.out.mono ?_; rintro e w1 ⟨d, rfl, hdk, hkp, hb3⟩; obtain ⟨⟨d1, d2, d3, f1⟩, ⟨d4, d6, f2⟩, ⟨d7, d9, f3⟩, -, -⟩ := hkp.shape; have HDK : Hid (d.key = KC) := hdk; have HKD : Hid (d.ok w1) := hkp; have HB3 : Hid (Below w.heap.size w w1) := hb3; have HG : Hid (CBlk (w1.alloc (.cells d.cs 41)) w1.heap.size d.cs 41) := CBlk.new _ _ _; clear hdk hkp hb3; obtain ⟨⟨⟨⟨dk, dm, ds⟩, dn, dl⟩, dv⟩, db, dbv, dt, dtv⟩ := d; simp only at f1 f2 f3; subst f1 f2 f3)
  go_ret
  exact ⟨_, [_], rfl, CsP.one HG.out (HKD.out.later (below1 _ _)), by rw [List.map_singleton, HDK.out], below_step HB3.out (below1 _ _)⟩
end Go.Proofs.YtdfgijdededolabGreatDoor
