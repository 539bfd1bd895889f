import Derived.Test.YtechceagghcipaaGreatDoorEK4
import Derived.Deep.CutBlock
import Derived.Deep.CutRange
namespace Go.Proofs.YtechceagghcipaaGreatDoor
open Go.RowKit
attribute [local go_sem ↓] Go.wp_at_zero Go.wp_at_succ
set_option maxRecDepth 20000 in
set_option maxHeartbeats 8000000 in
theorem does8_6 (w : World) (A B : Nat -> Prop) (b r M T : Nat) (R : List It8) (Y : World) (fr to_ n : Int) (two : Bool) (fk fn : Int) (fs fnm : ByteArray) (fl : List Tm) (xa : Option Addr) (xc : Nat) (H0 : DO8 w A B b r M T R Y) (hx : TsP w (.slice xa fl.length xc) fl) (hk : ∀ t ∈ (⟨⟨fk, fn, fs⟩, fnm, fl⟩ : At).pl, KeyT t) (hkp : KeyP (⟨⟨fk, fn, fs⟩, fnm, fl⟩ : At).pd8) (hB : BehA w) (hM : M <= 5000000000000) (hT : T + (⟨⟨fk, fn, fs⟩, fnm, fl⟩ : At).pl.length <= 100000000) (hZ : sz8 (Ei R) <= 1048576) (hfl : (⟨⟨fk, fn, fs⟩, fnm, fl⟩ : At).pl.length <= 1048576) :
  Calls Tryz.prog 48 #[.pointer (some ⟨b, 0, none⟩), .pointer (some ⟨r, 0, none⟩), .agg #[.int .i64 6, .int .i64 fk, .int .i64 fn, .string fs, .string fnm, .slice xa fl.length xc, .int .i64 n, .bool two], .int .i64 fr, .int .i64 to_] Y (DoQ w A B b r M T R (⟨⟨fk, fn, fs⟩, fnm, fl⟩ : At) Y) := by
 have H := hm7 H0
 have HX := hm7 hx
 have HK := hm7 (And.intro hk hkp)
 have HBH := hm7 hB
 have HN := hm7 (And.intro hM (And.intro hT (And.intro hZ hfl)))
 have hfl2 : fl.length <= 1048576 := by simp [At.pl] at hfl; omega
 have HFL := hm7 hfl2
 have HRL : Hid (R.length <= 1048576) := by have h1 := sz8_len (Ei R); rw [Ei_len] at h1; show _ <= _; omega
 obtain ⟨Y0, hY0⟩ : ∃ Y0, Y.alloc (.cells #[.int .i64 6, .int .i64 fk, .int .i64 fn, .string fs, .string fnm, .slice xa fl.length xc, .int .i64 n, .bool two] 48) = Y0 := ⟨_, rfl⟩
 have hb0 : Below Y.heap.size Y Y0 := by rw [<- hY0]; exact below1 _ _
 have hz0 : Y0.heap.size = Y.heap.size + 1 := by rw [<- hY0]; simp
 have HBO : Hid (Bk Y0 Y.heap.size #[.int .i64 6, .int .i64 fk, .int .i64 fn, .string fs, .string fnm, .slice xa fl.length xc, .int .i64 n, .bool two] 48) := by show Bk _ _ _ _; rw [<- hY0]; exact Bk.new _ _ _
 have HB0 := hm7 hb0
 have hwY : Below w.heap.size w Y := H0.p.bl
 have HWY := hm7 hwY
 have HLE := hm7 (lendA8_any (⟨⟨fk, fn, fs⟩, fnm, fl⟩ : At) (.slice xa fl.length xc) Y0 ((hx.later hwY).later hb0) (by simp only; omega) ((hB.later hwY).later hb0))
 have HLC : Hid (Calls Tryz.prog 7 #[.agg #[.int .i64 fk, .int .i64 fn, .string fs, .string fnm, .slice xa fl.length xc]] Y0 fun e w' => ∃ u, e = .returned ((⟨⟨fk, fn, fs⟩, fnm, fl⟩ : At).v u) /\ LentT w' Y0.heap.size u fl /\ Below Y0.heap.size Y0 w') := HLE.out
 have c0 := HBO.out.cell (i := 0) rfl
 have c1 := HBO.out.cell (i := 1) rfl
 have c2 := HBO.out.cell (i := 2) rfl
 have c3 := HBO.out.cell (i := 3) rfl
 have c4 := HBO.out.cell (i := 4) rfl
 have c5 := HBO.out.cell (i := 5) rfl
 clear H0 hx hk hkp hB hM hT hZ hfl hfl2 hb0 hwY HLE
 go_enter Tryz.func48, Tryz.ntmps48
 go_upto_region 1 with fail
 first | rw [hY0] | skip
 go_cut [11] from 18 to 27 (fun s11 wx => ∃ hh, s11 = .bool hh /\ wx = Y0)
 case first =>
  go_wp2
  all_goals go_meet
  all_goals (case rel => exact ⟨_, rfl, rfl⟩)
 case rest =>
  obtain ⟨hh, rfl, rfl⟩ := hcut
  go_upto_region 3 with (go_at_call 7; refine HLC.out.mono ?_; rintro e W1 ⟨u, rfl, hl1, hb1⟩; have HL1 := hm7 hl1; have HB1 := hm7 hb1; have hz1 := hb1.size; obtain ⟨ug, uc, hu, -⟩ := hl1; obtain ⟨ua, hua⟩ : ∃ ua : Option Addr, ua = some ⟨ug, 0, none⟩ := ⟨_, rfl⟩; rw [<- hua] at hu; subst hu; have fG := Bk.new W1 #[.int .i64 0, .int .i64 0, .string ⟨#[]⟩, .string ⟨#[]⟩, .slice none 0 0] 27; obtain ⟨⟨q0, q1, q2, q3, q4⟩, f0, f1, f2, f3, f4⟩ := fiveF fG; have HFG := hm7 fG; clear hb1 fG hua c0 c1 c2 c3 c4 c5 HLC)
  obtain ⟨W3, hW3⟩ : ∃ W3, W1.alloc (.cells #[.int .i64 fk, .int .i64 fn, .string fs, .string fnm, .slice ua fl.length uc] 27) = W3 := ⟨_, rfl⟩
  rw [hW3]
  have hb13 : Below W1.heap.size W1 W3 := by rw [<- hW3]; exact below1 _ _
  have hb3 : Below Y.heap.size Y W3 := HB0.out.trans ((HB1.out.trans (hb13.mono HB1.out.size)).mono HB0.out.size)
  have HB3 := hm7 hb3
  have HM : Hid (DM8 w Y #[.int .i64 6, .int .i64 fk, .int .i64 fn, .string fs, .string fnm, .slice xa fl.length xc, .int .i64 n, .bool two] #[.int .i64 fk, .int .i64 fn, .string fs, .string fnm, .slice ua fl.length uc] (.slice ua fl.length uc) fl W1.heap.size W3) := ⟨(HBO.out.below HB1.out).below hb13, by rw [<- hW3]; exact Bk.new _ _ _, by omega, (HL1.out.later hb13).mono (by omega), HWY.out.trans (hb3.mono HWY.out.size)⟩
  have HO3 := hm7 (H.out.below hb3)
  have hz3 := hb3.size
  obtain ⟨G, hG⟩ : ∃ G, G = W1.heap.size := ⟨_, rfl⟩
  rw [<- hG] at HM ⊢
  clear hb13 hb3 hW3 HL1 HB1 HBO hG HB0 HWY hz0 hz1
  have HLA : Hid (∀ x, A x -> w.heap.size <= x /\ x < Y.heap.size) := fun x hx => H.out.lt (Or.inl hx)
  have HLB : Hid (∀ x, B x -> w.heap.size <= x /\ x < Y.heap.size) := fun x hx => H.out.lt (Or.inr hx)
  have k0 := HM.out.bo.cell (i := 0) rfl
  have HPL : Hid (∀ l : List Pd, l.Nodup -> (∀ p, p ∈ l ↔ ∃ x ∈ Ei R, x.1.pd8 = p) -> l.length <= 1000000000) := fun l hn hm => by
   have h1 : l.length <= ((Ei R).map fun x => x.1.pd8).length := nodup_len8 _ _ hn fun p hp => by
    obtain ⟨x, hx, e⟩ := (hm p).1 hp
    exact List.mem_map.2 ⟨x, hx, e⟩
   rw [List.length_map, Ei_len] at h1
   have := HRL.out
   omega
  have HP2 : Hid (∀ Z1, DO8 w A B b r M T R Z1 -> Calls Tryz.prog 78 #[.pointer (some ⟨r, 0, none⟩)] Z1 (PW8 (Ei R) Z1)) := fun Z1 hz => by
   obtain ⟨lv, hq⟩ := hz.q
   exact rbpreds8_any w B r lv R Z1 hq hz.so (by have := HRL.out; omega)
  go_upto_region 21 with (first
   | (go_at_call 18; refine (bp_preds HO3.out.p (by rw [Ei_len]; have := HRL.out; omega)).mono ?_; rintro e Z1 ⟨v1, l1, rfl, p1, p2, p3, p4, hb1⟩; have HPO := hm7 p1; have HPF := hm7 (And.intro p2 (And.intro p3 p4)); have HBZ1 := hm7 hb1; have HO1 := hm7 (HO3.out.below hb1); obtain ⟨ra, rc, hrv⟩ := p1.tsP.form; subst hrv; clear p1 p2 p3 p4 hb1)
   | (go_at_call 78; refine (HP2.out _ HO1.out).mono ?_; rintro e Z2 ⟨v2, l2, rfl, p1, p2, p3, p4, hb2⟩; obtain rfl : l1 = l2 := srt8P_eq HPF.out.2.1 p3 HPF.out.1 p2 (fun p => (HPF.out.2.2 p).trans (p4 p).symm); have HPO2 := hm7 p1; have HPO1 := hm7 (HPO.out.later hb2); have HBZ2 := hm7 (HBZ1.out.trans (hb2.mono HBZ1.out.size)); obtain ⟨sa, sc, hsv⟩ := p1.tsP.form; subst hsv; clear p1 p2 p3 p4 hb2)
   | (go_at_call 20; refine (lpreds8_yes l1 _ _ Z2 HPO1.out.tsP HPO2.out.tsP (HPL.out l1 HPF.out.1 HPF.out.2.2)).mono ?_; rintro e Z3 ⟨rfl, hb3⟩; have HEN := hm7 (HO3.out.look (HBZ2.out.trans (hb3.mono HBZ2.out.size))); have HMZ := hm7 ((HM.out.below HBZ2.out).below hb3); clear hb3))
  obtain ⟨⟨g0, g1⟩, g2, g3, g4⟩ := five8 HMZ.out.bf
  have c1 := HMZ.out.bo.cell (i := 1) rfl
  have c2 := HMZ.out.bo.cell (i := 2) rfl
  have c3 := HMZ.out.bo.cell (i := 3) rfl
  have c4 := HMZ.out.bo.cell (i := 4) rfl
  have c5 := HMZ.out.bo.cell (i := 5) rfl
  have HKC : Hid (Calls Tryz.prog 9 #[.agg #[.int .i64 fk, .int .i64 fn, .string fs, .string fnm, .slice ua fl.length uc], .agg #[.int .i64 fk, .int .i64 fn, .string fs, .string fnm, .slice xa fl.length xc]] Z3 fun e w' => e = .returned (.bool true) /\ Below Z3.heap.size Z3 w') := keptA8_any (⟨⟨fk, fn, fs⟩, fnm, fl⟩ : At) (.slice ua fl.length uc) (.slice xa fl.length xc) Y.heap.size Z3 ((HX.out.later HMZ.out.bl).ts (by have := HFL.out; omega)) HMZ.out.lt (HBH.out.later HMZ.out.bl)
  go_wp2_with (go_at_call 9; refine HKC.out.mono ?_; rintro e ZE ⟨rfl, hbe⟩; have HBE := hm7 hbe; clear hbe)
  go_ret
  exact HEN.out.doq HB3.out HBE.out (by have := HN.out; have := HRL.out; omega) (by have := HN.out; omega) (by have := HN.out; omega)
end Go.Proofs.YtechceagghcipaaGreatDoor
