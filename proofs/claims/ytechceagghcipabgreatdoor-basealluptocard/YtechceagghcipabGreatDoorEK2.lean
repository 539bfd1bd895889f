import Derived.Test.YtechceagghcipabGreatDoorRA2
import Derived.Test.YtechceagghcipabGreatDoorEK4
import Derived.Deep.CutBlock
import Derived.Deep.CutRange
namespace Go.Proofs.YtechceagghcipabGreatDoor
open Go.RowKit
attribute [local go_sem ↓] Go.wp_at_zero Go.wp_at_succ
set_option maxRecDepth 20000 in
set_option maxHeartbeats 8000000 in
theorem does8_any (w : World) (A B : Nat -> Prop) (b r M T : Nat) (R : List It8) (Y : World) (kk fr to_ n : Int) (two : Bool) (fk fn : Int) (fs fnm : ByteArray) (fl : List Tm) (xa : Option Addr) (xc : Nat) (H0 : DO8 w A B b r M T R Y) (hx : TsP w (.slice xa fl.length xc) fl) (hk : ∀ t ∈ (⟨⟨fk, fn, fs⟩, fnm, fl⟩ : At).pl, KeyT t) (hkp : KeyP (⟨⟨fk, fn, fs⟩, fnm, fl⟩ : At).pd8) (hB : BehA w) (hM : M <= 5000000000000) (hT : T + (⟨⟨fk, fn, fs⟩, fnm, fl⟩ : At).pl.length <= 100000000) (hZ : sz8 (Ei R) <= 1048576) (hfl : (⟨⟨fk, fn, fs⟩, fnm, fl⟩ : At).pl.length <= 1048576) :
  Calls Tryz.prog 8 #[.pointer (some ⟨b, 0, none⟩), .pointer (some ⟨r, 0, none⟩), .agg #[.int .i64 kk, .int .i64 fk, .int .i64 fn, .string fs, .string fnm, .slice xa fl.length xc, .int .i64 n, .bool two], .int .i64 fr, .int .i64 to_] Y (DoQ w A B b r M T R (⟨⟨fk, fn, fs⟩, fnm, fl⟩ : At) Y) := by
 have H := hm7 H0
 have HX := hm7 hx
 have HK := hm7 (And.intro hk hkp)
 have HBH := hm7 hB
 have HN := hm7 (And.intro hM (And.intro hT (And.intro hZ hfl)))
 have hfl2 : fl.length <= 1048576 := by simp [At.pl] at hfl; omega
 have HFL := hm7 hfl2
 have HRL : Hid (R.length <= 1048576) := by have h1 := sz8_len (Ei R); rw [Ei_len] at h1; show _ <= _; omega
 obtain ⟨Y0, hY0⟩ : ∃ Y0, Y.alloc (.cells #[.int .i64 kk, .int .i64 fk, .int .i64 fn, .string fs, .string fnm, .slice xa fl.length xc, .int .i64 n, .bool two] 35) = Y0 := ⟨_, rfl⟩
 have hb0 : Below Y.heap.size Y Y0 := by rw [<- hY0]; exact below1 _ _
 have hz0 : Y0.heap.size = Y.heap.size + 1 := by rw [<- hY0]; simp
 have HBO : Hid (Bk Y0 Y.heap.size #[.int .i64 kk, .int .i64 fk, .int .i64 fn, .string fs, .string fnm, .slice xa fl.length xc, .int .i64 n, .bool two] 35) := by show Bk _ _ _ _; rw [<- hY0]; exact Bk.new _ _ _
 have HB0 := hm7 hb0
 have hwY : Below w.heap.size w Y := H0.p.bl
 have HWY := hm7 hwY
 have HLE := hm7 (lendA8_any (⟨⟨fk, fn, fs⟩, fnm, fl⟩ : At) (.slice xa fl.length xc) Y0 ((hx.later hwY).later hb0) (by simp only; omega) ((hB.later hwY).later hb0))
 have HLC : Hid (Calls Tryz.prog 11 #[.agg #[.int .i64 fk, .int .i64 fn, .string fs, .string fnm, .slice xa fl.length xc]] Y0 fun e w' => ∃ u, e = .returned ((⟨⟨fk, fn, fs⟩, fnm, fl⟩ : At).v u) /\ LentT w' Y0.heap.size u fl /\ Below Y0.heap.size Y0 w') := HLE.out
 have c0 := HBO.out.cell (i := 0) rfl
 have c1 := HBO.out.cell (i := 1) rfl
 have c2 := HBO.out.cell (i := 2) rfl
 have c3 := HBO.out.cell (i := 3) rfl
 have c4 := HBO.out.cell (i := 4) rfl
 have c5 := HBO.out.cell (i := 5) rfl
 clear H0 hx hk hkp hB hM hT hZ hfl hfl2 hb0 hwY HLE
 go_enter Tryz.func8, Tryz.ntmps8
 go_upto_region 1 with fail
 first | rw [hY0] | skip
 go_cut [11] from 18 to 27 (fun s11 wx => ∃ hh, s11 = .bool hh /\ wx = Y0)
 case first =>
  go_wp2
  all_goals go_meet
  all_goals (case rel => exact ⟨_, rfl, rfl⟩)
 case rest =>
  obtain ⟨hh, rfl, rfl⟩ := hcut
  go_upto_region 3 with (go_at_call 11; refine HLC.out.mono ?_; rintro e W1 ⟨u, rfl, hl1, hb1⟩; have HL1 := hm7 hl1; have HB1 := hm7 hb1; have hz1 := hb1.size; obtain ⟨ug, uc, hu, -⟩ := hl1; obtain ⟨ua, hua⟩ : ∃ ua : Option Addr, ua = some ⟨ug, 0, none⟩ := ⟨_, rfl⟩; rw [<- hua] at hu; subst hu; have fG := Bk.new W1 #[.int .i64 0, .int .i64 0, .string ⟨#[]⟩, .string ⟨#[]⟩, .slice none 0 0] 33; obtain ⟨⟨q0, q1, q2, q3, q4⟩, f0, f1, f2, f3, f4⟩ := fiveF fG; have HFG := hm7 fG; clear hb1 fG hua c0 c1 c2 c3 c4 c5 HLC)
  obtain ⟨W3, hW3⟩ : ∃ W3, W1.alloc (.cells #[.int .i64 fk, .int .i64 fn, .string fs, .string fnm, .slice ua fl.length uc] 33) = W3 := ⟨_, rfl⟩
  rw [hW3]
  have hb13 : Below W1.heap.size W1 W3 := by rw [<- hW3]; exact below1 _ _
  have hb3 : Below Y.heap.size Y W3 := HB0.out.trans ((HB1.out.trans (hb13.mono HB1.out.size)).mono HB0.out.size)
  have HB3 := hm7 hb3
  have HM : Hid (DM8 w Y #[.int .i64 kk, .int .i64 fk, .int .i64 fn, .string fs, .string fnm, .slice xa fl.length xc, .int .i64 n, .bool two] #[.int .i64 fk, .int .i64 fn, .string fs, .string fnm, .slice ua fl.length uc] (.slice ua fl.length uc) fl W1.heap.size W3) := ⟨(HBO.out.below HB1.out).below hb13, by rw [<- hW3]; exact Bk.new _ _ _, by omega, (HL1.out.later hb13).mono (by omega), HWY.out.trans (hb3.mono HWY.out.size)⟩
  have HO3 := hm7 (H.out.below hb3)
  have hz3 := hb3.size
  obtain ⟨G, hG⟩ : ∃ G, G = W1.heap.size := ⟨_, rfl⟩
  rw [<- hG] at HM ⊢
  clear hb13 hb3 hW3 HL1 HB1 HBO hG HB0 HWY hz0 hz1
  have HLA : Hid (∀ x, A x -> w.heap.size <= x /\ x < Y.heap.size) := fun x hx => H.out.lt (Or.inl hx)
  have HLB : Hid (∀ x, B x -> w.heap.size <= x /\ x < Y.heap.size) := fun x hx => H.out.lt (Or.inr hx)
  have k0 := HM.out.bo.cell (i := 0) rfl
  go_upto_block 0 with fail
  go_cut [13] from 31 to 115 (fun s13 wx => s13 = .bool true /\ DM8 w Y #[.int .i64 kk, .int .i64 fk, .int .i64 fn, .string fs, .string fnm, .slice xa fl.length xc, .int .i64 n, .bool two] #[.int .i64 fk, .int .i64 fn, .string fs, .string fnm, .slice ua fl.length uc] (.slice ua fl.length uc) fl G wx /\ ∃ W' M' T' R', EN8 w A B b r M' T' R' W' wx /\ Below Y.heap.size Y W' /\ M' <= M + 1048577 /\ T' <= T + (⟨⟨fk, fn, fs⟩, fnm, fl⟩ : At).pl.length /\ sz8 (Ei R') <= sz8 (Ei R) + (⟨⟨fk, fn, fs⟩, fnm, fl⟩ : At).pl.length)
  case first =>
   by_cases h1 : kk = 1
   ·subst h1
    cases hfa : (⟨⟨fk, fn, fs⟩, fnm, fl⟩ : At).fact with
    | true =>
     obtain ⟨d, hd⟩ : ∃ d, decide ((⟨⟨fk, fn, fs⟩, fnm, fl⟩ : At) ∉ (Ei R).map Prod.fst) = d := ⟨_, rfl⟩
     have HA1 : Hid (Calls Tryz.prog 12 #[.pointer (some ⟨b, 0, none⟩), .agg #[.int .i64 fk, .int .i64 fn, .string fs, .string fnm, .slice ua fl.length uc]] W3 fun e Z1 => e = .returned (.tuple #[.bool d, .int .i64 0]) /\ MI8 w A B b r M (T + (⟨⟨fk, fn, fs⟩, fnm, fl⟩ : At).pl.length) (aE8 (Ei R) (⟨⟨fk, fn, fs⟩, fnm, fl⟩ : At)) R W3 Z1) := by
      have := dadd1 HO3.out HRL.out (⟨⟨fk, fn, fs⟩, fnm, fl⟩ : At) (.slice ua fl.length uc) (HM.out.lt.tsP (by have := HFL.out; omega)) hfa HK.out.1 HK.out.2 HN.out.2.2.2 HN.out.2.1
      rw [hd] at this
      exact this
     have HA2 : Hid (∀ Z1, MI8 w A B b r M (T + (⟨⟨fk, fn, fs⟩, fnm, fl⟩ : At).pl.length) (aE8 (Ei R) (⟨⟨fk, fn, fs⟩, fnm, fl⟩ : At)) R W3 Z1 -> TsP Z1 (.slice xa fl.length xc) fl -> Calls Tryz.prog 13 #[.pointer (some ⟨r, 0, none⟩), .agg #[.int .i64 fk, .int .i64 fn, .string fs, .string fnm, .slice xa fl.length xc]] Z1 fun e Z2 => e = .returned (.tuple #[.bool d, .int .i64 0]) /\ (∃ R', EN8 w A B b r M (T + (⟨⟨fk, fn, fs⟩, fnm, fl⟩ : At).pl.length) R' W3 Z2 /\ sz8 (Ei R') <= sz8 (Ei R) + (⟨⟨fk, fn, fs⟩, fnm, fl⟩ : At).pl.length) /\ Fr B Z1 Z2) := fun Z1 hm hx => by
      have := dadd2 HO3.out HRL.out (⟨⟨fk, fn, fs⟩, fnm, fl⟩ : At) hm (.slice xa fl.length xc) hx hfa HK.out.1 HK.out.2 HN.out.2.2.2
      rw [hd] at this
      exact this
     obtain ⟨⟨g0, g1⟩, g2, g3, g4⟩ := five8 HM.out.bf
     clear hd hfa
     go_wp2_with (first
      | (go_at_call 12; refine HA1.out.mono ?_; rintro e Z1 ⟨rfl, hm⟩; have HMI := hm7 hm; have HM1 := hm7 (HM.out.fr hm.f HLA.out); have c1 := HM1.out.bo.cell (i := 1) rfl; have c2 := HM1.out.bo.cell (i := 2) rfl; have c3 := HM1.out.bo.cell (i := 3) rfl; have c4 := HM1.out.bo.cell (i := 4) rfl; have c5 := HM1.out.bo.cell (i := 5) rfl; clear hm g0 g1 g2 g3 g4)
      | (go_at_call 13; refine (HA2.out _ HMI.out (HX.out.later HM1.out.bl)).mono ?_; rintro e Z2 ⟨rfl, ⟨R', hen, hsz⟩, hf2⟩; have HEN := hm7 hen; have HSZ := hm7 hsz; have HMZ := hm7 (HM1.out.fr hf2 HLB.out); clear hen hf2 hsz c1 c2 c3 c4 c5))
     go_meet
     case rel => exact ⟨rfl, HMZ.out, _, _, _, _, HEN.out, HB3.out, by omega, by omega, HSZ.out⟩
    | false =>
     have HA1 : Hid (Calls Tryz.prog 12 #[.pointer (some ⟨b, 0, none⟩), .agg #[.int .i64 fk, .int .i64 fn, .string fs, .string fnm, .slice ua fl.length uc]] W3 fun e Z1 => e = .returned (.tuple #[.bool false, .int .i64 81]) /\ Below W3.heap.size W3 Z1) := badd8_no (⟨⟨fk, fn, fs⟩, fnm, fl⟩ : At) (.slice ua fl.length uc) b W3 (HM.out.lt.tsP (by have := HFL.out; omega)) (by have := HFL.out; simp only; omega) hfa
     have HA2 : Hid (∀ Z1, TsP Z1 (.slice xa fl.length xc) fl -> Calls Tryz.prog 13 #[.pointer (some ⟨r, 0, none⟩), .agg #[.int .i64 fk, .int .i64 fn, .string fs, .string fnm, .slice xa fl.length xc]] Z1 fun e Z2 => e = .returned (.tuple #[.bool false, .int .i64 81]) /\ Below Z1.heap.size Z1 Z2) := fun Z1 hx => rbadd8_no (⟨⟨fk, fn, fs⟩, fnm, fl⟩ : At) (.slice xa fl.length xc) r Z1 hx (by have := HFL.out; simp only; omega) hfa
     obtain ⟨⟨g0, g1⟩, g2, g3, g4⟩ := five8 HM.out.bf
     clear hfa
     go_wp2_with (first
      | (go_at_call 12; refine HA1.out.mono ?_; rintro e Z1 ⟨rfl, hb1⟩; have HBZ1 := hm7 hb1; have HM1 := hm7 (HM.out.below hb1); have c1 := HM1.out.bo.cell (i := 1) rfl; have c2 := HM1.out.bo.cell (i := 2) rfl; have c3 := HM1.out.bo.cell (i := 3) rfl; have c4 := HM1.out.bo.cell (i := 4) rfl; have c5 := HM1.out.bo.cell (i := 5) rfl; clear hb1 g0 g1 g2 g3 g4)
      | (go_at_call 13; refine (HA2.out _ (HX.out.later HM1.out.bl)).mono ?_; rintro e Z2 ⟨rfl, hb2⟩; have HEN := hm7 (HO3.out.look (HBZ1.out.trans (hb2.mono HBZ1.out.size))); have HMZ := hm7 (HM1.out.below hb2); clear hb2 c1 c2 c3 c4 c5))
     go_meet
     case rel => exact ⟨rfl, HMZ.out, _, _, _, _, HEN.out, HB3.out, by have := HN.out; have := HRL.out; omega, by have := HN.out; omega, by have := HN.out; omega⟩
   by_cases h2 : kk = 2
   ·subst h2
    go_wp2_with (first
     | (go_at_call 14; refine (dturn1 HO3.out HRL.out).mono ?_; rintro e Z1 ⟨rfl, hm⟩; have HMI := hm7 hm; have HM1 := hm7 (HM.out.fr hm.f HLA.out); clear hm)
     | (go_at_call 15; refine (dturn2 HO3.out HMI.out HRL.out).mono ?_; rintro e Z2 ⟨rfl, hen, hf2⟩; have HEN := hm7 hen; have HMZ := hm7 (HM1.out.fr hf2 HLB.out); clear hen hf2))
    have HTZ : Hid (sz8 (Ei (R.map tI8)) = sz8 (Ei R)) := by show _ = _; rw [<- Ei_turn]; exact sz8_map _ _
    go_meet
    case rel => exact ⟨rfl, HMZ.out, _, _, _, _, HEN.out, HB3.out, by have := HN.out; have := HRL.out; omega, by have := HN.out; omega, by rw [HTZ.out]; omega⟩
   by_cases h3 : kk = 3
   ·subst h3
    have HP1 : Hid (∀ Z, DO8 w A B b r M T R Z -> TsP Z (.slice ua fl.length uc) fl -> Calls Tryz.prog 16 #[.pointer (some ⟨b, 0, none⟩), .agg #[.int .i64 fk, .int .i64 fn, .string fs, .string fnm, .slice ua fl.length uc]] Z fun e Z1 => ∃ q : Int, (∀ q', ((⟨⟨fk, fn, fs⟩, fnm, fl⟩ : At), q') ∈ Ei R ↔ q' ≠ 0 /\ q = q') /\ e = .returned (.int .i64 q) /\ Below Z.heap.size Z Z1) := fun Z hz hx => bp_part hz.p (⟨⟨fk, fn, fs⟩, fnm, fl⟩ : At) (.slice ua fl.length uc) hx HK.out.1 HK.out.2 (by have := HN.out; omega)
    have HP2 : Hid (∀ Z, DO8 w A B b r M T R Z -> TsP Z (.slice xa fl.length xc) fl -> Calls Tryz.prog 17 #[.pointer (some ⟨r, 0, none⟩), .agg #[.int .i64 fk, .int .i64 fn, .string fs, .string fnm, .slice xa fl.length xc]] Z fun e Z1 => ∃ q, pt8 R (⟨⟨fk, fn, fs⟩, fnm, fl⟩ : At) q /\ e = .returned (.int .i64 q) /\ Below Z.heap.size Z Z1) := fun Z hz hx => by
     obtain ⟨lv, hq⟩ := hz.q
     exact rbpart8_any w B r lv R (⟨⟨fk, fn, fs⟩, fnm, fl⟩ : At) (.slice xa fl.length xc) Z hq (hx.ts (by have := HFL.out; omega)) (Sz8.of HK.out.1 HK.out.2) hz.kd (by have := HRL.out; omega)
    go_upto_region 12 with fail
    clear k0
    refine wp_region_held_drew (S := fun w' => DM8 w Y #[.int .i64 3, .int .i64 fk, .int .i64 fn, .string fs, .string fnm, .slice xa fl.length xc, .int .i64 n, .bool two] #[.int .i64 fk, .int .i64 fn, .string fs, .string fnm, .slice ua fl.length uc] (.slice ua fl.length uc) fl G w') (by kernel_rfl) (by exact HM.out.below (Below.refl _ _).drew) (fun hH => ?_)
    have HOV := hm7 (HO3.out.below (Below.refl _ _).drew)
    have HBV := hm7 (HB3.out.trans ((Below.refl _ _).drew.mono HB3.out.size))
    revert hH HOV HBV
    generalize W3.drew = V
    intro hH HOV HBV
    refine wTl 0 (.pointer (some ⟨b, 0, none⟩)) rfl (by kernel_rfl) (fun _ _ _ h => h) rfl (fun w' h => by clear h; go_simp) hH ?_
    simp only [wA, wB, wC, wD]
    refine wTl 1 (.agg #[.int .i64 fk, .int .i64 fn, .string fs, .string fnm, .slice ua fl.length uc]) rfl (by kernel_rfl) (fun _ _ _ h => h) rfl (fun w' h => by obtain ⟨⟨o0, o1⟩, o2, o3, o4⟩ := five8 h.bf; clear h; go_simp) hH ?_
    simp only [wA, wB, wC, wD]
    refine wTl 3 (.pointer (some ⟨r, 0, none⟩)) rfl (by kernel_rfl) (fun _ _ _ h => h) rfl (fun w' h => by clear h; go_simp) hH ?_
    simp only [wA, wB, wC, wD]
    refine wTl 4 (.pointer (some ⟨Y.heap.size, 1, none⟩)) rfl (by kernel_rfl) (fun _ _ _ h => h) rfl (fun w' h => by clear h; go_simp) hH ?_
    simp only [wA, wB, wC, wD]
    refine wTl 5 (.agg #[.int .i64 fk, .int .i64 fn, .string fs, .string fnm, .slice xa fl.length xc]) rfl (by kernel_rfl) (fun _ _ _ h => h) rfl (fun w' h => by have o1 := h.bo.cell (i := 1) rfl; have o2 := h.bo.cell (i := 2) rfl; have o3 := h.bo.cell (i := 3) rfl; have o4 := h.bo.cell (i := 4) rfl; have o5 := h.bo.cell (i := 5) rfl; clear h; go_simp) hH ?_
    simp only [wA, wB, wC, wD]
    refine wRd 2 (by kernel_rfl) rfl (fun K hK => ?_)
    go_simp
    refine (HP1.out _ HOV.out (hH.lt.tsP (by have := HFL.out; omega))).mono ?_
    rintro e Z1 ⟨q, hq, rfl, hb1⟩
    have HO1 := hm7 (HOV.out.below hb1)
    have HB1 := hm7 hb1
    refine hK.out _ _ (hH.below hb1) (fun hH => ?_)
    clear hK
    refine wRd 6 (by kernel_rfl) rfl (fun K hK => ?_)
    go_simp
    refine (HP2.out _ HO1.out (HX.out.later hH.bl)).mono ?_
    rintro e Z2 ⟨q', hq', rfl, hb2⟩
    obtain rfl := pt8_eq hq hq'
    have HB2 := hm7 (HB1.out.trans (hb2.mono HB1.out.size))
    refine hK.out _ _ (hH.below hb2) (fun hH => ?_)
    clear hK
    try simp only [wA, wB, wC, wD]
    refine wTl 7 (.bool true) rfl (by kernel_rfl) (fun _ _ _ h => h) rfl (fun w' h => by clear h; go_simp) hH ?_
    simp only [wA, wB, wC, wD]
    refine wTl 8 (.bool true) rfl (by kernel_rfl) (fun _ _ _ h => h) rfl (fun w' h => by clear h; go_simp) hH ?_
    simp only [wA, wB, wC, wD]
    refine wpAnyH_done (by kernel_rfl) ?_ _
    have HMZ := hm7 hH
    have HEN := hm7 (HOV.out.look HB2.out)
    clear hH hq hq'
    go_wp2
    go_meet
    case rel => exact ⟨rfl, HMZ.out, _, _, _, _, HEN.out, HBV.out, by have := HN.out; have := HRL.out; omega, by have := HN.out; omega, by have := HN.out; omega⟩
   by_cases h4 : kk = 4
   ·subst h4
    obtain ⟨ct, hct⟩ : ∃ ct : Int, ((((Ei R).filter fun x => hp7 n x.2).length : Nat) : Int) = ct := ⟨_, rfl⟩
    have HP1 : Hid (∀ Z, DO8 w A B b r M T R Z -> Calls Tryz.prog 18 #[.pointer (some ⟨b, 0, none⟩), .int .i64 n] Z fun e Z1 => e = .returned (.int .i64 ct) /\ Below Z.heap.size Z Z1) := fun Z hz => by rw [<- hct]; exact bp_len hz.p n (by rw [Ei_len]; have := HRL.out; omega)
    have HP2 : Hid (∀ Z, DO8 w A B b r M T R Z -> Calls Tryz.prog 19 #[.pointer (some ⟨r, 0, none⟩), .int .i64 n] Z fun e Z1 => e = .returned (.int .i64 ct) /\ Below Z.heap.size Z Z1) := fun Z hz => by
     obtain ⟨lv, hq⟩ := hz.q
     rw [<- hct]
     exact rblen8_any w B r lv R n Z hq (by have := HRL.out; omega)
    clear hct
    go_upto_region 14 with fail
    clear k0
    refine wp_region_held_drew (S := fun w' => DM8 w Y #[.int .i64 4, .int .i64 fk, .int .i64 fn, .string fs, .string fnm, .slice xa fl.length xc, .int .i64 n, .bool two] #[.int .i64 fk, .int .i64 fn, .string fs, .string fnm, .slice ua fl.length uc] (.slice ua fl.length uc) fl G w') (by kernel_rfl) (by exact HM.out.below (Below.refl _ _).drew) (fun hH => ?_)
    have HOV := hm7 (HO3.out.below (Below.refl _ _).drew)
    have HBV := hm7 (HB3.out.trans ((Below.refl _ _).drew.mono HB3.out.size))
    revert hH HOV HBV
    generalize W3.drew = V
    intro hH HOV HBV
    refine wTl 0 (.pointer (some ⟨b, 0, none⟩)) rfl (by kernel_rfl) (fun _ _ _ h => h) rfl (fun w' h => by clear h; go_simp) hH ?_
    simp only [wA, wB, wC, wD]
    refine wTl 1 (.pointer (some ⟨Y.heap.size, 6, none⟩)) rfl (by kernel_rfl) (fun _ _ _ h => h) rfl (fun w' h => by clear h; go_simp) hH ?_
    simp only [wA, wB, wC, wD]
    refine wTl 2 (.int .i64 n) rfl (by kernel_rfl) (fun _ _ _ h => h) rfl (fun w' h => by have o := h.bo.cell (i := 6) rfl; clear h; go_simp) hH ?_
    simp only [wA, wB, wC, wD]
    refine wTl 4 (.pointer (some ⟨r, 0, none⟩)) rfl (by kernel_rfl) (fun _ _ _ h => h) rfl (fun w' h => by clear h; go_simp) hH ?_
    simp only [wA, wB, wC, wD]
    refine wTl 5 (.pointer (some ⟨Y.heap.size, 6, none⟩)) rfl (by kernel_rfl) (fun _ _ _ h => h) rfl (fun w' h => by clear h; go_simp) hH ?_
    simp only [wA, wB, wC, wD]
    refine wTl 6 (.int .i64 n) rfl (by kernel_rfl) (fun _ _ _ h => h) rfl (fun w' h => by have o := h.bo.cell (i := 6) rfl; clear h; go_simp) hH ?_
    simp only [wA, wB, wC, wD]
    refine wRd 3 (by kernel_rfl) rfl (fun K hK => ?_)
    go_simp
    refine (HP1.out _ HOV.out).mono ?_
    rintro e Z1 ⟨rfl, hb1⟩
    have HO1 := hm7 (HOV.out.below hb1)
    have HB1 := hm7 hb1
    refine hK.out _ _ (hH.below hb1) (fun hH => ?_)
    clear hK K
    refine wRd 7 (by kernel_rfl) rfl (fun K hK => ?_)
    go_simp
    refine (HP2.out _ HO1.out).mono ?_
    rintro e Z2 ⟨rfl, hb2⟩
    have HB2 := hm7 (HB1.out.trans (hb2.mono HB1.out.size))
    refine hK.out _ _ (hH.below hb2) (fun hH => ?_)
    clear hK K
    try simp only [wA, wB, wC, wD]
    refine wTl 8 (.bool true) rfl (by kernel_rfl) (fun _ _ _ h => h) rfl (fun w' h => by clear h; go_simp) hH ?_
    simp only [wA, wB, wC, wD]
    refine wTl 9 (.bool true) rfl (by kernel_rfl) (fun _ _ _ h => h) rfl (fun w' h => by clear h; go_simp) hH ?_
    simp only [wA, wB, wC, wD]
    refine wpAnyH_done (by kernel_rfl) ?_ _
    have HMZ := hm7 hH
    have HEN := hm7 (HOV.out.look HB2.out)
    clear hH
    go_wp2
    go_meet
    case rel => exact ⟨rfl, HMZ.out, _, _, _, _, HEN.out, HBV.out, by have := HN.out; have := HRL.out; omega, by have := HN.out; omega, by have := HN.out; omega⟩
   by_cases h5 : kk = 5
   ·subst h5
    have HP2 : Hid (∀ W0 Z1, MI8 w A B b r (M + (Ei R).length) T (Ei R) R W0 Z1 -> Calls Tryz.prog 22 #[.pointer (some ⟨r, 0, none⟩), .int .i64 n] Z1 (RF8 (((Ei R).filter fun x => hp7 n x.2).map Prod.fst) Z1)) := fun W0 Z1 hz => by
     obtain ⟨lv, hq⟩ := hz.q
     exact rbfacts8_any w B r lv R n Z1 hq (by have := HRL.out; omega)
    go_upto_region 16 with fail
    clear k0
    refine wp_region_held_drew (S := fun w' => DM8 w Y #[.int .i64 5, .int .i64 fk, .int .i64 fn, .string fs, .string fnm, .slice xa fl.length xc, .int .i64 n, .bool two] #[.int .i64 fk, .int .i64 fn, .string fs, .string fnm, .slice ua fl.length uc] (.slice ua fl.length uc) fl G w') (by kernel_rfl) (by exact HM.out.below (Below.refl _ _).drew) (fun hH => ?_)
    have HOV := hm7 (HO3.out.below (Below.refl _ _).drew)
    have HBV := hm7 (HB3.out.trans ((Below.refl _ _).drew.mono HB3.out.size))
    revert hH HOV HBV
    generalize W3.drew = V
    intro hH HOV HBV
    refine wTl 0 (.pointer (some ⟨b, 0, none⟩)) rfl (by kernel_rfl) (fun _ _ _ h => h) rfl (fun w' h => by clear h; go_simp) hH ?_
    simp only [wA, wB, wC, wD]
    refine wTl 1 (.pointer (some ⟨Y.heap.size, 6, none⟩)) rfl (by kernel_rfl) (fun _ _ _ h => h) rfl (fun w' h => by clear h; go_simp) hH ?_
    simp only [wA, wB, wC, wD]
    refine wTl 2 (.int .i64 n) rfl (by kernel_rfl) (fun _ _ _ h => h) rfl (fun w' h => by have o := h.bo.cell (i := 6) rfl; clear h; go_simp) hH ?_
    simp only [wA, wB, wC, wD]
    refine wTl 4 (.pointer (some ⟨r, 0, none⟩)) rfl (by kernel_rfl) (fun _ _ _ h => h) rfl (fun w' h => by clear h; go_simp) hH ?_
    simp only [wA, wB, wC, wD]
    refine wTl 5 (.pointer (some ⟨Y.heap.size, 6, none⟩)) rfl (by kernel_rfl) (fun _ _ _ h => h) rfl (fun w' h => by clear h; go_simp) hH ?_
    simp only [wA, wB, wC, wD]
    refine wTl 6 (.int .i64 n) rfl (by kernel_rfl) (fun _ _ _ h => h) rfl (fun w' h => by have o := h.bo.cell (i := 6) rfl; clear h; go_simp) hH ?_
    simp only [wA, wB, wC, wD]
    refine wRd 3 (by kernel_rfl) rfl (fun K hK => ?_)
    go_simp
    refine (dfacts1 HOV.out HRL.out HN.out.1 n).mono ?_
    rintro e Z1 ⟨fv, Q, rfl, ha, hq, hl, hm⟩
    have HMI := hm7 hm
    have HAL := hm7 ha
    have HQL := hm7 hl
    have HQE := hm7 hq
    have hmf := hm.f
    obtain ⟨qa, qc, hqv⟩ := ha.o.a.form
    rw [List.length_map] at hqv
    subst hqv
    refine hK.out _ _ (hH.fr hmf HLA.out) (fun hH => ?_)
    clear hK hm ha hq hl hmf
    refine wRd 7 (by kernel_rfl) rfl (fun K hK => ?_)
    go_simp
    refine (HP2.out _ _ HMI.out).mono ?_
    rintro e Z2 ⟨v2, Q', rfl, hf2, hq2, hb2⟩
    have HFL2 := hm7 hf2
    have HQE2 := hm7 hq2
    have HB2 := hm7 hb2
    obtain ⟨va, vc, hvv⟩ := hf2.o.form
    subst hvv
    refine hK.out _ _ (hH.below hb2) (fun hH => ?_)
    clear hK hf2 hq2 hb2
    refine wRd 8 (by kernel_rfl) rfl (fun K hK => ?_)
    go_simp
    refine (same8 (HAL.out.below HB2.out) HFL2.out HQE.out HQE2.out HQL.out).mono ?_
    rintro e Z3 ⟨rfl, hb3⟩
    have HB4 := hm7 (HB2.out.trans (hb3.mono HB2.out.size))
    refine hK.out _ _ (hH.below hb3) (fun hH => ?_)
    clear hK hb3
    try simp only [wA, wB, wC, wD]
    refine wTl 9 (.bool true) rfl (by kernel_rfl) (fun _ _ _ h => h) rfl (fun w' h => by clear h; go_simp) hH ?_
    simp only [wA, wB, wC, wD]
    refine wpAnyH_done (by kernel_rfl) ?_ _
    have HMZ := hm7 hH
    have HEN := hm7 (HMI.out.look HB4.out HOV.out.so HOV.out.kd)
    clear hH
    go_wp2
    go_meet
    case rel => exact ⟨rfl, HMZ.out, _, _, _, _, HEN.out, HBV.out, by rw [Ei_len]; have := HRL.out; omega, by have := HN.out; omega, by have := HN.out; omega⟩
   by_cases h6 : kk = 6
   ·subst h6
    have HPL : Hid (∀ l : List Pd, l.Nodup -> (∀ p, p ∈ l ↔ ∃ x ∈ Ei R, x.1.pd8 = p) -> l.length <= 1000000000) := fun l hn hm => by
     have h1 : l.length <= ((Ei R).map fun x => x.1.pd8).length := nodup_len8 _ _ hn fun p hp => by
      obtain ⟨x, hx, e⟩ := (hm p).1 hp
      exact List.mem_map.2 ⟨x, hx, e⟩
     rw [List.length_map, Ei_len] at h1
     have := HRL.out
     omega
    have HP2 : Hid (∀ Z1, DO8 w A B b r M T R Z1 -> Calls Tryz.prog 25 #[.pointer (some ⟨r, 0, none⟩)] Z1 (PW8 (Ei R) Z1)) := fun Z1 hz => by
     obtain ⟨lv, hq⟩ := hz.q
     exact rbpreds8_any w B r lv R Z1 hq hz.so (by have := HRL.out; omega)
    go_wp2_with (first
     | (go_at_call 24; refine (bp_preds HO3.out.p (by rw [Ei_len]; have := HRL.out; omega)).mono ?_; rintro e Z1 ⟨v1, l1, rfl, p1, p2, p3, p4, hb1⟩; have HPO := hm7 p1; have HPF := hm7 (And.intro p2 (And.intro p3 p4)); have HBZ1 := hm7 hb1; have HO1 := hm7 (HO3.out.below hb1); obtain ⟨ra, rc, hrv⟩ := p1.tsP.form; subst hrv; clear p1 p2 p3 p4 hb1)
     | (go_at_call 25; refine (HP2.out _ HO1.out).mono ?_; rintro e Z2 ⟨v2, l2, rfl, p1, p2, p3, p4, hb2⟩; obtain rfl : l1 = l2 := srt8P_eq HPF.out.2.1 p3 HPF.out.1 p2 (fun p => (HPF.out.2.2 p).trans (p4 p).symm); have HPO2 := hm7 p1; have HPO1 := hm7 (HPO.out.later hb2); have HBZ2 := hm7 (HBZ1.out.trans (hb2.mono HBZ1.out.size)); obtain ⟨sa, sc, hsv⟩ := p1.tsP.form; subst hsv; clear p1 p2 p3 p4 hb2)
     | (go_at_call 23; refine (lpreds8_yes l1 _ _ Z2 HPO1.out.tsP HPO2.out.tsP (HPL.out l1 HPF.out.1 HPF.out.2.2)).mono ?_; rintro e Z3 ⟨rfl, hb3⟩; have HEN := hm7 (HO3.out.look (HBZ2.out.trans (hb3.mono HBZ2.out.size))); have HMZ := hm7 ((HM.out.below HBZ2.out).below hb3); clear hb3))
    go_meet
    case rel => exact ⟨rfl, HMZ.out, _, _, _, _, HEN.out, HB3.out, by have := HN.out; have := HRL.out; omega, by have := HN.out; omega, by have := HN.out; omega⟩
   by_cases h7 : kk = 7
   ·subst h7
    have HP1 : Hid (∀ Z, DO8 w A B b r M T R Z -> TsP Z (.slice ua fl.length uc) fl -> Calls Tryz.prog 26 #[.pointer (some ⟨b, 0, none⟩), .int .i64 n, .agg #[.int .i64 fk, .int .i64 fn, .string fs, .string fnm, .slice ua fl.length uc]] Z fun e Z1 => ∃ fv Q, e = .returned fv /\ AL8 Z1 Z.heap.size fv Q /\ Q.map Prod.fst = ((Ei R).filter fun x => hp7 n x.2 && mt8 (⟨⟨fk, fn, fs⟩, fnm, fl⟩ : At) x.1).map Prod.fst /\ Q.length <= 1048576 /\ MI8 w A B b r (M + 1) T (Ei R) R Z Z1) := fun Z hz hx => dfind1 hz HRL.out HN.out.1 n (⟨⟨fk, fn, fs⟩, fnm, fl⟩ : At) (.slice ua fl.length uc) hx HK.out.1 HK.out.2 HN.out.2.2.2
    have HP2 : Hid (∀ W0 Z1, MI8 w A B b r (M + 1) T (Ei R) R W0 Z1 -> TsP Z1 (.slice xa fl.length xc) fl -> Calls Tryz.prog 27 #[.pointer (some ⟨r, 0, none⟩), .int .i64 n, .agg #[.int .i64 fk, .int .i64 fn, .string fs, .string fnm, .slice xa fl.length xc]] Z1 (RF8 (((Ei R).filter fun x => hp7 n x.2 && mt8 (⟨⟨fk, fn, fs⟩, fnm, fl⟩ : At) x.1).map Prod.fst) Z1)) := fun W0 Z1 hz hx => by
     obtain ⟨lv, hq⟩ := hz.q
     exact rbfind8_any w B r lv R n (⟨⟨fk, fn, fs⟩, fnm, fl⟩ : At) (.slice xa fl.length xc) Z1 hq hx (by have := HFL.out; simp only; omega) (Sz8.of HK.out.1 HK.out.2) HO3.out.kd (by have := HRL.out; omega)
    go_upto_region 20 with fail
    clear k0
    refine wp_region_held_drew (S := fun w' => DM8 w Y #[.int .i64 7, .int .i64 fk, .int .i64 fn, .string fs, .string fnm, .slice xa fl.length xc, .int .i64 n, .bool two] #[.int .i64 fk, .int .i64 fn, .string fs, .string fnm, .slice ua fl.length uc] (.slice ua fl.length uc) fl G w') (by kernel_rfl) (by exact HM.out.below (Below.refl _ _).drew) (fun hH => ?_)
    have HOV := hm7 (HO3.out.below (Below.refl _ _).drew)
    have HBV := hm7 (HB3.out.trans ((Below.refl _ _).drew.mono HB3.out.size))
    revert hH HOV HBV
    generalize W3.drew = V
    intro hH HOV HBV
    refine wTl 0 (.pointer (some ⟨b, 0, none⟩)) rfl (by kernel_rfl) (fun _ _ _ h => h) rfl (fun w' h => by clear h; go_simp) hH ?_
    simp only [wA, wB, wC, wD]
    refine wTl 1 (.pointer (some ⟨Y.heap.size, 6, none⟩)) rfl (by kernel_rfl) (fun _ _ _ h => h) rfl (fun w' h => by clear h; go_simp) hH ?_
    simp only [wA, wB, wC, wD]
    refine wTl 2 (.int .i64 n) rfl (by kernel_rfl) (fun _ _ _ h => h) rfl (fun w' h => by have o := h.bo.cell (i := 6) rfl; clear h; go_simp) hH ?_
    simp only [wA, wB, wC, wD]
    refine wTl 3 (.agg #[.int .i64 fk, .int .i64 fn, .string fs, .string fnm, .slice ua fl.length uc]) rfl (by kernel_rfl) (fun _ _ _ h => h) rfl (fun w' h => by obtain ⟨⟨o0, o1⟩, o2, o3, o4⟩ := five8 h.bf; clear h; go_simp) hH ?_
    simp only [wA, wB, wC, wD]
    refine wTl 5 (.pointer (some ⟨r, 0, none⟩)) rfl (by kernel_rfl) (fun _ _ _ h => h) rfl (fun w' h => by clear h; go_simp) hH ?_
    simp only [wA, wB, wC, wD]
    refine wTl 6 (.pointer (some ⟨Y.heap.size, 6, none⟩)) rfl (by kernel_rfl) (fun _ _ _ h => h) rfl (fun w' h => by clear h; go_simp) hH ?_
    simp only [wA, wB, wC, wD]
    refine wTl 7 (.int .i64 n) rfl (by kernel_rfl) (fun _ _ _ h => h) rfl (fun w' h => by have o := h.bo.cell (i := 6) rfl; clear h; go_simp) hH ?_
    simp only [wA, wB, wC, wD]
    refine wTl 8 (.pointer (some ⟨Y.heap.size, 1, none⟩)) rfl (by kernel_rfl) (fun _ _ _ h => h) rfl (fun w' h => by clear h; go_simp) hH ?_
    simp only [wA, wB, wC, wD]
    refine wTl 9 (.agg #[.int .i64 fk, .int .i64 fn, .string fs, .string fnm, .slice xa fl.length xc]) rfl (by kernel_rfl) (fun _ _ _ h => h) rfl (fun w' h => by have o1 := h.bo.cell (i := 1) rfl; have o2 := h.bo.cell (i := 2) rfl; have o3 := h.bo.cell (i := 3) rfl; have o4 := h.bo.cell (i := 4) rfl; have o5 := h.bo.cell (i := 5) rfl; clear h; go_simp) hH ?_
    simp only [wA, wB, wC, wD]
    refine wRd 4 (by kernel_rfl) rfl (fun K hK => ?_)
    go_simp
    refine (HP1.out _ HOV.out (hH.lt.tsP (by have := HFL.out; omega))).mono ?_
    rintro e Z1 ⟨fv, Q, rfl, ha, hq, hl, hm⟩
    have HMI := hm7 hm
    have HAL := hm7 ha
    have HQL := hm7 hl
    have HQE := hm7 hq
    have hmf := hm.f
    obtain ⟨qa, qc, hqv⟩ := ha.o.a.form
    rw [List.length_map] at hqv
    subst hqv
    refine hK.out _ _ (hH.fr hmf HLA.out) (fun hH => ?_)
    clear hK hm ha hq hl hmf
    refine wRd 10 (by kernel_rfl) rfl (fun K hK => ?_)
    go_simp
    refine (HP2.out _ _ HMI.out (HX.out.later hH.bl)).mono ?_
    rintro e Z2 ⟨v2, Q', rfl, hf2, hq2, hb2⟩
    have HFL2 := hm7 hf2
    have HQE2 := hm7 hq2
    have HB2 := hm7 hb2
    obtain ⟨va, vc, hvv⟩ := hf2.o.form
    subst hvv
    refine hK.out _ _ (hH.below hb2) (fun hH => ?_)
    clear hK hf2 hq2 hb2
    refine wRd 11 (by kernel_rfl) rfl (fun K hK => ?_)
    go_simp
    refine (same8 (HAL.out.below HB2.out) HFL2.out HQE.out HQE2.out HQL.out).mono ?_
    rintro e Z3 ⟨rfl, hb3⟩
    have HB4 := hm7 (HB2.out.trans (hb3.mono HB2.out.size))
    refine hK.out _ _ (hH.below hb3) (fun hH => ?_)
    clear hK hb3
    try simp only [wA, wB, wC, wD]
    refine wTl 12 (.bool true) rfl (by kernel_rfl) (fun _ _ _ h => h) rfl (fun w' h => by clear h; go_simp) hH ?_
    simp only [wA, wB, wC, wD]
    refine wpAnyH_done (by kernel_rfl) ?_ _
    have HMZ := hm7 hH
    have HEN := hm7 (HMI.out.look HB4.out HOV.out.so HOV.out.kd)
    clear hH
    go_wp2
    go_meet
    case rel => exact ⟨rfl, HMZ.out, _, _, _, _, HEN.out, HBV.out, by have := HN.out; have := HRL.out; omega, by have := HN.out; omega, by have := HN.out; omega⟩
   have HEN := hm7 (HO3.out.look (Below.refl _ _))
   go_wp2
   go_meet
   case rel => exact ⟨rfl, HM.out, _, _, _, _, HEN.out, HB3.out, by have := HN.out; have := HRL.out; omega, by have := HN.out; omega, by have := HN.out; omega⟩
  case rest =>
   obtain ⟨rfl, hmz, W', M', T', R', hen, hbw, hm1, hm2, hm3⟩ := hcut
   obtain ⟨Z2, rfl⟩ : ∃ Z2, Z2 = wc := ⟨_, rfl⟩
   have HMZ := hm7 hmz
   have HEN := hm7 hen
   have HBW := hm7 hbw
   have HMM := hm7 (And.intro hm1 (And.intro hm2 hm3))
   clear hmz hen hbw hm1 hm2 hm3 k0
   obtain ⟨⟨g0, g1⟩, g2, g3, g4⟩ := five8 HMZ.out.bf
   have c1 := HMZ.out.bo.cell (i := 1) rfl
   have c2 := HMZ.out.bo.cell (i := 2) rfl
   have c3 := HMZ.out.bo.cell (i := 3) rfl
   have c4 := HMZ.out.bo.cell (i := 4) rfl
   have c5 := HMZ.out.bo.cell (i := 5) rfl
   have HKC : Hid (Calls Tryz.prog 28 #[.agg #[.int .i64 fk, .int .i64 fn, .string fs, .string fnm, .slice ua fl.length uc], .agg #[.int .i64 fk, .int .i64 fn, .string fs, .string fnm, .slice xa fl.length xc]] Z2 fun e w' => e = .returned (.bool true) /\ Below Z2.heap.size Z2 w') := keptA8_any (⟨⟨fk, fn, fs⟩, fnm, fl⟩ : At) (.slice ua fl.length uc) (.slice xa fl.length xc) Y.heap.size Z2 ((HX.out.later HMZ.out.bl).ts (by have := HFL.out; omega)) HMZ.out.lt (HBH.out.later HMZ.out.bl)
   go_wp2_with (go_at_call 28; refine HKC.out.mono ?_; rintro e ZE ⟨rfl, hbe⟩; have HBE := hm7 hbe; clear hbe)
   go_ret
   exact HEN.out.doq HBW.out HBE.out HMM.out.1 HMM.out.2.1 HMM.out.2.2
end Go.Proofs.YtechceagghcipabGreatDoor
