import Derived.Test.YtechceagghcipaaGreatDoorEK5
import Derived.Test.YtechceagghcipaaGreatDoorEG4
namespace Go.Proofs.YtechceagghcipaaGreatDoor
open Go.RowKit
attribute [local go_sem ↓] Go.wp_at_zero Go.wp_at_succ

set_option maxRecDepth 20000 in
set_option maxHeartbeats 2000000 in
theorem plays8_any (w : World) (sv : Value) (Os : List Op8) (fr to_ : Int) (hS : Sc8 w sv Os) (hB : BehA w) (hl : Os.length <= 1048576) (hz : zo8 Os <= 1048576) :
  Calls Tryz.prog 23 #[sv, .int .i64 fr, .int .i64 to_] w fun e w' => e = .returned (.bool true) /\ Below w.heap.size w w' := by
 obtain ⟨sa, sc, rfl, hs, hok⟩ := hS
 have HS := hm7 hs
 have HOK := hm7 hok
 have HZ := hm7 hz
 have HBH := hm7 hB
 obtain ⟨n, hn⟩ : ∃ n, Os.length = n := ⟨_, rfl⟩
 rw [hn]
 have HN := hm7 hn
 have n1 : n <= 1048576 := by omega
 clear hs hok hz hn hl hB
 go_enter Tryz.func23, Tryz.ntmps23
 go_upto_region 2 with (go_at_call 16; refine (bp_new w w (Below.refl _ _)).mono ?_; rintro e W1 ⟨b, A1, rfl, h1, h2, h3⟩; have H1 := hm7 h1; have HL1 := hm7 h2; have HB1 := hm7 h3; clear h1 h2 h3)
 go_upto_region 3 with (go_at_call 16; refine (bp_new w W1 HB1.out).mono ?_; rintro e W2 ⟨c, A2, rfl, h1, h2, h3⟩; have H2 := hm7 h1; have HL2 := hm7 h2; have HB2 := hm7 h3; clear h1 h2 h3)
 have HB12 := hm7 (HB1.out.trans (HB2.out.mono HB1.out.size))
 go_upto_region 6 with (go_at_call 47; refine (rbnew8_any w W2 HB12.out).mono ?_; rintro e W3 ⟨r, B1, l1, rfl, h1, h2, h3⟩; have H3 := hm7 h1; have HL3 := hm7 h2; have HB3 := hm7 h3; clear h1 h2 h3)
 have HB13 := hm7 (HB12.out.trans (HB3.out.mono HB12.out.size))
 go_upto_region 7 with (go_at_call 47; refine (rbnew8_any w W3 HB13.out).mono ?_; rintro e W4 ⟨s, B2, l2, rfl, h1, h2, h3⟩; have H4 := hm7 h1; have HL4 := hm7 h2; have HB4 := hm7 h3; clear h1 h2 h3)
 have HFP : Hid (FP8 w b r c s 0 0 W4) := by
  have e0 : Ei [] = [] := rfl
  have p1 : BP8 w A1 b 0 0 (Ei []) W4 := ((H1.out.below HB2.out).below HB3.out).below HB4.out
  have p2 : BP8 w A2 c 0 0 (Ei []) W4 := (H2.out.below HB3.out).below HB4.out
  have q1 : RB8 w B1 r l1 [] W4 := H3.out.below HB4.out
  have s2 := HB2.out.size
  have s3 := HB3.out.size
  have t1 : ∀ x, A1 x -> x < W1.heap.size := fun x hx => (H1.out.lt hx).2
  have t2 : ∀ x, A2 x -> W1.heap.size <= x /\ x < W2.heap.size := fun x hx => ⟨HL2.out x hx, (H2.out.lt hx).2⟩
  have t3 : ∀ x, B1 x -> W2.heap.size <= x /\ x < W3.heap.size := fun x hx => ⟨HL3.out x hx, (H3.out.lt hx).2⟩
  have t4 : ∀ x, B2 x -> W3.heap.size <= x := HL4.out
  refine ⟨A1, B1, 0, 0, [], A2, B2, 0, 0, [], ⟨⟨p1, ⟨l1, q1⟩, fun x h1 h2 => ?_, List.Pairwise.nil, nofun⟩, by omega, Nat.le_refl _, by simp [sz8, Ei]⟩, ⟨⟨p2, ⟨l2, H4.out⟩, fun x h1 h2 => ?_, List.Pairwise.nil, nofun⟩, by omega, Nat.le_refl _, by simp [sz8, Ei]⟩, fun x h1 h2 => ?_⟩
  ·have := t1 x h1; have := t3 x h2; omega
  ·have := t2 x h1; have := t4 x h2; omega
  ·rcases h1 with h1 | h1 <;> rcases h2 with h2 | h2
   ·have := t1 x h1; have := t2 x h2; omega
   ·have := t1 x h1; have := t4 x h2; omega
   ·have := t3 x h1; have := t2 x h2; omega
   ·have := t3 x h1; have := t4 x h2; omega
 clear H1 H2 H3 H4 HL1 HL2 HL3 HL4 HB1 HB2 HB3 HB4 HB12 HB13
 go_wp2
 go_loopg [11] n (fun gg i wr => ∃ j : Nat, j + gg = n /\ i = .int .i64 j /\ FP8 w b r c s j (zo8 (Os.take j)) wr)
 case atStart => exact ⟨0, by omega, rfl, by simpa [zo8] using HFP.out⟩
 case round =>
  obtain ⟨j, hj, rfl, hp8⟩ := hrel
  have HP := hm7 hp8
  have hbl := hp8.bl
  clear hp8 HFP
  cases gk with
  | succ gg =>
   have hlt : (j : Int) < (n : Int) := by omega
   have j0 : (0 : Int) <= (j : Int) := by omega
   obtain ⟨p, hp⟩ : ∃ p, Os[j]? = some p := ⟨_, List.getElem?_eq_getElem (by have := HN.out; omega)⟩
   obtain ⟨kts, kk, knm⟩ := HOK.out p (List.mem_of_getElem? hp)
   have hz1 := zo8_take Os j p hp
   have hz2 := zo8_le Os (j + 1)
   have hz3 := HZ.out
   rcases HS.out with hr | ⟨sb, so, rfl, hsl, hsc⟩
   ·have := HN.out; rw [hr] at this; simp at this; omega
   have hc := hsc j p hp
   obtain ⟨pk, ⟨⟨⟨fk, fn, fs⟩, nm, al⟩, fv⟩, pn, pt⟩ := p
   obtain ⟨fa, fc, hsh⟩ := kts.shape
   simp only at hsh
   subst hsh
   simp only [Op8.cs] at hc
   simp only at kts kk knm hz1
   have hkp : KeyP (⟨⟨fk, fn, fs⟩, nm, al⟩ : At).pd8 := pd8_key knm (by have h9 : al.length <= (⟨⟨fk, fn, fs⟩, nm, al⟩ : At).pl.length := (by simp [At.pl]); simp only; omega)
   have c0 := cell_step hbl hsl (hc 0 _ rfl)
   rw [Nat.add_zero] at c0
   have c1 := cell_step hbl hsl (hc 1 _ rfl)
   rw [<- Nat.add_assoc] at c1
   have c2 := cell_step hbl hsl (hc 2 _ rfl)
   rw [<- Nat.add_assoc] at c2
   have c3 := cell_step hbl hsl (hc 3 _ rfl)
   rw [<- Nat.add_assoc] at c3
   have c4 := cell_step hbl hsl (hc 4 _ rfl)
   rw [<- Nat.add_assoc] at c4
   have c5 := cell_step hbl hsl (hc 5 _ rfl)
   rw [<- Nat.add_assoc] at c5
   have c6 := cell_step hbl hsl (hc 6 _ rfl)
   rw [<- Nat.add_assoc] at c6
   have c7 := cell_step hbl hsl (hc 7 _ rfl)
   rw [<- Nat.add_assoc] at c7
   have HZN := hm7 hz1
   cases pt with
   | false =>
    have HD := hm7 (HP.out.does (by omega) pk fr to_ pn false fk fn fs nm al fa fc kts kk hkp HBH.out (by omega))
    have HC7 : Hid (∀ X, Below w.heap.size w X -> X.cell? ⟨sb, so + j * 8 + 7, none⟩ = some (.bool false)) := fun X hX => by
     have := cell_step hX hsl (hc 7 _ rfl)
     rw [<- Nat.add_assoc] at this
     exact this
    clear hc hsc kts kk knm hkp hp hz1 hz2 hz3 hbl
    go_upto_region 12 with (go_at_call 48; refine HD.out.mono ?_; rintro e Z ⟨rfl, hz9⟩; have HPZ := hm7 hz9; have d7 := HC7.out Z hz9.bl; clear hz9 c0 c1 c2 c3 c4 c5 c6 c7 HD)
    go_wp2
    go_roundg gg
    case measure => omega
    case rel => exact ⟨j + 1, by omega, by go_num, by rw [HZN.out]; exact HPZ.out⟩
   | true =>
    have HD := hm7 (HP.out.swap.does (by omega) pk fr to_ pn true fk fn fs nm al fa fc kts kk hkp HBH.out (by omega))
    clear hc hsc kts kk knm hkp hp hz1 hz2 hz3 hbl
    go_wp2_with (go_at_call 48; refine HD.out.mono ?_; rintro e Z ⟨rfl, hz9⟩; have HPZ := hm7 hz9.swap; clear hz9 c0 c1 c2 c3 c4 c5 c6 c7 HD)
    go_roundg gg
    case measure => omega
    case rel => exact ⟨j + 1, by omega, by go_num, by rw [HZN.out]; exact HPZ.out⟩
  | zero =>
   have hlt : ¬ (j : Int) < (n : Int) := by omega
   have HBF := hm7 hbl
   clear hbl
   go_wp2_with (go_at_call 15; refine (first8_any _).mono ?_; rintro e W8 ⟨rfl, hb⟩; have H8 := hm7 (HBF.out.trans (hb.mono HBF.out.size)); clear hb HBF)
   go_ret
   exact ⟨rfl, H8.out⟩
end Go.Proofs.YtechceagghcipaaGreatDoor
