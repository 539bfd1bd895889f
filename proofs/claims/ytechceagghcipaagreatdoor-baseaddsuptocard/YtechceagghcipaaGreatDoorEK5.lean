import Derived.Test.YtechceagghcipaaGreatDoorEK20
import Derived.Test.YtechceagghcipaaGreatDoorEK21
import Derived.Test.YtechceagghcipaaGreatDoorEK22
import Derived.Test.YtechceagghcipaaGreatDoorEK23
import Derived.Test.YtechceagghcipaaGreatDoorEK24
import Derived.Test.YtechceagghcipaaGreatDoorEK25
import Derived.Test.YtechceagghcipaaGreatDoorEK26
import Derived.Test.YtechceagghcipaaGreatDoorEK27
namespace Go.Proofs.YtechceagghcipaaGreatDoor
open Go.RowKit

theorem does8_any (w : World) (A B : Nat -> Prop) (b r M T : Nat) (R : List It8) (Y : World) (kk fr to_ n : Int) (two : Bool) (fk fn : Int) (fs fnm : ByteArray) (fl : List Tm) (xa : Option Addr) (xc : Nat) (H0 : DO8 w A B b r M T R Y) (hx : TsP w (.slice xa fl.length xc) fl) (hk : ∀ t ∈ (⟨⟨fk, fn, fs⟩, fnm, fl⟩ : At).pl, KeyT t) (hkp : KeyP (⟨⟨fk, fn, fs⟩, fnm, fl⟩ : At).pd8) (hB : BehA w) (hM : M <= 5000000000000) (hT : T + (⟨⟨fk, fn, fs⟩, fnm, fl⟩ : At).pl.length <= 100000000) (hZ : sz8 (Ei R) <= 1048576) (hfl : (⟨⟨fk, fn, fs⟩, fnm, fl⟩ : At).pl.length <= 1048576) :
  Calls Tryz.prog 48 #[.pointer (some ⟨b, 0, none⟩), .pointer (some ⟨r, 0, none⟩), .agg #[.int .i64 kk, .int .i64 fk, .int .i64 fn, .string fs, .string fnm, .slice xa fl.length xc, .int .i64 n, .bool two], .int .i64 fr, .int .i64 to_] Y (DoQ w A B b r M T R (⟨⟨fk, fn, fs⟩, fnm, fl⟩ : At) Y) := by
 by_cases h1 : kk = 1
 ·subst h1; exact does8_1 w A B b r M T R Y fr to_ n two fk fn fs fnm fl xa xc H0 hx hk hkp hB hM hT hZ hfl
 by_cases h2 : kk = 2
 ·subst h2; exact does8_2 w A B b r M T R Y fr to_ n two fk fn fs fnm fl xa xc H0 hx hk hkp hB hM hT hZ hfl
 by_cases h3 : kk = 3
 ·subst h3; exact does8_3 w A B b r M T R Y fr to_ n two fk fn fs fnm fl xa xc H0 hx hk hkp hB hM hT hZ hfl
 by_cases h4 : kk = 4
 ·subst h4; exact does8_4 w A B b r M T R Y fr to_ n two fk fn fs fnm fl xa xc H0 hx hk hkp hB hM hT hZ hfl
 by_cases h5 : kk = 5
 ·subst h5; exact does8_5 w A B b r M T R Y fr to_ n two fk fn fs fnm fl xa xc H0 hx hk hkp hB hM hT hZ hfl
 by_cases h6 : kk = 6
 ·subst h6; exact does8_6 w A B b r M T R Y fr to_ n two fk fn fs fnm fl xa xc H0 hx hk hkp hB hM hT hZ hfl
 by_cases h7 : kk = 7
 ·subst h7; exact does8_7 w A B b r M T R Y fr to_ n two fk fn fs fnm fl xa xc H0 hx hk hkp hB hM hT hZ hfl
 exact does8_0 w A B b r M T R Y kk fr to_ n two fk fn fs fnm fl xa xc H0 hx hk hkp hB hM hT hZ hfl h1 h2 h3 h4 h5 h6 h7
def FP8 (w : World) (b r c s k z : Nat) (Y : World) : Prop :=
 ∃ A B M T R A' B' M' T' R', (DO8 w A B b r M T R Y /\ M <= k * 1048577 /\ T <= z /\ sz8 (Ei R) <= z) /\ (DO8 w A' B' c s M' T' R' Y /\ M' <= k * 1048577 /\ T' <= z /\ sz8 (Ei R') <= z) /\ ∀ x, A x ∨ B x -> ¬ (A' x ∨ B' x)
theorem FP8.swap {w : World} {b r c s k z : Nat} {Y : World} (h : FP8 w b r c s k z Y) : FP8 w c s b r k z Y := by
 obtain ⟨A, B, M, T, R, A', B', M', T', R', h1, h2, h3⟩ := h
 exact ⟨A', B', M', T', R', A, B, M, T, R, h2, h1, fun x hx hy => h3 x hy hx⟩
theorem FP8.bl {w : World} {b r c s k z : Nat} {Y : World} (h : FP8 w b r c s k z Y) : Below w.heap.size w Y := by
 obtain ⟨A, B, M, T, R, A', B', M', T', R', h1, -⟩ := h
 exact h1.1.p.bl
set_option maxRecDepth 20000 in
theorem FP8.does {w : World} {b r c s k z : Nat} {Y : World} (h : FP8 w b r c s k z Y) (hk9 : k <= 1048576) (kk fr to_ n : Int) (two : Bool) (fk fn : Int) (fs fnm : ByteArray) (fl : List Tm) (xa : Option Addr) (xc : Nat) (hx : TsP w (.slice xa fl.length xc) fl) (hk : ∀ t ∈ (⟨⟨fk, fn, fs⟩, fnm, fl⟩ : At).pl, KeyT t) (hkp : KeyP (⟨⟨fk, fn, fs⟩, fnm, fl⟩ : At).pd8) (hB : BehA w) (hz : z + (⟨⟨fk, fn, fs⟩, fnm, fl⟩ : At).pl.length <= 1048576) :
  Calls Tryz.prog 48 #[.pointer (some ⟨b, 0, none⟩), .pointer (some ⟨r, 0, none⟩), .agg #[.int .i64 kk, .int .i64 fk, .int .i64 fn, .string fs, .string fnm, .slice xa fl.length xc, .int .i64 n, .bool two], .int .i64 fr, .int .i64 to_] Y fun e Y' => e = .returned (.bool true) /\ FP8 w b r c s (k + 1) (z + (⟨⟨fk, fn, fs⟩, fnm, fl⟩ : At).pl.length) Y' := by
 obtain ⟨A, B, M, T, R, A', B', M', T', R', ⟨h1, h2, h3, h4⟩, ⟨h5, h6, h7, h8⟩, h9⟩ := h
 obtain ⟨L, hL⟩ : ∃ L, (⟨⟨fk, fn, fs⟩, fnm, fl⟩ : At).pl.length = L := ⟨_, rfl⟩
 have hq1 : M <= 5000000000000 := by omega
 have hq2 : T + (⟨⟨fk, fn, fs⟩, fnm, fl⟩ : At).pl.length <= 100000000 := by rw [hL] at hz ⊢; omega
 have hq3 : sz8 (Ei R) <= 1048576 := by rw [hL] at hz; omega
 have hq4 : (⟨⟨fk, fn, fs⟩, fnm, fl⟩ : At).pl.length <= 1048576 := by rw [hL] at hz ⊢; omega
 refine (does8_any w A B b r M T R Y kk fr to_ n two fk fn fs fnm fl xa xc h1 hx hk hkp hB hq1 hq2 hq3 hq4).mono ?_
 rintro e Y' ⟨rfl, A2, B2, M2, T2, R2, k1, k2, k3, k4, k5, k6⟩
 refine ⟨rfl, A2, B2, M2, T2, R2, A', B', M', T', R', ⟨k1, by rw [Nat.succ_mul]; omega, Nat.le_trans k3 (Nat.add_le_add_right h3 _), Nat.le_trans k4 (Nat.add_le_add_right h4 _)⟩, ⟨h5.fr k5 fun x hx _ => ⟨⟨fun hy => h9 x hx (Or.inl hy), fun hy => h9 x hx (Or.inr hy)⟩, (h1.lt hx).1⟩, Nat.le_trans h6 (Nat.mul_le_mul_right _ (Nat.le_succ _)), Nat.le_trans h7 (Nat.le_add_right _ _), Nat.le_trans h8 (Nat.le_add_right _ _)⟩, fun x hx hy => ?_⟩
 rcases k6 x hx with h | h
 ·exact h9 x h hy
 ·have := (h5.lt hy).2; omega
end Go.Proofs.YtechceagghcipaaGreatDoor
