import Derived.Test.YtechceagghcipaaGreatDoorEC3
namespace Go.Proofs.YtechceagghcipaaGreatDoor
open Go.RowKit
attribute [local go_sem ↓] Go.wp_at_zero Go.wp_at_succ

theorem ix8_lt {T : List Tm} {t : Tm} {i : Nat} (h : ix8 T t = some i) : i < T.length := (List.getElem?_eq_some_iff.1 (ix8_some h)).1
theorem wf_of8 {x : Int} (h1 : 0 <= x) (h2 : x <= 1000000000) : (Lit.int .i64 x).wf = true := by
 simp [Lit.wf, IntKind.min, IntKind.max, IntKind.signed, IntKind.bits]
 omega
theorem nm8_w {T : List Tm} (hT : T.length <= 1000000000) (L : List Tm) : w64 (nm8 T L) := fun x hx => by
 obtain ⟨t, -, rfl⟩ := List.mem_map.1 hx
 have : (ix8 T t).getD 0 <= 1000000000 := by
  cases h : ix8 T t with
  | none => simp
  | some i => have := ix8_lt h; simp; omega
 generalize (ix8 T t).getD 0 = n at this
 exact wf_of8 (by omega) (by omega)
set_option maxRecDepth 20000 in
set_option maxHeartbeats 1000000 in
theorem badd8_no (a : At) (x : Value) (g : Nat) (Y : World) (hx : TsP Y x a.args) (hl : a.args.length <= 1000000000) (hf : a.fact = false) :
  Calls Tryz.prog 10 #[.pointer (some ⟨g, 0, none⟩), a.v x] Y fun e Y' => e = .returned (.tuple #[.bool false, .int .i64 81]) /\ Below Y.heap.size Y Y' := by
 have hb0 := below1 Y (.cells #[.int .i64 a.by_.k, .int .i64 a.by_.n, .string a.by_.s, .string a.name, x] 27)
 have HF : Hid (∀ X : World, Below Y.heap.size Y X -> Calls Tryz.prog 24 #[a.v x] X fun e Y' => e = .returned (.bool false) /\ Below X.heap.size X Y') := fun X hX => by
  have := fact_any a x X ((hx.later hX).ts (by omega))
  rw [hf] at this
  exact this
 have HX0 := Bk.new Y #[.int .i64 a.by_.k, .int .i64 a.by_.n, .string a.by_.s, .string a.name, x] 27
 have q0 := HX0.cell (i := 0) rfl
 have q1 := HX0.cell (i := 1) rfl
 have q2 := HX0.cell (i := 2) rfl
 have q3 := HX0.cell (i := 3) rfl
 have q4 := HX0.cell (i := 4) rfl
 have HB0 := hm7 hb0
 obtain ⟨ax, cx, rfl⟩ := hx.shape
 clear hb0 HX0 hx hf
 obtain ⟨⟨k, m, s⟩, nm, l⟩ := a
 go_enter Tryz.func10, Tryz.ntmps10
 go_wp2_with (go_at_call 24; refine (HF.out _ HB0.out).mono ?_; clear HF; rintro e w1 ⟨rfl, hb⟩; have HB1 := hm7 (below_step HB0.out hb); clear hb)
 go_ret2
 exact ⟨rfl, HB1.out⟩
def Ba8 (w : World) (g : Nat) (tv : Value) (mn mr : Nat) (B : Pd -> Nat -> Prop) (m : Nat) (T : List Tm) (K : List Pd) (s : Pd -> St7) (a : At) (Y : World) (e : Ending) (Y' : World) : Prop :=
 e = .returned (.tuple #[.bool (decide (nm8 (ens8 T a.pl) a.pl ∉ (st8 K s a.pd8 a.args.length).rows)), .int .i64 0]) /\ ∃ s', BX8 w g mn mr m (ens8 T a.pl) (ky8 K a.pd8) s' (PA8 g tv mn mr B K) Y Y' /\ s' a.pd8 = ad7 (st8 K s a.pd8 a.args.length) (nm8 (ens8 T a.pl) a.pl) /\ ∀ q, q ≠ a.pd8 -> s' q = s q
theorem PA8.up8 {g : Nat} {tv : Value} {mn mr : Nat} {B : Pd -> Nat -> Prop} {K : List Pd} {p : Pd} {N : Nat -> Prop} {b : Nat} (h : PA8 g tv mn mr (up8 B p N) K b) : PA8 g tv mn mr B K b ∨ N b := by
 rcases h with h | h | ⟨q, hq, h⟩
 ·exact Or.inl (Or.inl h)
 ·exact Or.inl (Or.inr (Or.inl h))
 ·by_cases e : q = p
  ·subst e
   rw [up8_same] at h
   exact Or.inr h
  ·rw [up8_other _ _ e] at h
   exact Or.inl (Or.inr (Or.inr ⟨q, hq, h⟩))
theorem five8 {w : World} {g : Nat} {a b c d e : Value} {t : TypeId} (h : Bk w g #[a, b, c, d, e] t) : (w.cell? ⟨g, 0, none⟩ = some a /\ w.cell? ⟨g, 1, none⟩ = some b) /\ w.cell? ⟨g, 2, none⟩ = some c /\ w.cell? ⟨g, 3, none⟩ = some d /\ w.cell? ⟨g, 4, none⟩ = some e := ⟨⟨h.cell rfl, h.cell rfl⟩, h.cell rfl, h.cell rfl, h.cell rfl⟩
set_option maxRecDepth 20000 in
set_option maxHeartbeats 1000000 in
theorem badd8_any (w : World) (g : Nat) (tv : Value) (mn mr : Nat) (ga : Pd -> Nat) (B : Pd -> Nat -> Prop) (m : Nat) (T : List Tm) (K : List Pd) (s : Pd -> St7) (a : At) (x : Value) (Y : World) (h : BS w g tv mn mr ga B m T K s Y) (hx : TsP Y x a.args) (hf : a.fact = true) (hk : ∀ t ∈ a.pl, KeyT t) (hkp : KeyP a.pd8) (hl : T.length + a.pl.length <= 1000000000) (hkl : K.length <= 1000000000000)
  (hwd : a.pl.length = (st8 K s a.pd8 a.args.length).wd) (hc : (st8 K s a.pd8 a.args.length).rows.length < 10000000000) :
  Calls Tryz.prog 10 #[.pointer (some ⟨g, 0, none⟩), a.v x] Y (Ba8 w g tv mn mr B m T K s a Y) := by
 have hap : a.pl.length = a.args.length + 1 := rfl
 have hb0 := below1 Y (.cells #[.int .i64 a.by_.k, .int .i64 a.by_.n, .string a.by_.s, .string a.name, x] 27)
 have HF : Hid (∀ X : World, Below Y.heap.size Y X -> Calls Tryz.prog 24 #[a.v x] X fun e Y' => e = .returned (.bool true) /\ Below X.heap.size X Y') := fun X hX => by
  have := fact_any a x X ((hx.later hX).ts (by omega))
  rw [hf] at this
  exact this
 have HNR : Hid (∀ X : World, Below Y.heap.size Y X -> Calls Tryz.prog 31 #[.pointer (some ⟨g, 0, none⟩), a.v x] X (Nr8 g tv mn (.map (some mr)) T a.pl X)) := fun X hX => newRow8_any g tv mn _ T a x X (h.t.below hX) (hx.later hX) hk hl
 have hsh := hx.shape
 have HPR : Hid (∀ X : World, Calls Tryz.prog 33 #[a.v x] X fun e Y' => e = .returned (.agg #[.string a.name, .int .i64 (a.args.length : Int)]) /\ Below X.heap.size X Y') := fun X => predOf8_any a x X hsh
 have HRF : Hid (∀ (tv' : Value) (X : World), BS w g tv' mn mr ga B m (ens8 T a.pl) K s X -> Calls Tryz.prog 32 #[.pointer (some ⟨g, 0, none⟩), .agg #[.string a.name, .int .i64 (a.args.length : Int)]] X fun e Y' => ∃ ga' B' s', e = .returned (.pointer (some ⟨ga' a.pd8, 0, none⟩)) /\ BS w g tv' mn mr ga' B' m (ens8 T a.pl) (ky8 K a.pd8) s' Y' /\ a.pd8 ∈ ky8 K a.pd8 /\ s' a.pd8 = st8 K s a.pd8 a.args.length /\ (∀ q, q ≠ a.pd8 -> s' q = s q) /\ Fr (fun b => b = mr) X Y' /\ ∀ b, PA8 g tv' mn mr B' (ky8 K a.pd8) b -> PA8 g tv' mn mr B K b ∨ X.heap.size <= b) := fun tv' X hX => relFor8_any w g tv' mn mr ga B m _ K s a X hX hkp (by omega) hkl
 have HRW := hm7 (show w64 (nm8 (ens8 T a.pl) a.pl) from nm8_w (by have := ens8_len a.pl T; omega) _)
 have HRL := hm7 (show (nm8 (ens8 T a.pl) a.pl).length = (st8 K s a.pd8 a.args.length).wd by rw [nm8_len]; exact hwd)
 have HRM := hm7 (show (nm8 (ens8 T a.pl) a.pl).length <= 10000000000 by rw [nm8_len]; omega)
 have HC := hm7 hc
 have HX0 := Bk.new Y #[.int .i64 a.by_.k, .int .i64 a.by_.n, .string a.by_.s, .string a.name, x] 27
 obtain ⟨⟨q0, q1⟩, q2, q3, q4⟩ := five8 HX0
 have HX := hm7 HX0
 have HB0 := hm7 hb0
 have HS := hm7 h
 obtain ⟨ax, cx, rfl⟩ := hsh
 obtain ⟨p, hp⟩ : ∃ p, a.pd8 = p := ⟨_, rfl⟩
 obtain ⟨L, hL⟩ : ∃ L, a.pl = L := ⟨_, rfl⟩
 obtain ⟨S0, hS0⟩ : ∃ S0, st8 K s p a.args.length = S0 := ⟨_, rfl⟩
 have HQ : Hid (∀ e Y', (e = .returned (.tuple #[.bool (decide (nm8 (ens8 T L) L ∉ S0.rows)), .int .i64 0]) /\ ∃ s', BX8 w g mn mr m (ens8 T L) (ky8 K p) s' (PA8 g tv mn mr B K) Y Y' /\ s' p = ad7 S0 (nm8 (ens8 T L) L) /\ ∀ q, q ≠ p -> s' q = s q) -> Ba8 w g tv mn mr B m T K s a Y e Y') := fun e Y' h => by
  unfold Ba8
  rw [hp, hL, hS0]
  exact h
 rw [hp, hS0] at HRL HC HRF
 rw [hL] at HNR HRF HRW HRL HRM
 refine Calls.mono (R := fun e Y' => e = .returned (.tuple #[.bool (decide (nm8 (ens8 T L) L ∉ S0.rows)), .int .i64 0]) /\ ∃ s', BX8 w g mn mr m (ens8 T L) (ky8 K p) s' (PA8 g tv mn mr B K) Y Y' /\ s' p = ad7 S0 (nm8 (ens8 T L) L) /\ ∀ q, q ≠ p -> s' q = s q) ?_ (fun e Y' h => HQ.out e Y' h)
 clear hb0 HX0 hx hf h hwd hc hk hkp hl hkl hap hp hL hS0 HQ
 obtain ⟨⟨k, m', s'⟩, nm, l⟩ := a
 go_enter Tryz.func10, Tryz.ntmps10
 go_wp2_with (first
  | (go_at_call 24; refine (HF.out _ HB0.out).mono ?_; clear HF; rintro e w1 ⟨rfl, hb⟩; have HB1 := hm7 (below_step HB0.out hb); clear q0 q1 q2 q3 q4; obtain ⟨⟨q0, q1⟩, q2, q3, q4⟩ := five8 (HX.out.below hb); have HX1 := hm7 (HX.out.below hb); clear hb HX)
  | (go_at_call 31; refine (HNR.out _ HB1.out).mono ?_; clear HNR; rintro e w2 ⟨tv', rv, rfl, ht, ho, hf, ha⟩; have HBT := hm7 ((HS.out.below HB1.out).tab ht hf ha); have HO := hm7 ho; have HF2 := hm7 hf; have hx2 := HX1.out.fr hf (fun hq => by have := HS.out.t.lt hq; omega); clear q0 q1 q2 q3 q4; obtain ⟨⟨q0, q1⟩, q2, q3, q4⟩ := five8 hx2; clear ht ho hf ha HX1 hx2)
  | (go_at_call 33; refine (HPR.out _).mono ?_; clear HPR; rintro e w3 ⟨rfl, hb⟩; have HB3 := hm7 hb; clear hb q0 q1 q2 q3 q4)
  | (go_at_call 32; refine (HRF.out _ _ (HBT.out.1.below HB3.out)).mono ?_; clear HRF; rintro e w4 ⟨ga', B', s2, rfl, h1, h2, h3, h4, h5, h6⟩; have H4 := hm7 (And.intro h1 (And.intro h2 (And.intro h3 (And.intro h4 (And.intro h5 h6))))); have had := h1.pt p h2; rw [h3] at had; have HAD := hm7 (had.add ((show OwI w4 w1.heap.size rv (nm8 (ens8 T L) L) from row7_fr (row7_below HO.out HB3.out) h5 (fun b hb e => by have := (HO.out.lt b hb).1; have := HS.out.r.lt; have := HB1.out.size; omega)).li HRW.out) HRL.out HRM.out HC.out); clear had h1 h2 h3 h4 h5 h6)
  | (go_at_call 34; refine HAD.out.mono ?_; clear HAD; rintro e w5 ⟨rfl, hpx⟩; have HPX := hm7 hpx; clear hpx; obtain ⟨bb, hbb⟩ : ∃ bb, decide (nm8 (ens8 T L) L ∉ S0.rows) = bb := ⟨_, rfl⟩; rw [hbb]; have HBB := hm7 hbb; clear hbb))
 go_ret2
 obtain ⟨h1, h2, h3, h4, h5, h6⟩ := H4.out
 obtain ⟨N, hbs, hf5, hn⟩ := h1.one h2 HPX.out
 have z1 := HB1.out.size
 have z2 := HF2.out.size
 have z3 := HB3.out.size
 have z4 := h5.size
 have ho : ∀ b, PA8 g tv' mn mr B' (ky8 K p) b -> PA8 g tv mn mr B K b ∨ Y.heap.size <= b := fun b hb => by
  rcases h6 b hb with q | q
  ·rcases HBT.out.2 b q with q | q
   ·exact Or.inl q
   ·exact Or.inr (by omega)
  ·exact Or.inr (by omega)
 refine ⟨by rw [HBB.out]; rfl, up8 s2 p (ad7 S0 (nm8 (ens8 T L) L)), ⟨tv', ga', up8 B' p N, hbs, ?_, ?_⟩, up8_same _ _ _, fun q hq => (up8_other _ _ hq).trans (h4 q hq)⟩
 ·refine ((((Fr.of HB1.out).trans HF2.out fun b _ hq => Or.inl hq).then HB3.out).trans h5 fun b _ hq => Or.inr (Or.inl hq)).trans hf5 fun b hb hq => ?_
  rcases ho b (Or.inr (Or.inr ⟨p, h2, hq⟩)) with q | q
  ·exact q
  ·omega
 ·intro b hb
  rcases PA8.up8 hb with q | q
  ·exact ho b q
  ·rcases hn b q with q | q
   ·exact ho b (Or.inr (Or.inr ⟨p, h2, q⟩))
   ·exact Or.inr (by omega)
end Go.Proofs.YtechceagghcipaaGreatDoor
