import Derived.Test.YtechceagghcipabGreatDoorW3
import Derived.Test.YtechceagghcipabGreatDoorRA2
namespace Go.Proofs.YtechceagghcipabGreatDoor
open Go.RowKit
attribute [local go_sem ↓] Go.wp_at_zero Go.wp_at_succ
section
variable {w : World} {g : Nat} {tv : Value} {mn mr : Nat} {ga : Pd -> Nat} {B : Pd -> Nat -> Prop} {m : Nat} {T : List Tm} {K : List Pd} {s : Pd -> St7} {Y Y' : World}
theorem BS.low (h : BS w g tv mn mr ga B m T K s Y) {P : Nat -> Prop} (hf : Fr P Y Y') (hP : ∀ b, P b -> b < Y.heap.size -> w.heap.size <= b) : Below w.heap.size w Y' :=
 h.bl.trans (Fr.low (Fr.mono hf (Q := fun b => w.heap.size <= b) fun b hl hb => hP b hb hl) h.bl.size)
theorem BS.tab (h : BS w g tv mn mr ga B m T K s Y) {tv' : Value} {T' : List Tm} (ht : TB8 g tv' mn (.map (some mr)) T' Y') (hf : Fr (PB8 g tv mn) Y Y') (ha : ∀ b, tv'.ownBlock = some b -> tv.ownBlock = some b ∨ Y.heap.size <= b) :
  BS w g tv' mn mr ga B m T' K s Y' /\ ∀ b, PA8 g tv' mn mr B K b -> PA8 g tv mn mr B K b ∨ Y.heap.size <= b := by
 have hp : ∀ b, PB8 g tv' mn b -> PB8 g tv mn b ∨ Y.heap.size <= b := fun b hb => by
  rcases hb with rfl | hb | rfl
  ·exact Or.inl (Or.inl rfl)
  ·exact (ha b hb).elim (fun q => Or.inl (Or.inr (Or.inl q))) Or.inr
  ·exact Or.inl (Or.inr (Or.inr rfl))
 have hz := h.bl.size
 refine ⟨⟨ht, h.r.fr hf h.am, h.nd, h.kp, fun p hp' => (h.pt p hp').fr hf fun b hb _ => ⟨h.lo b (Or.inl hb), fun hq => (h.ap p hp' b hq).1 hb⟩, fun p hp' b hb => ⟨fun hq => ?_, (h.ap p hp' b hb).2⟩, h.a2, fun hq => ?_, fun b hb => ?_, h.low hf fun b hb _ => h.lo b (Or.inl hb)⟩, fun b hb => ?_⟩
 ·rcases hp b hq with q | q
  ·exact (h.ap p hp' b hb).1 q
  ·have := ((h.pt p hp').t b hb).2; omega
 ·rcases hp _ hq with q | q
  ·exact h.am q
  ·have := h.r.lt; omega
 ·rcases hb with hb | hb
  ·rcases hp b hb with q | q
   ·exact h.lo b (Or.inl q)
   ·omega
  ·exact h.lo b (Or.inr hb)
 ·rcases hb with hb | hb
  ·exact (hp b hb).elim (fun q => Or.inl (Or.inl q)) Or.inr
  ·exact Or.inl (Or.inr hb)
theorem BS.one (h : BS w g tv mn mr ga B m T K s Y) {p : Pd} (hp : p ∈ K) {x : St7} (hx : PX w (B p) (ga p) m x Y Y') :
  ∃ N, BS w g tv mn mr ga (up8 B p N) m T K (up8 s p x) Y' /\ Fr (B p) Y Y' /\ ∀ b, N b -> B p b ∨ Y.heap.size <= b := by
 obtain ⟨hf, N, hN, hn⟩ := hx
 have hlt := fun q hq b hb => ((h.pt q hq).t b hb).2
 have hm : ∀ {P : Pd -> Prop}, (∀ q ∈ K, q ≠ p -> P q) -> P p -> ∀ q ∈ K, P q := fun h1 h2 q hq => by
  by_cases e : q = p
  ·rw [e]; exact h2
  ·exact h1 q hq e
 refine ⟨N, ⟨h.t.fr hf fun b hb hq => (h.ap p hp b hq).1 hb, h.r.fr hf fun hq => (h.ap p hp _ hq).2 rfl, h.nd, h.kp, hm (fun q hq e => ?_) ?_, hm (fun q hq e => ?_) ?_, hm (fun q hq e => hm (fun r hr e' => ?_) ?_) (hm (fun r hr e' => ?_) ?_), h.am, h.lo, h.low hf fun b hb _ => ((h.pt p hp).t b hb).1⟩, hf, hn⟩
 ·rw [up8_other _ _ e, up8_other _ _ e]
  exact (h.pt q hq).fr hf fun b hb _ => ⟨((h.pt p hp).t b hb).1, h.a2 p hp q hq (Ne.symm e) b hb⟩
 ·rw [up8_same, up8_same]; exact hN
 ·rw [up8_other _ _ e]; exact h.ap q hq
 ·rw [up8_same]
  intro b hb
  rcases hn b hb with q | q
  ·exact h.ap p hp b q
  ·exact ⟨fun hq => by have := h.t.lt hq; omega, fun hq => by have := h.r.lt; omega⟩
 ·rw [up8_other _ _ e, up8_other _ _ e']; exact h.a2 q hq r hr
 ·intro _ b hb hc
  rw [up8_other _ _ e] at hb
  rw [up8_same] at hc
  rcases hn b hc with c | c
  ·exact h.a2 q hq p hp e b hb c
  ·have := hlt q hq b hb; omega
 ·intro _ b hb hc
  rw [up8_other _ _ e'] at hc
  rw [up8_same] at hb
  rcases hn b hb with c | c
  ·exact h.a2 p hp r hr (Ne.symm e') b c hc
  ·have := hlt r hr b hc; omega
 ·exact fun e => absurd rfl e
end
open Classical in
noncomputable def ky8 (K : List Pd) (p : Pd) : List Pd := if p ∈ K then K else K ++ [p]
open Classical in
noncomputable def st8 (K : List Pd) (s : Pd -> St7) (p : Pd) (n : Nat) : St7 := if p ∈ K then s p else New7 (1 + n)
def At.pd8 (a : At) : Pd := ⟨a.name, (a.args.length : Int)⟩
def BX8 (w : World) (g mn mr m : Nat) (T : List Tm) (K : List Pd) (s : Pd -> St7) (A : Nat -> Prop) (Y Y' : World) : Prop :=
 ∃ tv ga B, BS w g tv mn mr ga B m T K s Y' /\ Fr A Y Y' /\ ∀ b, PA8 g tv mn mr B K b -> A b ∨ Y.heap.size <= b
theorem relFor8_any (w : World) (g : Nat) (tv : Value) (mn mr : Nat) (ga : Pd -> Nat) (B : Pd -> Nat -> Prop) (m : Nat) (T : List Tm) (K : List Pd) (s : Pd -> St7) (a : At) (Y : World) (h : BS w g tv mn mr ga B m T K s Y) (hk : KeyP a.pd8) (hn : a.args.length <= 1000000000000) (hkl : K.length <= 1000000000000) :
  Calls Tryz.prog 34 #[.pointer (some ⟨g, 0, none⟩), .agg #[.string a.name, .int .i64 (a.args.length : Int)]] Y fun e Y' => ∃ ga' B' s', e = .returned (.pointer (some ⟨ga' a.pd8, 0, none⟩)) /\ BS w g tv mn mr ga' B' m T (ky8 K a.pd8) s' Y' /\ a.pd8 ∈ ky8 K a.pd8 /\ s' a.pd8 = st8 K s a.pd8 a.args.length /\ (∀ q, q ≠ a.pd8 -> s' q = s q) /\ Fr (fun b => b = mr) Y Y' /\ ∀ b, PA8 g tv mn mr B' (ky8 K a.pd8) b -> PA8 g tv mn mr B K b ∨ Y.heap.size <= b := by
 by_cases hp : a.pd8 ∈ K
 ·refine (relFor8_old w g tv mn mr ga B m T K s a.name a.args.length Y h hk hp).mono ?_
  rintro e Y' ⟨rfl, hb⟩
  have e1 : ky8 K a.pd8 = K := if_pos hp
  have e2 : st8 K s a.pd8 a.args.length = s a.pd8 := if_pos hp
  rw [e1, e2]
  exact ⟨ga, B, s, rfl, h.below hb, hp, rfl, fun _ _ => rfl, Fr.of hb, fun b hb => Or.inl hb⟩
 ·refine (relFor8_new w g tv mn mr ga B m T K s a.name a.args.length Y h hk hp hn hkl).mono ?_
  rintro e Y' ⟨g1, N, rfl, hs, hf, hN⟩
  have e1 : ky8 K a.pd8 = K ++ [a.pd8] := if_neg hp
  have e2 : st8 K s a.pd8 a.args.length = New7 (1 + a.args.length) := if_neg hp
  rw [e1, e2]
  refine ⟨up8 ga a.pd8 g1, up8 B a.pd8 N, up8 s a.pd8 (New7 (1 + a.args.length)), by rw [up8_same], hs, by simp, up8_same _ _ _, fun q hq => up8_other _ _ hq, hf, ?_⟩
  rintro b (hb | hb | ⟨q, hq, hb⟩)
  ·exact Or.inl (Or.inl hb)
  ·exact Or.inl (Or.inr (Or.inl hb))
  ·by_cases e : q = a.pd8
   ·subst e
    rw [up8_same] at hb
    exact Or.inr (hN b hb)
   ·rw [up8_other _ _ e] at hb
    rcases List.mem_append.1 hq with hq | hq
    ·exact Or.inl (Or.inr (Or.inr ⟨q, hq, hb⟩))
    ·exact absurd (List.mem_singleton.1 hq) e
end Go.Proofs.YtechceagghcipabGreatDoor
namespace Go.Proofs.YtechceagghcipabGreatDoor
open Go.RowKit
attribute [local go_sem ↓] Go.wp_at_zero Go.wp_at_succ
theorem ix8_lt {T : List Tm} {t : Tm} {i : Nat} (h : ix8 T t = some i) : i < T.length := (List.getElem?_eq_some_iff.1 (ix8_some h)).1
theorem wf_of8 {x : Int} (h1 : 0 <= x) (h2 : x <= 1000000000) : (Lit.int .i64 x).wf = true := by
 simp [Lit.wf, IntKind.min, IntKind.max, IntKind.signed, IntKind.bits]
 omega
theorem nm8_w {T : List Tm} (hT : T.length <= 1000000000) (L : List Tm) : w64 (nm8 T L) := fun x hx => by
 obtain ⟨t, -, rfl⟩ := List.mem_map.1 hx
 have : (ix8 T t).getD 0 <= 1000000000 := by
  cases h : ix8 T t with
  | none => simp
  | some i => have := ix8_lt h; simp; omega
 generalize (ix8 T t).getD 0 = n at this
 exact wf_of8 (by omega) (by omega)
set_option maxRecDepth 20000 in
set_option maxHeartbeats 1000000 in
theorem badd8_no (a : At) (x : Value) (g : Nat) (Y : World) (hx : TsP Y x a.args) (hl : a.args.length <= 1000000000) (hf : a.fact = false) :
  Calls Tryz.prog 12 #[.pointer (some ⟨g, 0, none⟩), a.v x] Y fun e Y' => e = .returned (.tuple #[.bool false, .int .i64 81]) /\ Below Y.heap.size Y Y' := by
 have hb0 := below1 Y (.cells #[.int .i64 a.by_.k, .int .i64 a.by_.n, .string a.by_.s, .string a.name, x] 33)
 have HF : Hid (∀ X : World, Below Y.heap.size Y X -> Calls Tryz.prog 32 #[a.v x] X fun e Y' => e = .returned (.bool false) /\ Below X.heap.size X Y') := fun X hX => by
  have := fact_any a x X ((hx.later hX).ts (by omega))
  rw [hf] at this
  exact this
 have HX0 := Bk.new Y #[.int .i64 a.by_.k, .int .i64 a.by_.n, .string a.by_.s, .string a.name, x] 33
 have q0 := HX0.cell (i := 0) rfl
 have q1 := HX0.cell (i := 1) rfl
 have q2 := HX0.cell (i := 2) rfl
 have q3 := HX0.cell (i := 3) rfl
 have q4 := HX0.cell (i := 4) rfl
 have HB0 := hm7 hb0
 obtain ⟨ax, cx, rfl⟩ := hx.shape
 clear hb0 HX0 hx hf
 obtain ⟨⟨k, m, s⟩, nm, l⟩ := a
 go_enter Tryz.func12, Tryz.ntmps12
 go_wp2_with (go_at_call 32; refine (HF.out _ HB0.out).mono ?_; clear HF; rintro e w1 ⟨rfl, hb⟩; have HB1 := hm7 (below_step HB0.out hb); clear hb)
 go_ret2
 exact ⟨rfl, HB1.out⟩
def Ba8 (w : World) (g : Nat) (tv : Value) (mn mr : Nat) (B : Pd -> Nat -> Prop) (m : Nat) (T : List Tm) (K : List Pd) (s : Pd -> St7) (a : At) (Y : World) (e : Ending) (Y' : World) : Prop :=
 e = .returned (.tuple #[.bool (decide (nm8 (ens8 T a.pl) a.pl ∉ (st8 K s a.pd8 a.args.length).rows)), .int .i64 0]) /\ ∃ s', BX8 w g mn mr m (ens8 T a.pl) (ky8 K a.pd8) s' (PA8 g tv mn mr B K) Y Y' /\ s' a.pd8 = ad7 (st8 K s a.pd8 a.args.length) (nm8 (ens8 T a.pl) a.pl) /\ ∀ q, q ≠ a.pd8 -> s' q = s q
theorem PA8.up8 {g : Nat} {tv : Value} {mn mr : Nat} {B : Pd -> Nat -> Prop} {K : List Pd} {p : Pd} {N : Nat -> Prop} {b : Nat} (h : PA8 g tv mn mr (up8 B p N) K b) : PA8 g tv mn mr B K b ∨ N b := by
 rcases h with h | h | ⟨q, hq, h⟩
 ·exact Or.inl (Or.inl h)
 ·exact Or.inl (Or.inr (Or.inl h))
 ·by_cases e : q = p
  ·subst e
   rw [up8_same] at h
   exact Or.inr h
  ·rw [up8_other _ _ e] at h
   exact Or.inl (Or.inr (Or.inr ⟨q, hq, h⟩))
theorem five8 {w : World} {g : Nat} {a b c d e : Value} {t : TypeId} (h : Bk w g #[a, b, c, d, e] t) : (w.cell? ⟨g, 0, none⟩ = some a /\ w.cell? ⟨g, 1, none⟩ = some b) /\ w.cell? ⟨g, 2, none⟩ = some c /\ w.cell? ⟨g, 3, none⟩ = some d /\ w.cell? ⟨g, 4, none⟩ = some e := ⟨⟨h.cell rfl, h.cell rfl⟩, h.cell rfl, h.cell rfl, h.cell rfl⟩
set_option maxRecDepth 20000 in
set_option maxHeartbeats 1000000 in
theorem badd8_any (w : World) (g : Nat) (tv : Value) (mn mr : Nat) (ga : Pd -> Nat) (B : Pd -> Nat -> Prop) (m : Nat) (T : List Tm) (K : List Pd) (s : Pd -> St7) (a : At) (x : Value) (Y : World) (h : BS w g tv mn mr ga B m T K s Y) (hx : TsP Y x a.args) (hf : a.fact = true) (hk : ∀ t ∈ a.pl, KeyT t) (hkp : KeyP a.pd8) (hl : T.length + a.pl.length <= 1000000000) (hkl : K.length <= 1000000000000)
  (hwd : a.pl.length = (st8 K s a.pd8 a.args.length).wd) (hc : (st8 K s a.pd8 a.args.length).rows.length < 10000000000) :
  Calls Tryz.prog 12 #[.pointer (some ⟨g, 0, none⟩), a.v x] Y (Ba8 w g tv mn mr B m T K s a Y) := by
 have hap : a.pl.length = a.args.length + 1 := rfl
 have hb0 := below1 Y (.cells #[.int .i64 a.by_.k, .int .i64 a.by_.n, .string a.by_.s, .string a.name, x] 33)
 have HF : Hid (∀ X : World, Below Y.heap.size Y X -> Calls Tryz.prog 32 #[a.v x] X fun e Y' => e = .returned (.bool true) /\ Below X.heap.size X Y') := fun X hX => by
  have := fact_any a x X ((hx.later hX).ts (by omega))
  rw [hf] at this
  exact this
 have HNR : Hid (∀ X : World, Below Y.heap.size Y X -> Calls Tryz.prog 33 #[.pointer (some ⟨g, 0, none⟩), a.v x] X (Nr8 g tv mn (.map (some mr)) T a.pl X)) := fun X hX => newRow8_any g tv mn _ T a x X (h.t.below hX) (hx.later hX) hk hl
 have hsh := hx.shape
 have HPR : Hid (∀ X : World, Calls Tryz.prog 35 #[a.v x] X fun e Y' => e = .returned (.agg #[.string a.name, .int .i64 (a.args.length : Int)]) /\ Below X.heap.size X Y') := fun X => predOf8_any a x X hsh
 have HRF : Hid (∀ (tv' : Value) (X : World), BS w g tv' mn mr ga B m (ens8 T a.pl) K s X -> Calls Tryz.prog 34 #[.pointer (some ⟨g, 0, none⟩), .agg #[.string a.name, .int .i64 (a.args.length : Int)]] X fun e Y' => ∃ ga' B' s', e = .returned (.pointer (some ⟨ga' a.pd8, 0, none⟩)) /\ BS w g tv' mn mr ga' B' m (ens8 T a.pl) (ky8 K a.pd8) s' Y' /\ a.pd8 ∈ ky8 K a.pd8 /\ s' a.pd8 = st8 K s a.pd8 a.args.length /\ (∀ q, q ≠ a.pd8 -> s' q = s q) /\ Fr (fun b => b = mr) X Y' /\ ∀ b, PA8 g tv' mn mr B' (ky8 K a.pd8) b -> PA8 g tv' mn mr B K b ∨ X.heap.size <= b) := fun tv' X hX => relFor8_any w g tv' mn mr ga B m _ K s a X hX hkp (by omega) hkl
 have HRW := hm7 (show w64 (nm8 (ens8 T a.pl) a.pl) from nm8_w (by have := ens8_len a.pl T; omega) _)
 have HRL := hm7 (show (nm8 (ens8 T a.pl) a.pl).length = (st8 K s a.pd8 a.args.length).wd by rw [nm8_len]; exact hwd)
 have HRM := hm7 (show (nm8 (ens8 T a.pl) a.pl).length <= 10000000000 by rw [nm8_len]; omega)
 have HC := hm7 hc
 have HX0 := Bk.new Y #[.int .i64 a.by_.k, .int .i64 a.by_.n, .string a.by_.s, .string a.name, x] 33
 obtain ⟨⟨q0, q1⟩, q2, q3, q4⟩ := five8 HX0
 have HX := hm7 HX0
 have HB0 := hm7 hb0
 have HS := hm7 h
 obtain ⟨ax, cx, rfl⟩ := hsh
 obtain ⟨p, hp⟩ : ∃ p, a.pd8 = p := ⟨_, rfl⟩
 obtain ⟨L, hL⟩ : ∃ L, a.pl = L := ⟨_, rfl⟩
 obtain ⟨S0, hS0⟩ : ∃ S0, st8 K s p a.args.length = S0 := ⟨_, rfl⟩
 have HQ : Hid (∀ e Y', (e = .returned (.tuple #[.bool (decide (nm8 (ens8 T L) L ∉ S0.rows)), .int .i64 0]) /\ ∃ s', BX8 w g mn mr m (ens8 T L) (ky8 K p) s' (PA8 g tv mn mr B K) Y Y' /\ s' p = ad7 S0 (nm8 (ens8 T L) L) /\ ∀ q, q ≠ p -> s' q = s q) -> Ba8 w g tv mn mr B m T K s a Y e Y') := fun e Y' h => by
  unfold Ba8
  rw [hp, hL, hS0]
  exact h
 rw [hp, hS0] at HRL HC HRF
 rw [hL] at HNR HRF HRW HRL HRM
 refine Calls.mono (R := fun e Y' => e = .returned (.tuple #[.bool (decide (nm8 (ens8 T L) L ∉ S0.rows)), .int .i64 0]) /\ ∃ s', BX8 w g mn mr m (ens8 T L) (ky8 K p) s' (PA8 g tv mn mr B K) Y Y' /\ s' p = ad7 S0 (nm8 (ens8 T L) L) /\ ∀ q, q ≠ p -> s' q = s q) ?_ (fun e Y' h => HQ.out e Y' h)
 clear hb0 HX0 hx hf h hwd hc hk hkp hl hkl hap hp hL hS0 HQ
 obtain ⟨⟨k, m', s'⟩, nm, l⟩ := a
 go_enter Tryz.func12, Tryz.ntmps12
 go_wp2_with (first
  | (go_at_call 32; refine (HF.out _ HB0.out).mono ?_; clear HF; rintro e w1 ⟨rfl, hb⟩; have HB1 := hm7 (below_step HB0.out hb); clear q0 q1 q2 q3 q4; obtain ⟨⟨q0, q1⟩, q2, q3, q4⟩ := five8 (HX.out.below hb); have HX1 := hm7 (HX.out.below hb); clear hb HX)
  | (go_at_call 33; refine (HNR.out _ HB1.out).mono ?_; clear HNR; rintro e w2 ⟨tv', rv, rfl, ht, ho, hf, ha⟩; have HBT := hm7 ((HS.out.below HB1.out).tab ht hf ha); have HO := hm7 ho; have HF2 := hm7 hf; have hx2 := HX1.out.fr hf (fun hq => by have := HS.out.t.lt hq; omega); clear q0 q1 q2 q3 q4; obtain ⟨⟨q0, q1⟩, q2, q3, q4⟩ := five8 hx2; clear ht ho hf ha HX1 hx2)
  | (go_at_call 35; refine (HPR.out _).mono ?_; clear HPR; rintro e w3 ⟨rfl, hb⟩; have HB3 := hm7 hb; clear hb q0 q1 q2 q3 q4)
  | (go_at_call 34; refine (HRF.out _ _ (HBT.out.1.below HB3.out)).mono ?_; clear HRF; rintro e w4 ⟨ga', B', s2, rfl, h1, h2, h3, h4, h5, h6⟩; have H4 := hm7 (And.intro h1 (And.intro h2 (And.intro h3 (And.intro h4 (And.intro h5 h6))))); have had := h1.pt p h2; rw [h3] at had; have HAD := hm7 (had.add ((show OwI w4 w1.heap.size rv (nm8 (ens8 T L) L) from row7_fr (row7_below HO.out HB3.out) h5 (fun b hb e => by have := (HO.out.lt b hb).1; have := HS.out.r.lt; have := HB1.out.size; omega)).li HRW.out) HRL.out HRM.out HC.out); clear had h1 h2 h3 h4 h5 h6)
  | (go_at_call 36; refine HAD.out.mono ?_; clear HAD; rintro e w5 ⟨rfl, hpx⟩; have HPX := hm7 hpx; clear hpx; obtain ⟨bb, hbb⟩ : ∃ bb, decide (nm8 (ens8 T L) L ∉ S0.rows) = bb := ⟨_, rfl⟩; rw [hbb]; have HBB := hm7 hbb; clear hbb))
 go_ret2
 obtain ⟨h1, h2, h3, h4, h5, h6⟩ := H4.out
 obtain ⟨N, hbs, hf5, hn⟩ := h1.one h2 HPX.out
 have z1 := HB1.out.size
 have z2 := HF2.out.size
 have z3 := HB3.out.size
 have z4 := h5.size
 have ho : ∀ b, PA8 g tv' mn mr B' (ky8 K p) b -> PA8 g tv mn mr B K b ∨ Y.heap.size <= b := fun b hb => by
  rcases h6 b hb with q | q
  ·rcases HBT.out.2 b q with q | q
   ·exact Or.inl q
   ·exact Or.inr (by omega)
  ·exact Or.inr (by omega)
 refine ⟨by rw [HBB.out]; rfl, up8 s2 p (ad7 S0 (nm8 (ens8 T L) L)), ⟨tv', ga', up8 B' p N, hbs, ?_, ?_⟩, up8_same _ _ _, fun q hq => (up8_other _ _ hq).trans (h4 q hq)⟩
 ·refine ((((Fr.of HB1.out).trans HF2.out fun b _ hq => Or.inl hq).then HB3.out).trans h5 fun b _ hq => Or.inr (Or.inl hq)).trans hf5 fun b hb hq => ?_
  rcases ho b (Or.inr (Or.inr ⟨p, h2, hq⟩)) with q | q
  ·exact q
  ·omega
 ·intro b hb
  rcases PA8.up8 hb with q | q
  ·exact ho b q
  ·rcases hn b q with q | q
   ·exact ho b (Or.inr (Or.inr ⟨p, h2, q⟩))
   ·exact Or.inr (by omega)
end Go.Proofs.YtechceagghcipabGreatDoor
namespace Go.Proofs.YtechceagghcipabGreatDoor
open Go.RowKit
attribute [local go_sem ↓] Go.wp_at_zero Go.wp_at_succ
open Classical in
noncomputable def bpt8 (T : List Tm) (K : List Pd) (s : Pd -> St7) (a : At) : Int := if a.pd8 ∈ K /\ kn8 T a.pl = true then part7 (s a.pd8) (nm8 T a.pl) else 0
theorem PT.part {w Y : World} {T : Nat -> Prop} {g m : Nat} {s : St7} {G : Nat -> Prop} {v : Value} {r : List Int} (h : PT w T g m s Y) (hv : Li G Y v r) (hl : r.length <= 10000000000) :
  Calls Tryz.prog 43 #[.pointer (some ⟨g, 0, none⟩), v] Y fun e Y' => e = .returned (.int .i64 (part7 s r)) /\ Below Y.heap.size Y Y' := by
 obtain ⟨F, S, h1, -⟩ := h
 exact part7_any g F S G m s v r Y h1 hv hl
set_option maxRecDepth 20000 in
set_option maxHeartbeats 2000000 in
theorem bpart8_any (w : World) (g : Nat) (tv : Value) (mn mr : Nat) (ga : Pd -> Nat) (B : Pd -> Nat -> Prop) (m : Nat) (T : List Tm) (K : List Pd) (s : Pd -> St7) (a : At) (x : Value) (Y : World) (h : BS w g tv mn mr ga B m T K s Y) (hx : TsP Y x a.args) (hk : ∀ t ∈ a.pl, KeyT t) (hkp : KeyP a.pd8) (hl : a.pl.length <= 1000000000) :
  Calls Tryz.prog 16 #[.pointer (some ⟨g, 0, none⟩), a.v x] Y fun e Y' => e = .returned (.int .i64 (bpt8 T K s a)) /\ Below Y.heap.size Y Y' := by
 have hap : a.pl.length = a.args.length + 1 := rfl
 obtain ⟨Y0, hY0⟩ : ∃ Y0, Y.alloc (.cells #[.int .i64 a.by_.k, .int .i64 a.by_.n, .string a.by_.s, .string a.name, x] 33) = Y0 := ⟨_, rfl⟩
 have hb0 : Below Y.heap.size Y Y0 := by rw [<- hY0]; exact below1 _ _
 have HBX : Hid (Bk Y0 Y.heap.size #[.int .i64 a.by_.k, .int .i64 a.by_.n, .string a.by_.s, .string a.name, x] 33) := by show Bk _ _ _ _; rw [<- hY0]; exact Bk.new _ _ _
 have HBK := hm7 ((h.t.b).below hb0)
 have HB0 := hm7 hb0
 have hsh := hx.shape
 have HPR : Hid (∀ X : World, Calls Tryz.prog 35 #[a.v x] X fun e Y' => e = .returned (.agg #[.string a.name, .int .i64 (a.args.length : Int)]) /\ Below X.heap.size X Y') := fun X => predOf8_any a x X hsh
 have HRO : Hid (∀ X : World, Below Y.heap.size Y X -> Calls Tryz.prog 42 #[.pointer (some ⟨g, 0, none⟩), a.v x] X (Rw8 T a.pl X)) := fun X hX => row8_any g tv mn _ T a x X (h.t.below hX) (hx.later hX) hk hl
 have HW := hm7 (nm8_w (show T.length <= 1000000000 from h.t.l) a.pl)
 have HRM := hm7 (show (nm8 T a.pl).length <= 10000000000 by rw [nm8_len]; omega)
 have HLK : Hid (∀ X : World, Below Y0.heap.size Y0 X -> (Instr.lookup 42 (.map (some mr)) (.agg #[.string a.name, .int .i64 (a.args.length : Int)]) false).run Tryz.prog X = .ok ((rlF ga K a.pd8).getD (.pointer none)) X) := fun X hX => ((h.below hb0).below hX).look hkp
 obtain ⟨ax, cx, rfl⟩ := hsh
 by_cases hp : a.pd8 ∈ K
 ·obtain ⟨gp, hgp⟩ : ∃ gp, ga a.pd8 = gp := ⟨_, rfl⟩
  have HL := HLK
  rw [rlF_in hp, hgp] at HL
  have HPT : Hid (∀ X : World, Below Y.heap.size Y X -> PT w (B a.pd8) gp m (s a.pd8) X) := fun X hX => by rw [<- hgp]; exact (h.pt _ hp).below hX
  cases hkn : kn8 T a.pl with
  | false =>
   have e : bpt8 T K s a = 0 := if_neg (by rw [hkn]; simp)
   rw [e]
   unfold Rw8 at HRO
   rw [hkn] at HRO
   clear h hx hk hkp hb0 hgp hp HLK hap e hkn HPT HW HRM hl
   obtain ⟨⟨k, i, z⟩, nm, l⟩ := a
   go_enter Tryz.func16, Tryz.ntmps16
   go_upto_region 1 with fail
   refine wp_region_held_drew (S := fun w' => Below Y0.heap.size Y0 w') (by kernel_rfl) (by exact (Below.refl _ _).drew) (fun hH => ?_)
   revert hH
   generalize Y0.drew = V0
   intro hH
   refine wTl 0 (.pointer (some ⟨g, 0, none⟩)) rfl (by kernel_rfl) (fun _ _ _ h => h) rfl (fun w' h => by clear h; go_simp) hH ?_
   simp only [wA, wB, wC, wD]
   refine wTl 1 (.pointer (some ⟨g, 0, none⟩)) rfl (by kernel_rfl) (fun _ _ _ h => h) rfl (fun w' h => by clear h; go_simp) hH ?_
   simp only [wA, wB, wC, wD]
   refine wTl 2 (.pointer (some ⟨g, 2, none⟩)) rfl (by kernel_rfl) (fun _ _ _ h => h) rfl (fun w' h => by clear h; go_simp) hH ?_
   simp only [wA, wB, wC, wD]
   refine wTl 3 (.map (some mr)) rfl (by kernel_rfl) (fun _ _ _ h => h) rfl (fun w' h => by have q := (HBK.out.below h).cell (i := 2) rfl; clear h; go_simp) hH ?_
   simp only [wA, wB, wC, wD]
   refine wTl 4 (.agg #[.int .i64 k, .int .i64 i, .string z, .string nm, .slice ax l.length cx]) rfl (by kernel_rfl) (fun _ _ _ h => h) rfl (fun w' h => by obtain ⟨⟨q0, q1⟩, q2, q3, q4⟩ := five8 (HBX.out.below h); clear h; go_simp) hH ?_
   simp only [wA, wB, wC, wD]
   refine wRd 5 (by kernel_rfl) rfl (fun K hK => ?_)
   go_simp
   refine (HPR.out _).mono ?_
   rintro e U ⟨rfl, hb⟩
   refine hK.out _ _ (hH.trans (hb.mono hH.size)) (fun hH => ?_)
   clear hK hb
   refine wTl 6 (.pointer (some ⟨gp, 0, none⟩)) rfl (by kernel_rfl) (fun _ _ _ h => h) rfl (fun w' h => by have q := HL.out w' h; clear h; go_simp) hH ?_
   simp only [wA, wB, wC, wD]
   refine wTl 7 (.pointer (some ⟨gp, 0, none⟩)) rfl (by kernel_rfl) (fun _ _ _ h => h) rfl (fun w' h => by clear h; go_simp) hH ?_
   simp only [wA, wB, wC, wD]
   refine wpAnyH_done (by kernel_rfl) ?_ _
   have HV := hm7 hH
   clear hH
   obtain ⟨⟨q0, q1⟩, q2, q3, q4⟩ := five8 (HBX.out.below HV.out)
   have HYV := hm7 (HB0.out.trans (HV.out.mono HB0.out.size))
   go_wp2_with (go_at_call 42; refine (HRO.out _ HYV.out).mono ?_; clear HRO; rintro e w1 ⟨rv, rfl, -, h2, hb⟩; have hr := h2 rfl; subst hr; have HB1 := hm7 hb; clear hb h2)
   go_ret
   exact ⟨rfl, below_step HYV.out HB1.out⟩
  | true =>
   have e : bpt8 T K s a = part7 (s a.pd8) (nm8 T a.pl) := if_pos ⟨hp, hkn⟩
   rw [e]
   unfold Rw8 at HRO
   rw [hkn] at HRO
   obtain ⟨P, hP⟩ : ∃ P, part7 (s a.pd8) (nm8 T a.pl) = P := ⟨_, rfl⟩
   have HPA : Hid (∀ (X : World) (v : Value) (b : Nat), Below Y.heap.size Y X -> OwI X b v (nm8 T a.pl) -> Calls Tryz.prog 43 #[.pointer (some ⟨gp, 0, none⟩), v] X fun e Y' => e = .returned (.int .i64 P) /\ Below X.heap.size X Y') := fun X v b hX ho => by rw [<- hP]; exact (HPT.out X hX).part (ho.li HW.out) HRM.out
   rw [hP]
   obtain ⟨L, hL⟩ : ∃ L, a.pl = L := ⟨_, rfl⟩
   rw [hL] at HRO HPA
   clear h hx hk hkp hb0 hgp hp HLK hap e hkn HPT HW HRM hl hP hL
   obtain ⟨⟨k, i, z⟩, nm, l⟩ := a
   go_enter Tryz.func16, Tryz.ntmps16
   go_upto_region 1 with fail
   refine wp_region_held_drew (S := fun w' => Below Y0.heap.size Y0 w') (by kernel_rfl) (by exact (Below.refl _ _).drew) (fun hH => ?_)
   revert hH
   generalize Y0.drew = V0
   intro hH
   refine wTl 0 (.pointer (some ⟨g, 0, none⟩)) rfl (by kernel_rfl) (fun _ _ _ h => h) rfl (fun w' h => by clear h; go_simp) hH ?_
   simp only [wA, wB, wC, wD]
   refine wTl 1 (.pointer (some ⟨g, 0, none⟩)) rfl (by kernel_rfl) (fun _ _ _ h => h) rfl (fun w' h => by clear h; go_simp) hH ?_
   simp only [wA, wB, wC, wD]
   refine wTl 2 (.pointer (some ⟨g, 2, none⟩)) rfl (by kernel_rfl) (fun _ _ _ h => h) rfl (fun w' h => by clear h; go_simp) hH ?_
   simp only [wA, wB, wC, wD]
   refine wTl 3 (.map (some mr)) rfl (by kernel_rfl) (fun _ _ _ h => h) rfl (fun w' h => by have q := (HBK.out.below h).cell (i := 2) rfl; clear h; go_simp) hH ?_
   simp only [wA, wB, wC, wD]
   refine wTl 4 (.agg #[.int .i64 k, .int .i64 i, .string z, .string nm, .slice ax l.length cx]) rfl (by kernel_rfl) (fun _ _ _ h => h) rfl (fun w' h => by obtain ⟨⟨q0, q1⟩, q2, q3, q4⟩ := five8 (HBX.out.below h); clear h; go_simp) hH ?_
   simp only [wA, wB, wC, wD]
   refine wRd 5 (by kernel_rfl) rfl (fun K hK => ?_)
   go_simp
   refine (HPR.out _).mono ?_
   rintro e U ⟨rfl, hb⟩
   refine hK.out _ _ (hH.trans (hb.mono hH.size)) (fun hH => ?_)
   clear hK hb
   refine wTl 6 (.pointer (some ⟨gp, 0, none⟩)) rfl (by kernel_rfl) (fun _ _ _ h => h) rfl (fun w' h => by have q := HL.out w' h; clear h; go_simp) hH ?_
   simp only [wA, wB, wC, wD]
   refine wTl 7 (.pointer (some ⟨gp, 0, none⟩)) rfl (by kernel_rfl) (fun _ _ _ h => h) rfl (fun w' h => by clear h; go_simp) hH ?_
   simp only [wA, wB, wC, wD]
   refine wpAnyH_done (by kernel_rfl) ?_ _
   have HV := hm7 hH
   clear hH
   obtain ⟨⟨q0, q1⟩, q2, q3, q4⟩ := five8 (HBX.out.below HV.out)
   have HYV := hm7 (HB0.out.trans (HV.out.mono HB0.out.size))
   go_wp2_with (first
    | (go_at_call 42; refine (HRO.out _ HYV.out).mono ?_; clear HRO; rintro e w1 ⟨rv, rfl, h2, -, hb⟩; have HO := hm7 (h2 rfl); have HB1 := hm7 (below_step HYV.out hb); clear hb h2)
    | (go_at_call 43; refine (HPA.out _ _ _ HB1.out HO.out).mono ?_; clear HPA; rintro e w2 ⟨rfl, hb⟩; have HB2 := hm7 hb; clear hb))
   go_ret
   exact ⟨rfl, below_step HB1.out HB2.out⟩
 ·have HL := HLK
  rw [rlF_out hp] at HL
  have e : bpt8 T K s a = 0 := if_neg fun h => hp h.1
  rw [e]
  clear h hx hk hkp hb0 hp HLK hap e HRO HW HRM hl
  obtain ⟨⟨k, i, z⟩, nm, l⟩ := a
  go_enter Tryz.func16, Tryz.ntmps16
  go_upto_region 1 with fail
  refine wp_region_held_drew (S := fun w' => Below Y0.heap.size Y0 w') (by kernel_rfl) (by exact (Below.refl _ _).drew) (fun hH => ?_)
  revert hH
  generalize Y0.drew = V0
  intro hH
  refine wTl 0 (.pointer (some ⟨g, 0, none⟩)) rfl (by kernel_rfl) (fun _ _ _ h => h) rfl (fun w' h => by clear h; go_simp) hH ?_
  simp only [wA, wB, wC, wD]
  refine wTl 1 (.pointer (some ⟨g, 0, none⟩)) rfl (by kernel_rfl) (fun _ _ _ h => h) rfl (fun w' h => by clear h; go_simp) hH ?_
  simp only [wA, wB, wC, wD]
  refine wTl 2 (.pointer (some ⟨g, 2, none⟩)) rfl (by kernel_rfl) (fun _ _ _ h => h) rfl (fun w' h => by clear h; go_simp) hH ?_
  simp only [wA, wB, wC, wD]
  refine wTl 3 (.map (some mr)) rfl (by kernel_rfl) (fun _ _ _ h => h) rfl (fun w' h => by have q := (HBK.out.below h).cell (i := 2) rfl; clear h; go_simp) hH ?_
  simp only [wA, wB, wC, wD]
  refine wTl 4 (.agg #[.int .i64 k, .int .i64 i, .string z, .string nm, .slice ax l.length cx]) rfl (by kernel_rfl) (fun _ _ _ h => h) rfl (fun w' h => by obtain ⟨⟨q0, q1⟩, q2, q3, q4⟩ := five8 (HBX.out.below h); clear h; go_simp) hH ?_
  simp only [wA, wB, wC, wD]
  refine wRd 5 (by kernel_rfl) rfl (fun K hK => ?_)
  go_simp
  refine (HPR.out _).mono ?_
  rintro e U ⟨rfl, hb⟩
  refine hK.out _ _ (hH.trans (hb.mono hH.size)) (fun hH => ?_)
  clear hK hb
  refine wTl 6 (.pointer none) rfl (by kernel_rfl) (fun _ _ _ h => h) rfl (fun w' h => by have q := HL.out w' h; clear h; go_simp) hH ?_
  simp only [wA, wB, wC, wD]
  refine wTl 7 (.pointer none) rfl (by kernel_rfl) (fun _ _ _ h => h) rfl (fun w' h => by clear h; go_simp) hH ?_
  simp only [wA, wB, wC, wD]
  refine wpAnyH_done (by kernel_rfl) ?_ _
  have HV := hm7 hH
  clear hH
  go_wp2
  go_ret
  exact ⟨rfl, HB0.out.trans (HV.out.mono HB0.out.size)⟩
end Go.Proofs.YtechceagghcipabGreatDoor
