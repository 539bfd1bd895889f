import Derived.Test.YtechceagghcipabGreatDoorRA2
import Derived.Test.YtechceagghcipabGreatDoorEB8
namespace Go.Proofs.YtechceagghcipabGreatDoor
open Go.RowKit
attribute [local go_sem ↓] Go.wp_at_zero Go.wp_at_succ
def kn8 (T L : List Tm) : Bool := L.all fun t => (ix8 T t).isSome
theorem nm8_one (T L : List Tm) (t : Tm) : nm8 T (L ++ [t]) = nm8 T L ++ [(((ix8 T t).getD 0 : Nat) : Int)] := by simp [nm8]
theorem kn8_not {T L : List Tm} {t : Tm} {j : Nat} (h : L[j]? = some t) (hn : ix8 T t = none) : kn8 T L = false := by
 unfold kn8
 rw [List.all_eq_false]
 exact ⟨t, List.mem_of_getElem? h, by simp [hn]⟩
theorem kn8_all {T L : List Tm} (h : ∀ t ∈ L, (ix8 T t).isSome = true) : kn8 T L = true := List.all_eq_true.2 h
def Rw8 (T L : List Tm) (Y : World) (e : Ending) (Y' : World) : Prop :=
 ∃ rv, e = .returned (.tuple #[rv, .bool (kn8 T L)]) /\ (kn8 T L = true -> OwI Y' Y.heap.size rv (nm8 T L)) /\ (kn8 T L = false -> rv = .slice none 0 0) /\ Below Y.heap.size Y Y'
set_option maxRecDepth 20000 in
set_option maxHeartbeats 2000000 in
theorem row8_any (g : Nat) (tv : Value) (mn : Nat) (rm : Value) (T : List Tm) (a : At) (x : Value) (Y : World) (h : TB8 g tv mn rm T Y) (hx : TsP Y x a.args) (hk : ∀ t ∈ a.pl, KeyT t) (hl : a.pl.length <= 1000000000) :
  Calls Tryz.prog 42 #[.pointer (some ⟨g, 0, none⟩), a.v x] Y (Rw8 T a.pl Y) := by
 have hb0 := below1 Y (.cells #[.int .i64 a.by_.k, .int .i64 a.by_.n, .string a.by_.s, .string a.name, x] 33)
 have hm : a.args.length <= 100000000000 := by have : a.pl.length = a.args.length + 1 := rfl; omega
 have HTM : Hid (∀ X : World, Below Y.heap.size Y X -> Calls Tryz.prog 63 #[a.v x] X fun e Y' => ∃ v, e = .returned v /\ OwnT Y' X.heap.size v a.pl /\ Below X.heap.size X Y') := fun X hX => terms8_any a x X (hx.later hX) hm
 have H := hm7 h
 have HX0 := Bk.new Y #[.int .i64 a.by_.k, .int .i64 a.by_.n, .string a.by_.s, .string a.name, x] 33
 have q0 := HX0.cell (i := 0) rfl
 have q1 := HX0.cell (i := 1) rfl
 have q2 := HX0.cell (i := 2) rfl
 have q3 := HX0.cell (i := 3) rfl
 have q4 := HX0.cell (i := 4) rfl
 have HB0 := hm7 hb0
 obtain ⟨L, hL⟩ : ∃ L, a.pl = L := ⟨_, rfl⟩
 obtain ⟨n, hn⟩ : ∃ n, L.length = n := ⟨_, rfl⟩
 rw [hL] at HTM hl hk ⊢
 have HN := hm7 hn
 rw [hn] at hl
 obtain ⟨ax, cx, rfl⟩ := hx.shape
 clear h hb0 HX0 hx hm
 obtain ⟨⟨k, m, s⟩, nm, l⟩ := a
 clear hL
 go_enter Tryz.func42, Tryz.ntmps42
 go_wp2_with (go_at_call 63; refine (HTM.out _ HB0.out).mono ?_; clear HTM; rintro e w1 ⟨lv, rfl, ho, hb⟩; obtain ⟨la, lc, elv, -⟩ := row7_form ho; rw [HN.out] at elv; subst elv; have HL1 := hm7 (ho.mono (b' := Y.heap.size) HB0.out.size); have HB1 := hm7 (below_step HB0.out hb); clear ho hb)
 go_loopg [14, 6] n (fun gg i rv wr => ∃ (j : Nat), j + gg = n /\ i = .int .i64 j /\ (∀ t ∈ L.take j, (ix8 T t).isSome = true) /\ OwI wr Y.heap.size rv (nm8 T (L.take j)) /\ OwnT wr Y.heap.size (.slice la n lc) L /\ Below Y.heap.size Y wr)
 case atStart => exact ⟨0, by omega, rfl, by simp, OwI.nil _ _, HL1.out, HB1.out⟩
 case round =>
  obtain ⟨j, hj, rfl, hal, hr, hll, hb⟩ := hrel
  have HAL := hm7 hal
  have HR := hm7 hr
  have HLL := hm7 hll
  have HB := hm7 hb
  cases gk with
  | succ gg =>
   have hlt : (j : Int) < (n : Int) := by omega
   have j0 : (0 : Int) <= (j : Int) := by omega
   obtain ⟨t, ht⟩ : ∃ t, L[j]? = some t := ⟨_, List.getElem?_eq_getElem (by have := HN.out; omega)⟩
   have hkt := hk _ (List.mem_of_getElem? ht)
   obtain ⟨tk, tn, ts⟩ := t
   have HT := hm7 ht
   obtain ⟨ra, rc, erv, -⟩ := row7_form hr
   obtain ⟨rn, hrn⟩ : ∃ rn, (nm8 T (L.take j)).length = rn := ⟨_, rfl⟩
   rw [hrn] at erv
   subst erv
   have HRN := hm7 hrn
   have HRJ : Hid (rn = j) := by show _ = _; rw [<- hrn, nm8_len, List.length_take]; have := HN.out; omega
   obtain ⟨gl, hgl⟩ : ∃ gl, la = some ⟨gl, 0, none⟩ := by
    rcases hll.2 with ⟨h1, h2⟩ | ⟨G, cap', cur, hv, -⟩
    ·simp only [Value.slice.injEq] at h1; omega
    ·simp only [Value.slice.injEq] at hv; exact ⟨G, hv.1⟩
   subst hgl
   obtain ⟨c0, c1, c2⟩ := ownT_cells hll j _ ht
   have HW1 : Hid (Bk _ _ _ _) := Bk.new wr #[.int .i64 tk, .int .i64 tn, .string ts] 30
   have hbw := below1 wr (.cells #[.int .i64 tk, .int .i64 tn, .string ts] 30)
   have HBW := hm7 hbw
   have HTW := hm7 ((H.out.below hb).below hbw)
   cases hi : ix8 T ⟨tk, tn, ts⟩ with
   | none =>
    have HKN := hm7 (kn8_not ht hi)
    have HNB : Hid (∀ X : World, Below (wr.alloc (.cells #[.int .i64 tk, .int .i64 tn, .string ts] 30)).heap.size (wr.alloc (.cells #[.int .i64 tk, .int .i64 tn, .string ts] 30)) X -> Calls Tryz.prog 74 #[.pointer (some ⟨g, 0, none⟩), .agg #[.int .i64 tk, .int .i64 tn, .string ts]] X fun e Y' => e = .returned (.tuple #[.int .i64 0, .bool false]) /\ Below X.heap.size X Y') := fun X hX => by
     have := number8_any g tv mn rm T ⟨tk, tn, ts⟩ X (HTW.out.below hX) hkt
     rw [hi] at this
     exact this
    clear hal hr hll hb ht hrn hbw hkt hi HTW
    go_upto_region 5 with fail
    generalize wr.alloc (.cells #[.int .i64 tk, .int .i64 tn, .string ts] 30) = W1 at *
    refine wp_region_held_drew (S := fun w' => Below W1.heap.size W1 w') (by kernel_rfl) (by exact (Below.refl _ _).drew) (fun hH => ?_)
    revert hH
    generalize W1.drew = V0
    intro hH
    refine wTl 0 (.pointer (some ⟨g, 0, none⟩)) rfl (by kernel_rfl) (fun _ _ _ h => h) rfl (fun w' h => by clear h; go_simp) hH ?_
    simp only [wA, wB, wC, wD]
    refine wTl 1 (.pointer (some ⟨g, 0, none⟩)) rfl (by kernel_rfl) (fun _ _ _ h => h) rfl (fun w' h => by clear h; go_simp) hH ?_
    simp only [wA, wB, wC, wD]
    refine wTl 2 (.pointer (some ⟨g, 0, none⟩)) rfl (by kernel_rfl) (fun _ _ _ h => h) rfl (fun w' h => by clear h; go_simp) hH ?_
    simp only [wA, wB, wC, wD]
    refine wTl 3 (.agg #[.int .i64 tk, .int .i64 tn, .string ts]) rfl (by kernel_rfl) (fun _ _ _ h => h) rfl (fun w' h => by have q0 := (HW1.out.below h).cell (i := 0) rfl; have q1 := (HW1.out.below h).cell (i := 1) rfl; have q2 := (HW1.out.below h).cell (i := 2) rfl; clear h; go_simp) hH ?_
    simp only [wA, wB, wC, wD]
    refine wRd 4 (by kernel_rfl) rfl (fun K hK => ?_)
    go_simp
    refine (HNB.out _ hH).mono ?_
    rintro e U ⟨rfl, hb⟩
    refine hK.out _ _ (hH.trans (hb.mono hH.size)) (fun hH => ?_)
    clear hK K hb
    try simp only [wA, wB, wC, wD]
    refine wTl 5 (.tuple #[.int .i64 0, .bool false]) rfl (by kernel_rfl) (fun _ _ _ h => h) rfl (fun w' h => by clear h; go_simp) hH ?_
    simp only [wA, wB, wC, wD]
    refine wTl 6 (.int .i64 0) rfl (by kernel_rfl) (fun _ _ _ h => h) rfl (fun w' h => by clear h; go_simp) hH ?_
    simp only [wA, wB, wC, wD]
    refine wTl 7 (.bool false) rfl (by kernel_rfl) (fun _ _ _ h => h) rfl (fun w' h => by clear h; go_simp) hH ?_
    simp only [wA, wB, wC, wD]
    refine wTl 8 (.int .i64 0) rfl (by kernel_rfl) (fun _ _ _ h => h) rfl (fun w' h => by clear h; go_simp) hH ?_
    simp only [wA, wB, wC, wD]
    refine wTl 9 (.bool false) rfl (by kernel_rfl) (fun _ _ _ h => h) rfl (fun w' h => by clear h; go_simp) hH ?_
    simp only [wA, wB, wC, wD]
    refine wpAnyH_done (by kernel_rfl) ?_ _
    have HU := hm7 hH
    clear hH
    go_wp2
    go_ret2
    exact ⟨.slice none 0 0, by rw [HKN.out]; rfl, fun e => (by rw [HKN.out] at e; cases e), fun _ => rfl, (HB.out.trans (HBW.out.mono HB.out.size)).trans (HU.out.mono (Nat.le_trans HB.out.size HBW.out.size))⟩
   | some p =>
    have HI := hm7 hi
    have HNB : Hid (∀ X : World, Below (wr.alloc (.cells #[.int .i64 tk, .int .i64 tn, .string ts] 30)).heap.size (wr.alloc (.cells #[.int .i64 tk, .int .i64 tn, .string ts] 30)) X -> Calls Tryz.prog 74 #[.pointer (some ⟨g, 0, none⟩), .agg #[.int .i64 tk, .int .i64 tn, .string ts]] X fun e Y' => e = .returned (.tuple #[.int .i64 (p : Int), .bool true]) /\ Below X.heap.size X Y') := fun X hX => by
     have := number8_any g tv mn rm T ⟨tk, tn, ts⟩ X (HTW.out.below hX) hkt
     rw [hi] at this
     exact this
    clear hal hr hll hb ht hrn hbw hkt hi HTW
    go_upto_region 5 with fail
    generalize wr.alloc (.cells #[.int .i64 tk, .int .i64 tn, .string ts] 30) = W1 at *
    refine wp_region_held_drew (S := fun w' => Below W1.heap.size W1 w') (by kernel_rfl) (by exact (Below.refl _ _).drew) (fun hH => ?_)
    revert hH
    generalize W1.drew = V0
    intro hH
    refine wTl 0 (.pointer (some ⟨g, 0, none⟩)) rfl (by kernel_rfl) (fun _ _ _ h => h) rfl (fun w' h => by clear h; go_simp) hH ?_
    simp only [wA, wB, wC, wD]
    refine wTl 1 (.pointer (some ⟨g, 0, none⟩)) rfl (by kernel_rfl) (fun _ _ _ h => h) rfl (fun w' h => by clear h; go_simp) hH ?_
    simp only [wA, wB, wC, wD]
    refine wTl 2 (.pointer (some ⟨g, 0, none⟩)) rfl (by kernel_rfl) (fun _ _ _ h => h) rfl (fun w' h => by clear h; go_simp) hH ?_
    simp only [wA, wB, wC, wD]
    refine wTl 3 (.agg #[.int .i64 tk, .int .i64 tn, .string ts]) rfl (by kernel_rfl) (fun _ _ _ h => h) rfl (fun w' h => by have q0 := (HW1.out.below h).cell (i := 0) rfl; have q1 := (HW1.out.below h).cell (i := 1) rfl; have q2 := (HW1.out.below h).cell (i := 2) rfl; clear h; go_simp) hH ?_
    simp only [wA, wB, wC, wD]
    refine wRd 4 (by kernel_rfl) rfl (fun K hK => ?_)
    go_simp
    refine (HNB.out _ hH).mono ?_
    rintro e U ⟨rfl, hb⟩
    refine hK.out _ _ (hH.trans (hb.mono hH.size)) (fun hH => ?_)
    clear hK K hb
    try simp only [wA, wB, wC, wD]
    refine wTl 5 (.tuple #[.int .i64 (p : Int), .bool true]) rfl (by kernel_rfl) (fun _ _ _ h => h) rfl (fun w' h => by clear h; go_simp) hH ?_
    simp only [wA, wB, wC, wD]
    refine wTl 6 (.int .i64 (p : Int)) rfl (by kernel_rfl) (fun _ _ _ h => h) rfl (fun w' h => by clear h; go_simp) hH ?_
    simp only [wA, wB, wC, wD]
    refine wTl 7 (.bool true) rfl (by kernel_rfl) (fun _ _ _ h => h) rfl (fun w' h => by clear h; go_simp) hH ?_
    simp only [wA, wB, wC, wD]
    refine wTl 8 (.int .i64 (p : Int)) rfl (by kernel_rfl) (fun _ _ _ h => h) rfl (fun w' h => by clear h; go_simp) hH ?_
    simp only [wA, wB, wC, wD]
    refine wTl 9 (.bool true) rfl (by kernel_rfl) (fun _ _ _ h => h) rfl (fun w' h => by clear h; go_simp) hH ?_
    simp only [wA, wB, wC, wD]
    refine wpAnyH_done (by kernel_rfl) ?_ _
    have HU := hm7 hH
    clear hH
    go_wp2_with (at_builtin; refine gapp Tryz.underlying67 Tryz.infoInt7 rfl (by omega) rfl _ _ rfl Y.heap.size (.slice ra rn rc) rn (ibs7 (nm8 T (L.take j))) rfl (row7_below (row7_below (row7_below (show wr.ownsRow Y.heap.size 3 1 (.slice ra rn rc) rn (ibs7 (nm8 T (L.take j))) by have h9 := HR.out; unfold OwI at h9; rw [HRN.out] at h9; exact h9) HBW.out) HU.out) (below1 _ _)) U.heap.size (.int .i64 (p : Int)) rfl (Bk.new _ _ _) rfl (by have := HRJ.out; omega) (by have := HB.out.size; have := HBW.out.size; have := HU.out.size; simp; omega) ?_; intro g2 c9 U2 ho hg hv hl2; have hfr := ((Fr.of (P := fun b => (Value.slice ra rn rc).ownBlock = some b) HBW.out).tr ((Fr.of HU.out).tr ((Fr.of (below1 _ _)).tr (Fr.grown hg fun b hb => hb)))); have HA6 := hm7 (And.intro ho hfr); clear ho hg hv hl2 hfr)
    go_roundg gg
    case measure => omega
    case rel =>
     have et : L.take (j + 1) = L.take j ++ [⟨tk, tn, ts⟩] := by rw [List.take_add_one, HT.out]; rfl
     refine ⟨j + 1, by omega, by go_num, ?_, ?_, ?_, ?_⟩
     ·rw [et]
      intro t ht
      rcases List.mem_append.1 ht with ht | ht
      ·exact HAL.out t ht
      ·rw [List.mem_singleton.1 ht, HI.out]; rfl
     ·rw [et, nm8_one, HI.out]
      refine OwI.snoc ?_
      rw [HRN.out]
      exact HA6.out.1
     ·exact row7_fr HLL.out HA6.out.2 fun b hb hq => row7_ne HR.out HLL.out (by decide) b hq hb
     ·exact HB.out.trans ((HA6.out.2.mono (Q := fun b => Y.heap.size <= b) fun b _ hq => (HR.out.lt b hq).1).low HB.out.size)
  | zero =>
   have hlt : ¬ (j : Int) < (n : Int) := by omega
   obtain rfl : j = n := by omega
   clear hal hr hll hb
   go_wp2
   go_ret2
   have et : L.take j = L := List.take_of_length_le (by have := HN.out; omega)
   have q := HR.out
   have hka := HAL.out
   rw [et] at q hka
   have hka := kn8_all hka
   exact ⟨_, by rw [hka]; rfl, fun _ => q, fun e => (by rw [hka] at e; cases e), HB.out⟩
end Go.Proofs.YtechceagghcipabGreatDoor
namespace Go.Proofs.YtechceagghcipabGreatDoor
open Go.RowKit
attribute [local go_sem ↓] Go.wp_at_zero Go.wp_at_succ
open Classical in
noncomputable def rlF (ga : Pd -> Nat) (K : List Pd) : Pd -> Option Value := fun p => if p ∈ K then some (.pointer (some ⟨ga p, 0, none⟩)) else none
theorem rlF_in {ga : Pd -> Nat} {K : List Pd} {p : Pd} (h : p ∈ K) : rlF ga K p = some (.pointer (some ⟨ga p, 0, none⟩)) := if_pos h
theorem rlF_out {ga : Pd -> Nat} {K : List Pd} {p : Pd} (h : p ∉ K) : rlF ga K p = none := if_neg h
structure BS (w : World) (g : Nat) (tv : Value) (mn mr : Nat) (ga : Pd -> Nat) (B : Pd -> Nat -> Prop) (m : Nat) (T : List Tm) (K : List Pd) (s : Pd -> St7) (Y : World) : Prop where
 t : TB8 g tv mn (.map (some mr)) T Y
 r : Mq kyP Y mr K.length (rlF ga K)
 nd : K.Nodup
 kp : ∀ p ∈ K, KeyP p
 pt : ∀ p ∈ K, PT w (B p) (ga p) m (s p) Y
 ap : ∀ p ∈ K, ∀ b, B p b -> ¬ PB8 g tv mn b /\ b ≠ mr
 a2 : ∀ p ∈ K, ∀ q ∈ K, p ≠ q -> ∀ b, B p b -> ¬ B q b
 am : ¬ PB8 g tv mn mr
 lo : ∀ b, PB8 g tv mn b ∨ b = mr -> w.heap.size <= b
 bl : Below w.heap.size w Y
section
variable {w : World} {g : Nat} {tv : Value} {mn mr : Nat} {ga : Pd -> Nat} {B : Pd -> Nat -> Prop} {m : Nat} {T : List Tm} {K : List Pd} {s : Pd -> St7} {Y : World}
def PA8 (g : Nat) (tv : Value) (mn mr : Nat) (B : Pd -> Nat -> Prop) (K : List Pd) (b : Nat) : Prop := PB8 g tv mn b ∨ b = mr ∨ ∃ p ∈ K, B p b
theorem BS.fr (h : BS w g tv mn mr ga B m T K s Y) {P : Nat -> Prop} {Y' : World} (hf : Fr P Y Y') (hn : ∀ b, P b -> b < Y.heap.size -> ¬ PA8 g tv mn mr B K b) (hw : ∀ b, P b -> b < Y.heap.size -> w.heap.size <= b) : BS w g tv mn mr ga B m T K s Y' := by
 have ht : ∀ b, PB8 g tv mn b -> ¬ P b := fun b hb hp => hn b hp (h.t.lt hb) (Or.inl hb)
 exact ⟨h.t.fr hf ht, h.r.fr hf (fun hp => hn mr hp h.r.lt (Or.inr (Or.inl rfl))), h.nd, h.kp, fun p hp => (h.pt p hp).fr hf fun b hb hl => ⟨hw b hb hl, fun hq => hn b hb hl (Or.inr (Or.inr ⟨p, hp, hq⟩))⟩, h.ap, h.a2, h.am, h.lo, h.bl.trans (Fr.low (Fr.mono hf (Q := fun b => w.heap.size <= b) fun b hl hb => hw b hb hl) h.bl.size)⟩
theorem BS.below (h : BS w g tv mn mr ga B m T K s Y) {Y' : World} (hb : Below Y.heap.size Y Y') : BS w g tv mn mr ga B m T K s Y' := h.fr (P := fun _ => False) (Fr.of hb) (fun _ h => h.elim) fun _ h => h.elim
theorem BS.lt (h : BS w g tv mn mr ga B m T K s Y) {b : Nat} (hb : PA8 g tv mn mr B K b) : w.heap.size <= b /\ b < Y.heap.size := by
 rcases hb with hb | rfl | ⟨p, hp, hb⟩
 ·exact ⟨h.lo b (Or.inl hb), h.t.lt hb⟩
 ·exact ⟨h.lo b (Or.inr rfl), h.r.lt⟩
 ·exact (h.pt p hp).t b hb
end
set_option maxRecDepth 20000 in
set_option maxHeartbeats 1000000 in
theorem newTable8_any (Y : World) : Calls Tryz.prog 10 #[] Y fun e Y' => e = .returned (.agg #[.slice none 0 0, .map (some (Y.heap.size + 1))]) /\ Mq kyT Y' (Y.heap.size + 1) 0 (fun _ => none) /\ Below Y.heap.size Y Y' := by
 have m1 := mk_map7 38
 go_enter Tryz.func10, Tryz.ntmps10
 go_wp2
 have hq := Mq.made kyT (Y.alloc (.cells #[.slice none 0 0, .map (some (Y.heap.size + 1))] 40))
 rw [show (Y.alloc (.cells #[.slice none 0 0, .map (some (Y.heap.size + 1))] 40)).heap.size = Y.heap.size + 1 by simp] at hq
 exact bodyPost_ret (v := .agg #[.slice none 0 0, .map (some (Y.heap.size + 1))]) (by simp [results, Tryz.results10, go_sem]) rfl ⟨rfl, hq, below_step (below1 _ _) (below1 _ _)⟩
def Nw8 (w Y : World) (e : Ending) (Y' : World) : Prop :=
 ∃ g mn mr, e = .returned (.pointer (some ⟨g, 0, none⟩)) /\ BS w g (.slice none 0 0) mn mr (fun _ => 0) (fun _ _ => False) 0 [] [] (fun _ => New7 0) Y' /\ (Y.heap.size <= g /\ Y.heap.size <= mn /\ Y.heap.size <= mr) /\ Below Y.heap.size Y Y'
set_option maxRecDepth 20000 in
set_option maxHeartbeats 1000000 in
theorem bnew8_any (w Y : World) (hb : Below w.heap.size w Y) : Calls Tryz.prog 6 #[] Y (Nw8 w Y) := by
 have m1 := mk_map7 42
 have HB := hm7 hb
 clear hb
 go_enter Tryz.func6, Tryz.ntmps6
 go_wp2_with (go_at_call 10; refine (newTable8_any _).mono ?_; rintro e w1 ⟨rfl, hq, hb1⟩; have HQ := hm7 hq; have HB1 := hm7 hb1; clear hq hb1)
 go_ret
 have hb2 : Below w1.heap.size w1 ((w1.alloc (.map #[] 0)).alloc (.cells #[.slice none 0 0, .map (some (Y.heap.size + 1)), .map (some w1.heap.size)] 44)) := below_step (below1 _ _) (below1 _ _)
 have hk := Bk.new (w1.alloc (.map #[] 0)) #[.slice none 0 0, .map (some (Y.heap.size + 1)), .map (some w1.heap.size)] 44
 rw [show (w1.alloc (.map #[] 0)).heap.size = w1.heap.size + 1 by simp] at hk
 have hm := (Mq.made kyP w1).below (below1 _ (.cells #[.slice none 0 0, .map (some (Y.heap.size + 1)), .map (some w1.heap.size)] 44))
 have h1 := HQ.out.lt
 have h2 := HB.out.size
 refine ⟨w1.heap.size + 1, Y.heap.size + 1, w1.heap.size, rfl, ⟨⟨hk, World.ownsRow_nil _ _ _ _, ?_, ⟨nofun, nofun⟩, by simp⟩, ?_, List.nodup_nil, nofun, nofun, nofun, nofun, ?_, ?_, ?_⟩, ⟨by omega, by omega, by omega⟩, HB1.out.trans (hb2.mono HB1.out.size)⟩
 ·have q := HQ.out.below hb2
  exact q
 ·have e : rlF (fun _ => 0) [] = fun _ => none := funext fun p => rlF_out (by simp)
  rw [e]
  exact hm
 ·rintro (h | h | h)
  ·omega
  ·cases h
  ·omega
 ·rintro b ((h | h | h) | h)
  ·omega
  ·cases h
  ·omega
  ·omega
 ·exact (HB.out.trans (HB1.out.mono h2)).trans (hb2.mono (Nat.le_trans h2 HB1.out.size))
end Go.Proofs.YtechceagghcipabGreatDoor
