import Derived.Test.YtechceagghcipabGreatDoorRA2
import Derived.Test.YtechceagghcipabGreatDoorEC1
import Derived.Test.YtechceagghcipabGreatDoorW2
import Derived.Deep.CutRange
namespace Go.Proofs.YtechceagghcipabGreatDoor
open Go.RowKit
attribute [local go_sem ↓] Go.wp_at_zero Go.wp_at_succ
open Classical in
noncomputable def up8 {α : Type} (f : Pd -> α) (p : Pd) (x : α) : Pd -> α := fun q => if q = p then x else f q
theorem up8_same {α : Type} (f : Pd -> α) (p : Pd) (x : α) : up8 f p x p = x := if_pos rfl
theorem up8_other {α : Type} (f : Pd -> α) {p q : Pd} (x : α) (h : q ≠ p) : up8 f p x q = f q := if_neg h
theorem zero8p (X : World) : (zeroValue 69).run Tryz.prog X = .ok (.pointer none) X := by kernel_rfl
theorem PT.up8 {w : World} {T : Nat -> Prop} {g m m' : Nat} {s : St7} {Y : World} (h : PT w T g m s Y) (hm : m <= m') : PT w T g m' s Y := by
 obtain ⟨F, S, ⟨rv, rvs, mp, mx, nx, t, f, hn, h1⟩, h2⟩ := h
 exact ⟨F, S, ⟨rv, rvs, mp, mx, nx, t, f, Nat.le_trans hn hm, h1⟩, h2⟩
section
variable {w : World} {g : Nat} {tv : Value} {mn mr : Nat} {ga : Pd -> Nat} {B : Pd -> Nat -> Prop} {m : Nat} {T : List Tm} {K : List Pd} {s : Pd -> St7} {Y : World}
theorem BS.look (h : BS w g tv mn mr ga B m T K s Y) {p : Pd} (hp : KeyP p) : (Instr.lookup 42 (.map (some mr)) p.v false).run Tryz.prog Y = .ok ((rlF ga K p).getD (.pointer none)) Y :=
 (h.r.at0 (T := 42) (E := 69) Tryz.underlying42 (zero8p Y) (x := p) hp).2
theorem rlF_more {ga : Pd -> Nat} {K : List Pd} {p : Pd} (hp : p ∉ K) (g1 : Nat) : qput (rlF ga K) p (.pointer (some ⟨g1, 0, none⟩)) = rlF (up8 ga p g1) (K ++ [p]) := by
 funext q
 by_cases e : q = p
 ·subst e
  rw [qput_same, rlF_in (by simp), up8_same]
 ·rw [qput_other _ _ e]
  by_cases hq : q ∈ K
  ·rw [rlF_in hq, rlF_in (by simp [hq]), up8_other _ _ e]
  ·rw [rlF_out hq, rlF_out (by simp [hq, e])]
theorem BS.more {W V : World} (h : BS w g tv mn mr ga B m T K s W) {p : Pd} (hp : p ∉ K) (hk : KeyP p) {g1 : Nat} {x : St7} {N : Nat -> Prop} (hN : PT w N g1 0 x W) (hap : ∀ b, N b -> ¬ PA8 g tv mn mr B K b)
  (hmq : Mq kyP V mr (K.length + 1) (qput (rlF ga K) p (.pointer (some ⟨g1, 0, none⟩)))) (hgr : W.grownBy V (some mr)) : BS w g tv mn mr (up8 ga p g1) (up8 B p N) m T (K ++ [p]) (up8 s p x) V := by
 have hf : Fr (fun b => b = mr) W V := Fr.grown hgr fun b e => by cases e; rfl
 have hw := h.lo mr (Or.inr rfl)
 have hne : ∀ q ∈ K, q ≠ p := fun q hq e => hp (e ▸ hq)
 have hm : ∀ {P : Pd -> Prop}, (∀ q ∈ K, P q) -> P p -> ∀ q ∈ K ++ [p], P q := fun h1 h2 q hq => by
  rcases List.mem_append.1 hq with hq | hq
  ·exact h1 q hq
  ·rw [List.mem_singleton.1 hq]; exact h2
 refine ⟨h.t.fr hf fun b hb e => h.am (e ▸ hb), ?_, ?_, hm h.kp hk, hm (fun q hq => ?_) ?_, hm (fun q hq => ?_) ?_, hm (fun q hq => hm (fun r hr => ?_) ?_) (hm (fun r hr => ?_) ?_), h.am, h.lo, ?_⟩
 ·rw [List.length_append, List.length_singleton, <- rlF_more hp]; exact hmq
 ·rw [List.nodup_append]
  exact ⟨h.nd, by simp, fun a ha b hb e => hp (by rw [<- List.mem_singleton.1 hb, <- e]; exact ha)⟩
 ·rw [up8_other _ _ (hne q hq), up8_other _ _ (hne q hq), up8_other _ _ (hne q hq)]
  exact (h.pt q hq).fr hf fun b e _ => by subst e; exact ⟨hw, fun hb => (h.ap q hq _ hb).2 rfl⟩
 ·rw [up8_same, up8_same, up8_same]
  exact (hN.up8 (Nat.zero_le _)).fr hf fun b e _ => by subst e; exact ⟨hw, fun hb => hap _ hb (Or.inr (Or.inl rfl))⟩
 ·rw [up8_other _ _ (hne q hq)]
  exact h.ap q hq
 ·rw [up8_same]
  exact fun b hb => ⟨fun hq => hap b hb (Or.inl hq), fun hq => hap b hb (Or.inr (Or.inl hq))⟩
 ·rw [up8_other _ _ (hne q hq), up8_other _ _ (hne r hr)]
  exact h.a2 q hq r hr
 ·intro _ b hb hN'
  rw [up8_other _ _ (hne q hq)] at hb
  rw [up8_same] at hN'
  exact hap b hN' (Or.inr (Or.inr ⟨q, hq, hb⟩))
 ·intro _ b hb hN'
  rw [up8_other _ _ (hne r hr)] at hN'
  rw [up8_same] at hb
  exact hap b hb (Or.inr (Or.inr ⟨r, hr, hN'⟩))
 ·exact fun e => absurd rfl e
 ·exact h.bl.trans (Fr.low (Fr.mono hf (Q := fun b => w.heap.size <= b) fun b hl e => by rw [e]; exact hw) h.bl.size)
end
set_option maxRecDepth 20000 in
set_option maxHeartbeats 1000000 in
theorem relFor8_old (w : World) (g : Nat) (tv : Value) (mn mr : Nat) (ga : Pd -> Nat) (B : Pd -> Nat -> Prop) (m : Nat) (T : List Tm) (K : List Pd) (s : Pd -> St7) (nm : ByteArray) (n : Nat) (Y : World) (h : BS w g tv mn mr ga B m T K s Y) (hk : KeyP ⟨nm, (n : Int)⟩) (hp : (⟨nm, (n : Int)⟩ : Pd) ∈ K) :
  Calls Tryz.prog 34 #[.pointer (some ⟨g, 0, none⟩), .agg #[.string nm, .int .i64 (n : Int)]] Y fun e Y' => e = .returned (.pointer (some ⟨ga ⟨nm, (n : Int)⟩, 0, none⟩)) /\ Below Y.heap.size Y Y' := by
 obtain ⟨Y0, hY0⟩ : ∃ Y0, Y.alloc (.cells #[.string nm, .int .i64 (n : Int)] 72) = Y0 := ⟨_, rfl⟩
 have hb0 : Below Y.heap.size Y Y0 := by rw [<- hY0]; exact below1 _ _
 have HBX : Hid (Bk Y0 Y.heap.size #[.string nm, .int .i64 (n : Int)] 72) := by show Bk _ _ _ _; rw [<- hY0]; exact Bk.new _ _ _
 have HBK := hm7 ((h.t.b).below hb0)
 have HB0 := hm7 hb0
 obtain ⟨gp, hgp⟩ : ∃ gp, ga ⟨nm, (n : Int)⟩ = gp := ⟨_, rfl⟩
 have HL : Hid (∀ X : World, Below Y0.heap.size Y0 X -> (Instr.lookup 42 (.map (some mr)) (.agg #[.string nm, .int .i64 (n : Int)]) false).run Tryz.prog X = .ok (.pointer (some ⟨gp, 0, none⟩)) X) := fun X hX => by
  have := ((h.below hb0).below hX).look hk
  rw [rlF_in hp, hgp] at this
  exact this
 rw [hgp]
 clear h hgp hb0
 go_enter Tryz.func34, Tryz.ntmps34
 go_upto_region 1 with fail
 refine wp_region_held_drew (S := fun w' => Below Y0.heap.size Y0 w') (by kernel_rfl) (by exact (Below.refl _ _).drew) (fun hH => ?_)
 revert hH
 generalize Y0.drew = V0
 intro hH
 refine wTl 0 (.pointer (some ⟨g, 0, none⟩)) rfl (by kernel_rfl) (fun _ _ _ h => h) rfl (fun w' h => by clear h; go_simp) hH ?_
 simp only [wA, wB, wC, wD]
 refine wTl 1 (.pointer (some ⟨g, 0, none⟩)) rfl (by kernel_rfl) (fun _ _ _ h => h) rfl (fun w' h => by clear h; go_simp) hH ?_
 simp only [wA, wB, wC, wD]
 refine wTl 2 (.pointer (some ⟨g, 2, none⟩)) rfl (by kernel_rfl) (fun _ _ _ h => h) rfl (fun w' h => by clear h; go_simp) hH ?_
 simp only [wA, wB, wC, wD]
 refine wTl 3 (.map (some mr)) rfl (by kernel_rfl) (fun _ _ _ h => h) rfl (fun w' h => by have q := (HBK.out.below h).cell (i := 2) rfl; clear h; go_simp) hH ?_
 simp only [wA, wB, wC, wD]
 refine wTl 4 (.agg #[.string nm, .int .i64 (n : Int)]) rfl (by kernel_rfl) (fun _ _ _ h => h) rfl (fun w' h => by have q0 := (HBX.out.below h).cell (i := 0) rfl; have q1 := (HBX.out.below h).cell (i := 1) rfl; clear h; go_simp) hH ?_
 simp only [wA, wB, wC, wD]
 refine wTl 5 (.pointer (some ⟨gp, 0, none⟩)) rfl (by kernel_rfl) (fun _ _ _ h => h) rfl (fun w' h => by have q := HL.out w' h; clear h; go_simp) hH ?_
 simp only [wA, wB, wC, wD]
 refine wTl 6 (.pointer (some ⟨gp, 0, none⟩)) rfl (by kernel_rfl) (fun _ _ _ h => h) rfl (fun w' h => by clear h; go_simp) hH ?_
 simp only [wA, wB, wC, wD]
 refine wpAnyH_done (by kernel_rfl) ?_ _
 have HV := hm7 hH
 clear hH
 go_wp2
 go_ret
 exact ⟨rfl, HB0.out.trans (HV.out.mono HB0.out.size)⟩
def Rf8 (w : World) (g : Nat) (tv : Value) (mn mr : Nat) (ga : Pd -> Nat) (B : Pd -> Nat -> Prop) (m : Nat) (T : List Tm) (K : List Pd) (s : Pd -> St7) (p : Pd) (n : Nat) (Y : World) (e : Ending) (Y' : World) : Prop :=
 ∃ (g1 : Nat) (N : Nat -> Prop), e = .returned (.pointer (some ⟨g1, 0, none⟩)) /\ BS w g tv mn mr (up8 ga p g1) (up8 B p N) m T (K ++ [p]) (up8 s p (New7 (1 + n))) Y' /\ Fr (fun b => b = mr) Y Y' /\ ∀ b, N b -> Y.heap.size <= b
set_option maxRecDepth 20000 in
set_option maxHeartbeats 1000000 in
theorem relFor8_new (w : World) (g : Nat) (tv : Value) (mn mr : Nat) (ga : Pd -> Nat) (B : Pd -> Nat -> Prop) (m : Nat) (T : List Tm) (K : List Pd) (s : Pd -> St7) (nm : ByteArray) (n : Nat) (Y : World) (h : BS w g tv mn mr ga B m T K s Y) (hk : KeyP ⟨nm, (n : Int)⟩) (hp : (⟨nm, (n : Int)⟩ : Pd) ∉ K) (hn : n <= 1000000000000) (hkl : K.length <= 1000000000000) :
  Calls Tryz.prog 34 #[.pointer (some ⟨g, 0, none⟩), .agg #[.string nm, .int .i64 (n : Int)]] Y (Rf8 w g tv mn mr ga B m T K s ⟨nm, (n : Int)⟩ n Y) := by
 obtain ⟨Y0, hY0⟩ : ∃ Y0, Y.alloc (.cells #[.string nm, .int .i64 (n : Int)] 72) = Y0 := ⟨_, rfl⟩
 have hb0 : Below Y.heap.size Y Y0 := by rw [<- hY0]; exact below1 _ _
 have HBX : Hid (Bk Y0 Y.heap.size #[.string nm, .int .i64 (n : Int)] 72) := by show Bk _ _ _ _; rw [<- hY0]; exact Bk.new _ _ _
 have HBK := hm7 ((h.t.b).below hb0)
 have HB0 := hm7 hb0
 have HS := hm7 h
 have HKP := hm7 hk
 have HKL := hm7 hkl
 have HP := hm7 hp
 have HML := hm7 h.r.lt
 have HL : Hid (∀ X : World, Below Y0.heap.size Y0 X -> (Instr.lookup 42 (.map (some mr)) (.agg #[.string nm, .int .i64 (n : Int)]) false).run Tryz.prog X = .ok (.pointer none) X) := fun X hX => by
  have := ((h.below hb0).below hX).look hk
  rw [rlF_out hp] at this
  exact this
 have HNW : Hid (∀ X : World, Calls Tryz.prog 65 #[.int .i64 (1 + (n : Int))] X fun e w' => ∃ g, e = .returned (.tuple #[.pointer (some ⟨g, 0, none⟩), .int .i64 0]) /\ X.heap.size <= g /\ RM w' g (fun b => X.heap.size <= b /\ b < w'.heap.size) (fun _ => False) 0 (New7 (1 + n)) /\ Below X.heap.size X w') := fun X => by
  have := new7_any (1 + n) (by omega) X
  rw [show ((1 + n : Nat) : Int) = 1 + (n : Int) by omega] at this
  exact this
 have n0 : (n : Int) <= 1000000000000 := by omega
 have n1 : (0 : Int) <= (n : Int) := by omega
 clear h hb0 hp hk hkl
 go_enter Tryz.func34, Tryz.ntmps34
 go_upto_region 1 with fail
 refine wp_region_held_drew (S := fun w' => Below Y0.heap.size Y0 w') (by kernel_rfl) (by exact (Below.refl _ _).drew) (fun hH => ?_)
 revert hH
 generalize Y0.drew = V0
 intro hH
 refine wTl 0 (.pointer (some ⟨g, 0, none⟩)) rfl (by kernel_rfl) (fun _ _ _ h => h) rfl (fun w' h => by clear h; go_simp) hH ?_
 simp only [wA, wB, wC, wD]
 refine wTl 1 (.pointer (some ⟨g, 0, none⟩)) rfl (by kernel_rfl) (fun _ _ _ h => h) rfl (fun w' h => by clear h; go_simp) hH ?_
 simp only [wA, wB, wC, wD]
 refine wTl 2 (.pointer (some ⟨g, 2, none⟩)) rfl (by kernel_rfl) (fun _ _ _ h => h) rfl (fun w' h => by clear h; go_simp) hH ?_
 simp only [wA, wB, wC, wD]
 refine wTl 3 (.map (some mr)) rfl (by kernel_rfl) (fun _ _ _ h => h) rfl (fun w' h => by have q := (HBK.out.below h).cell (i := 2) rfl; clear h; go_simp) hH ?_
 simp only [wA, wB, wC, wD]
 refine wTl 4 (.agg #[.string nm, .int .i64 (n : Int)]) rfl (by kernel_rfl) (fun _ _ _ h => h) rfl (fun w' h => by have q0 := (HBX.out.below h).cell (i := 0) rfl; have q1 := (HBX.out.below h).cell (i := 1) rfl; clear h; go_simp) hH ?_
 simp only [wA, wB, wC, wD]
 refine wTl 5 (.pointer none) rfl (by kernel_rfl) (fun _ _ _ h => h) rfl (fun w' h => by have q := HL.out w' h; clear h; go_simp) hH ?_
 simp only [wA, wB, wC, wD]
 refine wTl 6 (.pointer none) rfl (by kernel_rfl) (fun _ _ _ h => h) rfl (fun w' h => by clear h; go_simp) hH ?_
 simp only [wA, wB, wC, wD]
 refine wpAnyH_done (by kernel_rfl) ?_ _
 have HV := hm7 hH
 clear hH
 have d1 := (HBX.out.below HV.out).cell (i := 1) rfl
 go_upto_region 4 with (go_at_call 65; refine (HNW.out _).mono ?_; clear HNW; rintro e W3 ⟨g1, rfl, hg1, hrm, hb3⟩; have HRB := hm7 (And.intro hrm hb3); clear hg1 hrm hb3)
 obtain ⟨hrm, hb3⟩ := HRB.out
 have hyv := HB0.out.trans (HV.out.mono HB0.out.size)
 have hwv := HS.out.bl.trans (hyv.mono HS.out.bl.size)
 have HX3 := hm7 ((HBX.out.below HV.out).below hb3)
 have HS3 := hm7 ((HS.out.below hyv).below hb3)
 have HY3 := hm7 (below_step hyv hb3)
 have HR3 : Hid (PT w (fun b => V0.heap.size <= b /\ b < W3.heap.size) g1 0 (New7 (1 + n)) W3) := ⟨_, _, hrm, (fun b hb => hb.elim id False.elim), (fun b hb => ⟨Nat.le_trans hwv.size hb.1, hb.2⟩), hwv.trans (hb3.mono hwv.size)⟩
 have HNA : Hid (∀ b, (V0.heap.size <= b /\ b < W3.heap.size) -> ¬ PA8 g tv mn mr B K b) := fun b hb hq => by have := ((HS.out.below hyv).lt hq).2; omega
 have HNY := hm7 (fun b (hb : V0.heap.size <= b /\ b < W3.heap.size) => Nat.le_trans hyv.size hb.1)
 clear hrm hb3 hyv hwv HRB
 clear d1 HV HBX HBK HL HS HB0
 obtain ⟨N, eN⟩ : ∃ N : Nat -> Prop, (fun b => V0.heap.size <= b /\ b < W3.heap.size) = N := ⟨_, rfl⟩
 have HNA1 : Hid (∀ b, N b -> ¬ PA8 g tv mn mr B K b) := by show ∀ b, N b -> _; rw [<- eN]; exact HNA.out
 have HNY1 : Hid (∀ b, N b -> Y.heap.size <= b) := by show ∀ b, N b -> _; rw [<- eN]; exact HNY.out
 rw [eN] at HR3
 clear HNA HNY eN
 have HSD : Hid (BS w g tv mn mr ga B m T K s W3.drew) := HS3.out.below (by exact (Below.refl _ _).drew)
 have HRD : Hid (PT w N g1 0 (New7 (1 + n)) W3.drew) := HR3.out.below (by exact (Below.refl _ _).drew)
 have HYD : Hid (Below Y.heap.size Y W3.drew) := HY3.out.drew
 have HXD : Hid (Bk W3.drew Y.heap.size #[.string nm, .int .i64 (n : Int)] 72) := HX3.out
 have HZ := hm7 (show W3.drew.heap.size = W3.heap.size from rfl)
 clear HS3 HR3 HY3 HX3
 refine wp_region_held_drew (S := fun w' => Bk w' Y.heap.size #[.string nm, .int .i64 (n : Int)] 72 /\ Bk w' g #[tv, .map (some mn), .map (some mr)] 44) (by kernel_rfl) ⟨HXD.out, HSD.out.t.b⟩ (fun hH => ?_)
 generalize W3.drew = W5 at *
 refine wTl 0 (.pointer (some ⟨g, 0, none⟩)) rfl (by kernel_rfl) (fun _ _ _ h => h) rfl (fun w' h => by clear h; go_simp) hH ?_
 simp only [wA, wB, wC, wD]
 refine wTl 1 (.pointer (some ⟨g, 0, none⟩)) rfl (by kernel_rfl) (fun _ _ _ h => h) rfl (fun w' h => by clear h; go_simp) hH ?_
 simp only [wA, wB, wC, wD]
 refine wTl 2 (.pointer (some ⟨g, 2, none⟩)) rfl (by kernel_rfl) (fun _ _ _ h => h) rfl (fun w' h => by clear h; go_simp) hH ?_
 simp only [wA, wB, wC, wD]
 refine wTl 3 (.map (some mr)) rfl (by kernel_rfl) (fun _ _ _ h => h) rfl (fun w' h => by have q := h.2.cell (i := 2) rfl; clear h; go_simp) hH ?_
 simp only [wA, wB, wC, wD]
 refine wTl 4 (.agg #[.string nm, .int .i64 (n : Int)]) rfl (by kernel_rfl) (fun _ _ _ h => h) rfl (fun w' h => by have q0 := h.1.cell (i := 0) rfl; have q1 := h.1.cell (i := 1) rfl; clear h; go_simp) hH ?_
 simp only [wA, wB, wC, wD]
 refine wTl 5 (.pointer (some ⟨g1, 0, none⟩)) rfl (by kernel_rfl) (fun _ _ _ h => h) rfl (fun w' h => by clear h; go_simp) hH ?_
 simp only [wA, wB, wC, wD]
 refine wRd 6 (by kernel_rfl) rfl (fun K hK => ?_)
 obtain ⟨V2, hrun, hmq, hgr⟩ := HSD.out.r.store (T := 42) (E := 69) Tryz.underlying42 (by have := HKL.out; unfold maxLen; omega) (s := ⟨nm, (n : Int)⟩) HKP.out (.pointer (some ⟨g1, 0, none⟩))
 rw [show kyP.v ⟨nm, (n : Int)⟩ = .agg #[.string nm, .int .i64 (n : Int)] from rfl] at hrun
 have HMR := hm7 HSD.out.am
 go_simp
 refine hK.out _ _ ⟨hH.1.fr (Fr.grown (P := fun b => b = mr) hgr fun b e => by cases e; rfl) (by have := HML.out; omega), hH.2.fr (Fr.grown (P := fun b => b = mr) hgr fun b e => by cases e; rfl) (fun e => HMR.out (Or.inl e.symm))⟩ (fun hH => ?_)
 have HMQ := hm7 hmq
 have HGR := hm7 hgr
 clear hK hmq hgr hrun
 try simp only [wA, wB, wC, wD]
 refine wpAnyH_done (by kernel_rfl) ?_ _
 clear hH
 go_wp2
 go_ret
 refine ⟨g1, N, rfl, HSD.out.more HP.out HKP.out HRD.out HNA1.out ?_ HGR.out, (Fr.of HYD.out).tr (Fr.grown HGR.out fun b e => by cases e; rfl), HNY1.out⟩
 have q := HMQ.out
 rw [rlF_out HP.out] at q
 exact q
end Go.Proofs.YtechceagghcipabGreatDoor
namespace Go.Proofs.YtechceagghcipabGreatDoor
open Go.RowKit
def At.fact (a : At) : Bool := decide (a.err = 0) && !(a.pl.any Tm.var)
theorem any_yes {l : List Tm} {i : Nat} {t : Tm} (h : l[i]? = some t) (hc : t.var = true) : l.any Tm.var = true := by
 obtain ⟨hi, rfl⟩ := List.getElem?_eq_some_iff.1 h
 exact List.any_eq_true.2 ⟨_, List.getElem_mem hi, hc⟩
theorem any_no {l : List Tm} (h : ∀ (i : Nat) (t : Tm), l[i]? = some t -> t.var = false) : l.any Tm.var = false := by
 cases e : l.any Tm.var
 ·rfl
 ·obtain ⟨t, ht, hv⟩ := List.any_eq_true.1 e
  obtain ⟨i, hi, rfl⟩ := List.getElem_of_mem ht
  rw [h i _ (List.getElem?_eq_getElem hi)] at hv; cases hv
set_option maxHeartbeats 2000000 in
theorem fact_any (a : At) (x : Value) (w : World) (h : Ts w x a.args) :
  Calls Tryz.prog 32 #[a.v x] w fun e w' => e = .returned (.bool a.fact) /\ Below w.heap.size w w' := by
 obtain ⟨⟨k, n, ss⟩, nm, l⟩ := a
 simp only at h
 have HX : Hid (Ts w x l) := h
 have hl : l.length < 1000000000000000000 := by obtain ⟨_, _, _, h, _⟩ := h; exact h
 clear h
 obtain ⟨c, hc⟩ : ∃ c, At.err ⟨⟨k, n, ss⟩, nm, l⟩ = c := ⟨_, rfl⟩
 obtain ⟨r, hr⟩ : ∃ r, At.fact ⟨⟨k, n, ss⟩, nm, l⟩ = r := ⟨_, rfl⟩
 rw [hr]
 unfold At.fact at hr
 rw [hc] at hr
 have HC : Hid (At.err ⟨⟨k, n, ss⟩, nm, l⟩ = c) := hc
 clear hc
 by_cases h0 : c = 0
 ·have HR : Hid ((!((At.mk ⟨k, n, ss⟩ nm l).pl.any Tm.var)) = r) := by show _ = _; rw [<- hr, h0]; rfl
  have q0 : (c != 0) = false := by simp [h0]
  obtain ⟨pl, hpl⟩ : ∃ pl, pl = (At.mk ⟨k, n, ss⟩ nm l).pl := ⟨_, rfl⟩
  have HP : Hid (pl = (At.mk ⟨k, n, ss⟩ nm l).pl) := hpl
  rw [<- hpl] at HR
  have hpn : pl.length < 1000000000000000002 := by rw [hpl]; simp [At.pl]; omega
  clear hr h0 hpl
  go_enter Tryz.func32, Tryz.ntmps32
  go_wp2_with (first
   | (go_at_call 59; refine (chk_any ⟨⟨k, n, ss⟩, nm, l⟩ _ _ (HX.out.later (below1 _ _))).mono ?_; rw [HC.out]; rintro e w1 ⟨rfl, hb1⟩; have B1 := (Blk.new w #[.int .i64 k, .int .i64 n, .string ss, .string nm, x] 33).later hb1; obtain ⟨p0, p1, p2, p3, p4⟩ := five B1; have HB1 : Hid (Blk _ _ _ _) := B1; clear B1)
   | (go_at_call 60; refine (places_any ⟨⟨k, n, ss⟩, nm, l⟩ _ _ (HX.out.later (below_step (below1 _ _) hb1))).mono ?_; rw [<- HP.out]; rintro e w2 ⟨rfl, hb2⟩))
  have hbw := below_step (below_step (below1 _ _) hb1) hb2
  have B2 := Blk.later (Hid.out HB1) hb2
  clear p0 p1 p2 p3 p4 hb1 hb2 HB1
  go_loopg [9] pl.length (fun g i wr => ∃ j : Nat, j + g = pl.length /\ i = .int .i64 j /\ (∀ i t, i < j -> pl[i]? = some t -> Tm.var t = false) /\ Below w.heap.size w wr /\ Blk wr w.heap.size #[.int .i64 k, .int .i64 n, .string ss, .string nm, x] 33)
  case atStart => exact ⟨0, by omega, rfl, fun i t hi => by omega, hbw, B2⟩
  case round =>
   obtain ⟨j, hj, rfl, hall, hbr, hB⟩ := hrel
   have HA : Hid (∀ i t, i < j -> pl[i]? = some t -> Tm.var t = false) := hall
   have HB : Hid (Blk wr _ _ _) := hB
   obtain ⟨p0, p1, p2, p3, p4⟩ := five hB
   clear hall hbw B2 hB
   cases gk with
   | succ g =>
    have hlt : j < pl.length := by omega
    obtain ⟨t, ht⟩ : ∃ t, pl[j]? = some t := ⟨_, List.getElem?_eq_getElem hlt⟩
    have HT : Hid (pl[j]? = some t) := ht
    obtain ⟨tk, tn, ts⟩ := t
    clear ht
    have i2 : (j : Int) < (pl.length : Int) := by omega
    cases hc : Tm.var ⟨tk, tn, ts⟩
    ·have HV : Hid (Tm.var ⟨tk, tn, ts⟩ = false) := hc
     clear hc
     go_wp2_with (first
      | (go_at_call 62; refine (place_any ⟨⟨k, n, ss⟩, nm, l⟩ _ j ⟨tk, tn, ts⟩ (by rw [<- HP.out]; exact HT.out) _ (HX.out.later hbr)).mono ?_; rintro e w3 ⟨rfl, hb3⟩)
      | (go_at_call 61; refine (var_any ⟨tk, tn, ts⟩ _).mono ?_; rw [HV.out]; rintro e w4 ⟨rfl, hb4⟩))
     go_roundg g
     case measure => omega
     case rel =>
      refine ⟨j + 1, by omega, by go_num, fun i t hi ht => ?_, below_step (below_step hbr hb3) hb4, Blk.later (Blk.later (Hid.out HB) hb3) hb4⟩
      rcases Nat.lt_or_ge i j with h | h
      ·exact HA.out i t h ht
      ·obtain rfl : i = j := by omega
       rw [HT.out] at ht; cases ht; exact HV.out
    ·have HV : Hid (Tm.var ⟨tk, tn, ts⟩ = true) := hc
     have HR2 : Hid (false = r) := by show _ = _; rw [<- HR.out, any_yes HT.out hc]; rfl
     clear hc
     go_wp2_with (first
      | (go_at_call 62; refine (place_any ⟨⟨k, n, ss⟩, nm, l⟩ _ j ⟨tk, tn, ts⟩ (by rw [<- HP.out]; exact HT.out) _ (HX.out.later hbr)).mono ?_; rintro e w3 ⟨rfl, hb3⟩)
      | (go_at_call 61; refine (var_any ⟨tk, tn, ts⟩ _).mono ?_; rw [HV.out]; rintro e w4 ⟨rfl, hb4⟩))
     go_ret
     exact ⟨ret_b HR2.out, below_step (below_step hbr hb3) hb4⟩
   | zero =>
    obtain rfl : j = pl.length := by omega
    have HR2 : Hid (true = r) := by show _ = _; rw [<- HR.out, any_no fun i t ht => HA.out i t (List.getElem?_eq_some_iff.1 ht).1 ht]; rfl
    have hz : ¬ ((pl.length : Int) < (pl.length : Int)) := by omega
    go_wp2
    go_ret
    exact ⟨ret_b HR2.out, hbr⟩
 ·have HR : Hid (false = r) := by show _ = _; rw [<- hr, decide_eq_false h0]; rfl
  have q0 : (c != 0) = true := by simpa using h0
  clear hr h0
  go_enter Tryz.func32, Tryz.ntmps32
  go_wp2_with (go_at_call 59; refine (chk_any ⟨⟨k, n, ss⟩, nm, l⟩ _ _ (HX.out.later (below1 _ _))).mono ?_; rw [HC.out]; rintro e w1 ⟨rfl, hb1⟩)
  go_ret
  exact ⟨ret_b HR.out, below_step (below1 _ _) hb1⟩
set_option maxHeartbeats 2000000 in
theorem rchk_any (a : At) (x : Value) (w : World) (h : Ts w x a.args) :
  Calls Tryz.prog 68 #[a.v x] w fun e w' => e = .returned (.int .i64 a.err) /\ Below w.heap.size w w' := by
 obtain ⟨⟨k, n, ss⟩, nm, l⟩ := a
 simp only at h
 obtain ⟨r, hr⟩ : ∃ r, At.err ⟨⟨k, n, ss⟩, nm, l⟩ = r := ⟨_, rfl⟩
 rw [hr]
 simp only [At.err] at hr
 have HX : Hid (Ts w x l) := h
 obtain ⟨ad, cap, rfl, hl, -⟩ := h
 cases hn : nameOk nm
 ·have HR : Hid (21 = r) := by show _ = _; rw [<- hr, if_pos hn]
  clear hr
  go_enter Tryz.func68, Tryz.ntmps68
  go_wp2_with (go_at_call 98; refine (rname_any nm _).mono ?_; rw [hn]; rintro e w1 ⟨rfl, hb1⟩)
  go_ret
  exact ⟨ret_i HR.out, below_step (below1 _ _) hb1⟩
 ·rw [hn, if_neg (by simp)] at hr
  have HN : Hid (nameOk nm = true) := hn
  clear hn
  by_cases h8 : 8 < l.length
  ·have HR : Hid (22 = r) := by show _ = _; rw [<- hr, if_pos h8]
   have q8 : (8 : Int) < (l.length : Int) := by omega
   clear hr h8
   go_enter Tryz.func68, Tryz.ntmps68
   go_wp2_with (go_at_call 98; refine (rname_any nm _).mono ?_; rw [HN.out]; rintro e w1 ⟨rfl, hb1⟩; obtain ⟨p0, p1, p2, p3, p4⟩ := five ((Blk.new w #[.int .i64 k, .int .i64 n, .string ss, .string nm, .slice ad l.length cap] 33).later hb1))
   go_ret
   exact ⟨ret_i HR.out, below_step (below1 _ _) hb1⟩
  ·rw [if_neg h8] at hr
   have q8 : ¬ (8 : Int) < (l.length : Int) := by omega
   have HR : Hid ((if qualOk ⟨k, n, ss⟩ = false then 23 else if l.all Tm.cov then 0 else 24) = r) := hr
   clear hr h8
   go_enter Tryz.func68, Tryz.ntmps68
   go_upto_region 5 with (go_at_call 98; refine (rname_any nm _).mono ?_; rw [HN.out]; rintro e W ⟨rfl, hb1⟩; have B1 := (Blk.new w #[.int .i64 k, .int .i64 n, .string ss, .string nm, .slice ad l.length cap] 33).later hb1; obtain ⟨p0, p1, p2, p3, p4⟩ := five B1; have HB : Hid (Blk _ _ _ _) := B1; clear B1)
   have hW : Hid (Below w.heap.size w W) := below_step (below1 _ _) hb1
   clear p0 p1 p2 p3 p4 hb1
   go_cut [27] from 12 to 27 (fun s27 wx => s27 = .bool (!qualOk ⟨k, n, ss⟩) /\ Below W.heap.size W wx)
   case first =>
    obtain ⟨p0, p1, p2, p3, p4⟩ := five (Hid.out HB)
    have he := run_neq_tm ⟨k, n, ss⟩ zt
    obtain ⟨b1, h1⟩ : ∃ b, decide (Tm.mk k n ss = zt) = b := ⟨_, rfl⟩
    obtain ⟨b2, h2⟩ : ∃ b, Tm.prin ⟨k, n, ss⟩ = b := ⟨_, rfl⟩
    obtain ⟨b3, h3⟩ : ∃ b, Tm.var ⟨k, n, ss⟩ = b := ⟨_, rfl⟩
    have HQ : Hid (qualOk ⟨k, n, ss⟩ = (b1 || (b2 || b3))) := by show _ = _; unfold qualOk; rw [h1, h2, h3]
    have H2 : Hid (Tm.prin ⟨k, n, ss⟩ = b2) := h2
    have H3 : Hid (Tm.var ⟨k, n, ss⟩ = b3) := h3
    rw [h1] at he
    unfold zt at he
    clear h1 h2 h3 HR
    cases b1
    ·cases b2
     ·go_wp2_with (first
       | (go_at_call 99; refine (rprin_any ⟨k, n, ss⟩ _).mono ?_; rw [H2.out]; rintro e w2 ⟨rfl, hb2⟩; clear p0 p1 p2 p3 p4; obtain ⟨p0, p1, p2, p3, p4⟩ := five (Blk.later (Hid.out HB) hb2))
       | (go_at_call 90; refine (rvar_any ⟨k, n, ss⟩ _).mono ?_; rw [H3.out]; rintro e w3 ⟨rfl, hb3⟩))
      go_meet
      case rel => exact ⟨by rw [HQ.out]; rfl, below_step hb2 hb3⟩
     ·go_wp2_with (go_at_call 99; refine (rprin_any ⟨k, n, ss⟩ _).mono ?_; rw [H2.out]; rintro e w2 ⟨rfl, hb2⟩)
      go_meet
      case rel => exact ⟨by rw [HQ.out]; rfl, hb2⟩
    ·go_wp2_with fail
     go_meet
     case rel => exact ⟨by rw [HQ.out]; rfl, Below.refl _ _⟩
   case rest =>
    obtain ⟨rfl, hbc⟩ := hcut
    have hbw := below_step (Hid.out hW) hbc
    have B2 := Blk.later (Hid.out HB) hbc
    clear HB hW hbc
    cases hq : qualOk ⟨k, n, ss⟩
    ·have HR2 : Hid (23 = r) := by show _ = _; rw [<- HR.out, if_pos hq]
     clear HR
     go_wp2
     go_ret
     exact ⟨ret_i HR2.out, hbw⟩
    ·have HR2 : Hid ((if l.all Tm.cov then 0 else 24) = r) := by show _ = _; rw [<- HR.out, hq]; rfl
     clear HR hq
     go_wp2
     go_loopg [3] l.length (fun g i wr => ∃ j : Nat, j + g = l.length /\ i = .int .i64 j /\ (∀ i t, i < j -> l[i]? = some t -> t.cov = true) /\ Below w.heap.size w wr /\ Blk wr w.heap.size #[.int .i64 k, .int .i64 n, .string ss, .string nm, .slice ad l.length cap] 33)
     case atStart => exact ⟨0, by omega, rfl, fun i t hi => by omega, hbw, B2⟩
     case round =>
      obtain ⟨j, hj, rfl, hall, hbr, hB⟩ := hrel
      have HA : Hid (∀ i t, i < j -> l[i]? = some t -> t.cov = true) := hall
      have HB : Hid (Blk wr _ _ _) := hB
      obtain ⟨p0, p1, p2, p3, p4⟩ := five hB
      have zw := Blk.lt hB
      clear hall hbw B2 hB
      cases gk with
      | succ g =>
       have hlt : j < l.length := by omega
       obtain ⟨t, ht⟩ : ∃ t, l[j]? = some t := ⟨_, List.getElem?_eq_getElem hlt⟩
       obtain ⟨ad', cap', hx, -, hxx⟩ := HX.out.later hbr
       simp only [Value.slice.injEq] at hx
       obtain ⟨rfl, -, rfl⟩ := hx
       rcases hxx with hxx | ⟨b, o, rfl, hbs, hxx⟩
       ·subst hxx; simp at hlt
       ·obtain ⟨c0, c1, c2⟩ := hxx j _ ht
        have HT : Hid (l[j]? = some t) := ht
        obtain ⟨tk, tn, ts⟩ := t
        simp only at c0 c1 c2
        clear hxx ht
        have i1 : (0 : Int) <= (j : Int) := by omega
        have i2 : (j : Int) < (l.length : Int) := by omega
        cases hc : Tm.con ⟨tk, tn, ts⟩
        ·have HC : Hid (Tm.con ⟨tk, tn, ts⟩ = false) := hc
         clear hc
         cases hv : Tm.var ⟨tk, tn, ts⟩
         ·have HV : Hid (Tm.var ⟨tk, tn, ts⟩ = false) := hv
          have HR3 : Hid (24 = r) := by show _ = _; rw [<- HR2.out, all_no HT.out (by unfold Tm.cov; rw [HC.out, hv]; rfl)]; rfl
          clear hv
          go_wp2_with (first
           | (go_at_call 100; refine (rcon_any ⟨tk, tn, ts⟩ _).mono ?_; rw [HC.out]; rintro e w3 ⟨rfl, hb3⟩; have d0 := cell_step hb3 hbs c0; have d1 := cell_step hb3 hbs c1; have d2 := cell_step hb3 hbs c2; have d4 := cell_step hb3 zw p4; clear p0 p1 p2 p3 p4 c0 c1 c2)
           | (go_at_call 90; refine (rvar_any ⟨tk, tn, ts⟩ _).mono ?_; rw [HV.out]; rintro e w4 ⟨rfl, hb4⟩))
          go_ret
          exact ⟨ret_i HR3.out, below_step (below_step hbr hb3) hb4⟩
         ·have HV : Hid (Tm.var ⟨tk, tn, ts⟩ = true) := hv
          clear hv
          go_wp2_with (first
           | (go_at_call 100; refine (rcon_any ⟨tk, tn, ts⟩ _).mono ?_; rw [HC.out]; rintro e w3 ⟨rfl, hb3⟩; have d0 := cell_step hb3 hbs c0; have d1 := cell_step hb3 hbs c1; have d2 := cell_step hb3 hbs c2; have d4 := cell_step hb3 zw p4; clear p0 p1 p2 p3 p4 c0 c1 c2)
           | (go_at_call 90; refine (rvar_any ⟨tk, tn, ts⟩ _).mono ?_; rw [HV.out]; rintro e w4 ⟨rfl, hb4⟩))
          go_roundg g
          case measure => omega
          case rel =>
           refine ⟨j + 1, by omega, by go_num, fun i t hi ht => ?_, below_step (below_step hbr hb3) hb4, Blk.later (Blk.later (Hid.out HB) hb3) hb4⟩
           rcases Nat.lt_or_ge i j with h | h
           ·exact HA.out i t h ht
           ·obtain rfl : i = j := by omega
            rw [HT.out] at ht; cases ht; unfold Tm.cov; rw [HV.out, Bool.or_true]
        ·have HC : Hid (Tm.con ⟨tk, tn, ts⟩ = true) := hc
         clear hc
         go_wp2_with (go_at_call 100; refine (rcon_any ⟨tk, tn, ts⟩ _).mono ?_; rw [HC.out]; rintro e w3 ⟨rfl, hb3⟩)
         go_roundg g
         case measure => omega
         case rel =>
          refine ⟨j + 1, by omega, by go_num, fun i t hi ht => ?_, below_step hbr hb3, Blk.later (Hid.out HB) hb3⟩
          rcases Nat.lt_or_ge i j with h | h
          ·exact HA.out i t h ht
          ·obtain rfl : i = j := by omega
           rw [HT.out] at ht; cases ht; unfold Tm.cov; rw [HC.out, Bool.true_or]
      | zero =>
       obtain rfl : j = l.length := by omega
       have HR3 : Hid (0 = r) := by show _ = _; rw [<- HR2.out, all_yes fun i t ht => HA.out i t (List.getElem?_eq_some_iff.1 ht).1 ht]; rfl
       have hz : ¬ ((l.length : Int) < (l.length : Int)) := by omega
       go_wp2
       go_ret
       exact ⟨ret_i HR3.out, hbr⟩
end Go.Proofs.YtechceagghcipabGreatDoor
